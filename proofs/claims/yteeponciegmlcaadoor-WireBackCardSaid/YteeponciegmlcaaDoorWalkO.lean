/-
  Append of readable bytes, and the contract of Seal at readable bytes, at most 1000000.
-/
import Derived.Test.YteeponciegmlcaaDoorWalkN
namespace Go.Proofs
open Go.RowKit Go.Shelf Sm
section
variable {P : Program} (w : World)
/-- append of bytes that are read, nil or not, behind a row of the call's own -/
theorem Sm.run_append_rd (base : Nat) (t ty e : TypeId) (i : TypeInfo) (z : Value) (ht : P.underlying t = some (.slice e)) (hi : P.info? e = some i) (hz : i.zero = some z)
    (hsize : i.size = 1) (hby : i.bytes = 1) (hzs : z.cells.size = 1)
    (v : Value) (n : Nat) (xs : List Value) (hown : w.ownsRow base e 1 v n xs)
    (B : Nat) (A : Option Addr) (m c : Nat) (l : List (BitVec 8)) (hl : l.length = m) (hr : Rd w B A l) (hnm : n + m ≤ 1000000000) (hbase : base ≤ w.heap.size) :
    ∃ v' w', (Builtin.append_ #[t, t] ty #[v, .slice A m c]).run P w = .ok v' w' ∧ w'.ownsRow base e 1 v' (n + m) (xs ++ l.map byteCell) ∧ w.grownBy w' v.ownBlock ∧
      (v'.ownBlock = v.ownBlock ∨ v'.ownBlock = some w.heap.size) := by
  subst hl
  rcases A with _ | ad
  · have hn : l = [] := by
      cases l with
      | nil => rfl
      | cons x r =>
        obtain ⟨b, off, h, _⟩ := hr (by simp)
        cases h
    subst hn
    refine ⟨v, w, ?_, by simpa using hown, World.grownBy.refl w _, .inl rfl⟩
    rcases hown.2 with ⟨rfl, rfl⟩ | ⟨g, cap, cur, rfl, _, _, hnc, _⟩
    · simp [Builtin.append_, run_underlying ht, sizeOf, typeInfo, hi, Builtin.lenOf, Builtin.firstCells]
    · simp [Builtin.append_, run_underlying ht, sizeOf, typeInfo, hi, Builtin.lenOf, Builtin.firstCells, hnc, storeCells]
  · obtain ⟨v', w', h1, h2, h3, _, h5⟩ := run_append_own_at (P := P) w base t ty e i z 1 1 ht hi hz hsize hby hzs (by decide) v n xs hown ad l.length c (l.map byteCell) (by simp) hr.news (byteCell_one l)
      (by unfold maxLen; omega) (by omega) hbase
    exact ⟨v', w', h1, h2, h3, h5⟩
theorem Sm.wpList_append_rd {ops : Array Oper} {rest : List Oper} {o : Oper} {a : Act} {Q : Exit → Act → World → Prop} (hgd : o.guard = none) (s x : Operand) (t : TypeId)
    (ho : o.op = .call { callee := .builtin .append, args := #[s, x], argTypes := #[t, t] })
    (base : Nat) (e : TypeId) (i : TypeInfo) (z : Value) (ht : P.underlying t = some (.slice e)) (hi : P.info? e = some i) (hz : i.zero = some z)
    (hsize : i.size = 1) (hby : i.bytes = 1) (hzs : z.cells.size = 1)
    (v : Value) (n : Nat) (xs : List Value) (hs : a.eval s = v) (hown : w.ownsRow base e 1 v n xs)
    (B : Nat) (A : Option Addr) (m c : Nat) (l : List (BitVec 8)) (hx : a.eval x = .slice A m c) (hl : l.length = m) (hr : Rd w B A l) (hnm : n + m ≤ 1000000000) (hbase : base ≤ w.heap.size)
    (h : ∀ v' w', w'.ownsRow base e 1 v' (n + m) (xs ++ l.map byteCell) → w.grownBy w' v.ownBlock → (v'.ownBlock = v.ownBlock ∨ v'.ownBlock = some w.heap.size) → wpList P ops Q rest (a.put o.dst v') w') :
    wpList P ops Q (o :: rest) a w := by
  refine wpList_plain hgd fun K hK => ?_
  obtain ⟨v', w', hr', h2, h3, h4⟩ := run_append_rd (P := P) w base t o.type e i z ht hi hz hsize hby hzs v n xs hown B A m c l hl hr hnm hbase
  unfold Oper.wp execOp
  simp only [ho, resolve, invoke, builtin, Sem.run_bind, Sem.run_pure, Result.andThen_ok, List.map_toArray, List.map_cons, List.map_nil, hs, hx, hr']
  exact hK _ _ (h v' w' h2 h3 h4)
end
theorem Sm.own_slice {w : World} {base : Nat} {e : TypeId} {v : Value} {n : Nat} {xs : List Value} (h : w.ownsRow base e 1 v n xs) : ∃ A c, v = .slice A n c := by
  rcases h.2 with ⟨rfl, rfl⟩ | ⟨g, cap, cur, rfl, _⟩
  · exact ⟨none, 0, rfl⟩
  · exact ⟨_, _, rfl⟩
theorem Sm.own_below {w w' : World} {base : Nat} {e : TypeId} {size n : Nat} {v : Value} {xs : List Value} (h : w.ownsRow base e size v n xs) (hb : Below w.heap.size w w') : w'.ownsRow base e size v n xs := by
  refine h.kept (grownBy_of_below hb none) ?_
  rcases h' : v.ownBlock with _ | k
  · exact .inl rfl
  · exact .inr (by simp)
set_option maxRecDepth 100000 in
set_option maxHeartbeats 2000000 in
theorem Sm.Seal_any (p : Pt) (w : World) (hm : p.n ≤ 1000000) (hok : p.ok w w.heap.size) (ht : Tab w) :
    Calls Tryd.prog 59 #[.slice p.A p.n p.c] w fun e w' => ∃ v, e = .returned v ∧ w'.ownsRow w.heap.size 5 1 v (p.n + 4) ((p.l ++ leN (sumB p.l) 4).map byteCell) ∧ Below w.heap.size w w' := by
  obtain ⟨i0, hi, hz0, hz1, hz2⟩ := info_parts info5
  have hpl := Lib.hid hok.1
  go_enter Tryd.func59, Tryd.ntmps59
  go_wp2_with (first
    | (at_make; refine wpList_make_own _ rfl _ _ 27 rfl w.heap.size 5 i0 _ 1 Tryd.underlying27 hi hz0 hz1 _ _ _ (p.n + 4) rfl rfl ?_ ?_ ?_ (Nat.le_refl _) ?_; omega; (rw [hz2]; omega); (unfold maxLen; omega); intro w1 hown1 hg1; have hb1 : Below w.heap.size w w1 := (Below.refl _ _).grown hg1 (Nat.le_refl _) (fun k e => by cases e))
    | (at_builtin; refine wpList_append_rd _ rfl (.tmp 8) (.tmp 9) 27 rfl w.heap.size 5 i0 _ Tryd.underlying27 hi hz0 hz1 hz2 rfl _ 0 [] rfl hown1 w.heap.size p.A p.n p.c p.l rfl hpl.out (hok.2.2.below hb1) ?_ hb1.size ?_; omega; intro v2 w2 hown2 hg2 hat2; have hb2 : Below w.heap.size w w2 := hb1.grown hg2 hb1.size (fun g e => (hown1.lt g e).1); simp only [Nat.zero_add, List.nil_append] at hown2; obtain ⟨A2, c2, rfl⟩ := own_slice hown2)
    | (go_at_call 66; refine (seal_any p _ ((hok.keep fun a ha => hb2.cell ha).more hb2.size) (ht.below hb2)).mono ?_; rintro e w3 ⟨rfl, hb3⟩; have hb3' : Below w.heap.size w w3 := hb2.trans (hb3.mono hb2.size))
    | (go_at_call 67; refine (tail_any _ _ _ _ _).mono ?_; rintro e w4 ⟨v4, rfl, hown4, hb4⟩; have hb4' : Below w.heap.size w w4 := hb3'.trans (hb4.mono hb3'.size); obtain ⟨A4, c4, rfl⟩ := own_slice hown4)
    | (at_builtin; have hb24 : Below w2.heap.size w2 w4 := hb3.trans (hb4.mono hb3.size); refine wpList_append_rd _ rfl (.tmp 11) (.tmp 14) 27 rfl w.heap.size 5 i0 _ Tryd.underlying27 hi hz0 hz1 hz2 rfl _ p.n _ rfl (own_below hown2 hb24) w4.heap.size A4 4 c4 (leN (sumB p.l) 4) rfl (leN_length _ _) (Rd.of_own hown4 (Nat.le_refl _)) ?_ hb4'.size ?_; omega; intro v5 w5 hown5 hg5 hat5))
  go_ret
  exact ⟨v5, rfl, by rw [List.map_append]; exact hown5, hb4'.grown hg5 hb4'.size (fun g e => (hown2.lt g e).1)⟩
