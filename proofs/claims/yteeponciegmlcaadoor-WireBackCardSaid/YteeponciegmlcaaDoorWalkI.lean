/-
  The contract of take: the word of a sum under way goes through all parts; only its cell is written.
-/
import Derived.Test.YteeponciegmlcaaDoorWalkH
namespace Go.Proofs
open Go.RowKit Go.Shelf Sm
/-- between the two worlds one cell has been written, and blocks have been made -/
structure Sm.Only (a : Addr) (w w' : World) : Prop where
  grown : w.grownBy w' (some a.block)
  cell : ∀ p : Addr, p ≠ a → p.block < w.heap.size → w'.cell? p = w.cell? p
  frozen : ∀ p : Addr, p.block < w.heap.size → w'.frozen? p = w.frozen? p
theorem Sm.Only.refl (a : Addr) (w : World) : Only a w w := ⟨World.grownBy.refl w _, fun _ _ _ => rfl, fun _ _ => rfl⟩
theorem Sm.grownBy_set (w : World) (a : Addr) (v : Value) : w.grownBy (w.setCell a v) (some a.block) :=
  ⟨rfl, rfl, rfl, by simp [World.setCell], fun k _ hk => Below.heap_setCell w a v k (fun e => hk (by rw [e]))⟩
theorem Sm.Only.set {a : Addr} {w w' : World} (h : Only a w w') (v : Value) : Only a w (w'.setCell a v) :=
  ⟨h.grown.trans (grownBy_set w' a v), fun p hp hb => (World.cell?_setCell_other w' a p v (fun e => hp e.symm)).trans (h.cell p hp hb), fun p hb => by rw [World.frozen?_setCell]; exact h.frozen p hb⟩
theorem Sm.grownBy_of_below {w w' : World} (h : Below w.heap.size w w') (row : Option Nat) : w.grownBy w' row := ⟨h.os, h.tape, h.output, h.size, fun k hk _ => h.block k hk⟩
theorem Sm.Only.after {a : Addr} {w w1 w' : World} (hb : Below w.heap.size w w1) (h : Only a w1 w') : Only a w w' :=
  ⟨(grownBy_of_below hb _).trans h.grown, fun p hp hlt => (h.cell p hp (Nat.lt_of_lt_of_le hlt hb.size)).trans (hb.cell hlt), fun p hlt => (h.frozen p (Nat.lt_of_lt_of_le hlt hb.size)).trans (hb.frozen hlt)⟩
/-- a word behind all parts -/
def Sm.crcs (x : BitVec 32) (ps : List Pt) : BitVec 32 := ps.foldl (fun w p => crc w p.l) x
/-- what the sum is when k deeds are done -/
def Sm.St (x : BitVec 32) (ps : List Pt) (n k : Nat) (z : BitVec 32) : Prop :=
  (k = 0 ∧ z = x) ∨ (1 ≤ k ∧ k ≤ n + 1 ∧ z = crcs (~~~x) (ps.take (k - 1))) ∨ (k = n + 2 ∧ z = ~~~(crcs (~~~x) ps))
set_option maxRecDepth 100000 in
set_option maxHeartbeats 4000000 in
theorem Sm.take_any (x : BitVec 32) (ps : List Pt) (n c : Nat) (A : Option Addr) (U o : Nat) (w : World) (hn : Hid (ps.length = n)) (hm : n ≤ 1000000) (hr : RdP w w.heap.size A ps)
    (hok : ∀ p ∈ ps, p.ok w U) (ht : Tab w) (hU : w.cell? ⟨U, o, none⟩ = some (.int .u32 (iv x))) (hf : w.frozen? ⟨U, o, none⟩ = false) (hU0 : 0 < U) (hUl : U < w.heap.size) :
    Calls Tryd.prog 72 #[.pointer (some ⟨U, o, none⟩), .slice A n c] w fun e w' => (∃ v, e = .returned v) ∧ Only ⟨U, o, none⟩ w w' ∧ w'.cell? ⟨U, o, none⟩ = some (.int .u32 (iv (~~~(crcs (~~~x) ps)))) := by
  go_enter Tryd.func72, Tryd.ntmps72
  go_wp2_with (go_at_call 76; refine (deeds_any ps n c A _ hn hm hr).mono ?_; rintro e w1 ⟨v, bx, rfl, hown, hb1, hbx⟩; obtain ⟨g, cap, rfl, hg0, hgl⟩ := hown.form (by omega))
  go_loopw [9] (fun vi wr => ∃ (k : Nat) (z : BitVec 32), k ≤ n + 2 ∧ vi = .int .i64 (k : Int) ∧ wr.cell? ⟨U, o, none⟩ = some (.int .u32 (iv z)) ∧ Hid (St x ps n k z) ∧ Only ⟨U, o, none⟩ w1 wr)
    (fun vi _ => n + 2 - (intOf vi).toNat)
  case atStart => exact ⟨0, x, Nat.zero_le _, rfl, (hb1.cell (p := ⟨U, o, none⟩) hUl).trans hU, Lib.hid (.inl ⟨rfl, rfl⟩), Only.refl _ _⟩
  case round =>
    obtain ⟨k, z, hk, rfl, hz, HS, ho⟩ := hrel
    have hfz : wr.frozen? ⟨U, o, none⟩ = false := (ho.frozen ⟨U, o, none⟩ (Nat.lt_of_lt_of_le hUl hb1.size)).trans ((hb1.frozen (p := ⟨U, o, none⟩) hUl).trans hf)
    by_cases hlt : k < n + 2
    · have hcl : ∀ u, (f45 :: List.map f46 bx ++ [f45])[k]? = some u → wr.cell? ⟨g, k, none⟩ = some u := fun u hu => by
        rw [ho.cell ⟨g, k, none⟩ (by intro e; injection e with e1 e2; omega) hgl, hown.cellAt k (by omega), hu]
      have hbl : bx.length = n := by rw [hbx.1]; exact hn.out
      have hpl := hn.out
      by_cases hend : k = 0 ∨ k = n + 1
      · have hc := hcl f45 (by
          rcases hend with rfl | rfl
          · rfl
          · rw [List.getElem?_append_right (by simp [hbl])]
            simp [hbl])
        have H2 : Hid (St x ps n (k + 1) (~~~z)) := Lib.hid (by
          rcases hend with rfl | rfl
          · rcases HS.out with ⟨_, rfl⟩ | ⟨h, _⟩ | ⟨h, _⟩
            · exact .inr (.inl ⟨by omega, by omega, rfl⟩)
            · omega
            · omega
          · rcases HS.out with ⟨h, _⟩ | ⟨_, _, hz⟩ | ⟨h, _⟩
            · omega
            · refine .inr (.inr ⟨rfl, ?_⟩)
              rw [hz, List.take_of_length_le (by omega)]
            · omega)
        unfold f45 at hc
        clear hcl HS hbl hbx hown hend hpl hok hr hU ht
        go_wp2_with (go_at_call 78; refine (deed1_any _ _).mono ?_; rintro e w' ⟨rfl, rfl⟩)
        go_roundw
        case rel => exact ⟨k + 1, ~~~z, by omega, by go_num, World.cell?_setCell_same wr ⟨U, o, none⟩ _ hz, H2, ho.set _⟩
        case measure => simp [intOf]; omega
      · have hk1 : k - 1 < ps.length := by omega
        have hbk : k - 1 < bx.length := by omega
        obtain ⟨p, hp⟩ : ∃ p, ps[k - 1] = p := ⟨_, rfl⟩
        obtain ⟨D, hD⟩ : ∃ D, bx[k - 1] = D := ⟨_, rfl⟩
        obtain ⟨hDw, hDb⟩ := hbx.2 (k - 1) D p (by rw [← hD]; exact List.getElem?_eq_getElem hbk) (by rw [← hp]; exact List.getElem?_eq_getElem hk1)
        have hc := hcl (f46 D) (by
          have e : k = (k - 1) + 1 := by omega
          rw [e, List.cons_append, List.getElem?_cons_succ, List.getElem?_append_left (by simp; omega), List.getElem?_map, List.getElem?_eq_getElem hbk, hD]
          rfl)
        have hDc : wr.cell? ⟨D, 0, none⟩ = some p.val := (ho.cell ⟨D, 0, none⟩ (by intro e; injection e with e1 e2; omega) hDb.lt).trans hDb.cell
        have hkeep : ∀ q : Addr, q.block < U → wr.cell? q = w.cell? q := fun q hq =>
          (ho.cell q (by intro e; subst e; simp at hq) (Nat.lt_of_lt_of_le (by omega) hb1.size)).trans (hb1.cell (by omega))
        have hpo := hok p (by rw [← hp]; exact List.getElem_mem hk1)
        have hpo2 : p.ok wr U := ⟨hpo.1, hpo.2.1, hpo.2.2.keep hkeep⟩
        have ht2 : Tab wr := ⟨by have := ho.grown.size; omega, fun j hj => (hkeep ⟨0, j, none⟩ hU0).trans (ht.2 j hj)⟩
        have H2 : Hid (St x ps n (k + 1) (crc z p.l)) := Lib.hid (by
          rcases HS.out with ⟨h, _⟩ | ⟨_, _, hz⟩ | ⟨h, _⟩
          · omega
          · refine .inr (.inl ⟨by omega, by omega, ?_⟩)
            have e : k + 1 - 1 = (k - 1) + 1 := by omega
            rw [e, List.take_succ_eq_append_getElem hk1, hp, hz]
            simp [crcs]
          · omega)
        have hneq : Hid (¬ (k = 0 ∨ k = n + 1)) := Lib.hid hend
        unfold f46 at hc
        clear hcl HS hbl hbx hown hend hpl hok hr hU ht hkeep hpo hD hp
        go_wp2_with (go_at_call 79; refine (deed2_any _ p U D _ hDc hpo2 ht2).mono ?_; rintro e w' ⟨rfl, rfl⟩)
        go_roundw
        case rel => exact ⟨k + 1, crc z p.l, by have := hneq.out; omega, by go_num, World.cell?_setCell_same wr ⟨U, o, none⟩ _ hz, H2, ho.set _⟩
        case measure => simp [intOf]; omega
    · have hz2 : z = ~~~(crcs (~~~x) ps) := by
        rcases HS.out with ⟨h, _⟩ | ⟨_, h, _⟩ | ⟨_, h⟩
        · omega
        · omega
        · exact h
      subst hz2
      go_wp2
      go_end0
      exact ⟨⟨_, rfl⟩, Only.after hb1 ho, hz⟩
