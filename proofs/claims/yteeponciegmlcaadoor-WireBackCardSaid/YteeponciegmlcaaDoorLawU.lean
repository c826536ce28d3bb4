/-
  The contracts of Frames and of the reference's frames. Conditions: what the theorems name.
-/
import Derived.Maps.AppendAt
import Derived.Test.YteeponciegmlcaaDoorItrF
namespace Go.Proofs
open Go.RowKit Go.Shelf Sm
attribute [local go_sem ↓] Go.wp_at_zero Go.wp_at_succ
set_option maxHeartbeats 1000000 in
theorem Sm.Frames_any (l : List (BitVec 8)) (n c : Nat) (A : Option Addr) (w : World) (hn : Hid (l.length = n)) (hm : n ≤ 1000000) (hr : Rd w w.heap.size A l) (ht : Tab w) :
    Calls Tryd.prog 34 #[.slice A n c] w fun e w' => ∃ Bx A' c', e = .returned (.func (.func 63) #[] #[.pointer (some ⟨Bx, 0, none⟩)]) ∧ Cap w' w'.heap.size Bx A' n c' l ∧ w.heap.size ≤ Bx ∧ (∀ b off, A' = some ⟨b, off, none⟩ → w.heap.size ≤ b) ∧ Below w.heap.size w w' := by
  go_enter Tryd.func34, Tryd.ntmps34
  go_wp2_with (go_at_call 40; (with_reducible refine (Clone_any l n c w.heap.size A _ hn hm (Nat.le_refl _) hr).mono ?_); rintro e w1 ⟨v, rfl, hown, hb⟩; obtain ⟨A1, c1, rfl⟩ := own_slice hown)
  go_ret
  have hx := World.alloc_heap_new w1 (.cells #[.slice A1 n c1] 27)
  have hb2 : Below w.heap.size w (w1.alloc (.cells #[.slice A1 n c1] 27)) := hb.alloc hb.size _
  have hform : n ≤ c1 ∧ (A1 = none → c1 = 0) ∧ (∀ a, A1 = some a → ∃ b off, a = ⟨b, off, none⟩ ∧ w.heap.size ≤ b ∧ b < w1.heap.size) := by
    rcases hown.2 with ⟨e1, _⟩ | ⟨g, cap, cur, e1, h0, h4, h3, _⟩
    · injection e1 with e2 e3 e4
      subst e2 e3 e4
      exact ⟨Nat.le_refl _, fun _ => rfl, fun a e => by cases e⟩
    · injection e1 with e2 e3 e4
      subst e2 e4
      exact ⟨h3, (fun e => by cases e), (fun a e => by cases e; exact ⟨g, 0, rfl, h0, (Array.getElem?_eq_some_iff.1 h4).1⟩)⟩
  refine ⟨w1.heap.size, A1, c1, rfl, ⟨hx, hn.out, hform.1, hform.2.1, fun a e => ?_, ?_, Nat.le_refl _, ht.belowTo hb2 ht.1⟩, hb.size, fun b off e => ?_, hb2⟩
  · obtain ⟨b, off, e1, _, e3⟩ := hform.2.2 a e
    exact ⟨b, off, e1, by simp; omega⟩
  · exact ((Rd.of_own hown (Nat.le_refl _) : Rd w1 w1.heap.size _ _).alloc (Nat.le_refl _) _).more (by simp)
  · obtain ⟨b', off', e1, e2, _⟩ := hform.2.2 _ e
    cases e1
    exact e2
/-- frame k as the reference tells it -/
def Sm.partC (l : List (BitVec 8)) (sl : Nat → Option Addr × Nat) (k : Nat) : List Value := [.int .i64 (offK l (k + 1) : Int), .slice (sl k).1 (bodyK l k).length (sl k).2]
def Sm.partsC (l : List (BitVec 8)) (sl : Nat → Option Addr × Nat) (k : Nat) : List Value := (List.range k).flatMap (partC l sl)
theorem Sm.partsC_succ (l : List (BitVec 8)) (sl : Nat → Option Addr × Nat) (k : Nat) : partsC l sl (k + 1) = partsC l sl k ++ partC l sl k := by simp [partsC, List.range_succ]
theorem Sm.partsC_length (l : List (BitVec 8)) (sl : Nat → Option Addr × Nat) : ∀ k, (partsC l sl k).length = k * 2
  | 0 => rfl
  | k + 1 => by rw [partsC_succ, List.length_append, partsC_length l sl k]; simp [partC]; omega
theorem Sm.partsC_get (l : List (BitVec 8)) (sl : Nat → Option Addr × Nat) {m k : Nat} (h : k < m) : (partsC l sl m)[k * 2]? = some (.int .i64 (offK l (k + 1) : Int)) ∧ (partsC l sl m)[k * 2 + 1]? = some (.slice (sl k).1 (bodyK l k).length (sl k).2) := by
  induction m with
  | zero => omega
  | succ m ih =>
    rw [partsC_succ]
    have hl := partsC_length l sl m
    by_cases e : k = m
    · subst e
      rw [List.getElem?_append_right (by omega), List.getElem?_append_right (by omega), hl]
      simp [partC]
    · obtain ⟨h1, h2⟩ := ih (by omega)
      rw [List.getElem?_append_left (by omega), List.getElem?_append_left (by omega)]
      exact ⟨h1, h2⟩
/-- the frames of bytes as they lie -/
structure Sm.PartsAt (w : World) (N : Nat) (v : Value) (l : List (BitVec 8)) (m : Nat) (sl : Nat → Option Addr × Nat) : Prop where
  own : w.ownsRow N 80 2 v m (partsC l sl m)
  rd : ∀ k, k < m → w.ownsRow N 5 1 (.slice (sl k).1 (bodyK l k).length (sl k).2) (bodyK l k).length ((bodyK l k).map byteCell)
theorem Sm.PartsAt.below {w w' : World} {N : Nat} {v : Value} {l : List (BitVec 8)} {m : Nat} {sl : Nat → Option Addr × Nat} (h : PartsAt w N v l m sl) (hb : Below w.heap.size w w') : PartsAt w' N v l m sl := ⟨own_below h.own hb, fun k hk => own_below (h.rd k hk) hb⟩
theorem Sm.own_types {w : World} {base base' : Nat} {e e' : TypeId} (he : e ≠ e') {size size' : Nat} {v v' : Value} {n n' : Nat} {xs xs' : List Value} (h : w.ownsRow base e size v n xs) (h' : w.ownsRow base' e' size' v' n' xs') : ∀ g, v.ownBlock = some g → v'.ownBlock ≠ some g := by
  intro g hg hg'
  rcases h.2 with ⟨rfl, _⟩ | ⟨g1, cap, cur, rfl, _, h1, _⟩
  · simp [Value.ownBlock] at hg
  · rcases h'.2 with ⟨rfl, _⟩ | ⟨g2, cap', cur', rfl, _, h2, _⟩
    · simp [Value.ownBlock] at hg'
    · simp only [Value.ownBlock, Option.some.injEq] at hg hg'
      subst hg hg'
      rw [h1] at h2
      simp at h2
      exact he h2.2
theorem Sm.partsC_congr {l : List (BitVec 8)} {sl sl' : Nat → Option Addr × Nat} : ∀ k, (∀ j, j < k → sl j = sl' j) → partsC l sl k = partsC l sl' k
  | 0, _ => rfl
  | k + 1, h => by
    rw [partsC_succ, partsC_succ, partsC_congr k (fun j hj => h j (by omega))]
    unfold partC
    rw [h k (by omega)]
/-- one frame more -/
theorem Sm.PartsAt.push {w2 w3 : World} {N : Nat} {vo v3 : Value} {l : List (BitVec 8)} {k : Nat} {sl : Nat → Option Addr × Nat} {Ax : Option Addr} {cx : Nat} {o : Obj} (h : PartsAt w2 N vo l k sl) (hN : N ≤ w2.heap.size) (hx : w2.ownsRow N 5 1 (.slice Ax (bodyK l k).length cx) (bodyK l k).length ((bodyK l k).map byteCell)) (h3 : w3.ownsRow N 80 2 v3 (k + 1) (partsC l sl k ++ [.int .i64 (offK l (k + 1) : Int), .slice Ax (bodyK l k).length cx])) (hg : (w2.alloc o).grownBy w3 vo.ownBlock) :
    PartsAt w3 N v3 l (k + 1) (fun j => if j = k then (Ax, cx) else sl j) ∧ Below N w2 w3 := by
  have hb : Below w2.heap.size w2 (w2.alloc o) := (Below.refl _ _).alloc (Nat.le_refl _) _
  refine ⟨⟨?_, fun j hj => ?_⟩, ?_⟩
  · have e : partsC l (fun j => if j = k then (Ax, cx) else sl j) (k + 1) = partsC l sl k ++ [.int .i64 (offK l (k + 1) : Int), .slice Ax (bodyK l k).length cx] := by
      rw [partsC_succ, partsC_congr (sl' := sl) k (fun j hj => by simp; omega)]
      simp [partC]
    rw [e]
    exact h3
  · have key : ∀ (v : Value) (n : Nat) (xs : List Value), w2.ownsRow N 5 1 v n xs → w3.ownsRow N 5 1 v n xs := fun v n xs hv =>
      (But.grown hg).row (own_below hv hb) (fun g e1 e2 => own_types (by decide) hv h.own g e1 e2)
    by_cases e : j = k
    · subst e
      simp only [if_true]
      exact key _ _ _ hx
    · simp only [if_neg e]
      exact key _ _ _ (h.rd j (by omega))
  · exact (hb.mono hN).trans ((But.grown hg).to_below (n := N) (Nat.le_trans hN hb.size) (fun b e => (h.own.lt b e).1))
theorem Sm.info80 : (Tryd.prog.info? 80).map (fun i => (i.zero, i.size, i.bytes)) = some (some (.agg #[.int .i64 0, .slice none 0 0]), 2, 32) := by kernel_rfl
theorem Sm.cell_two_new (w : World) (x y : Value) (t : TypeId) : ∀ j u, [x, y][j]? = some u → (w.alloc (.cells #[x, y] t)).cell? ((⟨w.heap.size, 0, none⟩ : Addr).add j) = some u := by
  intro j u hj
  match j, hj with
  | 0, hj =>
    simp at hj
    subst hj
    exact World.cell?_alloc_new (w := w) #[x, y] t 0
  | 1, hj =>
    simp at hj
    subst hj
    exact World.cell?_alloc_new (w := w) #[x, y] t 1
theorem Sm.row_slice {w : World} {base : Nat} {e : TypeId} {size : Nat} {v : Value} {n : Nat} {xs : List Value} (h : w.ownsRow base e size v n xs) : ∃ A c, v = .slice A n c := by
  rcases h.2 with ⟨rfl, rfl⟩ | ⟨g, cap, cur, rfl, _⟩
  · exact ⟨none, 0, rfl⟩
  · exact ⟨_, _, rfl⟩
theorem Sm.errK_zero {l : List (BitVec 8)} {k : Nat} (h : szK l k ≠ 0) : errK l k = 0 := by
  unfold szK at h
  unfold errK
  generalize l.drop (offK l k) = r at h ⊢
  unfold splitS at h ⊢
  cases hg : getN r with
  | bad => rw [hg] at h; simp at h
  | cut => rfl
  | num m j =>
    rw [hg] at h
    simp only at h ⊢
    by_cases h1 : 4100 < m ∨ m < 4
    · rw [if_pos h1] at h; simp at h
    · rw [if_neg h1] at h ⊢
      by_cases h2 : r.length - j < m
      · rw [if_pos h2]
      · rw [if_neg h2] at h ⊢
        by_cases h3 : openOk ((r.drop j).take m)
        · rw [if_pos h3]
        · rw [if_neg h3] at h; simp at h
set_option maxRecDepth 100000 in
set_option maxHeartbeats 4000000 in
theorem Sm.refFrames_any (l : List (BitVec 8)) (n c : Nat) (A : Option Addr) (w : World) (hn : l.length = n) (hc : n ≤ c) (hm : n ≤ 1000000) (hr : Rd w w.heap.size A l) :
    Calls Tryd.prog 33 #[.slice A n c] w fun e w' => (∃ A' c' sl, e = .returned (.slice A' (cntK l) c') ∧ PartsAt w' w.heap.size (.slice A' (cntK l) c') l (cntK l) sl) ∧ Below w.heap.size w w' := by
  obtain ⟨i8, hi8, hy0, hy1, hy2⟩ := info_parts info80
  have HN := Lib.hid hn
  have HR := Lib.hid hr
  have hp0 : PartsAt w w.heap.size (.slice none 0 0) l 0 (fun _ => (none, 0)) := ⟨World.ownsRow_nil _ _ _ _, fun k hk => by omega⟩
  have HP0 := Lib.hid hp0
  clear hn hr hp0
  go_enter Tryd.func33, Tryd.ntmps33
  go_wp2
  go_loopw [3, 4] (fun vo va wr => ∃ (k : Nat) (sl : Nat → Option Addr × Nat), va = .int .i64 (offK l k : Int) ∧ Hid (k ≤ cntK l) ∧ Hid (PartsAt wr w.heap.size vo l k sl) ∧ Hid (Below w.heap.size w wr))
    (fun _ va _ => n - (intOf va).toNat)
  case atStart => exact ⟨0, _, rfl, Lib.hid (Nat.zero_le _), HP0, Lib.hid (Below.refl _ _)⟩
  case round =>
    obtain ⟨k, sl, rfl, HK, HP, HB⟩ := hrel
    clear HP0
    obtain ⟨Ao, co, rfl⟩ := row_slice HP.out.own
    have hat := offK_le l k
    have hlen := HN.out
    rw [hlen] at hat
    have hkn : k ≤ 1000000 := by have := cntK_le l; have := HK.out; omega
    obtain ⟨E, hE⟩ : ∃ E, offK l k = E := ⟨_, rfl⟩
    by_cases hlt : offK l k < n
    · obtain ⟨b, off, rfl, hbw, _⟩ := HR.out (by omega)
      have hrw : Rd wr wr.heap.size (some ⟨b, off, none⟩) l := (HR.out.below HB.out).more HB.out.size
      have hsp := refSplit_any (l.drop (offK l k)) (n - offK l k) (c - offK l k) (some ⟨b, off + offK l k, none⟩) wr (by rw [List.length_drop, hlen]) (by omega) (hrw.drop (offK l k)) (by omega)
      have hsp2 : Calls Tryd.prog 31 #[.slice (some ⟨b, off + offK l k, none⟩) (n - offK l k) (c - offK l k)] wr fun e w2 => ∃ Ax cx, e = .returned (.tuple #[.slice Ax (bodyK l k).length cx, .int .i64 (szK l k : Int), .int .i64 (errK l k)]) ∧ w2.ownsRow w.heap.size 5 1 (.slice Ax (bodyK l k).length cx) (bodyK l k).length ((bodyK l k).map byteCell) ∧ Below wr.heap.size wr w2 := by
        refine hsp.mono ?_
        rintro e w2 ⟨⟨v, rfl, ho⟩, hb⟩
        obtain ⟨Ax, cx, rfl⟩ := own_slice ho
        exact ⟨Ax, cx, rfl, ⟨ho.1, ho.2.imp id (fun ⟨g, cap, cur, e, h1, r⟩ => ⟨g, cap, cur, e, Nat.le_trans HB.out.size h1, r⟩)⟩, hb⟩
      have hnext : Hid (offK l (k + 1) = offK l k + szK l k) := Lib.hid (offK_succ l k)
      have hnle := offK_le l (k + 1)
      have hn0 : True := trivial
      have hzn : szK l k ≤ 1000000 := by have := hnext.out; omega
      rw [hE] at hat hlt hsp2 hnext ⊢
      have i1 : (0 : Int) ≤ (E : Int) := by omega
      have i2 : (E : Int) ≤ (n : Int) := by omega
      have i3 : (n : Int) ≤ (c : Int) := by omega
      clear hsp hrw hlen
      by_cases hz : szK l k = 0
      · have HKC : Hid (k = cntK l) := Lib.hid (cntK_of l hz (fun j hj => cntK_pos l (by have := HK.out; omega)))
        have hz1 : ((szK l k : Int) == 0) = true := by rw [hz]; rfl
        clear hz hnext hnle hE
        by_cases he : errK l k = 0
        · have e1 : (errK l k != 0) = false := by simp [he]
          clear he
          go_wp2_with (go_at_call 31; (with_reducible refine hsp2.mono ?_); clear hsp2; rintro e w2 ⟨Ax, cx, rfl, hrx, hb2⟩)
          go_ret
          refine ⟨⟨Ao, co, sl, by rw [← HKC.out]; rfl, ?_⟩, HB.out.trans (hb2.mono HB.out.size)⟩
          rw [← HKC.out]
          exact HP.out.below hb2
        · have e1 : (errK l k != 0) = true := by simp [he]
          clear he
          go_wp2_with (go_at_call 31; (with_reducible refine hsp2.mono ?_); clear hsp2; rintro e w2 ⟨Ax, cx, rfl, hrx, hb2⟩)
          go_ret
          refine ⟨⟨Ao, co, sl, by rw [← HKC.out]; rfl, ?_⟩, HB.out.trans (hb2.mono HB.out.size)⟩
          rw [← HKC.out]
          exact HP.out.below hb2
      · have he := errK_zero hz
        have hlt2 : k < cntK l := by
          by_cases e : k = cntK l
          · rw [e] at hz
            exact absurd (cntK_zero l) hz
          · have := HK.out; omega
        have hz1 : ((szK l k : Int) == 0) = false := by simp; exact hz
        have e1 : (errK l k != 0) = false := by simp [he]
        have HZ := Lib.hid hz
        have HE := Lib.hid hE
        clear hz he hE
        go_wp2_with (first
          | (go_at_call 31; (with_reducible refine hsp2.mono ?_); clear hsp2; rintro e w2 ⟨Ax, cx, rfl, hrx, hb2⟩; have hP2 := HP.out.below hb2; have hsw : w.heap.size ≤ w2.heap.size := Nat.le_trans HB.out.size hb2.size)
          | (at_builtin; refine wpList_append_own_at _ rfl (.tmp 30) (.tmp 34) 74 rfl w.heap.size 80 i8 _ 2 32 Tryd.underlying74 hi8 hy0 hy1 hy2 rfl (by decide) _ k (partsC l sl k) rfl (hP2.own.alloc _) ⟨w2.heap.size, 0, none⟩ 1 1 [.int .i64 ((E : Int) + (szK l k : Int)), .slice Ax (bodyK l k).length cx] rfl rfl (cell_two_new _ _ _ _) (by simp [Value.oneCell']) ?_ ?_ ?_ ?_; (unfold maxLen; omega); omega; (simp; omega); intro v3 w3 hown3 hg3 _ hat3))
        have hcast : ((E : Int) + (szK l k : Int)) = (offK l (k + 1) : Int) := by rw [hnext.out]; simp
        rw [hcast] at hown3
        obtain ⟨hq, hq2⟩ := hP2.push hsw hrx hown3 hg3
        have hbw2 : Below w.heap.size w w2 := HB.out.trans (hb2.mono HB.out.size)
        refine ⟨⟨k + 1, _, by rw [hcast], Lib.hid hlt2, Lib.hid hq, Lib.hid (hbw2.trans hq2)⟩, ?_⟩
        have := HZ.out
        simp [intOf]
        omega
    · have hEn : offK l k = n := by omega
      have hz : szK l k = 0 := by
        unfold szK
        rw [List.drop_eq_nil_of_le (by omega)]
        rfl
      have HKC : Hid (k = cntK l) := Lib.hid (cntK_of l hz (fun j hj => cntK_pos l (by have := HK.out; omega)))
      clear hz
      rw [hEn]
      clear hEn hE hlt
      go_wp2
      go_ret
      refine ⟨⟨Ao, co, sl, by rw [← HKC.out]; rfl, ?_⟩, HB.out⟩
      rw [← HKC.out]
      exact HP.out
end Go.Proofs
