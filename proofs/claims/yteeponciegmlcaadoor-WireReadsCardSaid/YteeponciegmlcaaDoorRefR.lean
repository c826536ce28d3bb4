/-
  The contract of the reference reader's number.
-/
import Derived.Test.YteeponciegmlcaaDoorWorks
namespace Go.Proofs
open Go.RowKit Go.Shelf Sm
def Sm.rdV (A : Option Addr) (n c : Nat) (e : Int) : Value := .agg #[.slice A n c, .int .i64 e]
/-- a reference reader of these bytes -/
structure Sm.RefAt (w : World) (A : Option Addr) (n c : Nat) (l : List (BitVec 8)) : Prop where
  len : l.length = n
  room : n ≤ c
  rd : Rd w w.heap.size A l
theorem Sm.RefAt.below {w w' : World} {A : Option Addr} {n c : Nat} {l : List (BitVec 8)} (h : RefAt w A n c l) (hb : Below w.heap.size w w') : RefAt w' A n c l := ⟨h.len, h.room, (h.rd.below hb).more hb.size⟩
def Sm.RefPost (w : World) (l' : List (BitVec 8)) (e' : Int) (out : List Value) (x : Ending) (w' : World) : Prop :=
  (∃ A' n' c', x = .returned (.tuple (rdV A' n' c' e' :: out).toArray) ∧ RefAt w' A' n' c' l') ∧ Below w.heap.size w w'
theorem Sm.RefAt.nil (w : World) : RefAt w none 0 0 [] := ⟨rfl, Nat.le_refl _, Rd.nil⟩
theorem Sm.alloc2 (w : World) (a b : Obj) : Below w.heap.size w ((w.alloc a).alloc b) := ((Below.refl _ w).alloc (Nat.le_refl _) _).alloc (by simp) _
set_option maxRecDepth 100000 in
set_option maxHeartbeats 4000000 in
theorem Sm.refFail_any (A : Option Addr) (n c : Nat) (e : Int) (w : World) : Calls Tryd.prog 49 #[.agg #[.slice A n c, .int .i64 e]] w fun x w' => x = .returned (.tuple #[.agg #[.slice none 0 0, .int .i64 120], .int .i64 120]) ∧ Below w.heap.size w w' := by
  go_enter Tryd.func49, Tryd.ntmps49
  go_wp2
  exact bodyPost_ret (v := .tuple #[.agg #[.slice none 0 0, .int .i64 120], .int .i64 120]) (by simp [results, Tryd.results49, go_sem]) rfl ⟨rfl, alloc2 _ _ _⟩
/-- the last of two blocks -/
theorem Sm.two_cell (w : World) (a : Obj) (x y : Value) (T : TypeId) : ((w.alloc a).alloc (.cells #[x, y] T)).cell? ⟨w.heap.size + 1, 0, none⟩ = some x ∧ ((w.alloc a).alloc (.cells #[x, y] T)).cell? ⟨w.heap.size + 1, 1, none⟩ = some y := by
  have h0 := World.cell?_alloc_new (w := w.alloc a) #[x, y] T 0
  have h1 := World.cell?_alloc_new (w := w.alloc a) #[x, y] T 1
  rw [World.size_alloc] at h0 h1
  exact ⟨h0, h1⟩
set_option maxRecDepth 100000 in
set_option maxHeartbeats 8000000 in
theorem Sm.refNum_err (A : Option Addr) (n c : Nat) (most : Int) (w : World) : Calls Tryd.prog 23 #[rdV A n c 120, .int .i64 most] w fun x w' => x = .returned (.tuple #[rdV A n c 120, .int .i64 0, .int .i64 120]) ∧ Below w.heap.size w w' := by
  unfold rdV
  go_enter Tryd.func23, Tryd.ntmps23
  go_wp2
  go_region
  all_goals go_wp2
  all_goals exact bodyPost_ret (v := .tuple #[.agg #[.slice A n c, .int .i64 120], .int .i64 0, .int .i64 120]) (by simp [results, Tryd.results23, go_sem]) rfl ⟨rfl, (alloc2 _ _ _).drew⟩
set_option maxRecDepth 100000 in
set_option maxHeartbeats 8000000 in
theorem Sm.refNum_arg (A : Option Addr) (n c : Nat) (most : Int) (w : World) (h : most < 0) : Calls Tryd.prog 23 #[rdV A n c 0, .int .i64 most] w fun x w' => x = .returned (.tuple #[rdV A n c 0, .int .i64 0, .int .i64 2]) ∧ Below w.heap.size w w' := by
  unfold rdV
  go_enter Tryd.func23, Tryd.ntmps23
  go_wp2
  exact bodyPost_ret (v := .tuple #[.agg #[.slice A n c, .int .i64 0], .int .i64 0, .int .i64 2]) (by simp [results, Tryd.results23, go_sem]) rfl ⟨rfl, alloc2 _ _ _⟩
set_option maxRecDepth 100000 in
set_option maxHeartbeats 8000000 in
theorem Sm.refNum_bad (A : Option Addr) (n c : Nat) (l : List (BitVec 8)) (most : Int) (w : World) (h : RefAt w A n c l) (hm : n ≤ 9223372036854775807) (h0 : ¬ most < 0) (hb : NoNum l most) : Calls Tryd.prog 23 #[rdV A n c 0, .int .i64 most] w fun x w' => x = .returned (.tuple #[rdV none 0 0 120, .int .i64 0, .int .i64 120]) ∧ Below w.heap.size w w' := by
  have hb2 := alloc2 w (.cells #[.slice A n c, .int .i64 0] 47) (.cells #[.slice none 0 0, .int .i64 0] 47)
  have hct := refTake_any l n c w.heap.size A _ (Lib.hid h.len) hm (h.rd.below hb2)
  have hcase : (∃ e : Int, e ≤ 0 ∧ takeV l = (0, e)) ∨ ∃ m k : Nat, takeV l = ((m : Int), (k : Int)) ∧ 0 < k ∧ most < (m : Int) := by
    unfold takeV
    rcases hg : getN l with _ | _ | ⟨m, k⟩
    · exact .inl ⟨0, by omega, rfl⟩
    · exact .inl ⟨-1, by omega, rfl⟩
    · refine .inr ⟨m, k, rfl, (getN_form hg).2.1, ?_⟩
      have := hb m k hg
      omega
  have hs2 : ((w.alloc (.cells #[.slice A n c, .int .i64 0] 47)).alloc (.cells #[.slice none 0 0, .int .i64 0] 47)).heap.size = w.heap.size + 1 + 1 := by simp
  have hnew : ((w.alloc (.cells #[.slice A n c, .int .i64 0] 47)).alloc (.cells #[.slice none 0 0, .int .i64 0] 47)).heap[w.heap.size + 1]? = some (.cells #[.slice none 0 0, .int .i64 0] 47 (0, 0)) := by
    have := World.alloc_heap_new (w.alloc (.cells #[.slice A n c, .int .i64 0] 47)) (.cells #[.slice none 0 0, .int .i64 0] 47)
    rwa [World.size_alloc] at this
  have hfail := (refFail_any A n c 0 ((w.alloc (.cells #[.slice A n c, .int .i64 0] 47)).alloc (.cells #[.slice none 0 0, .int .i64 0] 47))).mono (R' := fun x w3 => x = .returned (.tuple #[.agg #[.slice none 0 0, .int .i64 120], .int .i64 120]) ∧ Below w.heap.size w w3 ∧ w3.heap[w.heap.size + 1]? = some (.cells #[.slice none 0 0, .int .i64 0] 47 (0, 0)) ∧ w.heap.size + 1 < w3.heap.size ∧
      w3.cell? ⟨w.heap.size + 1, 0, none⟩ = some (.slice none 0 0) ∧ w3.cell? ⟨w.heap.size + 1, 1, none⟩ = some (.int .i64 0) ∧ w3.frozen? ⟨w.heap.size + 1, 0, none⟩ = false ∧ w3.frozen? ⟨w.heap.size + 1, 1, none⟩ = false) (fun x w3 ⟨hx, hb3⟩ => by
    have h3 := (hb3.block (w.heap.size + 1) (by omega)).trans hnew
    exact ⟨hx, hb2.trans (hb3.mono hb2.size), h3, (Array.getElem?_eq_some_iff.1 h3).1, cell_of_heap h3 0, cell_of_heap h3 1, frozen_of_heap h3 0, frozen_of_heap h3 1⟩)
  have hfin : ∀ w3 : World, w3.heap[w.heap.size + 1]? = some (.cells #[.slice none 0 0, .int .i64 0] 47 (0, 0)) → w.heap.size + 1 < w3.heap.size → Below w.heap.size w w3 → ∀ o : Obj, (((w3.setCell ⟨w.heap.size + 1, 0, none⟩ (.slice none 0 0)).setCell ⟨w.heap.size + 1, 1, none⟩ (.int .i64 120)).alloc o).cell? ⟨w.heap.size + 1, 0, none⟩ = some (.slice none 0 0) ∧ (((w3.setCell ⟨w.heap.size + 1, 0, none⟩ (.slice none 0 0)).setCell ⟨w.heap.size + 1, 1, none⟩ (.int .i64 120)).alloc o).cell? ⟨w.heap.size + 1, 1, none⟩ = some (.int .i64 120) ∧ Below w.heap.size w (((w3.setCell ⟨w.heap.size + 1, 0, none⟩ (.slice none 0 0)).setCell ⟨w.heap.size + 1, 1, none⟩ (.int .i64 120)).alloc o) := fun w3 h3 hlt hb o => by
    have h5 := heap_setCells (i := 1) (u := .int .i64 120) (heap_setCells (i := 0) (u := .slice none 0 0) h3)
    have h6 := (Below.heap_alloc _ o _ (by simp; exact hlt)).trans h5
    have hb6 := (hb.setCell (p := ⟨w.heap.size + 1, 0, none⟩) (by simp) (.slice none 0 0)).setCell (p := ⟨w.heap.size + 1, 1, none⟩) (by simp) (.int .i64 120)
    exact ⟨cell_of_heap h6 0, cell_of_heap h6 1, hb6.alloc hb6.size o⟩
  unfold rdV
  rcases hcase with ⟨e, he, hT⟩ | ⟨m, k, hT, hk, hmo⟩
  · rw [hT] at hct
    go_enter Tryd.func23, Tryd.ntmps23
    go_wp2_with (first
      | (go_at_call 48; (with_reducible refine hct.mono ?_); rintro e w2 ⟨rfl, rfl⟩)
      | (go_at_call 49; (with_reducible refine hfail.mono ?_); rintro e w3 ⟨rfl, hb3, h3, hlt, c0, c1, f0, f1⟩; have hg0 := Nat.ne_of_gt hlt))
    obtain ⟨z0, z1, z2⟩ := hfin w3 h3 hlt hb3 (.cells #[.slice none 0 0, .int .i64 120] 47)
    exact bodyPost_ret (v := .tuple #[.agg #[.slice none 0 0, .int .i64 120], .int .i64 0, .int .i64 120]) (by simp [results, Tryd.results23, go_sem, z0, z1]) rfl ⟨rfl, z2⟩
  · rw [hT] at hct
    go_enter Tryd.func23, Tryd.ntmps23
    go_wp2_with (first
      | (go_at_call 48; (with_reducible refine hct.mono ?_); rintro e w2 ⟨rfl, rfl⟩)
      | (go_at_call 49; (with_reducible refine hfail.mono ?_); rintro e w3 ⟨rfl, hb3, h3, hlt, c0, c1, f0, f1⟩; have hg0 := Nat.ne_of_gt hlt))
    obtain ⟨z0, z1, z2⟩ := hfin w3 h3 hlt hb3 (.cells #[.slice none 0 0, .int .i64 120] 47)
    exact bodyPost_ret (v := .tuple #[.agg #[.slice none 0 0, .int .i64 120], .int .i64 0, .int .i64 120]) (by simp [results, Tryd.results23, go_sem, z0, z1]) rfl ⟨rfl, z2⟩
set_option maxRecDepth 100000 in
set_option maxHeartbeats 8000000 in
theorem Sm.refNum_ok (A : Option Addr) (n c : Nat) (l : List (BitVec 8)) (most : Int) (m k : Nat) (w : World) (h : RefAt w A n c l) (hm : n ≤ 9223372036854775807) (h0 : ¬ most < 0) (hg : getN l = .num m k) (hmo : (m : Int) ≤ most) : Calls Tryd.prog 23 #[rdV A n c 0, .int .i64 most] w fun x w' => (∃ A', x = .returned (.tuple #[rdV A' (n - k) (c - k) 0, .int .i64 (m : Int), .int .i64 0]) ∧ RefAt w' A' (n - k) (c - k) (l.drop k)) ∧ Below w.heap.size w w' := by
  have hb2 := alloc2 w (.cells #[.slice A n c, .int .i64 0] 47) (.cells #[.slice none 0 0, .int .i64 0] 47)
  have hct := refTake_any l n c w.heap.size A _ (Lib.hid h.len) hm (h.rd.below hb2)
  have hT : takeV l = ((m : Int), (k : Int)) := by unfold takeV; rw [hg]
  rw [hT] at hct
  obtain ⟨_, hk0, hk9, hkl⟩ := getN_form hg
  have hlen := h.len
  have hroom := h.room
  rw [hlen] at hkl
  obtain ⟨b, off, rfl, hbl, _⟩ := h.rd (by omega)
  have hb3 : ∀ x : Value, Below w.heap.size w ((w.alloc (.cells #[.slice (some ⟨b, off, none⟩) n c, .int .i64 0] 47)).alloc (.cells #[x, .int .i64 0] 47)) := fun x => alloc2 _ _ _
  have x1 : (0 : Int) ≤ (k : Int) := by omega
  have x2 : (k : Int) ≤ (n : Int) := by omega
  have x3 : (n : Int) ≤ (c : Int) := by omega
  unfold rdV
  by_cases hkc : k = c
  · have hkn : k = n := by omega
    subst hkc
    subst hkn
    have hdrop : l.drop k = [] := List.drop_eq_nil_of_le (by omega)
    go_enter Tryd.func23, Tryd.ntmps23
    go_wp2_with (go_at_call 48; (with_reducible refine hct.mono ?_); rintro e w2 ⟨rfl, rfl⟩)
    refine bodyPost_ret (v := .tuple #[.agg #[.slice (some ⟨b, off, none⟩) 0 0, .int .i64 0], .int .i64 (m : Int), .int .i64 0]) (by simp [results, Tryd.results23, go_sem]) rfl ⟨⟨some ⟨b, off, none⟩, by rw [Nat.sub_self], ?_⟩, hb3 _⟩
    rw [hdrop, Nat.sub_self]
    exact ⟨rfl, Nat.le_refl _, Rd.nil⟩
  · go_enter Tryd.func23, Tryd.ntmps23
    go_wp2_with (go_at_call 48; (with_reducible refine hct.mono ?_); rintro e w2 ⟨rfl, rfl⟩)
    refine bodyPost_ret (v := .tuple #[.agg #[.slice (some ⟨b, off + k, none⟩) (n - k) (c - k), .int .i64 0], .int .i64 (m : Int), .int .i64 0]) (by simp [results, Tryd.results23, go_sem]) rfl ⟨⟨some ⟨b, off + k, none⟩, rfl, ?_⟩, hb3 _⟩
    exact ⟨by rw [List.length_drop, hlen], by omega, ((h.rd.drop k).below (hb3 _)).more (hb3 _).size⟩
/-- a number that is asked for -/
theorem Sm.refNum_any (A : Option Addr) (n c : Nat) (l : List (BitVec 8)) (most : Int) (w : World) (h : RefAt w A n c l) (hm : n ≤ 9223372036854775807) : Calls Tryd.prog 23 #[rdV A n c 0, .int .i64 most] w fun x w' =>
    (∃ A' n' c', x = .returned (.tuple #[rdV A' n' c' (numS l 0 most).2.1, .int .i64 (numS l 0 most).2.2.1, .int .i64 (numS l 0 most).2.2.2]) ∧ RefAt w' A' n' c' (numS l 0 most).1) ∧ Below w.heap.size w w' := by
  by_cases h0 : most < 0
  · have e1 : numS l 0 most = (l, 0, 0, 2) := by unfold numS; rw [if_neg (by simp), if_pos h0]
    rw [e1]
    refine (refNum_arg A n c most w h0).mono ?_
    rintro x w' ⟨rfl, hb⟩
    exact ⟨⟨A, n, c, rfl, h.below hb⟩, hb⟩
  · rcases num_ways l most with ⟨m, k, hg, hmo⟩ | hbad
    · rw [numS_ok h0 hg hmo]
      refine (refNum_ok A n c l most m k w h hm h0 hg hmo).mono ?_
      rintro x w' ⟨⟨A', rfl, hr⟩, hb⟩
      exact ⟨⟨A', _, _, rfl, hr⟩, hb⟩
    · rw [numS_bad h0 hbad]
      refine (refNum_bad A n c l most w h hm h0 hbad).mono ?_
      rintro x w' ⟨rfl, hb⟩
      exact ⟨⟨none, 0, 0, rfl, RefAt.nil _⟩, hb⟩
