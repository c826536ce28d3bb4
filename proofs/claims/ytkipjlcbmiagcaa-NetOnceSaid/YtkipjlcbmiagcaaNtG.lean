/-
  New. Conditions: as each theorem names them.
-/
import Derived.Carry
import Derived.Test.YtkipjlcbmiagcaaNtF
namespace Go.Proofs
open Go Go.RowKit Sm Go.Lib Go.Maps Go.WideMaps
attribute [local go_sem] Oper.semAt_some
def Sm.newB (ends most : Int) : Bool := wiB 1 ends 64 && wiB 1 most 4096
set_option maxRecDepth 100000 in
theorem Sm.new_no (ends most : Int) (w : World) (hb : newB ends most = false) : Calls Try.prog 26 #[.int .i64 ends, .int .i64 most] w fun e w' => e = .returned (.tuple #[.pointer none, .int .i64 2]) ∧ Below w.heap.size w w' := by
  have h0 := within_any 1 ends 64 w
  have HW := Lib.hid (fun W => within_any 1 most 4096 W)
  unfold newB at hb
  obtain ⟨b0, e0⟩ : ∃ x, wiB 1 ends 64 = x := ⟨_, rfl⟩
  obtain ⟨b1, e1⟩ : ∃ x, wiB 1 most 4096 = x := ⟨_, rfl⟩
  rw [e0] at h0 hb
  rw [e1] at HW hb
  clear e0 e1
  cases b0 with
  | false =>
    clear hb
    go_enter Try.func26, Try.ntmps26
    go_wp2_with (go_at_call 53; (with_reducible refine h0.mono ?_); clear h0; rintro e w1 ⟨rfl, hb1⟩; have HB1 := Lib.hid hb1; clear hb1)
    exact bodyPost_ret (v := .tuple #[.pointer none, .int .i64 2]) (by simp [results, Try.results26, go_sem]) rfl ⟨rfl, HB1.out⟩
  | true =>
    have hb : b1 = false := hb
    subst hb
    go_enter Try.func26, Try.ntmps26
    go_wp2_with (first
      | (go_at_call 53; (with_reducible refine h0.mono ?_); clear h0; rintro e w1 ⟨rfl, hb1⟩; have HB1 := Lib.hid hb1; clear hb1; have h1 := HW.out w1)
      | (go_at_call 53; (with_reducible refine h1.mono ?_); clear h1; rintro e w2 ⟨rfl, hb2⟩; have HB2 := Lib.hid hb2; clear hb2))
    exact bodyPost_ret (v := .tuple #[.pointer none, .int .i64 2]) (by simp [results, Try.results26, go_sem]) rfl ⟨rfl, HB1.out.trans (HB2.out.mono HB1.out.size)⟩
theorem Sm.net_new (ends most : Int) (v : World) (h1 : 1 ≤ ends ∧ ends ≤ 64) (h2 : 1 ≤ most ∧ most ≤ 4096) :
    NAt ((v.alloc (.map #[] 0)).alloc (.cells #[.int .i64 ends, .int .i64 most, .int .i64 0, .map (some v.heap.size), .slice none 0 0] 35)) (v.heap.size + 1) v.heap.size (v.heap.size + 2) ⟨ends, most, 0⟩ [] none 0 [] := by
  have hm := World.ownsMap_made v Try.prog 94 heldElem
  refine ⟨new_alloc _ (by simp), ⟨_, hm.alloc _, LnkIs.nil⟩, World.ownsRow_nil _ _ _ _, fun m hm => (by cases hm), fun m hm => (by cases hm), ⟨by omega, by omega, by omega, by simp⟩, ⟨h1.1, h1.2, h2.1, h2.2, ?_, Int.le_refl 0, by show (0 : Int) ≤ 1000000000; decide⟩, fun x hx => (by cases hx), fun x hx => (by cases hx)⟩
  show (0 : Int) ≤ most
  omega
set_option maxRecDepth 100000 in
theorem Sm.new_yes (ends most : Int) (w : World) (hb : newB ends most = true) : Calls Try.prog 26 #[.int .i64 ends, .int .i64 most] w fun e w' => ∃ p Mb base, e = .returned (.tuple #[.pointer (some ⟨p, 0, none⟩), .int .i64 0]) ∧ NAt w' p Mb base ⟨ends, most, 0⟩ [] none 0 [] ∧ w.heap.size ≤ p ∧ w.heap.size ≤ Mb ∧ Below w.heap.size w w' := by
  have h0 := within_any 1 ends 64 w
  have HW := Lib.hid (fun W => within_any 1 most 4096 W)
  unfold newB at hb
  rw [Bool.and_eq_true] at hb
  obtain ⟨e0, e1⟩ := hb
  have hl0 := e0
  have hl1 := e1
  unfold wiB at hl0 hl1
  simp only [Bool.and_eq_true, decide_eq_true_eq] at hl0 hl1
  rw [e0] at h0
  rw [e1] at HW
  clear e0 e1
  have hmm := @run_makeMap Try.prog
  go_enter Try.func26, Try.ntmps26
  go_wp2_with (first
    | (go_at_call 53; (with_reducible refine h0.mono ?_); clear h0; rintro e w1 ⟨rfl, hb1⟩; have HB1 := Lib.hid hb1; clear hb1; have h1 := HW.out w1)
    | (go_at_call 53; (with_reducible refine h1.mono ?_); clear h1; rintro e w2 ⟨rfl, hb2⟩; have HB2 := Lib.hid hb2; clear hb2))
  have hb := HB1.out.trans (HB2.out.mono HB1.out.size)
  exact bodyPost_ret (v := .tuple #[.pointer (some ⟨w2.heap.size + 1, 0, none⟩), .int .i64 0]) (by simp [results, Try.results26, go_sem]) rfl
    ⟨w2.heap.size + 1, w2.heap.size, w2.heap.size + 2, rfl, net_new ends most w2 hl0 hl1, by have := hb.size; omega, hb.size, (hb.alloc hb.size _).alloc (hb.alloc hb.size _).size _⟩
end Go.Proofs
