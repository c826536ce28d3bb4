/-
  The contract of few.
-/
import Derived.Test.YtbojnblececnhaaGreatDoorQ32
namespace Go.Proofs
open Go.RowKit Go.Shelf Sm
/-- masters of at most 100 bytes, at most 12 others -/
def Sm.fewB (f : ByteArray) (ss : List ByteArray) : Bool := (ss.all fun x => decide (x.size ≤ 100)) && (decide (f.size ≤ 100) && decide (ss.length ≤ 12))
set_option maxRecDepth 100000 in
set_option maxHeartbeats 1000000 in
theorem Sm.few_any (f : ByteArray) (n c : Nat) (A : Option Addr) (ss : List ByteArray) (w : World) (hn : ss.length = n) (hm : n ≤ 9223372036854775807) (hr : Rds w (fun _ => False) A (ss.map Value.string)) :
    Calls Tryz.prog 7 #[.string f, .slice A n c] w fun e w' => e = .returned (.bool (fewB f ss)) ∧ w = w' := by
  have HN := Lib.hid hn
  have HR := Lib.hid hr
  clear hn hr
  go_enter Tryz.func7, Tryz.ntmps7
  go_upto_region 2 with fail
  go_loopw [5] (fun s5 wr => ∃ j : Nat, j ≤ n ∧ s5 = .int .i64 (j : Int) ∧ Hid (∀ x ∈ ss.take j, x.size ≤ 100) ∧ wr = w) (fun s5 _ => n - (intOf s5).toNat)
  case atStart => exact ⟨0, Nat.zero_le _, rfl, Lib.hid (fun x hx => by simp at hx), rfl⟩
  case round =>
    obtain ⟨j, hj, rfl, HA, rfl⟩ := hrel
    by_cases hlt : j < n
    · have hjl : j < ss.length := by rw [HN.out]; exact hlt
      obtain ⟨b, off, rfl, hbl, _, hcell⟩ := HR.out (by rw [List.length_map]; omega)
      have hc := hcell j (.string ss[j]) (by rw [List.getElem?_map, List.getElem?_eq_getElem hjl]; rfl)
      have hmem : ss[j] ∈ ss := List.getElem_mem hjl
      have htk : ss.take (j + 1) = ss.take j ++ [ss[j]] := List.take_succ_eq_append_getElem hjl
      obtain ⟨x, hx⟩ : ∃ x, ss[j] = x := ⟨_, rfl⟩
      rw [hx] at hc hmem htk
      have HM := Lib.hid hmem
      have HTK := Lib.hid htk
      clear hcell hx hmem htk hjl
      by_cases h100 : x.size ≤ 100
      · have h1 : ¬ (100 : Int) < (x.size : Int) := by omega
        go_wp2
        refine ⟨⟨j + 1, by omega, by go_num, Lib.hid (fun y hy => ?_), trivial⟩, by simp [intOf]; omega⟩
        rw [HTK.out, List.mem_append] at hy
        rcases hy with hy | hy
        · exact HA.out y hy
        · simp at hy
          rw [hy]
          exact h100
      · have h1 : (100 : Int) < (x.size : Int) := by omega
        have hf : fewB f ss = false := by
          unfold fewB
          rw [Bool.and_eq_false_iff]
          left
          rw [List.all_eq_false]
          exact ⟨x, HM.out, by simpa using h100⟩
        have HF := Lib.hid hf
        clear hf
        go_wp2
        go_ret
        rw [HF.out]
        exact ⟨rfl, rfl⟩
    · obtain rfl : j = n := by omega
      have hall : (ss.all fun x => decide (x.size ≤ 100)) = true := by
        rw [List.all_eq_true]
        intro x hx
        rw [← HN.out, List.take_length] at HA
        simpa using HA.out x hx
      have hf : fewB f ss = (decide (f.size ≤ 100) && decide (j ≤ 12)) := by unfold fewB; rw [hall, HN.out, Bool.true_and]
      have HF := Lib.hid hf
      clear hf hall hlt
      by_cases h1 : f.size ≤ 100
      · have h2 : (f.size : Int) ≤ 100 := by omega
        go_wp2
        go_ret
        rw [HF.out]
        refine ⟨?_, rfl⟩
        show Ending.returned (Value.bool _) = _
        simp [h1]
        omega
      · have h2 : ¬ (f.size : Int) ≤ 100 := by omega
        go_wp2
        go_ret
        rw [HF.out]
        refine ⟨?_, rfl⟩
        show Ending.returned (Value.bool _) = _
        simp [h1]
end Go.Proofs
