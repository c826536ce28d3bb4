/-
  acceptor: the document's New, Entry, Promise, Accept. Conditions: as each theorem names them.
-/
import Derived.Test.YtamlacofmihldaaDoorAcI
import Derived.Test.YtamlacofmihldaaDoorAcJ
import Derived.Test.YtamlacofmihldaaDoorAcK
namespace Go.Proofs
open Go Go.RowKit Sm Go.Lib
attribute [local go_sem] Oper.semAt_some
theorem Sm.lt1_less (r q r2 q2 : Int) : decide (cmpB r q r2 q2 < 1) = !lessB r2 q2 r q := by
  rw [cmpB_less]
  have h : lessB r q r2 q2 = true → lessB r2 q2 r q = false := by
    unfold lessB
    simp only [Bool.or_eq_true, Bool.and_eq_true, decide_eq_true_eq, Bool.or_eq_false_iff, Bool.and_eq_false_iff, decide_eq_false_iff_not]
    omega
  cases h1 : lessB r q r2 q2 <;> cases h2 : lessB r2 q2 r q <;> simp_all
theorem Sm.lt0_less (r q r2 q2 : Int) : decide (cmpB r q r2 q2 < 0) = lessB r q r2 q2 := by
  rw [cmpB_less]
  cases h1 : lessB r q r2 q2 <;> cases h2 : lessB r2 q2 r q <;> simp
theorem Sm.may_round {c s r p : Int} (h : mayB c s r p = true) : 0 ≤ r := by
  unfold mayB ckB roB at h
  simp only [Bool.and_eq_true, decide_eq_true_eq] at h
  omega
theorem Sm.chB_pos {c : Int} (h : chB c = true) : 3 ≤ c := by rcases chB_iff.1 h with e | e | e | e <;> omega
end Go.Proofs
