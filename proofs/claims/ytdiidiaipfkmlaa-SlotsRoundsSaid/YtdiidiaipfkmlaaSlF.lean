/-
  slots: slotOf, ahead, what answers ask. Conditions: as each theorem names them.
-/
import Derived.BigQuiet
import Derived.Test.YtdiidiaipfkmlaaSlD
namespace Go.Proofs
open Go Go.RowKit Sm Go.Lib
attribute [local go_sem] Oper.semAt_some
theorem Sm.ans_gen (f : Nat) (lb : Array Value) (eg : ∀ args w, (callFunc f args).run Try.prog w = .ok (.enter f args) w) (x v : Int) (w : World) (h : x = 0 → Calls Try.prog f lb w fun e w' => e = .returned (.int .i64 v) ∧ w = w') :
    Calls Try.prog 29 #[.int .i64 x, .func (.func f) #[] lb] w fun e w' => e = .returned (.tuple #[.int .i64 (if x = 0 then v else 0), .int .i64 x]) ∧ w = w' := by
  by_cases hx : x = 0
  · subst hx
    exact answer_ok f lb eg v w (h rfl)
  · rw [if_neg hx]
    exact answer_no x _ w hx
def Sm.slV (c p t : Int) : Int := wrap64 (wrap64 (t * c) + p)
theorem Sm.slotOf_any (c p t : Int) (w : World) : Calls Try.prog 36 #[.int .i64 c, .int .i64 p, .int .i64 t] w fun e w' => e = .returned (.int .i64 (slV c p t)) ∧ w = w' := by
  go_enter Try.func36, Try.ntmps36
  go_wp2
  go_ret
  exact ⟨rfl, rfl⟩
theorem Sm.slV_eq {c p t : Int} (h0 : 0 ≤ t) (h1 : t ≤ 4096) (hc : 0 ≤ c) (hc2 : c ≤ 9) (hp : 0 ≤ p) (hp2 : p < c) : slV c p t = t * c + p := by
  have h2 : t * c ≤ 4096 * 9 := Int.mul_le_mul h1 hc2 hc (by decide)
  have h3 : 0 ≤ t * c := Int.mul_nonneg h0 hc
  unfold slV
  rw [IntWalk.wrap64_in (t * c) (by omega), IntWalk.wrap64_in _ (by omega)]
theorem Sm.plB_iff {c p : Int} (h : chB c = true) : plB c p = true ↔ 0 ≤ p ∧ p < c := by
  unfold plB
  rcases chB_iff.1 h with rfl | rfl | rfl | rfl
  all_goals
    rw [IntWalk.wrap64_in _ (by decide), wiI_iff (by decide)]
    omega
/-- how many of a place's slots are ahead of one -/
def Sm.ahV (c p s : Int) : Int := (s + c - 1 - p) / c
theorem Sm.ahead_any (c p s : Int) (w : World) (h : chB c = true) (hp : 0 ≤ p) (hp2 : p < c) (h0 : 0 ≤ s) (h1 : s ≤ 4096) : Calls Try.prog 43 #[.int .i64 c, .int .i64 p, .int .i64 s] w fun e w' => e = .returned (.int .i64 (ahV c p s)) ∧ w = w' := by
  unfold ahV
  rcases chB_iff.1 h with rfl | rfl | rfl | rfl
  · have e1 : 0 ≤ s + 3 - 1 - p := by omega
    have e2 : (s + 3 - 1 - p) / 3 ≤ 4100 := by omega
    have e3 : 0 ≤ (s + 3 - 1 - p) / 3 := by omega
    go_enter Try.func43, Try.ntmps43
    go_wp2
    go_ret
    exact ⟨rfl, rfl⟩
  · have e1 : 0 ≤ s + 5 - 1 - p := by omega
    have e2 : (s + 5 - 1 - p) / 5 ≤ 4100 := by omega
    have e3 : 0 ≤ (s + 5 - 1 - p) / 5 := by omega
    go_enter Try.func43, Try.ntmps43
    go_wp2
    go_ret
    exact ⟨rfl, rfl⟩
  · have e1 : 0 ≤ s + 7 - 1 - p := by omega
    have e2 : (s + 7 - 1 - p) / 7 ≤ 4100 := by omega
    have e3 : 0 ≤ (s + 7 - 1 - p) / 7 := by omega
    go_enter Try.func43, Try.ntmps43
    go_wp2
    go_ret
    exact ⟨rfl, rfl⟩
  · have e1 : 0 ≤ s + 9 - 1 - p := by omega
    have e2 : (s + 9 - 1 - p) / 9 ≤ 4100 := by omega
    have e3 : 0 ≤ (s + 9 - 1 - p) / 9 := by omega
    go_enter Try.func43, Try.ntmps43
    go_wp2
    go_ret
    exact ⟨rfl, rfl⟩
theorem Sm.ahV_nn {c p s : Int} (h : chB c = true) (hp : 0 ≤ p) (hp2 : p < c) (h0 : 0 ≤ s) (h1 : s ≤ 4096) : 0 ≤ ahV c p s ∧ ahV c p s ≤ 4096 := by
  unfold ahV
  rcases chB_iff.1 h with rfl | rfl | rfl | rfl <;> omega
theorem Sm.f38_any (b : Nat) (s : Int) (w : World) (hs : w.cell? ⟨b, 0, none⟩ = some (.int .i64 s)) : Calls Try.prog 38 #[.pointer (some ⟨b, 0, none⟩)] w fun e w' => e = .returned (.int .i64 s) ∧ w = w' := by
  go_enter Try.func38, Try.ntmps38
  go_wp2
  go_ret
  exact ⟨rfl, rfl⟩
theorem Sm.f40_any (b : Nat) (s : Int) (w : World) (hs : w.cell? ⟨b, 0, none⟩ = some (.int .i64 s)) : Calls Try.prog 40 #[.pointer (some ⟨b, 0, none⟩)] w fun e w' => e = .returned (.int .i64 s) ∧ w = w' := by
  go_enter Try.func40, Try.ntmps40
  go_wp2
  go_ret
  exact ⟨rfl, rfl⟩
/-- how many slots are a place's -/
def Sm.maV (c p f t : Int) : Int := ahV c p t - ahV c p f
set_option maxHeartbeats 1000000 in
theorem Sm.f42_any (bc bp bt bf : Nat) (c p f t : Int) (w : World) (h0 : w.cell? ⟨bc, 0, none⟩ = some (.int .i64 c)) (h1 : w.cell? ⟨bp, 0, none⟩ = some (.int .i64 p)) (h2 : w.cell? ⟨bt, 0, none⟩ = some (.int .i64 t)) (h3 : w.cell? ⟨bf, 0, none⟩ = some (.int .i64 f))
    (h : chB c = true) (hp : 0 ≤ p) (hp2 : p < c) (hf : 0 ≤ f) (hft : f ≤ t) (ht : t ≤ 4096) :
    Calls Try.prog 42 #[.pointer (some ⟨bc, 0, none⟩), .pointer (some ⟨bp, 0, none⟩), .pointer (some ⟨bt, 0, none⟩), .pointer (some ⟨bf, 0, none⟩)] w fun e w' => e = .returned (.int .i64 (maV c p f t)) ∧ Below w.heap.size w w' := by
  have ha := fun W => ahead_any c p f W h hp hp2 hf (by omega)
  have hb := fun W => ahead_any c p t W h hp hp2 (by omega) ht
  have ra := ahV_nn h hp hp2 hf (by omega)
  have rb := ahV_nn h hp hp2 (s := t) (by omega) ht
  unfold maV
  obtain ⟨x, hx⟩ : ∃ x, ahV c p f = x := ⟨_, rfl⟩
  obtain ⟨y, hy⟩ : ∃ y, ahV c p t = y := ⟨_, rfl⟩
  rw [hx] at ha ra ⊢
  rw [hy] at hb rb ⊢
  have haq : ∀ W, Calls Try.prog 43 #[.int .i64 c, .int .i64 p, .int .i64 f] W fun e w' => e = .returned (.int .i64 x) ∧ w' = W := fun W => (ha W).mono fun e w' ⟨h1, h2⟩ => ⟨h1, h2.symm⟩
  have hbq : ∀ W, Calls Try.prog 43 #[.int .i64 c, .int .i64 p, .int .i64 t] W fun e w' => e = .returned (.int .i64 y) ∧ w' = W := fun W => (hb W).mono fun e w' ⟨h1, h2⟩ => ⟨h1, h2.symm⟩
  have HA := Lib.hid haq
  have HB := Lib.hid hbq
  clear hx hy ha hb haq hbq
  go_enter Try.func42, Try.ntmps42
  go_upto_region 1 with fail
  go_quiet (first | (go_at_call 43; with_reducible exact Calls.quiet_of_same (HA.out _)) | (go_at_call 43; with_reducible exact Calls.quiet_of_same (HB.out _)))
  go_wp2
  go_ret
  exact ⟨rfl, rfl, rfl, rfl, Nat.le_refl _, fun _ _ => rfl⟩
end Go.Proofs
