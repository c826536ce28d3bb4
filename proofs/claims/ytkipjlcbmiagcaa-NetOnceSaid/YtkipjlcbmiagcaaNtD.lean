/-
  first: why the first of some flaws that is there is one. Conditions: as each theorem names them.
-/
import Derived.Test.YtkipjlcbmiagcaaNtC
namespace Go.Proofs
open Go Go.RowKit Sm Go.Lib Go.Maps Go.WideMaps
attribute [local go_sem] Oper.semAt_some
/-- a flaw: what tells whether it is there, why, whether it is -/
structure Sm.FlW where
  fn : Nat
  caps : Array Value
  why : Int
  is : Bool
def Sm.flNums : List Nat := [59, 60, 35, 36, 37, 62, 64]
def Sm.firstF (F : List FlW) : Int := match F.find? (·.is) with | some f => f.why | none => 0
theorem Sm.firstF_none {F : List FlW} (h : ∀ f ∈ F, f.is = false) : firstF F = 0 := by
  unfold firstF
  rw [List.find?_eq_none.2 (fun f hf => by rw [h f hf]; simp)]
theorem Sm.firstF_some {F : List FlW} {k : Nat} (hk : k < F.length) (h : ∀ f ∈ F.take k, f.is = false) (hi : F[k].is = true) : firstF F = F[k].why := by
  have e : F = F.take k ++ F[k] :: F.drop (k + 1) := by rw [← List.drop_eq_getElem_cons hk, List.take_append_drop]
  obtain ⟨x, hx⟩ : ∃ x, F[k] = x := ⟨_, rfl⟩
  rw [hx] at e hi ⊢
  have h2 : (F.take k ++ x :: F.drop (k + 1)).find? (·.is) = some x := by
    rw [List.find?_append, List.find?_eq_none.2 (fun f hf => by rw [h f hf]; simp)]
    simp [hi]
  rw [← e] at h2
  unfold firstF
  rw [h2]
/-- flaws in a row -/
def Sm.FlRow (W : World) (g : Nat) (F : List FlW) : Prop :=
  g < W.heap.size ∧ ∀ j (h : j < F.length), W.cell? ⟨g, j * 2, none⟩ = some (.func (.func F[j].fn) #[] F[j].caps) ∧ W.cell? ⟨g, j * 2 + 1, none⟩ = some (.int .i64 F[j].why)
set_option maxRecDepth 100000 in
set_option maxHeartbeats 1000000 in
theorem Sm.first_any (g n c : Nat) (F : List FlW) (w : World) (hn : n ≤ 5) (hF : F.length = n) (hc : n ≤ c) (hrow : FlRow w g F) (hfn : ∀ f ∈ F, f.fn ∈ flNums)
    (hcall : ∀ j (h : j < F.length), (∀ f ∈ F.take j, f.is = false) → ∀ W, Below w.heap.size w W → Calls Try.prog F[j].fn F[j].caps W fun e w' => e = .returned (.bool F[j].is) ∧ Below W.heap.size W w') :
    Calls Try.prog 32 #[.slice (some ⟨g, 0, none⟩) n c] w fun e w' => e = .returned (.int .i64 (firstF F)) ∧ Below w.heap.size w w' := by
  have HROW := Lib.hid hrow
  have HN := Lib.hid hF
  have HFN := Lib.hid hfn
  have HCALL := Lib.hid hcall
  clear hrow hF hfn hcall
  go_enter Try.func32, Try.ntmps32
  go_wp2
  go_loopw [7] (fun v7 wr => ∃ k : Nat, k ≤ n ∧ v7 = .int .i64 (k : Int) ∧ Hid (∀ f ∈ F.take k, f.is = false) ∧ Hid (Below w.heap.size w wr)) (fun v7 _ => n - (RowKit.intOf v7).toNat)
  case atStart => exact ⟨0, Nat.zero_le _, rfl, Lib.hid (fun f hf => by simp at hf), Lib.hid (Below.refl _ _)⟩
  case round =>
    obtain ⟨wo, rfl⟩ : ∃ wo : World, wo = wr := ⟨_, rfl⟩
    obtain ⟨k, hk, rfl, HA, HB⟩ := hrel
    by_cases hlt : k < n
    · have hkx : k < F.length := by rw [HN.out]; exact hlt
      obtain ⟨hg, hcl⟩ := HROW.out
      have hcb := HB.out.cell (p := ⟨g, k * 2, none⟩) hg
      have hcb2 := HB.out.cell (p := ⟨g, k * 2 + 1, none⟩) hg
      have ck := hcb.trans (hcl k hkx).1
      have ck2 := hcb2.trans (hcl k hkx).2
      have hcl3 := HCALL.out k hkx HA.out
      have hmem := HFN.out _ (List.getElem_mem hkx)
      have hno : F[k].is = true → firstF F = F[k].why := firstF_some hkx HA.out
      have hall : F[k].is = false → ∀ f ∈ F.take (k + 1), f.is = false := fun e f hf => by
        rw [List.take_succ_eq_append_getElem hkx, List.mem_append, List.mem_singleton] at hf
        rcases hf with hf | rfl
        · exact HA.out f hf
        · exact e
      obtain ⟨fk, hfk⟩ : ∃ x, F[k] = x := ⟨_, rfl⟩
      rw [hfk] at ck ck2 hcl3 hmem hno hall
      obtain ⟨fn, caps, why, is⟩ := fk
      simp only at ck ck2 hcl3 hmem hno hall
      have HNO := Lib.hid hno
      have HALL := Lib.hid hall
      have HC3 := Lib.hid hcl3
      clear hno hall hcl3 hcl hcb hcb2 hfk hkx
      simp only [flNums, List.mem_cons, List.mem_nil_iff, or_false] at hmem
      rcases hmem with rfl | rfl | rfl | rfl | rfl | rfl | rfl
      · cases is with
        | true =>
          have HNO2 := Lib.hid (HNO.out rfl)
          clear HNO HALL
          go_wp2_with (go_at_call 59; (with_reducible refine (HC3.out _ (HB.out.alloc HB.out.size _)).mono ?_); rintro e w1 ⟨rfl, hb1⟩; have q1 : w1.cell? ⟨wo.heap.size, 1, none⟩ = some (.int .i64 why) := (hb1.cell (p := ⟨wo.heap.size, 1, none⟩) (by simp)).trans (by simp); have HB1 := Lib.hid ((HB.out.alloc HB.out.size _).trans (hb1.mono (HB.out.alloc HB.out.size _).size)); clear hb1)
          go_ret
          exact ⟨by rw [HNO2.out]; rfl, HB1.out⟩
        | false =>
          have HA2 := Lib.hid (HALL.out rfl)
          clear HNO HALL
          go_wp2_with (go_at_call 59; (with_reducible refine (HC3.out _ (HB.out.alloc HB.out.size _)).mono ?_); rintro e w1 ⟨rfl, hb1⟩; have q1 : w1.cell? ⟨wo.heap.size, 1, none⟩ = some (.int .i64 why) := (hb1.cell (p := ⟨wo.heap.size, 1, none⟩) (by simp)).trans (by simp); have HB1 := Lib.hid ((HB.out.alloc HB.out.size _).trans (hb1.mono (HB.out.alloc HB.out.size _).size)); clear hb1)
          go_roundw
          case rel => exact ⟨k + 1, by omega, by go_num, HA2, HB1⟩
          case measure => simp [RowKit.intOf]; omega
      · cases is with
        | true =>
          have HNO2 := Lib.hid (HNO.out rfl)
          clear HNO HALL
          go_wp2_with (go_at_call 60; (with_reducible refine (HC3.out _ (HB.out.alloc HB.out.size _)).mono ?_); rintro e w1 ⟨rfl, hb1⟩; have q1 : w1.cell? ⟨wo.heap.size, 1, none⟩ = some (.int .i64 why) := (hb1.cell (p := ⟨wo.heap.size, 1, none⟩) (by simp)).trans (by simp); have HB1 := Lib.hid ((HB.out.alloc HB.out.size _).trans (hb1.mono (HB.out.alloc HB.out.size _).size)); clear hb1)
          go_ret
          exact ⟨by rw [HNO2.out]; rfl, HB1.out⟩
        | false =>
          have HA2 := Lib.hid (HALL.out rfl)
          clear HNO HALL
          go_wp2_with (go_at_call 60; (with_reducible refine (HC3.out _ (HB.out.alloc HB.out.size _)).mono ?_); rintro e w1 ⟨rfl, hb1⟩; have q1 : w1.cell? ⟨wo.heap.size, 1, none⟩ = some (.int .i64 why) := (hb1.cell (p := ⟨wo.heap.size, 1, none⟩) (by simp)).trans (by simp); have HB1 := Lib.hid ((HB.out.alloc HB.out.size _).trans (hb1.mono (HB.out.alloc HB.out.size _).size)); clear hb1)
          go_roundw
          case rel => exact ⟨k + 1, by omega, by go_num, HA2, HB1⟩
          case measure => simp [RowKit.intOf]; omega
      · cases is with
        | true =>
          have HNO2 := Lib.hid (HNO.out rfl)
          clear HNO HALL
          go_wp2_with (go_at_call 35; (with_reducible refine (HC3.out _ (HB.out.alloc HB.out.size _)).mono ?_); rintro e w1 ⟨rfl, hb1⟩; have q1 : w1.cell? ⟨wo.heap.size, 1, none⟩ = some (.int .i64 why) := (hb1.cell (p := ⟨wo.heap.size, 1, none⟩) (by simp)).trans (by simp); have HB1 := Lib.hid ((HB.out.alloc HB.out.size _).trans (hb1.mono (HB.out.alloc HB.out.size _).size)); clear hb1)
          go_ret
          exact ⟨by rw [HNO2.out]; rfl, HB1.out⟩
        | false =>
          have HA2 := Lib.hid (HALL.out rfl)
          clear HNO HALL
          go_wp2_with (go_at_call 35; (with_reducible refine (HC3.out _ (HB.out.alloc HB.out.size _)).mono ?_); rintro e w1 ⟨rfl, hb1⟩; have q1 : w1.cell? ⟨wo.heap.size, 1, none⟩ = some (.int .i64 why) := (hb1.cell (p := ⟨wo.heap.size, 1, none⟩) (by simp)).trans (by simp); have HB1 := Lib.hid ((HB.out.alloc HB.out.size _).trans (hb1.mono (HB.out.alloc HB.out.size _).size)); clear hb1)
          go_roundw
          case rel => exact ⟨k + 1, by omega, by go_num, HA2, HB1⟩
          case measure => simp [RowKit.intOf]; omega
      · cases is with
        | true =>
          have HNO2 := Lib.hid (HNO.out rfl)
          clear HNO HALL
          go_wp2_with (go_at_call 36; (with_reducible refine (HC3.out _ (HB.out.alloc HB.out.size _)).mono ?_); rintro e w1 ⟨rfl, hb1⟩; have q1 : w1.cell? ⟨wo.heap.size, 1, none⟩ = some (.int .i64 why) := (hb1.cell (p := ⟨wo.heap.size, 1, none⟩) (by simp)).trans (by simp); have HB1 := Lib.hid ((HB.out.alloc HB.out.size _).trans (hb1.mono (HB.out.alloc HB.out.size _).size)); clear hb1)
          go_ret
          exact ⟨by rw [HNO2.out]; rfl, HB1.out⟩
        | false =>
          have HA2 := Lib.hid (HALL.out rfl)
          clear HNO HALL
          go_wp2_with (go_at_call 36; (with_reducible refine (HC3.out _ (HB.out.alloc HB.out.size _)).mono ?_); rintro e w1 ⟨rfl, hb1⟩; have q1 : w1.cell? ⟨wo.heap.size, 1, none⟩ = some (.int .i64 why) := (hb1.cell (p := ⟨wo.heap.size, 1, none⟩) (by simp)).trans (by simp); have HB1 := Lib.hid ((HB.out.alloc HB.out.size _).trans (hb1.mono (HB.out.alloc HB.out.size _).size)); clear hb1)
          go_roundw
          case rel => exact ⟨k + 1, by omega, by go_num, HA2, HB1⟩
          case measure => simp [RowKit.intOf]; omega
      · cases is with
        | true =>
          have HNO2 := Lib.hid (HNO.out rfl)
          clear HNO HALL
          go_wp2_with (go_at_call 37; (with_reducible refine (HC3.out _ (HB.out.alloc HB.out.size _)).mono ?_); rintro e w1 ⟨rfl, hb1⟩; have q1 : w1.cell? ⟨wo.heap.size, 1, none⟩ = some (.int .i64 why) := (hb1.cell (p := ⟨wo.heap.size, 1, none⟩) (by simp)).trans (by simp); have HB1 := Lib.hid ((HB.out.alloc HB.out.size _).trans (hb1.mono (HB.out.alloc HB.out.size _).size)); clear hb1)
          go_ret
          exact ⟨by rw [HNO2.out]; rfl, HB1.out⟩
        | false =>
          have HA2 := Lib.hid (HALL.out rfl)
          clear HNO HALL
          go_wp2_with (go_at_call 37; (with_reducible refine (HC3.out _ (HB.out.alloc HB.out.size _)).mono ?_); rintro e w1 ⟨rfl, hb1⟩; have q1 : w1.cell? ⟨wo.heap.size, 1, none⟩ = some (.int .i64 why) := (hb1.cell (p := ⟨wo.heap.size, 1, none⟩) (by simp)).trans (by simp); have HB1 := Lib.hid ((HB.out.alloc HB.out.size _).trans (hb1.mono (HB.out.alloc HB.out.size _).size)); clear hb1)
          go_roundw
          case rel => exact ⟨k + 1, by omega, by go_num, HA2, HB1⟩
          case measure => simp [RowKit.intOf]; omega
      · cases is with
        | true =>
          have HNO2 := Lib.hid (HNO.out rfl)
          clear HNO HALL
          go_wp2_with (go_at_call 62; (with_reducible refine (HC3.out _ (HB.out.alloc HB.out.size _)).mono ?_); rintro e w1 ⟨rfl, hb1⟩; have q1 : w1.cell? ⟨wo.heap.size, 1, none⟩ = some (.int .i64 why) := (hb1.cell (p := ⟨wo.heap.size, 1, none⟩) (by simp)).trans (by simp); have HB1 := Lib.hid ((HB.out.alloc HB.out.size _).trans (hb1.mono (HB.out.alloc HB.out.size _).size)); clear hb1)
          go_ret
          exact ⟨by rw [HNO2.out]; rfl, HB1.out⟩
        | false =>
          have HA2 := Lib.hid (HALL.out rfl)
          clear HNO HALL
          go_wp2_with (go_at_call 62; (with_reducible refine (HC3.out _ (HB.out.alloc HB.out.size _)).mono ?_); rintro e w1 ⟨rfl, hb1⟩; have q1 : w1.cell? ⟨wo.heap.size, 1, none⟩ = some (.int .i64 why) := (hb1.cell (p := ⟨wo.heap.size, 1, none⟩) (by simp)).trans (by simp); have HB1 := Lib.hid ((HB.out.alloc HB.out.size _).trans (hb1.mono (HB.out.alloc HB.out.size _).size)); clear hb1)
          go_roundw
          case rel => exact ⟨k + 1, by omega, by go_num, HA2, HB1⟩
          case measure => simp [RowKit.intOf]; omega
      · cases is with
        | true =>
          have HNO2 := Lib.hid (HNO.out rfl)
          clear HNO HALL
          go_wp2_with (go_at_call 64; (with_reducible refine (HC3.out _ (HB.out.alloc HB.out.size _)).mono ?_); rintro e w1 ⟨rfl, hb1⟩; have q1 : w1.cell? ⟨wo.heap.size, 1, none⟩ = some (.int .i64 why) := (hb1.cell (p := ⟨wo.heap.size, 1, none⟩) (by simp)).trans (by simp); have HB1 := Lib.hid ((HB.out.alloc HB.out.size _).trans (hb1.mono (HB.out.alloc HB.out.size _).size)); clear hb1)
          go_ret
          exact ⟨by rw [HNO2.out]; rfl, HB1.out⟩
        | false =>
          have HA2 := Lib.hid (HALL.out rfl)
          clear HNO HALL
          go_wp2_with (go_at_call 64; (with_reducible refine (HC3.out _ (HB.out.alloc HB.out.size _)).mono ?_); rintro e w1 ⟨rfl, hb1⟩; have q1 : w1.cell? ⟨wo.heap.size, 1, none⟩ = some (.int .i64 why) := (hb1.cell (p := ⟨wo.heap.size, 1, none⟩) (by simp)).trans (by simp); have HB1 := Lib.hid ((HB.out.alloc HB.out.size _).trans (hb1.mono (HB.out.alloc HB.out.size _).size)); clear hb1)
          go_roundw
          case rel => exact ⟨k + 1, by omega, by go_num, HA2, HB1⟩
          case measure => simp [RowKit.intOf]; omega
    · obtain rfl : k = n := by omega
      have hall : firstF F = 0 := firstF_none (fun f hf => HA.out f (by rw [List.take_of_length_le (by rw [HN.out]; exact Nat.le_refl _)]; exact hf))
      have HALL := Lib.hid hall
      clear hall
      go_wp2
      go_ret
      exact ⟨by rw [HALL.out]; rfl, HB.out⟩
end Go.Proofs
