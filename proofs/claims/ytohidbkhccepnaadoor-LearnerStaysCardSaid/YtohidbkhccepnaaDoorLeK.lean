/-
  learner: calls that came in; few. Conditions: as each theorem names them.
-/
import Derived.Test.YtohidbkhccepnaaDoorLeI
namespace Go.Proofs
open Go Go.RowKit Sm Go.Lib
attribute [local go_sem] Oper.semAt_some
/-- a call that came in -/
structure Sm.XV where
  (x pl r q : Int) (e : EntM)
def Sm.XV.cells (y : XV) : List Value := [.int .i64 y.x, .int .i64 y.pl, .int .i64 y.r, .int .i64 y.q, .int .i64 y.e.k, .int .i64 y.e.m, .int .i64 y.e.n, .string y.e.t]
structure Sm.XV.came (y : XV) : Prop where
  kd : I64 y.e.k
  km : I64 y.e.m
  kn : I64 y.e.n
  kr : I64 y.r
  kq : I64 y.q
  sz : y.e.t.size ≤ 9223372036854775807
/-- calls that came in, in a row -/
def Sm.RdX (w : World) (A : Option Addr) (xs : List XV) : Prop :=
  0 < xs.length → ∃ b off, A = some ⟨b, off, none⟩ ∧ b < w.heap.size ∧ ∀ j y, xs[j]? = some y → ∀ i v, y.cells[i]? = some v → w.cell? ⟨b, off + j * 8 + i, none⟩ = some v
/-- the cells of one of them -/
def Sm.XAt (W : World) (b o : Nat) (y : XV) : Prop :=
  (W.cell? ⟨b, o, none⟩ = some (.int .i64 y.x) ∧ W.cell? ⟨b, o + 1, none⟩ = some (.int .i64 y.pl)) ∧ (W.cell? ⟨b, o + 2, none⟩ = some (.int .i64 y.r) ∧ W.cell? ⟨b, o + 3, none⟩ = some (.int .i64 y.q))
    ∧ W.cell? ⟨b, o + 4, none⟩ = some (.int .i64 y.e.k) ∧ W.cell? ⟨b, o + 5, none⟩ = some (.int .i64 y.e.m) ∧ W.cell? ⟨b, o + 6, none⟩ = some (.int .i64 y.e.n) ∧ W.cell? ⟨b, o + 7, none⟩ = some (.string y.e.t)
theorem Sm.RdX.one {w : World} {A : Option Addr} {xs : List XV} (h : RdX w A xs) {k : Nat} (hk : k < xs.length) : ∃ b off, A = some ⟨b, off, none⟩ ∧ b < w.heap.size ∧ ∀ W, (∀ i, W.cell? ⟨b, i, none⟩ = w.cell? ⟨b, i, none⟩) → XAt W b (off + k * 8) xs[k] := by
  obtain ⟨b, off, rfl, hl, hc⟩ := h (by omega)
  have h0 := hc k xs[k] (List.getElem?_eq_getElem hk)
  have g : ∀ W : World, (∀ i, W.cell? ⟨b, i, none⟩ = w.cell? ⟨b, i, none⟩) → ∀ i v, xs[k].cells[i]? = some v → W.cell? ⟨b, off + k * 8 + i, none⟩ = some v := fun W hb i v hi => (hb _).trans (h0 i v hi)
  exact ⟨b, off, rfl, hl, fun W hb => ⟨⟨g W hb 0 _ rfl, g W hb 1 _ rfl⟩, ⟨g W hb 2 _ rfl, g W hb 3 _ rfl⟩, g W hb 4 _ rfl, g W hb 5 _ rfl, g W hb 6 _ rfl, g W hb 7 _ rfl⟩⟩
def Sm.lg (y : XV) : Bool := decide (300 < y.e.t.size)
def Sm.fewB (xs : List XV) (most : Int) : Bool := !xs.any lg && decide ((xs.length : Int) ≤ most)
set_option maxRecDepth 100000 in
set_option maxHeartbeats 1000000 in
theorem Sm.few_any (A : Option Addr) (n c : Nat) (xs : List XV) (most : Int) (w : World) (hn : xs.length = n) (hnc : n ≤ c) (hc9 : c ≤ 9223372036854775807) (hx : RdX w A xs) (hcm : ∀ y ∈ xs, XV.came y) :
    Calls Tryd.prog 4 #[.slice A n c, .int .i64 most] w fun e w' => e = .returned (.bool (fewB xs most)) ∧ w = w' := by
  have HX := Lib.hid hx
  have HN := Lib.hid hn
  have HCM := Lib.hid hcm
  clear hx hn hcm
  go_enter Tryd.func4, Tryd.ntmps4
  go_wp2
  go_loopw [5] (fun v5 wr => ∃ k : Nat, k ≤ n ∧ v5 = .int .i64 (k : Int) ∧ Hid ((xs.take k).any lg = false) ∧ w = wr) (fun v5 _ => n - (RowKit.intOf v5).toNat)
  case atStart => exact ⟨0, Nat.zero_le _, rfl, Lib.hid rfl, rfl⟩
  case round =>
    obtain ⟨k, hk, rfl, HA, rfl⟩ := hrel
    by_cases hlt : k < n
    · have hkx : k < xs.length := by rw [HN.out]; exact hlt
      obtain ⟨b, off, rfl, hbl, hcl⟩ := HX.out.one hkx
      obtain ⟨-, -, c4, c5, c6, c7⟩ := hcl w (fun _ => rfl)
      have hsz := (HCM.out _ (List.getElem_mem hkx)).sz
      have htk : (xs.take (k + 1)).any lg = ((xs.take k).any lg || decide (300 < xs[k].e.t.size)) := by rw [List.take_succ_eq_append_getElem hkx, List.any_append]; simp [lg]
      have HTK := Lib.hid htk
      clear hcl htk
      obtain ⟨t, ht⟩ : ∃ t, xs[k].e.t = t := ⟨_, rfl⟩
      rw [ht] at c7 hsz HTK
      by_cases hd : 300 < t.size
      · have HA2 : Hid (xs.any lg = true) := Lib.hid (List.any_eq_true.2 ⟨xs[k], List.getElem_mem hkx, by unfold lg; rw [ht]; exact decide_eq_true hd⟩)
        have hd2 : (300 : Int) < (t.size : Int) := by omega
        clear HTK ht
        go_wp2
        go_ret
        exact ⟨by unfold fewB; rw [HA2.out]; simp, rfl⟩
      · have HA2 : Hid ((xs.take (k + 1)).any lg = false) := Lib.hid (by rw [HTK.out, HA.out, decide_eq_false hd]; rfl)
        have hd2 : ¬ (300 : Int) < (t.size : Int) := by omega
        clear HTK ht
        go_wp2
        go_roundw
        case rel => exact ⟨k + 1, by omega, by go_num, HA2, trivial⟩
        case measure => simp [RowKit.intOf]; omega
    · obtain rfl : k = n := by omega
      have h1 := HA.out
      rw [List.take_of_length_le (by rw [HN.out]; exact Nat.le_refl _)] at h1
      have H1 := Lib.hid h1
      clear h1
      go_wp2
      go_ret
      exact ⟨by unfold fewB; rw [H1.out, HN.out]; simp, rfl⟩
end Go.Proofs
