/-
  The contract of few: are calls few enough? No condition but that they are read.
-/
import Derived.Test.YteeponciegmlcaaDoorOpenA
namespace Go.Proofs
open Go.RowKit Go.Shelf Sm
/-- a call that is not too long -/
def Sm.ActD.small (x : ActD) : Prop := x.n ≤ 20 ∧ x.s.size ≤ 200
instance Sm.ActD.smallDec (x : ActD) : Decidable x.small := by unfold ActD.small; exact inferInstance
def Sm.allSmall (xs : List ActD) : Prop := ∀ x ∈ xs, x.small
instance Sm.allSmallDec (xs : List ActD) : Decidable (allSmall xs) := by unfold allSmall; exact inferInstance
theorem Sm.ActD.came.below {x : ActD} {w w' : World} (h : x.came w) (hb : Below w.heap.size w w') : x.came w' := ⟨h.len, h.rd.but (But.of_all hb (fun _ => False)) (fun _ => id)⟩
theorem Sm.RdActs.below {w w' : World} {A : Option Addr} {xs : List ActD} (h : RdActs w A xs) (hb : Below w.heap.size w w') : RdActs w' A xs := fun hn => by
  obtain ⟨b, off, rfl, hlt, hc⟩ := h hn
  refine ⟨b, off, rfl, Nat.lt_of_lt_of_le hlt hb.size, fun j x hj => ?_⟩
  obtain ⟨h0, h1, h2, h3⟩ := hc j x hj
  exact ⟨(hb.cell (p := ⟨b, _, none⟩) hlt).trans h0, (hb.cell (p := ⟨b, _, none⟩) hlt).trans h1, (hb.cell (p := ⟨b, _, none⟩) hlt).trans h2, (hb.cell (p := ⟨b, _, none⟩) hlt).trans h3⟩
/-- one of them -/
theorem Sm.RdActs.at {w : World} {A : Option Addr} {xs : List ActD} (h : RdActs w A xs) {k : Nat} (hk : k < xs.length) : ∃ b off, A = some ⟨b, off, none⟩ ∧ b < w.heap.size ∧ w.cell? ⟨b, off + k * 4, none⟩ = some (.int .i64 xs[k].what) ∧ w.cell? ⟨b, off + k * 4 + 1, none⟩ = some (.slice xs[k].A xs[k].n xs[k].c) ∧ w.cell? ⟨b, off + k * 4 + 2, none⟩ = some (.string xs[k].s) ∧ w.cell? ⟨b, off + k * 4 + 3, none⟩ = some (.bool xs[k].b) := by
  obtain ⟨b, off, rfl, hlt, hc⟩ := h (by omega)
  exact ⟨b, off, rfl, hlt, hc k _ (List.getElem?_eq_getElem hk)⟩
/-- are they few enough? -/
def Sm.fewB (xs : List ActD) : Bool := decide (allSmall xs ∧ xs.length ≤ 40)
set_option maxRecDepth 100000 in
set_option maxHeartbeats 4000000 in
theorem Sm.few_yes (A : Option Addr) (n c : Nat) (xs : List ActD) (w : World) (hr : RdActs w A xs) (hn : xs.length = n) (hm : n ≤ 9223372036854775807) (hs : allSmall xs) : Calls Tryd.prog 11 #[.slice A n c] w fun e w' => e = .returned (.bool (decide ((n : Int) ≤ 40))) ∧ w = w' := by
  go_enter Tryd.func11, Tryd.ntmps11
  go_wp2
  go_loopw [3] (fun vi wr => ∃ k : Nat, k ≤ n ∧ vi = .int .i64 (k : Int) ∧ w = wr) (fun vi _ => n - (intOf vi).toNat)
  case atStart => exact ⟨0, Nat.zero_le _, rfl, rfl⟩
  case round =>
    obtain ⟨k, hk, rfl, rfl⟩ := hrel
    by_cases hlt : k < n
    · obtain ⟨b, off, rfl, _, c0, c1, c2, c3⟩ := hr.at (k := k) (by omega)
      obtain ⟨s1, s2⟩ := hs _ (List.getElem_mem (show k < xs.length by omega))
      go_wp2
      go_roundw
      case rel => exact ⟨k + 1, by omega, by go_num, trivial⟩
      case measure => simp [intOf]; omega
    · go_wp2
      go_ret
      exact ⟨rfl, rfl⟩
set_option maxRecDepth 100000 in
set_option maxHeartbeats 4000000 in
theorem Sm.few_no (A : Option Addr) (n c : Nat) (xs : List ActD) (w : World) (hr : RdActs w A xs) (hn : xs.length = n) (hm : n ≤ 9223372036854775807) (hs : ¬ allSmall xs) : Calls Tryd.prog 11 #[.slice A n c] w fun e w' => e = .returned (.bool false) ∧ w = w' := by
  go_enter Tryd.func11, Tryd.ntmps11
  go_wp2
  go_loopw [3] (fun vi wr => ∃ k : Nat, k ≤ n ∧ vi = .int .i64 (k : Int) ∧ w = wr ∧ Hid (allSmall (xs.take k))) (fun vi _ => n - (intOf vi).toNat)
  case atStart => exact ⟨0, Nat.zero_le _, rfl, rfl, Lib.hid (by unfold allSmall; simp)⟩
  case round =>
    obtain ⟨k, hk, rfl, rfl, HA⟩ := hrel
    by_cases hlt : k < n
    · obtain ⟨b, off, rfl, _, c0, c1, c2, c3⟩ := hr.at (k := k) (by omega)
      have htk : xs.take (k + 1) = xs.take k ++ [xs[k]'(by omega)] := by rw [List.take_succ_eq_append_getElem (by omega)]
      obtain ⟨y, hy⟩ : ∃ y, xs[k]'(by omega) = y := ⟨_, rfl⟩
      rw [hy] at c0 c1 c2 c3 htk
      have HT := Lib.hid htk
      clear htk hy
      by_cases h1 : y.n ≤ 20
      · by_cases h2 : y.s.size ≤ 200
        · go_wp2
          go_roundw
          case rel =>
            refine ⟨k + 1, by omega, by go_num, trivial, Lib.hid ?_⟩
            rw [HT.out]
            intro z hz
            rcases List.mem_append.1 hz with hz | hz
            · exact HA.out z hz
            · simp at hz; subst hz; exact ⟨h1, h2⟩
          case measure => simp [intOf]; omega
        · go_wp2
          go_ret
          exact ⟨rfl, rfl⟩
      · go_wp2
        go_ret
        exact ⟨rfl, rfl⟩
    · exfalso
      have := HA.out
      rw [List.take_of_length_le (by omega)] at this
      exact hs this
theorem Sm.few_any (A : Option Addr) (n c : Nat) (xs : List ActD) (w : World) (hr : RdActs w A xs) (hn : xs.length = n) (hm : n ≤ 9223372036854775807) : Calls Tryd.prog 11 #[.slice A n c] w fun e w' => e = .returned (.bool (fewB xs)) ∧ w = w' := by
  by_cases hs : allSmall xs
  · have : fewB xs = decide ((n : Int) ≤ 40) := by
      unfold fewB
      by_cases h : n ≤ 40
      · rw [decide_eq_true ⟨hs, by omega⟩, decide_eq_true (by omega)]
      · rw [decide_eq_false (fun e => by have := e.2; omega), decide_eq_false (by omega)]
    rw [this]
    exact few_yes A n c xs w hr hn hm hs
  · have : fewB xs = false := decide_eq_false (fun e => hs e.1)
    rw [this]
    exact few_no A n c xs w hr hn hm hs
/-- what few says of each -/
theorem Sm.few_ok {xs : List ActD} {w : World} (h : fewB xs = true) (hc : ∀ x ∈ xs, ActD.came x w) : xs.length ≤ 40 ∧ ∀ x ∈ xs, ActD.ok x w := by
  obtain ⟨h1, h2⟩ := of_decide_eq_true h
  exact ⟨h2, fun x hx => ⟨(hc x hx).len, (h1 x hx).1, (hc x hx).rd, (h1 x hx).2⟩⟩
end Go.Proofs
