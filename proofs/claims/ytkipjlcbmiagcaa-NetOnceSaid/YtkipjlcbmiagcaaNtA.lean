/-
  A net in memory: its links as a map's keys; there, within, isAnywhere, isLink, link, IsDown, Came. Conditions: as each theorem names them.
-/
import Derived.LoopTactic
import Derived.DeepKeys4
import Derived.Maps.OwnIn
import Derived.Test.YtkipjlcbmiagcaaApp
import Derived.Test.YtkipjlcbmiagcaaFrame
namespace Go.Proofs
open Go Go.RowKit Sm Go.Lib Go.Maps Go.WideMaps
attribute [local go_sem] Oper.semAt_some
theorem Sm.cell_of_heap {w : World} {B : Nat} {cs : Array Value} {t : TypeId} {fr : Nat × Nat} (h : w.heap[B]? = some (.cells cs t fr)) (i : Nat) : w.cell? ⟨B, i, none⟩ = cs[i]? := by simp [World.cell?, h]
theorem Sm.frozen_of_heap {w : World} {B : Nat} {cs : Array Value} {t : TypeId} (h : w.heap[B]? = some (.cells cs t (0, 0))) (i : Nat) : w.frozen? ⟨B, i, none⟩ = false := by simp [World.frozen?, h]
theorem Sm.map_keep {P : Program} {k : TypeId} {R : Value → Option (DataW Value × List MemPlace)} {w w' : World} {b n : Nat} {D : DataW Value} (h : w.ownsMap P k R b n D) (e : w'.heap[b]? = w.heap[b]?) : w'.ownsMap P k R b n D := by
  obtain ⟨es, clock, hb, r⟩ := h
  exact ⟨es, clock, e.trans hb, r⟩
/-! ### links as keys -/
theorem Try.laidOut9 : laidOutB Try.prog = true := by kernel_rfl
theorem Sm.law94 : Keyed Try.prog 94 := Keyed.of_law (deep_law_laid Try.laidOut9 (m := 2) (by omega) (of_decide_eq_true (by kernel_rfl)) (by kernel_rfl) (by rw [Try.underlying94]))
/-- a link's value -/
def Sm.lnkV (a b : Int) : Value := .agg #[.int .i64 a, .int .i64 b]
def Sm.I64 (a : Int) : Prop := -9223372036854775808 ≤ a ∧ a ≤ 9223372036854775807
noncomputable def Sm.lnkL (a b : Int) : Lit := (keyOf Try.prog 94 (lnkV a b)).getD (.bool false)
theorem Sm.wf64 {a : Int} (h : I64 a) : (Lit.int .i64 a).wf = true := by
  obtain ⟨h1, h2⟩ := h
  simp only [Lit.wf, Bool.and_eq_true, decide_eq_true_eq]
  exact ⟨by show (-9223372036854775808 : Int) ≤ a; exact h1, by show a ≤ (9223372036854775807 : Int); exact h2⟩
theorem Sm.lnk_key {a b : Int} (ha : I64 a) (hb : I64 b) : keyOf Try.prog 94 (lnkV a b) = some (lnkL a b) := by
  have h : ∃ l, keyOf Try.prog 94 (lnkV a b) = some l := by
    unfold keyOf lnkV
    rw [Try.underlying94]
    have hk : Try.prog.keyType 94 = true := by kernel_rfl
    have hc : Try.prog.cellsOf 94 = 2 := by kernel_rfl
    have hf : (Value.agg #[.int .i64 a, .int .i64 b]).formed Try.prog 94 = true := by simp [Value.formed, Try.underlying94, hc]
    have hc3 : Try.prog.cellsOf 3 = 1 := by kernel_rfl
    have h1 := wf64 ha
    have h2 := wf64 hb
    have hr : Try.prog.keyLits (Try.prog.types.size + 1) 94 [.int .i64 a, .int .i64 b] = some [.int .i64 a, .int .i64 b] := by
      generalize hq : Try.prog.types.size = q
      have hq1 : 0 < q := by
        rw [← hq]
        exact of_decide_eq_true (by kernel_rfl)
      have hq0 : ∃ r, q = r + 1 := ⟨q - 1, by omega⟩
      clear hq
      obtain ⟨r, rfl⟩ := hq0
      have hone : ∀ x : Int, (Lit.int .i64 x).wf = true → Try.prog.keyLits (r + 1) 3 [.int .i64 x] = some [.int .i64 x] := fun x hx => by
        unfold Program.keyLits
        rw [Try.underlying3]
        simp [hx]
      unfold Program.keyLits
      rw [Try.underlying94]
      have e1 := hone a h1
      have e2 := hone b h2
      have hr2 : List.range 2 = [0, 1] := by decide
      simp only [List.length_cons, List.length_nil, hc, hc3, if_true, hr2, List.mapM_cons, List.mapM_nil, Nat.zero_mul, Nat.one_mul, List.drop_zero, List.drop_succ_cons, List.take_succ_cons, List.take_zero, e1, e2]
      rfl
    simp only [hk, hf, Bool.and_self, if_true]
    exact ⟨_, congrArg (Option.map _) hr⟩
  obtain ⟨l, hl⟩ := h
  rw [hl]
  unfold lnkL
  rw [hl]
  rfl
theorem Sm.lnk_ne {a b c d : Int} (ha : I64 a) (hb : I64 b) (hc : I64 c) (hd : I64 d) (h : ¬ (a = c ∧ b = d)) : lnkL a b ≠ lnkL c d := fun e => h (by
  have h1 := lnk_key ha hb
  rw [e] at h1
  have h2 := law94.inj h1 (lnk_key hc hd)
  unfold lnkV at h2
  simpa using h2)
attribute [irreducible] Sm.lnkL
end Go.Proofs
