/-
  bytes.Clone. Conditions: as each theorem names them.
-/
import Derived.Test.YtkipjlcbmiagcaaNtG
namespace Go.Proofs
open Go Go.RowKit Sm Go.Lib Go.Maps Go.WideMaps
attribute [local go_sem] Oper.semAt_some
set_option maxRecDepth 100000 in
theorem Sm.clone_any (B n c : Nat) (A : Option Addr) (l : List (BitVec 8)) (w : World) (hl : l.length = n) (hr : Rd w B A l) (hB : B ≤ w.heap.size) (hn : n ≤ 1000000) :
    Calls Try.prog 38 #[.slice A n c] w fun e w' => ∃ A' c', e = .returned (.slice A' n c') ∧ w'.ownsRow w.heap.size 5 1 (.slice A' n c') n (l.map byteCell) ∧ Below w.heap.size w w' := by
  have HR := Lib.hid hr
  have HL := Lib.hid hl
  rcases A with _ | ad
  · have hl0 : l = [] := by
      cases l with
      | nil => rfl
      | cons x r =>
        obtain ⟨b, off, h, _⟩ := hr (by simp)
        cases h
    subst hl0
    have hn0 : n = 0 := by simpa using hl.symm
    subst hn0
    clear hr hl HR HL
    have he : ∀ W, (binOp BinOp.eql 39 (.slice none 0 c) (.slice none 0 0)).run Try.prog W = .ok (.bool true) W := fun W => by first | rfl | kernel_rfl
    go_enter Try.func38, Try.ntmps38
    go_wp2
    go_ret
    exact ⟨none, 0, rfl, World.ownsRow_nil _ _ _ _, Below.refl _ _⟩
  · clear hr hl
    have he : ∀ W, (binOp BinOp.eql 39 (.slice (some ad) n c) (.slice none 0 0)).run Try.prog W = .ok (.bool false) W := fun W => by first | rfl | kernel_rfl
    have own0 := World.ownsRow_lit (base := w.heap.size) (size := 1) (e := 5) w #[] 0 (Nat.le_refl _) (by decide) rfl
    have hb0 : Below w.heap.size w (w.alloc (.cells #[] 5)) := (Below.refl _ w).alloc (Nat.le_refl _) _
    have hrd := HR.out.keep (w' := w.alloc (.cells #[] 5)) (fun q hq => hb0.cell (by omega))
    obtain ⟨i0, hi⟩ : ∃ i, Try.prog.info? 5 = some i := ⟨_, rfl⟩
    have hz0 : i0.zero = some (.int .u8 0) := by injection hi with hi; rw [← hi]; rfl
    have hz1 : i0.size = 1 := by injection hi with hi; rw [← hi]; rfl
    have hz2 : i0.bytes = 1 := by injection hi with hi; rw [← hi]; rfl
    go_enter Try.func38, Try.ntmps38
    go_wp2_with (at_builtin; refine wpList_append_rd _ rfl (.tmp 5) (.tmp 6) 39 rfl w.heap.size 5 i0 _ Try.underlying39 hi hz0 hz1 hz2 rfl _ _ _ rfl own0 B (some ad) n c l rfl HL.out hrd ?_ ?_ ?_; omega; (simp); intro v4 w4 hown4 hg4 hat4; obtain ⟨A4, c4, rfl⟩ := own_slice hown4)
    go_ret
    rw [Nat.zero_add] at hown4
    exact ⟨A4, c4, by simp, by simpa using hown4, hb0.trans ((But.grown hg4).to_below hb0.size (fun q e => by
      have e2 : some w.heap.size = some q := e
      simp at e2
      omega))⟩
end Go.Proofs
