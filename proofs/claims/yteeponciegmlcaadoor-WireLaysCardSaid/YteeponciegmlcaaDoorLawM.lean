/-
  The contract of lay: a call of a writer lays what the document asks, or refuses it. Condition: the call's data lie outside the writer's blocks.
-/
import Derived.Test.YteeponciegmlcaaDoorLawL
namespace Go.Proofs
open Go.RowKit Go.Shelf Sm
/-- what a call of a writer leaves -/
def Sm.LayPost (w : World) (B : Nat) (v : Value) (l : List (BitVec 8)) (x : ActD) (e : Ending) (w' : World) : Prop := e = .returned (.int .i64 x.laid.2) ∧ ∃ v', Wr w' B v' (l ++ x.laid.1) ∧ WrGo B v v' w w'
theorem Sm.Rds.away {w : World} {S : Nat → Prop} {A : Option Addr} {cs : List Value} (h : Rds w (fun b => w.heap.size ≤ b) A cs) {w' : World} (hb : Below w.heap.size w w') (hS : ∀ b, S b → w.heap.size ≤ b) : Rds w' S A cs := fun hn => by
  obtain ⟨b, off, rfl, hlt, hns, hc⟩ := h hn
  exact ⟨b, off, rfl, Nat.lt_of_lt_of_le hlt hb.size, fun e => by have := hS b e; omega, fun j c hj => (hb.cell (p := ⟨b, off + j, none⟩) hlt).trans (hc j c hj)⟩
theorem Sm.Rds.far {w : World} {A : Option Addr} {cs : List Value} (h : Rds w (fun _ => False) A cs) : Rds w (fun b => w.heap.size ≤ b) A cs := fun hn => by
  obtain ⟨b, off, rfl, hlt, _, hc⟩ := h hn
  exact ⟨b, off, rfl, hlt, by omega, hc⟩
set_option maxRecDepth 100000 in
set_option maxHeartbeats 4000000 in
theorem Sm.layA_any (w0 w : World) {B : Nat} {v : Value} {l : List (BitVec 8)} (hw : Wr w B v l) (hl : l.length ≤ 1000000) (hb0 : Below w0.heap.size w0 w) (hB : w0.heap.size ≤ B) (x : ActD) (hx : x.ok w0) : Calls Tryd.prog 16 #[.pointer (some ⟨B, 0, none⟩), x.val] w (LayPost w B v l x) := by
  obtain ⟨what, ns, n, c, A, s, b⟩ := x
  have hlen : ns.length = n := hx.len
  have hmax : n ≤ 20 := hx.max
  have hs : s.size ≤ 200 := hx.text
  have hrd : Rds w0 (fun _ => False) A (ns.map intC) := hx.rd
  have hb1 : Below w.heap.size w (w.alloc (.cells #[.int .i64 what, .slice A n c, .string s, .bool b] 32)) := (Below.refl _ _).alloc (Nat.le_refl _) _
  have hw1 := hw.below hb1
  have hblk := hw.block
  have hbx : (w.alloc (.cells #[.int .i64 what, .slice A n c, .string s, .bool b] 32)).heap[w.heap.size]? = some (.cells #[.int .i64 what, .slice A n c, .string s, .bool b] 32 (0, 0)) := World.alloc_heap_new w _
  have hr1 : Rds (w.alloc (.cells #[.int .i64 what, .slice A n c, .string s, .bool b] 32)) (fun g => g = B ∨ v.ownBlock = some g) A (ns.map intC) := hrd.far.away (hb0.trans (hb1.mono hb0.size)) (fun g e => by
    rcases e with rfl | e
    · exact hB
    · have := (hblk g e).1; omega)
  clear hrd hx hblk
  unfold LayPost ActD.val
  by_cases h0 : what = 0
  · subst h0
    by_cases hall : allOk ns
    · have hc := WNumber_ok _ hw1 ns n c A (Lib.hid hlen) (by omega) hl hr1 (Lib.hid hall)
      have hlaid : ActD.laid ⟨0, ns, n, c, A, s, b⟩ = (numsB ns, 0) := by
        unfold ActD.laid
        rw [if_pos rfl, if_pos hall]
      rw [hlaid]
      clear hall hr1 hlaid
      go_enter Tryd.func16, Tryd.ntmps16
      go_wp2_with (go_at_call 18; (with_reducible refine hc.mono ?_); rintro e w3 ⟨rfl, v3, hw3, hg3⟩)
      go_ret
      exact ⟨rfl, v3, hw3, hg3.after hb1⟩
    · have hbad : ∃ y ∈ ns, ¬ okN y := by
        unfold allOk at hall
        simpa using hall
      have hc := WNumber_bad _ hw1 ns n c A _ (Lib.hid hlen) (by omega) hr1 (Lib.hid hbad)
      have hlaid : ActD.laid ⟨0, ns, n, c, A, s, b⟩ = ([], 2) := by
        unfold ActD.laid
        rw [if_pos rfl, if_neg hall]
      rw [hlaid]
      clear hall hr1 hlaid hbad
      go_enter Tryd.func16, Tryd.ntmps16
      go_wp2_with (go_at_call 18; (with_reducible refine hc.mono ?_); rintro e w3 ⟨rfl, rfl⟩)
      go_ret
      exact ⟨rfl, v, by rw [List.append_nil]; exact hw1, (WrGo.refl B v _).after hb1⟩
  · by_cases h1 : what = 1
    · subst h1
      have hc := WText_ok _ hw1 hl s (by omega)
      have hlaid : ActD.laid ⟨1, ns, n, c, A, s, b⟩ = (textB s, 0) := by
        unfold ActD.laid
        rw [if_neg (by simp), if_pos rfl]
      rw [hlaid]
      clear hr1 hlaid
      go_enter Tryd.func16, Tryd.ntmps16
      go_wp2_with (go_at_call 19; (with_reducible refine hc.mono ?_); rintro e w3 ⟨rfl, v3, hw3, hg3⟩)
      go_ret
      exact ⟨rfl, v3, hw3, hg3.after hb1⟩
    · have hc := WTruth_ok _ hw1 hl b
      have hlaid : ActD.laid ⟨what, ns, n, c, A, s, b⟩ = (truthB b, 0) := by
        unfold ActD.laid
        rw [if_neg h0, if_neg h1]
      rw [hlaid]
      have e0 : (what == 0) = false := by simpa using h0
      have e1 : (what == 1) = false := by simpa using h1
      clear hr1 hlaid h0 h1
      go_enter Tryd.func16, Tryd.ntmps16
      go_wp2_with (go_at_call 20; (with_reducible refine hc.mono ?_); rintro e w3 ⟨rfl, v3, hw3, hg3⟩)
      go_ret
      exact ⟨rfl, v3, hw3, hg3.after hb1⟩
/-- what any call lays is short -/
theorem Sm.ActD.laid_len {x : ActD} {w : World} (h : x.ok w) : x.laid.1.length ≤ 300 := by
  obtain ⟨what, ns, n, c, A, s, b⟩ := x
  have hlen : ns.length = n := h.len
  have hmax : n ≤ 20 := h.max
  have hs : s.size ≤ 200 := h.text
  unfold ActD.laid
  by_cases h0 : what = 0
  · by_cases hall : allOk ns
    · simp only [if_pos h0, if_pos hall]
      have := numsB_len ns hall
      omega
    · simp only [if_pos h0, if_neg hall]
      simp
  · by_cases h1 : what = 1
    · simp only [if_neg h0, if_pos h1]
      unfold textB
      have := numB_len9 (n := s.size) (by unfold top; omega)
      rw [List.length_append, strL_length]
      omega
    · simp only [if_neg h0, if_neg h1]
      unfold truthB
      cases b <;> simp
end Go.Proofs
