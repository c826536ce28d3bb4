/-
  find's closures, and what find refuses. Conditions: as each theorem names them.
-/
import Derived.Test.YtkipjlcbmiagcaaNtR
import Derived.Test.YtkipjlcbmiagcaaItrA
namespace Go.Proofs
open Go Go.RowKit Sm Go.Lib Go.Maps Go.WideMaps
attribute [local go_sem] Oper.semAt_some
set_option maxRecDepth 100000 in
theorem Sm.find1_any {p Mb base : Nat} {s : NSt} {D : List (Int × Int)} {A : Option Addr} {cap : Nat} {L : List MsgM} (b1 b2 b3 : Nat) (x y : Int) (w : World) (h : NAt w p Mb base s D A cap L)
    (h1 : w.heap[b1]? = some (.cells #[.int .i64 x] 3 (0, 0))) (h2 : w.heap[b2]? = some (.cells #[.int .i64 y] 3 (0, 0))) (h3 : w.heap[b3]? = some (.cells #[.pointer (some ⟨p, 0, none⟩)] 25 (0, 0))) :
    Calls Try.prog 62 #[.pointer (some ⟨b1, 0, none⟩), .pointer (some ⟨b2, 0, none⟩), .pointer (some ⟨b3, 0, none⟩)] w fun e w' => e = .returned (.bool (!(anyB x y || lnkB s x y))) ∧ Below w.heap.size w w' := by
  have h63 := isAnywhere_any x y w
  have H61 : Hid (∀ W, Below w.heap.size w W → Calls Try.prog 61 #[.pointer (some ⟨p, 0, none⟩), .int .i64 x, .int .i64 y] W fun e w' => e = .returned (.bool (lnkB s x y)) ∧ Below W.heap.size W w') := Lib.hid fun W hb => isLink_any x y W (h.keep hb)
  have HC : Hid (∀ W, Below w.heap.size w W → W.cell? ⟨b1, 0, none⟩ = some (.int .i64 x) ∧ W.cell? ⟨b2, 0, none⟩ = some (.int .i64 y) ∧ W.cell? ⟨b3, 0, none⟩ = some (.pointer (some ⟨p, 0, none⟩))) := Lib.hid fun W hb =>
    ⟨cell_of_heap ((hb.block _ (Array.getElem?_eq_some_iff.1 h1).1).trans h1) 0, cell_of_heap ((hb.block _ (Array.getElem?_eq_some_iff.1 h2).1).trans h2) 0, cell_of_heap ((hb.block _ (Array.getElem?_eq_some_iff.1 h3).1).trans h3) 0⟩
  obtain ⟨q1, q2, q3⟩ := HC.out w (Below.refl _ _)
  obtain ⟨B, hB⟩ : ∃ B, lnkB s x y = B := ⟨_, rfl⟩
  obtain ⟨t, ht⟩ : ∃ t, anyB x y = t := ⟨_, rfl⟩
  rw [hB] at H61 ⊢
  rw [ht] at h63 ⊢
  clear h h1 h2 h3 hB ht
  cases t with
  | true =>
    go_enter Try.func62, Try.ntmps62
    go_wp2_with (go_at_call 63; (with_reducible refine h63.mono ?_); clear h63; rintro e w1 ⟨rfl, hb1⟩)
    go_ret
    exact ⟨by rfl, hb1⟩
  | false =>
    go_enter Try.func62, Try.ntmps62
    go_wp2_with (first
      | (go_at_call 63; (with_reducible refine h63.mono ?_); clear h63; rintro e w1 ⟨rfl, hb1⟩; clear q1 q2 q3; obtain ⟨q1, q2, q3⟩ := HC.out w1 hb1; have h61 := H61.out w1 hb1; have HB1 := Lib.hid hb1; clear hb1)
      | (go_at_call 61; (with_reducible refine h61.mono ?_); clear h61; rintro e w2 ⟨rfl, hb2⟩))
    go_ret
    exact ⟨by simp, HB1.out.trans (hb2.mono HB1.out.size)⟩
theorem Sm.find2_any {p Mb base : Nat} {s : NSt} {D : List (Int × Int)} {A : Option Addr} {cap : Nat} {L : List MsgM} (b1 b2 b3 : Nat) (x y : Int) (w : World) (h : NAt w p Mb base s D A cap L)
    (h1 : w.heap[b1]? = some (.cells #[.pointer (some ⟨p, 0, none⟩)] 25 (0, 0))) (h2 : w.heap[b2]? = some (.cells #[.int .i64 x] 3 (0, 0))) (h3 : w.heap[b3]? = some (.cells #[.int .i64 y] 3 (0, 0))) :
    Calls Try.prog 64 #[.pointer (some ⟨b1, 0, none⟩), .pointer (some ⟨b2, 0, none⟩), .pointer (some ⟨b3, 0, none⟩)] w fun e w' => e = .returned (.bool (decide ((onP x y (L.map MsgM.d)).length = 0))) ∧ Below w.heap.size w w' := by
  have h20 := len_any x y w h
  have q1 := cell_of_heap h1 0
  have q2 := cell_of_heap h2 0
  have q3 := cell_of_heap h3 0
  simp only [List.getElem?_toArray, List.getElem?_cons_zero] at q1 q2 q3
  obtain ⟨n, hn⟩ : ∃ n, (onP x y (L.map MsgM.d)).length = n := ⟨_, rfl⟩
  rw [hn] at h20 ⊢
  clear h h1 h2 h3 hn
  go_enter Try.func64, Try.ntmps64
  go_wp2_with (go_at_call 20; (with_reducible refine h20.mono ?_); clear h20; rintro e w1 ⟨rfl, hb1⟩)
  go_ret
  refine ⟨?_, hb1⟩
  by_cases e : n = 0
  · simp [e]
  · simp [e]
/-- the boxes of find -/
def Sm.fiW (w : World) (r : Option Addr) (x y : Int) : World := (((w.alloc (.cells #[.pointer r] 25)).alloc (.cells #[.int .i64 x] 3)).alloc (.cells #[.int .i64 y] 3)).alloc (.cells #[.int .i64 0] 3)
structure Sm.FiB (w W : World) (r : Option Addr) (x y at_ : Int) : Prop where
  b : Below w.heap.size w W
  n : W.heap[w.heap.size]? = some (.cells #[.pointer r] 25 (0, 0))
  x : W.heap[w.heap.size + 1]? = some (.cells #[.int .i64 x] 3 (0, 0))
  y : W.heap[w.heap.size + 1 + 1]? = some (.cells #[.int .i64 y] 3 (0, 0))
  a : W.heap[w.heap.size + 1 + 1 + 1]? = some (.cells #[.int .i64 at_] 3 (0, 0))
theorem Sm.fiB_new (w : World) (r : Option Addr) (x y : Int) : FiB w (fiW w r x y) r x y 0 :=
  ⟨bel4 w _ _ _ _, old_alloc _ (old_alloc _ (old_alloc _ (new_alloc _ rfl))), old_alloc _ (old_alloc _ (new_alloc _ (by simp))), old_alloc _ (new_alloc _ (by simp)), new_alloc _ (by simp)⟩
theorem Sm.FiB.keep {w W W' : World} {r : Option Addr} {x y a : Int} (h : FiB w W r x y a) (hb : Below W.heap.size W W') : FiB w W' r x y a :=
  have k : ∀ {b : Nat} {o : Obj}, W.heap[b]? = some o → W'.heap[b]? = some o := fun h => (hb.block _ (Array.getElem?_eq_some_iff.1 h).1).trans h
  ⟨h.b.trans (hb.mono h.b.size), k h.n, k h.x, k h.y, k h.a⟩
theorem Sm.FiB.cells {w W : World} {r : Option Addr} {x y a : Int} (h : FiB w W r x y a) : W.cell? ⟨w.heap.size, 0, none⟩ = some (.pointer r) ∧ W.cell? ⟨w.heap.size + 1, 0, none⟩ = some (.int .i64 x) ∧ W.cell? ⟨w.heap.size + 1 + 1, 0, none⟩ = some (.int .i64 y) ∧ W.cell? ⟨w.heap.size + 1 + 1 + 1, 0, none⟩ = some (.int .i64 a) ∧ W.frozen? ⟨w.heap.size + 1 + 1 + 1, 0, none⟩ = false :=
  ⟨cell_of_heap h.n 0, cell_of_heap h.x 0, cell_of_heap h.y 0, cell_of_heap h.a 0, frozen_of_heap h.a 0⟩
set_option maxRecDepth 100000 in
set_option maxHeartbeats 1000000 in
theorem Sm.find_bad (r : Option Addr) (x y pick : Int) (n1 n2 n3 : Bool) (E : Int) (w : World) (hF : ∀ c1 c2 c3, firstF [⟨59, c1, 1, n1⟩, ⟨62, c2, 2, n2⟩, ⟨64, c3, 5, n3⟩] = E) (hE : E ≠ 0)
    (h59 : ∀ W b, Below w.heap.size w W → W.heap[b]? = some (.cells #[.pointer r] 25 (0, 0)) → Calls Try.prog 59 #[.pointer (some ⟨b, 0, none⟩)] W fun e w' => e = .returned (.bool n1) ∧ Below W.heap.size W w')
    (h62 : n1 = false → ∀ W, FiB w W r x y 0 → Calls Try.prog 62 #[.pointer (some ⟨w.heap.size + 1, 0, none⟩), .pointer (some ⟨w.heap.size + 1 + 1, 0, none⟩), .pointer (some ⟨w.heap.size, 0, none⟩)] W fun e w' => e = .returned (.bool n2) ∧ Below W.heap.size W w')
    (h64 : n1 = false → n2 = false → ∀ W, FiB w W r x y 0 → Calls Try.prog 64 #[.pointer (some ⟨w.heap.size, 0, none⟩), .pointer (some ⟨w.heap.size + 1, 0, none⟩), .pointer (some ⟨w.heap.size + 1 + 1, 0, none⟩)] W fun e w' => e = .returned (.bool n3) ∧ Below W.heap.size W w') :
    Calls Try.prog 41 #[.pointer r, .int .i64 x, .int .i64 y, .int .i64 pick] w fun e w' => e = .returned (.tuple #[.int .i64 0, .int .i64 E]) ∧ Below w.heap.size w w' := by
  have hB := fiB_new w r x y
  obtain ⟨W0, hW0⟩ : ∃ V, fiW w r x y = V := ⟨_, rfl⟩
  rw [hW0] at hB
  unfold fiW at hW0
  have h0 := none_any r W0
  have HBX := Lib.hid hB
  obtain ⟨q1, q2, q3, q4, q5⟩ := hB.cells
  have HF := Lib.hid hF
  have H59 := Lib.hid h59
  have H62 := Lib.hid h62
  have H64 := Lib.hid h64
  have hE2 : (E != 0) = true := by simpa using hE
  clear hB hF h59 h62 h64 hE
  go_enter Try.func41, Try.ntmps41
  go_upto_region 1 with fail
  clear hW0
  refine wp_scope_straight ?_
  go_upto_region 2 with
  (first
    | (go_at_call 33; (with_reducible refine h0.mono ?_); clear h0; rintro e w1 ⟨rfl, hx1, hb1⟩; have HX1 := Lib.hid hx1; have HB1 := Lib.hid hb1; clear hx1 hb1;
        have hf := first_new [⟨59, #[.pointer (some ⟨W0.heap.size, 0, none⟩)], 1, n1⟩, ⟨62, #[.pointer (some ⟨w.heap.size + 1, 0, none⟩), .pointer (some ⟨w.heap.size + 1 + 1, 0, none⟩), .pointer (some ⟨w.heap.size, 0, none⟩)], 2, n2⟩, ⟨64, #[.pointer (some ⟨w.heap.size, 0, none⟩), .pointer (some ⟨w.heap.size + 1, 0, none⟩), .pointer (some ⟨w.heap.size + 1 + 1, 0, none⟩)], 5, n3⟩] E (HF.out _ _ _) 3 W0 w1 #[.func (.func 59) #[] #[.pointer (some ⟨W0.heap.size, 0, none⟩)], .int .i64 1, .func (.func 62) #[] #[.pointer (some ⟨w.heap.size + 1, 0, none⟩), .pointer (some ⟨w.heap.size + 1 + 1, 0, none⟩), .pointer (some ⟨w.heap.size, 0, none⟩)], .int .i64 2, .func (.func 64) #[] #[.pointer (some ⟨w.heap.size, 0, none⟩), .pointer (some ⟨w.heap.size + 1, 0, none⟩), .pointer (some ⟨w.heap.size + 1 + 1, 0, none⟩)], .int .i64 5] rfl rfl (by omega) HB1.out (by simp [flNums]) (fun j hj ht W hW => by
          have hbW := HB1.out.trans (hW.mono HB1.out.size)
          match j, hj, ht with
          | 0, _, _ => exact H59.out W _ (HBX.out.b.trans (hbW.mono HBX.out.b.size)) ((hW.block _ (Array.getElem?_eq_some_iff.1 HX1.out).1).trans HX1.out)
          | 1, _, ht => exact H62.out (ht _ (List.mem_cons_self ..)) W (HBX.out.keep hbW)
          | 2, _, ht => exact H64.out (ht _ (List.mem_cons_self ..)) (ht _ (List.mem_cons_of_mem _ (List.mem_cons_self ..))) W (HBX.out.keep hbW)))
    | (go_at_call 32; (with_reducible refine hf.mono ?_); clear hf; rintro e w2 ⟨rfl, hb2⟩; have HB2 := Lib.hid (HBX.out.keep hb2); obtain ⟨p1, p2, p3, p4, p5⟩ := (HBX.out.keep hb2).cells; clear q1 q2 q3 q4 q5 HX1 HB1 hb2))
  have hb3 : Below w.heap.size w (w2.setCell ⟨w.heap.size + 1 + 1 + 1, 0, none⟩ (.int .i64 0)) := HB2.out.b.setCell (by simp only; omega) _
  have HB3 := Lib.hid hb3
  have z0 := cell_of_heap (heap_setCells (i := 0) (u := .int .i64 0) HB2.out.a) 0
  simp only [List.setIfInBounds_toArray, List.set_cons_zero, List.getElem?_toArray, List.getElem?_cons_zero] at z0
  have Z0 := Lib.hid z0
  clear hb3 z0
  go_wp2
  simp only [Exit.noGoto]
  have z0 := Z0.out
  exact bodyPost_ret (v := .tuple #[.int .i64 0, .int .i64 E]) (by simp [results, Try.results41, go_sem, z0]) rfl ⟨rfl, HB3.out⟩
end Go.Proofs
