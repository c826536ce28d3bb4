/-
  acceptor: what it is in memory; nothing, whole, there, isMember, within, all. acceptor: structs that are the same. Conditions: none. acceptor: the kinds' map, which entries may be (Right, the document's Entry); fresh. acceptor: a saying that may be. acceptor: which entries may be. Conditions: as each theorem names them.
-/
import Derived.Test.YtamlacofmihldaaGreatDoorBaD
import Derived.ChangeKeysEq
import Derived.Maps.OwnSet
import Derived.Carry
import Derived.Laws.EntriesVeiled
import Derived.Test.YtamlacofmihldaaGreatDoorTxCk
namespace Go.Proofs
open Go Go.RowKit Sm Go.Lib
attribute [local go_sem] Oper.semAt_some
/-- an acceptor: choir, slot, what was promised, what was accepted -/
structure Sm.AcM where
  (c s pr pp ar ap k m n : Int) (t : ByteArray)
/-- an acceptor in memory -/
def Sm.AAt (w : World) (p : Nat) (M : AcM) : Prop := w.heap[p]? = some (.cells #[.int .i64 M.c, .int .i64 M.s, .int .i64 M.pr, .int .i64 M.pp, .int .i64 M.ar, .int .i64 M.ap, .int .i64 M.k, .int .i64 M.m, .int .i64 M.n, .string M.t] 44 (0, 0))
theorem Sm.AAt.lt {w : World} {p : Nat} {M : AcM} (h : AAt w p M) : p < w.heap.size := (Array.getElem?_eq_some_iff.1 h).1
theorem Sm.AAt.keep {w w' : World} {p : Nat} {M : AcM} (h : AAt w p M) (hb : Below w.heap.size w w') : AAt w' p M := (hb.block p h.lt).trans h
theorem Sm.AAt.keepN {w w' : World} {p N : Nat} {M : AcM} (h : AAt w p M) (hb : Below N w w') (hp : p < N) : AAt w' p M := (hb.block p hp).trans h
theorem Sm.AAt.cells {w : World} {p : Nat} {M : AcM} (h : AAt w p M) : w.cell? ⟨p, 0, none⟩ = some (.int .i64 M.c) ∧ w.cell? ⟨p, 1, none⟩ = some (.int .i64 M.s) ∧ w.cell? ⟨p, 2, none⟩ = some (.int .i64 M.pr) ∧ w.cell? ⟨p, 3, none⟩ = some (.int .i64 M.pp)
    ∧ w.cell? ⟨p, 4, none⟩ = some (.int .i64 M.ar) ∧ w.cell? ⟨p, 5, none⟩ = some (.int .i64 M.ap) ∧ w.cell? ⟨p, 6, none⟩ = some (.int .i64 M.k) ∧ w.cell? ⟨p, 7, none⟩ = some (.int .i64 M.m) ∧ w.cell? ⟨p, 8, none⟩ = some (.int .i64 M.n) ∧ w.cell? ⟨p, 9, none⟩ = some (.string M.t) :=
  ⟨cell_of_heap h 0, cell_of_heap h 1, cell_of_heap h 2, cell_of_heap h 3, cell_of_heap h 4, cell_of_heap h 5, cell_of_heap h 6, cell_of_heap h 7, cell_of_heap h 8, cell_of_heap h 9⟩
theorem Sm.AAt.free {w : World} {p : Nat} {M : AcM} (h : AAt w p M) (i : Nat) : w.frozen? ⟨p, i, none⟩ = false := frozen_of_heap h i
theorem Sm.None27 (w : World) : Calls Tryz.prog 27 #[] w fun e w' => e = .returned (.agg #[.int .i64 (-1), .int .i64 0]) ∧ Below w.heap.size w w' := by
  have hb0 : Below w.heap.size w (w.alloc (.cells #[.int .i64 0, .int .i64 0] 31)) := (Below.refl _ w).alloc (Nat.le_refl _) _
  go_enter Tryz.func27, Tryz.ntmps27
  go_wp2
  refine bodyPost_ret (v := .agg #[.int .i64 (-1), .int .i64 0]) (by simp [results, Tryz.results27, go_sem]) rfl ⟨rfl, ?_⟩
  repeat' (first | exact hb0 | exact Below.refl _ _ | refine Below.drew ?_ | refine Below.alloc ?_ ?_ _ | refine Below.setCell ?_ ?_ _ | (simp; done) | (simp; omega) | omega)
theorem Sm.two {w : World} {p : Nat} {a b : Value} {t : TypeId} (h : w.heap[p]? = some (.cells #[a, b] t (0, 0))) : (w.cell? ⟨p, 0, none⟩ = some a ∧ w.cell? ⟨p, 1, none⟩ = some b) ∧ (w.frozen? ⟨p, 0, none⟩ = false ∧ w.frozen? ⟨p, 1, none⟩ = false) :=
  ⟨⟨cell_of_heap h 0, cell_of_heap h 1⟩, frozen_of_heap h 0, frozen_of_heap h 1⟩
theorem Sm.four {w : World} {p : Nat} {a b c d : Value} {t : TypeId} (h : w.heap[p]? = some (.cells #[a, b, c, d] t (0, 0))) : (w.cell? ⟨p, 0, none⟩ = some a ∧ w.cell? ⟨p, 1, none⟩ = some b ∧ w.cell? ⟨p, 2, none⟩ = some c ∧ w.cell? ⟨p, 3, none⟩ = some d)
    ∧ (w.frozen? ⟨p, 0, none⟩ = false ∧ w.frozen? ⟨p, 1, none⟩ = false ∧ w.frozen? ⟨p, 2, none⟩ = false ∧ w.frozen? ⟨p, 3, none⟩ = false) :=
  ⟨⟨cell_of_heap h 0, cell_of_heap h 1, cell_of_heap h 2, cell_of_heap h 3⟩, frozen_of_heap h 0, frozen_of_heap h 1, frozen_of_heap h 2, frozen_of_heap h 3⟩
theorem Sm.six {w : World} {p : Nat} {a b c d e f : Value} {t : TypeId} (h : w.heap[p]? = some (.cells #[a, b, c, d, e, f] t (0, 0))) :
    (w.cell? ⟨p, 0, none⟩ = some a ∧ w.cell? ⟨p, 1, none⟩ = some b ∧ w.cell? ⟨p, 2, none⟩ = some c ∧ w.cell? ⟨p, 3, none⟩ = some d ∧ w.cell? ⟨p, 4, none⟩ = some e ∧ w.cell? ⟨p, 5, none⟩ = some f)
    ∧ (w.frozen? ⟨p, 0, none⟩ = false ∧ w.frozen? ⟨p, 1, none⟩ = false ∧ w.frozen? ⟨p, 2, none⟩ = false ∧ w.frozen? ⟨p, 3, none⟩ = false ∧ w.frozen? ⟨p, 4, none⟩ = false ∧ w.frozen? ⟨p, 5, none⟩ = false) :=
  ⟨⟨cell_of_heap h 0, cell_of_heap h 1, cell_of_heap h 2, cell_of_heap h 3, cell_of_heap h 4, cell_of_heap h 5⟩, frozen_of_heap h 0, frozen_of_heap h 1, frozen_of_heap h 2, frozen_of_heap h 3, frozen_of_heap h 4, frozen_of_heap h 5⟩
theorem Sm.set2 {w : World} {p : Nat} {a b : Value} {t : TypeId} (h : w.heap[p]? = some (.cells #[a, b] t (0, 0))) (a' b' : Value) :
    ((w.setCell ⟨p, 0, none⟩ a').setCell ⟨p, 1, none⟩ b').heap[p]? = some (.cells #[a', b'] t (0, 0)) := heap_setCells (heap_setCells h)
theorem Sm.set6 {w : World} {p : Nat} {a b c d e f : Value} {t : TypeId} (h : w.heap[p]? = some (.cells #[a, b, c, d, e, f] t (0, 0))) (a' b' c' d' e' f' : Value) :
    ((((((w.setCell ⟨p, 0, none⟩ a').setCell ⟨p, 1, none⟩ b').setCell ⟨p, 2, none⟩ c').setCell ⟨p, 3, none⟩ d').setCell ⟨p, 4, none⟩ e').setCell ⟨p, 5, none⟩ f').heap[p]? = some (.cells #[a', b', c', d', e', f'] t (0, 0)) :=
  heap_setCells (heap_setCells (heap_setCells (heap_setCells (heap_setCells (heap_setCells h)))))
theorem Sm.bset2 {N : Nat} {w w1 : World} {p : Nat} (h : Below N w w1) (hp : N ≤ p) (a' b' : Value) : Below N w ((w1.setCell ⟨p, 0, none⟩ a').setCell ⟨p, 1, none⟩ b') := (h.setCell hp _).setCell hp _
theorem Sm.bset6 {N : Nat} {w w1 : World} {p : Nat} (h : Below N w w1) (hp : N ≤ p) (a' b' c' d' e' f' : Value) :
    Below N w ((((((w1.setCell ⟨p, 0, none⟩ a').setCell ⟨p, 1, none⟩ b').setCell ⟨p, 2, none⟩ c').setCell ⟨p, 3, none⟩ d').setCell ⟨p, 4, none⟩ e').setCell ⟨p, 5, none⟩ f') :=
  (((((h.setCell hp _).setCell hp _).setCell hp _).setCell hp _).setCell hp _).setCell hp _
set_option maxRecDepth 100000 in
set_option maxHeartbeats 1000000 in
theorem Sm.nothing_any (w : World) : Calls Tryz.prog 23 #[] w fun e w' => e = .returned (.agg #[.int .i64 (-1), .int .i64 0, .int .i64 0, .int .i64 0, .int .i64 0, .string ⟨#[]⟩]) ∧ Below w.heap.size w w' := by
  have hb0 : Below w.heap.size w (w.alloc (.cells #[.int .i64 0, .int .i64 0, .int .i64 0, .int .i64 0, .int .i64 0, .string ⟨#[]⟩] 36)) := (Below.refl _ w).alloc (Nat.le_refl _) _
  have q0 := World.alloc_heap_new w (.cells #[.int .i64 0, .int .i64 0, .int .i64 0, .int .i64 0, .int .i64 0, .string ⟨#[]⟩] 36)
  have h1 := fun W => None_any W
  have HK : Hid (∀ W, Below (w.heap.size + 1) (w.alloc (.cells #[.int .i64 0, .int .i64 0, .int .i64 0, .int .i64 0, .int .i64 0, .string ⟨#[]⟩] 36)) W → W.heap[w.heap.size]? = some (.cells #[.int .i64 0, .int .i64 0, .int .i64 0, .int .i64 0, .int .i64 0, .string ⟨#[]⟩] 36 (0, 0))) := Lib.hid fun W hb => (hb.block _ (by simp)).trans q0
  clear q0
  have HB0 := Lib.hid hb0
  clear hb0
  go_enter Tryz.func23, Tryz.ntmps23
  go_wp2_with (go_at_call 44; (with_reducible refine (h1 _).mono ?_); rintro e w1 ⟨rfl, hb1⟩; have hr := HK.out w1 (hb1.mono (by simp)); obtain ⟨⟨r0, r1, r2, r3, r4, r5⟩, ⟨f0, f1, f2, f3, f4, f5⟩⟩ := six hr; have HB1 := Lib.hid (HB0.out.trans (hb1.mono HB0.out.size)); have HR := Lib.hid hr; clear hb1 hr)
  obtain ⟨⟨z0, z1, z2, z3, z4, z5⟩, _⟩ := six (set6 HR.out (.int .i64 (-1)) (.int .i64 0) (.int .i64 0) (.int .i64 0) (.int .i64 0) (.string ⟨#[]⟩))
  clear r0 r1 r2 r3 r4 r5 f0 f1 f2 f3 f4 f5
  refine bodyPost_ret (v := .agg #[.int .i64 (-1), .int .i64 0, .int .i64 0, .int .i64 0, .int .i64 0, .string ⟨#[]⟩]) (by simp only [results, Tryz.results23]; simp [go_sem, z0, z1, z2, z3, z4, z5]) rfl ⟨rfl, ?_⟩
  exact bset6 HB1.out (Nat.le_refl _) _ _ _ _ _ _
theorem Sm.whole_any (w : World) (p : Nat) (M : AcM) (hp : AAt w p M) :
    Calls Tryz.prog 34 #[.pointer (some ⟨p, 0, none⟩)] w fun e w' => e = .returned (.agg #[.int .i64 M.c, .int .i64 M.s, .int .i64 M.pr, .int .i64 M.pp, .int .i64 M.ar, .int .i64 M.ap, .int .i64 M.k, .int .i64 M.m, .int .i64 M.n, .string M.t]) ∧ Below w.heap.size w w' := by
  obtain ⟨c0, c1, c2, c3, c4, c5, c6, c7, c8, c9⟩ := hp.cells
  have hl := hp.lt
  have hb0 : ∀ X t, Below w.heap.size w (w.alloc (.cells X t)) := fun X t => (Below.refl _ w).alloc (Nat.le_refl _) _
  clear hp
  go_enter Tryz.func34, Tryz.ntmps34
  go_wp2
  refine bodyPost_ret (v := .agg #[.int .i64 M.c, .int .i64 M.s, .int .i64 M.pr, .int .i64 M.pp, .int .i64 M.ar, .int .i64 M.ap, .int .i64 M.k, .int .i64 M.m, .int .i64 M.n, .string M.t]) (by simp [results, Tryz.results34, go_sem]) rfl ⟨rfl, hb0 _ _⟩
theorem Sm.whole_no (w : World) : Calls Tryz.prog 34 #[.pointer none] w fun e w' => e = .returned (.agg #[.int .i64 0, .int .i64 0, .int .i64 0, .int .i64 0, .int .i64 0, .int .i64 0, .int .i64 0, .int .i64 0, .int .i64 0, .string ⟨#[]⟩]) ∧ Below w.heap.size w w' := by
  have hb0 : ∀ X t, Below w.heap.size w (w.alloc (.cells X t)) := fun X t => (Below.refl _ w).alloc (Nat.le_refl _) _
  go_enter Tryz.func34, Tryz.ntmps34
  go_wp2
  refine bodyPost_ret (v := .agg #[.int .i64 0, .int .i64 0, .int .i64 0, .int .i64 0, .int .i64 0, .int .i64 0, .int .i64 0, .int .i64 0, .int .i64 0, .string ⟨#[]⟩]) (by simp [results, Tryz.results34, go_sem]) rfl ⟨rfl, hb0 _ _⟩
set_option maxRecDepth 100000 in
theorem Sm.there_any (w : World) (p : Nat) (M : AcM) (hp : AAt w p M) :
    Calls Tryz.prog 33 #[.pointer (some ⟨p, 0, none⟩)] w fun e w' => e = .returned (.bool (M.c != 0)) ∧ Below w.heap.size w w' := by
  have h1 := fun W h => whole_any W p M h
  have h1 := h1 w hp
  have hf : ∀ w, (Instr.field 44 (.agg #[.int .i64 M.c, .int .i64 M.s, .int .i64 M.pr, .int .i64 M.pp, .int .i64 M.ar, .int .i64 M.ap, .int .i64 M.k, .int .i64 M.m, .int .i64 M.n, .string M.t]) 0).run Tryz.prog w = .ok (.int .i64 M.c) w := fun _ => by kernel_rfl
  clear hp
  go_enter Tryz.func33, Tryz.ntmps33
  go_wp2_with (go_at_call 34; (with_reducible refine h1.mono ?_); rintro e w1 ⟨rfl, hb1⟩)
  go_ret
  exact ⟨rfl, hb1⟩
set_option maxRecDepth 100000 in
theorem Sm.there_no (w : World) : Calls Tryz.prog 33 #[.pointer none] w fun e w' => e = .returned (.bool false) ∧ Below w.heap.size w w' := by
  have h1 := whole_no w
  have hf : ∀ w, (Instr.field 44 (.agg #[.int .i64 0, .int .i64 0, .int .i64 0, .int .i64 0, .int .i64 0, .int .i64 0, .int .i64 0, .int .i64 0, .int .i64 0, .string ⟨#[]⟩]) 0).run Tryz.prog w = .ok (.int .i64 0) w := fun _ => by kernel_rfl
  go_enter Tryz.func33, Tryz.ntmps33
  go_wp2_with (go_at_call 34; (with_reducible refine h1.mono ?_); rintro e w1 ⟨rfl, hb1⟩)
  go_ret
  exact ⟨rfl, hb1⟩
theorem Sm.wi79 (a x b : Int) (w : World) : Calls Tryz.prog 79 #[.int .i64 a, .int .i64 x, .int .i64 b] w fun e w' => e = .returned (.bool (decide (a ≤ x) && decide (x ≤ b))) ∧ w = w' := by
  by_cases h : a ≤ x
  · go_enter Tryz.func79, Tryz.ntmps79
    go_wp2
    go_ret
    exact ⟨by simp [h], rfl⟩
  · go_enter Tryz.func79, Tryz.ntmps79
    go_wp2
    go_ret
    exact ⟨by simp; omega, rfl⟩
theorem Sm.wi73 (a x b : Int) (w : World) : Calls Tryz.prog 73 #[.int .i64 a, .int .i64 x, .int .i64 b] w fun e w' => e = .returned (.bool (decide (a ≤ x) && decide (x ≤ b))) ∧ w = w' := by
  by_cases h : a ≤ x
  · go_enter Tryz.func73, Tryz.ntmps73
    go_wp2
    go_ret
    exact ⟨by simp [h], rfl⟩
  · go_enter Tryz.func73, Tryz.ntmps73
    go_wp2
    go_ret
    exact ⟨by simp; omega, rfl⟩
/-- may a member be -/
def Sm.mbB (m : Int) : Bool := decide (0 ≤ m) && decide (m ≤ 15)
theorem Sm.isMember_any (m : Int) (w : World) : Calls Tryz.prog 72 #[.int .i64 m] w fun e w' => e = .returned (.bool (mbB m)) ∧ w = w' := by
  have h1 := wi79 0 m 15 w
  unfold mbB
  obtain ⟨x, hx⟩ : ∃ x, (decide (0 ≤ m) && decide (m ≤ 15)) = x := ⟨_, rfl⟩
  rw [hx] at h1 ⊢
  clear hx
  go_enter Tryz.func72, Tryz.ntmps72
  go_wp2_with (go_at_call 79; (with_reducible refine h1.mono ?_); rintro e w' ⟨rfl, rfl⟩)
  go_ret
  exact ⟨rfl, rfl⟩
set_option maxHeartbeats 1000000 in
theorem Sm.index_false (A : Option Addr) (n c : Nat) (xs : List Bool) (w : World) (h : RowB w A n c xs) :
    Calls Tryz.prog 63 #[.slice A n c, .bool false] w fun e w' => ∃ i : Int, e = .returned (.int .i64 i) ∧ decide (0 ≤ i) = !xs.all id ∧ w = w' := by
  obtain ⟨hn, hnc, hn1, hx⟩ := h
  have HX := Lib.hid hx
  have HN := Lib.hid hn
  have hnI : (n : Int) ≤ 1000 := by omega
  clear hx hn
  go_enter Tryz.func63, Tryz.ntmps63
  go_wp2
  go_loopw [8] (fun v8 wr => ∃ k : Nat, k ≤ n ∧ v8 = .int .i64 (k : Int) ∧ Hid ((xs.take k).all id = true) ∧ wr = w) (fun v8 _ => n - (RowKit.intOf v8).toNat)
  case atStart => exact ⟨0, Nat.zero_le _, rfl, Lib.hid rfl, rfl⟩
  case round =>
    obtain ⟨k, hk, rfl, HA, rfl⟩ := hrel
    by_cases hlt : k < n
    · have hkx : k < xs.length := by rw [HN.out]; exact hlt
      rcases HX.out with e | ⟨g, rfl, hg, hcl⟩
      · rw [e] at hkx; simp at hkx
      · have ck := hcl k hkx
        have htk : xs.take (k + 1) = xs.take k ++ [xs[k]] := List.take_succ_eq_append_getElem hkx
        cases hb : xs[k] with
        | true =>
          rw [hb] at ck
          have HA2 : Hid ((xs.take (k + 1)).all id = true) := Lib.hid (by rw [htk, List.all_append, HA.out, hb]; rfl)
          clear hcl htk hb
          go_wp2
          go_roundw
          case rel => exact ⟨k + 1, by omega, by go_num, HA2, trivial⟩
          case measure => simp [RowKit.intOf]; omega
        | false =>
          rw [hb] at ck
          have HA2 : Hid (xs.all id = false) := Lib.hid (List.all_eq_false.2 ⟨xs[k], List.getElem_mem hkx, by rw [hb]; simp⟩)
          clear hcl htk hb
          go_wp2
          go_ret
          exact ⟨(k : Int), rfl, by rw [HA2.out]; exact decide_eq_true (by omega), rfl⟩
    · obtain rfl : k = n := by omega
      have h1 := HA.out
      rw [List.take_of_length_le (by rw [HN.out]; exact Nat.le_refl _)] at h1
      have H1 := Lib.hid h1
      clear h1
      go_wp2
      go_ret
      exact ⟨-1, rfl, by rw [H1.out]; rfl, rfl⟩
theorem Sm.all_any (A : Option Addr) (n c : Nat) (xs : List Bool) (w : World) (h : RowB w A n c xs) : Calls Tryz.prog 38 #[.slice A n c] w fun e w' => e = .returned (.bool (xs.all id)) ∧ w = w' := by
  have hi := index_false A n c xs w h
  clear h
  obtain ⟨m, hm⟩ : ∃ m, xs.all id = m := ⟨_, rfl⟩
  rw [hm] at hi ⊢
  clear hm
  have hc : Calls Tryz.prog 48 #[.slice A n c, .bool false] w fun e w' => e = .returned (.bool (!m)) ∧ w = w' := by
    go_enter Tryz.func48, Tryz.ntmps48
    go_wp2_with (go_at_call 63; (with_reducible refine hi.mono ?_); rintro e w' ⟨i, rfl, hi2, rfl⟩)
    go_ret
    exact ⟨by rw [← hi2]; rfl, rfl⟩
  clear hi
  go_enter Tryz.func38, Tryz.ntmps38
  go_wp2_with (go_at_call 48; (with_reducible refine hc.mono ?_); rintro e w' ⟨rfl, rfl⟩)
  go_ret
  exact ⟨by simp, rfl⟩
/-- one truth, two, three in a row just made -/
theorem Sm.row1 (w : World) (a : Bool) (t : TypeId) : RowB (w.alloc (.cells #[.bool a] t)) (some ⟨w.heap.size, 0, none⟩) 1 1 [a] :=
  ⟨rfl, Nat.le_refl _, by omega, .inr ⟨w.heap.size, rfl, by simp, fun j hj => by
    have h := cell_of_heap (World.alloc_heap_new w (.cells #[.bool a] t)) j
    rw [h]
    match j, hj with
    | 0, _ => rfl⟩⟩
theorem Sm.row2 (w : World) (a b : Bool) (t : TypeId) : RowB (w.alloc (.cells #[.bool a, .bool b] t)) (some ⟨w.heap.size, 0, none⟩) 2 2 [a, b] :=
  ⟨rfl, Nat.le_refl _, by omega, .inr ⟨w.heap.size, rfl, by simp, fun j hj => by
    have h := cell_of_heap (World.alloc_heap_new w (.cells #[.bool a, .bool b] t)) j
    rw [h]
    match j, hj with
    | 0, _ => rfl
    | 1, _ => rfl⟩⟩
theorem Sm.row3 (w : World) (a b c : Bool) (t : TypeId) : RowB (w.alloc (.cells #[.bool a, .bool b, .bool c] t)) (some ⟨w.heap.size, 0, none⟩) 3 3 [a, b, c] :=
  ⟨rfl, Nat.le_refl _, by omega, .inr ⟨w.heap.size, rfl, by simp, fun j hj => by
    have h := cell_of_heap (World.alloc_heap_new w (.cells #[.bool a, .bool b, .bool c] t)) j
    rw [h]
    match j, hj with
    | 0, _ => rfl
    | 1, _ => rfl
    | 2, _ => rfl⟩⟩
end Go.Proofs
namespace Go.Proofs
open Go Go.RowKit Sm Go.Lib
attribute [local go_sem] Oper.semAt_some
theorem Sm.toList_inj {s t : ByteArray} (h : s.toList = t.toList) : s = t := by
  rw [ByteArray.toList_eq, ByteArray.toList_eq] at h
  cases s with
  | mk a => cases t with
    | mk b => exact congrArg ByteArray.mk (Array.toList_inj.1 h)
set_option maxRecDepth 100000 in
set_option maxHeartbeats 1000000 in
theorem Sm.eql31 (w : World) (r r' p p' : Int) : (binOp .eql 31 (.agg #[.int .i64 r, .int .i64 p]) (.agg #[.int .i64 r', .int .i64 p'])).run Tryz.prog w = .ok (.bool (decide (r = r' ∧ p = p'))) w := by
  by_cases h0 : r = r'
  · subst h0
    by_cases h1 : p = p'
    · subst h1
      simp [go_sem]
    · simp [go_sem, h1]
  · simp [go_sem, h0]
set_option maxRecDepth 100000 in
set_option maxHeartbeats 1000000 in
theorem Sm.eql34 (w : World) (k k' m m' n n' : Int) (t t' : ByteArray) : (binOp .eql 34 (.agg #[.int .i64 k, .int .i64 m, .int .i64 n, .string t]) (.agg #[.int .i64 k', .int .i64 m', .int .i64 n', .string t'])).run Tryz.prog w = .ok (.bool (decide (k = k' ∧ m = m' ∧ n = n' ∧ t = t'))) w := by
  by_cases h0 : k = k'
  · subst h0
    by_cases h1 : m = m'
    · subst h1
      by_cases h2 : n = n'
      · subst h2
        by_cases h3 : t = t'
        · subst h3
          simp [go_sem]
        · have g3 : ¬ t.toList = t'.toList := fun e => h3 (toList_inj e)
          simp [go_sem, h3, g3]
      · simp [go_sem, h2]
    · simp [go_sem, h1]
  · simp [go_sem, h0]
set_option maxRecDepth 100000 in
set_option maxHeartbeats 1000000 in
theorem Sm.eql36 (w : World) (r r' p p' k k' m m' n n' : Int) (t t' : ByteArray) : (binOp .eql 36 (.agg #[.int .i64 r, .int .i64 p, .int .i64 k, .int .i64 m, .int .i64 n, .string t]) (.agg #[.int .i64 r', .int .i64 p', .int .i64 k', .int .i64 m', .int .i64 n', .string t'])).run Tryz.prog w = .ok (.bool (decide (r = r' ∧ p = p' ∧ k = k' ∧ m = m' ∧ n = n' ∧ t = t'))) w := by
  by_cases h0 : r = r'
  · subst h0
    by_cases h1 : p = p'
    · subst h1
      by_cases h2 : k = k'
      · subst h2
        by_cases h3 : m = m'
        · subst h3
          by_cases h4 : n = n'
          · subst h4
            by_cases h5 : t = t'
            · subst h5
              simp [go_sem]
            · have g5 : ¬ t.toList = t'.toList := fun e => h5 (toList_inj e)
              simp [go_sem, h5, g5]
          · simp [go_sem, h4]
        · simp [go_sem, h3]
      · simp [go_sem, h2]
    · simp [go_sem, h1]
  · simp [go_sem, h0]
set_option maxRecDepth 100000 in
set_option maxHeartbeats 1000000 in
theorem Sm.neq31 (w : World) (r r' p p' : Int) : (binOp .neq 31 (.agg #[.int .i64 r, .int .i64 p]) (.agg #[.int .i64 r', .int .i64 p'])).run Tryz.prog w = .ok (.bool (!decide (r = r' ∧ p = p'))) w := by
  by_cases h0 : r = r'
  · subst h0
    by_cases h1 : p = p'
    · subst h1
      simp [go_sem]
    · simp [go_sem, h1]
  · simp [go_sem, h0]
set_option maxRecDepth 100000 in
set_option maxHeartbeats 1000000 in
theorem Sm.neq34 (w : World) (k k' m m' n n' : Int) (t t' : ByteArray) : (binOp .neq 34 (.agg #[.int .i64 k, .int .i64 m, .int .i64 n, .string t]) (.agg #[.int .i64 k', .int .i64 m', .int .i64 n', .string t'])).run Tryz.prog w = .ok (.bool (!decide (k = k' ∧ m = m' ∧ n = n' ∧ t = t'))) w := by
  by_cases h0 : k = k'
  · subst h0
    by_cases h1 : m = m'
    · subst h1
      by_cases h2 : n = n'
      · subst h2
        by_cases h3 : t = t'
        · subst h3
          simp [go_sem]
        · have g3 : ¬ t.toList = t'.toList := fun e => h3 (toList_inj e)
          simp [go_sem, h3, g3]
      · simp [go_sem, h2]
    · simp [go_sem, h1]
  · simp [go_sem, h0]
set_option maxRecDepth 100000 in
set_option maxHeartbeats 1000000 in
theorem Sm.neq36 (w : World) (r r' p p' k k' m m' n n' : Int) (t t' : ByteArray) : (binOp .neq 36 (.agg #[.int .i64 r, .int .i64 p, .int .i64 k, .int .i64 m, .int .i64 n, .string t]) (.agg #[.int .i64 r', .int .i64 p', .int .i64 k', .int .i64 m', .int .i64 n', .string t'])).run Tryz.prog w = .ok (.bool (!decide (r = r' ∧ p = p' ∧ k = k' ∧ m = m' ∧ n = n' ∧ t = t'))) w := by
  by_cases h0 : r = r'
  · subst h0
    by_cases h1 : p = p'
    · subst h1
      by_cases h2 : k = k'
      · subst h2
        by_cases h3 : m = m'
        · subst h3
          by_cases h4 : n = n'
          · subst h4
            by_cases h5 : t = t'
            · subst h5
              simp [go_sem]
            · have g5 : ¬ t.toList = t'.toList := fun e => h5 (toList_inj e)
              simp [go_sem, h5, g5]
          · simp [go_sem, h4]
        · simp [go_sem, h3]
      · simp [go_sem, h2]
    · simp [go_sem, h1]
  · simp [go_sem, h0]
set_option maxRecDepth 100000 in
set_option maxHeartbeats 1000000 in
theorem Sm.eql44 (w : World) (c c' s s' q q' o o' r r' p p' k k' m m' n n' : Int) (t t' : ByteArray) : (binOp .eql 44 (.agg #[.int .i64 c, .int .i64 s, .int .i64 q, .int .i64 o, .int .i64 r, .int .i64 p, .int .i64 k, .int .i64 m, .int .i64 n, .string t]) (.agg #[.int .i64 c', .int .i64 s', .int .i64 q', .int .i64 o', .int .i64 r', .int .i64 p', .int .i64 k', .int .i64 m', .int .i64 n', .string t'])).run Tryz.prog w = .ok (.bool (decide (c = c' ∧ s = s' ∧ q = q' ∧ o = o' ∧ r = r' ∧ p = p' ∧ k = k' ∧ m = m' ∧ n = n' ∧ t = t'))) w := by
  by_cases h0 : c = c'
  · subst h0
    by_cases h1 : s = s'
    · subst h1
      by_cases h2 : q = q'
      · subst h2
        by_cases h3 : o = o'
        · subst h3
          by_cases h4 : r = r'
          · subst h4
            by_cases h5 : p = p'
            · subst h5
              by_cases h6 : k = k'
              · subst h6
                by_cases h7 : m = m'
                · subst h7
                  by_cases h8 : n = n'
                  · subst h8
                    by_cases h9 : t = t'
                    · subst h9
                      simp [go_sem]
                    · have g9 : ¬ t.toList = t'.toList := fun e => h9 (toList_inj e)
                      simp [go_sem, h9, g9]
                  · simp [go_sem, h8]
                · simp [go_sem, h7]
              · simp [go_sem, h6]
            · simp [go_sem, h5]
          · simp [go_sem, h4]
        · simp [go_sem, h3]
      · simp [go_sem, h2]
    · simp [go_sem, h1]
  · simp [go_sem, h0]
set_option maxRecDepth 100000 in
set_option maxHeartbeats 1000000 in
theorem Sm.eql38 (w : World) (c c' s s' q q' o o' r r' p p' k k' m m' n n' : Int) (t t' : ByteArray) : (binOp .eql 38 (.agg #[.int .i64 c, .int .i64 s, .int .i64 q, .int .i64 o, .int .i64 r, .int .i64 p, .int .i64 k, .int .i64 m, .int .i64 n, .string t]) (.agg #[.int .i64 c', .int .i64 s', .int .i64 q', .int .i64 o', .int .i64 r', .int .i64 p', .int .i64 k', .int .i64 m', .int .i64 n', .string t'])).run Tryz.prog w = .ok (.bool (decide (c = c' ∧ s = s' ∧ q = q' ∧ o = o' ∧ r = r' ∧ p = p' ∧ k = k' ∧ m = m' ∧ n = n' ∧ t = t'))) w := by
  by_cases h0 : c = c'
  · subst h0
    by_cases h1 : s = s'
    · subst h1
      by_cases h2 : q = q'
      · subst h2
        by_cases h3 : o = o'
        · subst h3
          by_cases h4 : r = r'
          · subst h4
            by_cases h5 : p = p'
            · subst h5
              by_cases h6 : k = k'
              · subst h6
                by_cases h7 : m = m'
                · subst h7
                  by_cases h8 : n = n'
                  · subst h8
                    by_cases h9 : t = t'
                    · subst h9
                      simp [go_sem]
                    · have g9 : ¬ t.toList = t'.toList := fun e => h9 (toList_inj e)
                      simp [go_sem, h9, g9]
                  · simp [go_sem, h8]
                · simp [go_sem, h7]
              · simp [go_sem, h6]
            · simp [go_sem, h5]
          · simp [go_sem, h4]
        · simp [go_sem, h3]
      · simp [go_sem, h2]
    · simp [go_sem, h1]
  · simp [go_sem, h0]
end Go.Proofs
namespace Go.Proofs
open Go Go.RowKit Sm Go.Lib Go.Maps Go.WideMaps
attribute [local go_sem] Oper.semAt_some
/-- values as they are -/
def Sm.heldElem (v : Value) : Option (DataW Value × List MemPlace) := some (.held v, [])
def Sm.kdL (k : Int) : Lit := .int .i64 k
def Sm.fnV (f : Nat) : Value := .func (.func f) #[] #[]
/-- the kinds and what makes each -/
def Sm.mkD : DataW Value := ((((DataW.map []).put (kdL 1) (.held (.func (.func 59) #[] #[]))).put (kdL 2) (.held (.func (.func 60) #[] #[]))).put (kdL 3) (.held (.func (.func 60) #[] #[]))).put (kdL 4) (.held (.func (.func 61) #[] #[]))
def Sm.I64 (k : Int) : Prop := -9223372036854775808 ≤ k ∧ k ≤ 9223372036854775807
theorem Sm.kd_key {k : Int} (h : I64 k) : keyOf Tryz.prog 32 (.int .i64 k) = some (kdL k) := keyOf_int_mk Tryz.underlying32 (by simp [Lit.wf, IntKind.min, IntKind.max, IntKind.signed, IntKind.bits]; unfold I64 at h; omega)
theorem Sm.made_below {N : Nat} {a w w' : World} {b : Nat} (h : Below N a w) (ht : w.mapTurned w' b) (h1 : N ≤ w.heap.size) (h2 : N ≤ b) : Below N a w' := h.grown ht.grown h1 (fun k e => by injection e with e; omega)
set_option maxRecDepth 100000 in
theorem Sm.makings_any (w : World) : Calls Tryz.prog 46 #[] w fun e w' => ∃ b, e = .returned (.map (some b)) ∧ w'.ownsMap Tryz.prog 32 heldElem b 4 mkD ∧ Below w.heap.size w w' := by
  have hmm := @run_makeMap Tryz.prog
  have o0 := World.ownsMap_made w Tryz.prog 32 heldElem
  have b0 : Below w.heap.size w (w.alloc (.map #[] 0)) := (Below.refl _ w).alloc (Nat.le_refl _) _
  have K : Keyed Tryz.prog 32 := int_keyed Tryz.underlying32
  obtain ⟨w1, r1, o1, t1⟩ := o0.store K Tryz.underlying88 (by unfold maxLen; omega) (key := .int .i64 1) (val := .func (.func 59) #[] #[]) (kd_key (k := 1) (by unfold I64; omega)) rfl
  obtain ⟨w2, r2, o2, t2⟩ := o1.store K Tryz.underlying88 (by unfold maxLen; omega) (key := .int .i64 2) (val := .func (.func 60) #[] #[]) (kd_key (k := 2) (by unfold I64; omega)) rfl
  obtain ⟨w3, r3, o3, t3⟩ := o2.store K Tryz.underlying88 (by unfold maxLen; omega) (key := .int .i64 3) (val := .func (.func 60) #[] #[]) (kd_key (k := 3) (by unfold I64; omega)) rfl
  obtain ⟨w4, r4, o4, t4⟩ := o3.store K Tryz.underlying88 (by unfold maxLen; omega) (key := .int .i64 4) (val := .func (.func 61) #[] #[]) (kd_key (k := 4) (by unfold I64; omega)) rfl
  have b1 := made_below b0 t1 b0.size (Nat.le_refl _)
  have b2 := made_below b1 t2 b1.size (Nat.le_refl _)
  have b3 := made_below b2 t3 b2.size (Nat.le_refl _)
  have b4 := made_below b3 t4 b3.size (Nat.le_refl _)
  have O4 := Lib.hid o4
  clear o0 o1 o2 o3 o4 t1 t2 t3 t4 b0 b1 b2 b3
  go_enter Tryz.func46, Tryz.ntmps46
  go_wp2
  go_ret
  exact ⟨w.heap.size, rfl, O4.out, b4⟩
/-- what makes a kind, and whether there is such a one -/
def Sm.mkB (k : Int) : Bool := decide (1 ≤ k) && decide (k ≤ 4)
theorem Sm.kd_ne {a b : Int} (h : a ≠ b) : kdL a ≠ kdL b := fun e => h (by injection e)
set_option maxRecDepth 100000 in
theorem Sm.mk_look (w : World) (b : Nat) (h : w.ownsMap Tryz.prog 32 heldElem b 4 mkD) (k : Int) (hk : I64 k) : ∃ v, (Instr.lookup 88 (.map (some b)) (.int .i64 k) true).run Tryz.prog w = .ok (.tuple #[v, .bool (mkB k)]) w
    ∧ (k = 1 → v = .func (.func 59) #[] #[]) ∧ (k = 2 → v = .func (.func 60) #[] #[]) ∧ (k = 3 → v = .func (.func 60) #[] #[]) ∧ (k = 4 → v = .func (.func 61) #[] #[]) := by
  have hz : (zeroValue 61).run Tryz.prog w = .ok .nilFunc w := by kernel_rfl
  obtain ⟨v, ps, hrun, hv⟩ := h.look_ok (int_keyed Tryz.underlying32) Tryz.underlying88 hz (zd := .held .nilFunc) (zp := []) rfl (kd_key hk)
  have hat : mkD.atKey (kdL k) (.held .nilFunc) = DataW.held v := by
    unfold heldElem at hv
    injection hv with hv
    injection hv with hv _
    exact hv.symm
  by_cases h1 : k = 1
  · subst h1
    exact ⟨v, hrun, fun _ => (by have e : mkD.atKey (kdL 1) (.held .nilFunc) = DataW.held (.func (.func 59) #[] #[]) := rfl; rw [e] at hat; injection hat with hat; exact hat.symm), fun e => absurd e (by decide), fun e => absurd e (by decide), fun e => absurd e (by decide)⟩
  by_cases h2 : k = 2
  · subst h2
    exact ⟨v, hrun, fun e => absurd e (by decide), fun _ => (by have e : mkD.atKey (kdL 2) (.held .nilFunc) = DataW.held (.func (.func 60) #[] #[]) := rfl; rw [e] at hat; injection hat with hat; exact hat.symm), fun e => absurd e (by decide), fun e => absurd e (by decide)⟩
  by_cases h3 : k = 3
  · subst h3
    exact ⟨v, hrun, fun e => absurd e (by decide), fun e => absurd e (by decide), fun _ => (by have e : mkD.atKey (kdL 3) (.held .nilFunc) = DataW.held (.func (.func 60) #[] #[]) := rfl; rw [e] at hat; injection hat with hat; exact hat.symm), fun e => absurd e (by decide)⟩
  by_cases h4 : k = 4
  · subst h4
    exact ⟨v, hrun, fun e => absurd e (by decide), fun e => absurd e (by decide), fun e => absurd e (by decide), fun _ => (by have e : mkD.atKey (kdL 4) (.held .nilFunc) = DataW.held (.func (.func 61) #[] #[]) := rfl; rw [e] at hat; injection hat with hat; exact hat.symm)⟩
  have hh : Maps.has mkD (kdL k) = mkB k := by
    unfold mkD mkB
    rw [has_put_other (kd_ne h4), has_put_other (kd_ne h3), has_put_other (kd_ne h2), has_put_other (kd_ne h1)]
    have : ¬ (1 ≤ k ∧ k ≤ 4) := by omega
    simp only [Maps.has, List.any_nil]
    symm
    rw [← Bool.decide_and]
    exact decide_eq_false this
  exact ⟨v, by rw [← hh]; exact hrun, fun e => absurd e h1, fun e => absurd e h2, fun e => absurd e h3, fun e => absurd e h4⟩
/-- is nothing said but a kind -/
theorem Sm.kind_any (k m n : Int) (t : ByteArray) (w : World) : Calls Tryz.prog 59 #[.agg #[.int .i64 k, .int .i64 m, .int .i64 n, .string t]] w fun e w' => e = .returned (.bool (decide (m = 0 ∧ n = 0 ∧ t = ⟨#[]⟩))) ∧ Below w.heap.size w w' := by
  have hb0 : ∀ X t, Below w.heap.size w (w.alloc (.cells X t)) := fun X t => (Below.refl _ w).alloc (Nat.le_refl _) _
  have h1 := fun W => eql34 W k k m 0 n 0 t ⟨#[]⟩
  simp only [true_and] at h1
  obtain ⟨x, hx⟩ : ∃ x, decide (m = 0 ∧ n = 0 ∧ t = ⟨#[]⟩) = x := ⟨_, rfl⟩
  rw [hx] at h1 ⊢
  clear hx
  go_enter Tryz.func59, Tryz.ntmps59
  go_wp2
  go_ret
  exact ⟨rfl, hb0 _ _⟩
theorem Sm.all2 (W : World) (a b : Bool) : Calls Tryz.prog 38 #[.slice (some ⟨W.heap.size, 0, none⟩) 2 2] (W.alloc (.cells #[.bool a, .bool b] 4)).drew fun e w' => e = .returned (.bool (a && b)) ∧ (W.alloc (.cells #[.bool a, .bool b] 4)).drew = w' :=
  (all_any _ 2 2 [a, b] _ ((row2 W a b 4).keep (Below.refl _ _).drew)).mono fun e w' ⟨h1, h2⟩ => ⟨by rw [h1]; simp, h2⟩
theorem Sm.all3 (W : World) (a b c : Bool) : Calls Tryz.prog 38 #[.slice (some ⟨W.heap.size, 0, none⟩) 3 3] (W.alloc (.cells #[.bool a, .bool b, .bool c] 4)).drew fun e w' => e = .returned (.bool (a && b && c)) ∧ (W.alloc (.cells #[.bool a, .bool b, .bool c] 4)).drew = w' :=
  (all_any _ 3 3 [a, b, c] _ ((row3 W a b c 4).keep (Below.refl _ _).drew)).mono fun e w' ⟨h1, h2⟩ => ⟨by rw [h1]; simp [Bool.and_assoc], h2⟩
theorem Sm.all3n (W : World) (a b c : Bool) : Calls Tryz.prog 38 #[.slice (some ⟨W.heap.size, 0, none⟩) 3 3] (W.alloc (.cells #[.bool a, .bool b, .bool c] 4)) fun e w' => e = .returned (.bool (a && b && c)) ∧ (W.alloc (.cells #[.bool a, .bool b, .bool c] 4)) = w' :=
  (all_any _ 3 3 [a, b, c] _ (row3 W a b c 4)).mono fun e w' ⟨h1, h2⟩ => ⟨by rw [h1]; simp [Bool.and_assoc], h2⟩
/-- a box of four cells, kept -/
theorem Sm.ent_box (w : World) (a b c d : Value) (t : TypeId) : ∀ W, Below (w.heap.size + 1) (w.alloc (.cells #[a, b, c, d] t)) W → W.cell? ⟨w.heap.size, 0, none⟩ = some a ∧ W.cell? ⟨w.heap.size, 1, none⟩ = some b ∧ W.cell? ⟨w.heap.size, 2, none⟩ = some c ∧ W.cell? ⟨w.heap.size, 3, none⟩ = some d := fun W hb =>
  (four ((hb.block _ (by simp)).trans (World.alloc_heap_new w (.cells #[a, b, c, d] t)))).1
set_option maxRecDepth 100000 in
set_option maxHeartbeats 1000000 in
theorem Sm.member_any (k m n : Int) (t : ByteArray) (w : World) : Calls Tryz.prog 60 #[.agg #[.int .i64 k, .int .i64 m, .int .i64 n, .string t]] w fun e w' => e = .returned (.bool (mbB m && decide (n = 0 ∧ t = ⟨#[]⟩))) ∧ Below w.heap.size w w' := by
  have hb0 : ∀ X t, Below w.heap.size w (w.alloc (.cells X t)) := fun X t => (Below.refl _ w).alloc (Nat.le_refl _) _
  have h1 := fun W => isMember_any m W
  have h2 := fun W a b => all2 W a b
  have h3 := fun W => eql34 W k k m m n 0 t ⟨#[]⟩
  simp only [true_and] at h3
  have hS := ent_box w (.int .i64 k) (.int .i64 m) (.int .i64 n) (.string t) 34
  have hb1 := hb0 #[.int .i64 k, .int .i64 m, .int .i64 n, .string t] 34
  obtain ⟨w1, hw1⟩ : ∃ v, w.alloc (.cells #[.int .i64 k, .int .i64 m, .int .i64 n, .string t] 34) = v := ⟨_, rfl⟩
  have hz1 : w.heap.size + 1 = w1.heap.size := by rw [← hw1]; simp
  rw [hw1, hz1] at hS
  rw [hw1] at hb1
  have HS := Lib.hid hS
  have HB1 := Lib.hid hb1
  have z0 := HS.out _ (Below.refl _ _)
  clear hS hb1 hz1
  obtain ⟨x, hx⟩ : ∃ x, mbB m = x := ⟨_, rfl⟩
  obtain ⟨y, hy⟩ : ∃ x, decide (n = 0 ∧ t = ⟨#[]⟩) = x := ⟨_, rfl⟩
  rw [hx] at h1 ⊢
  rw [hy] at h3 ⊢
  clear hx hy hb0
  go_enter Tryz.func60, Tryz.ntmps60
  go_upto_region 1 with fail
  clear hw1
  go_region_held_law (fun W => W.cell? ⟨w.heap.size, 0, none⟩ = some (.int .i64 k) ∧ W.cell? ⟨w.heap.size, 1, none⟩ = some (.int .i64 m) ∧ W.cell? ⟨w.heap.size, 2, none⟩ = some (.int .i64 n) ∧ W.cell? ⟨w.heap.size, 3, none⟩ = some (.string t))
    (first | exact z0 | (refine HS.out _ ?_; repeat' (first | exact Below.refl _ _ | refine Below.drew ?_ | refine Below.alloc ?_ ?_ _ | (simp; done) | (simp; omega) | omega)))
    (first
      | (go_at_call 72; (with_reducible refine (h1 _).mono ?_); rintro e w' ⟨rfl, rfl⟩)
      | (go_at_call 38; (with_reducible refine (h2 _ _ _).mono ?_); rintro e w' ⟨rfl, rfl⟩))
  all_goals
    go_wp2
    go_ret
    exact ⟨rfl, HB1.out.trans ((((Below.refl _ _).alloc (Nat.le_refl _) _).drew).mono HB1.out.size)⟩
end Go.Proofs
namespace Go.Proofs
open Go Go.RowKit Sm Go.Lib Go.Maps Go.WideMaps
attribute [local go_sem] Oper.semAt_some
set_option maxRecDepth 100000 in
set_option maxHeartbeats 2000000 in
theorem Sm.saying_any (k m n : Int) (t : ByteArray) (w : World) (ht : t.size ≤ 1000000) (hL : LaysT w) : Calls Tryz.prog 61 #[.agg #[.int .i64 k, .int .i64 m, .int .i64 n, .string t]] w fun e w' => e = .returned (.bool (mbB m && (decide (1 ≤ n) && decide (n ≤ 2147483647)) && decide (checkN t = 0))) ∧ Below w.heap.size w w' := by
  have hb0 : ∀ X t, Below w.heap.size w (w.alloc (.cells X t)) := fun X t => (Below.refl _ w).alloc (Nat.le_refl _) _
  have h1 := fun W => isMember_any m W
  have h2 := fun W a b c => all3n W a b c
  have h3 := fun W => wi73 1 n 2147483647 W
  have hS := ent_box w (.int .i64 k) (.int .i64 m) (.int .i64 n) (.string t) 34
  have hb1 := hb0 #[.int .i64 k, .int .i64 m, .int .i64 n, .string t] 34
  obtain ⟨w1, hw1⟩ : ∃ v, w.alloc (.cells #[.int .i64 k, .int .i64 m, .int .i64 n, .string t] 34) = v := ⟨_, rfl⟩
  have hz1 : w.heap.size + 1 = w1.heap.size := by rw [← hw1]; simp
  rw [hw1, hz1] at hS
  rw [hw1] at hb1
  have hL1 := hL.keep hb1
  have HC : Hid (∀ W, Below w1.heap.size w1 W → Calls Tryz.prog 74 #[.string t] W fun e w' => e = .returned (.int .i64 (checkN t)) ∧ Below w1.heap.size w1 w') := Lib.hid fun W hb =>
    (TCheck_any t W (by omega) (hL1.keep hb)).mono fun e w' ⟨h1, h2⟩ => ⟨h1, hb.trans (h2.mono hb.size)⟩
  have HS := Lib.hid hS
  have HB1 := Lib.hid hb1
  have z0 := HS.out _ (Below.refl _ _)
  clear hS hb1 hz1 hL hL1 hb0
  obtain ⟨x, hx⟩ : ∃ x, mbB m = x := ⟨_, rfl⟩
  obtain ⟨y, hy⟩ : ∃ x, (decide (1 ≤ n) && decide (n ≤ 2147483647)) = x := ⟨_, rfl⟩
  obtain ⟨q, hq⟩ : ∃ x, checkN t = x := ⟨_, rfl⟩
  rw [hx] at h1 ⊢
  rw [hy] at h3 ⊢
  rw [hq] at HC ⊢
  clear hx hy hq
  cases hq0 : decide (q = 0)
  all_goals
    have hq1 : (q == 0) = decide (q = 0) := rfl
    rw [hq0] at hq1
    have HQ0 := Lib.hid hq0
    clear hq0
    go_enter Tryz.func61, Tryz.ntmps61
    go_upto_region 1 with fail
    clear hw1
    go_region_held_law (fun W => (W.cell? ⟨w.heap.size, 0, none⟩ = some (.int .i64 k) ∧ W.cell? ⟨w.heap.size, 1, none⟩ = some (.int .i64 m) ∧ W.cell? ⟨w.heap.size, 2, none⟩ = some (.int .i64 n) ∧ W.cell? ⟨w.heap.size, 3, none⟩ = some (.string t)) ∧ Below w1.heap.size w1 W)
      (first | exact ⟨z0, Below.refl _ _⟩ | (refine (fun hb => ⟨HS.out _ hb, hb⟩) ?_; repeat' (first | exact Below.refl _ _ | assumption | refine Below.drew ?_ | refine Below.alloc ?_ ?_ _ | (simp; done) | (simp; omega) | omega)))
      (first
        | (go_at_call 72; (with_reducible refine (h1 _).mono ?_); rintro e w' ⟨rfl, rfl⟩)
        | (go_at_call 73; (with_reducible refine (h3 _).mono ?_); rintro e w' ⟨rfl, rfl⟩)
        | (go_at_call 74; (with_reducible refine (HC.out _ (by first | exact (Below.refl _ _).drew | exact Below.refl _ _ | exact (show (_ ∧ _ ∧ _ ∧ _) ∧ Below _ _ _ from by assumption).2)).mono ?_); rintro e w2 ⟨rfl, hb2⟩; have hs2 := hb2.size)
        | (go_at_call 38; (with_reducible refine (h2 _ _ _ _).mono ?_); rintro e w' ⟨rfl, rfl⟩))
    all_goals
      go_wp2
      go_ret
      exact ⟨by simp, HB1.out.trans ((hb2.alloc hs2 _).mono HB1.out.size)⟩
end Go.Proofs
namespace Go.Proofs
open Go Go.RowKit Sm Go.Lib Go.Maps Go.WideMaps
attribute [local go_sem] Oper.semAt_some
/-- may an entry be -/
def Sm.entB (k m n : Int) (t : ByteArray) : Bool :=
  if k = 1 then decide (m = 0 ∧ n = 0 ∧ t = ⟨#[]⟩) else if k = 2 ∨ k = 3 then mbB m && decide (n = 0 ∧ t = ⟨#[]⟩) else if k = 4 then mbB m && (decide (1 ≤ n) && decide (n ≤ 2147483647)) && decide (checkN t = 0) else false
set_option maxRecDepth 100000 in
set_option maxHeartbeats 2000000 in
theorem Sm.right1 (m n : Int) (t : ByteArray) (w : World) : Calls Tryz.prog 32 #[.agg #[.int .i64 1, .int .i64 m, .int .i64 n, .string t]] w fun e w' => e = .returned (.bool (decide (m = 0 ∧ n = 0 ∧ t = ⟨#[]⟩))) ∧ Below w.heap.size w w' := by
  have hb1 : Below w.heap.size w (w.alloc (.cells #[.int .i64 1, .int .i64 m, .int .i64 n, .string t] 34)) := (Below.refl _ w).alloc (Nat.le_refl _) _
  have hS := ent_box w (.int .i64 1) (.int .i64 m) (.int .i64 n) (.string t) 34
  obtain ⟨w1, hw1⟩ : ∃ v, w.alloc (.cells #[.int .i64 1, .int .i64 m, .int .i64 n, .string t] 34) = v := ⟨_, rfl⟩
  have hz1 : w.heap.size + 1 = w1.heap.size := by rw [← hw1]; simp
  rw [hw1, hz1] at hS
  rw [hw1] at hb1
  have kq : Calls Tryz.prog 46 #[] w1.drew (fun e w' => ∃ b, e = .returned (.map (some b)) ∧ Below w1.heap.size w1 w' ∧ (Instr.lookup 88 (.map (some b)) (.int .i64 1) true).run Tryz.prog w' = .ok (.tuple #[.func (.func 59) #[] #[], .bool true]) w') :=
    (makings_any w1.drew).mono fun e w' ⟨b, he, ho, hb⟩ => by
      obtain ⟨v, h1, h2⟩ := mk_look w' b ho 1 (by unfold I64; omega)
      obtain rfl := h2.1 rfl
      exact ⟨b, he, (Below.refl _ w1).drew.trans hb, h1⟩
  have HC : Hid (∀ W, Below w1.heap.size w1 W → Calls Tryz.prog 59 #[.agg #[.int .i64 1, .int .i64 m, .int .i64 n, .string t]] W fun e w' => e = .returned (.bool (decide (m = 0 ∧ n = 0 ∧ t = ⟨#[]⟩))) ∧ Below w.heap.size w w') := Lib.hid fun W hW => (kind_any 1 m n t W).mono fun e w' ⟨e1, e2⟩ => ⟨e1, hb1.trans ((hW.trans (e2.mono hW.size)).mono hb1.size)⟩
  obtain ⟨x, hx⟩ : ∃ x, (decide (m = 0 ∧ n = 0 ∧ t = ⟨#[]⟩)) = x := ⟨_, rfl⟩
  rw [hx] at HC ⊢
  clear hx
  have HS := Lib.hid hS
  have HB1 := Lib.hid hb1
  have z0 := HS.out _ (Below.refl _ _)
  clear hS hb1 hz1
  go_enter Tryz.func32, Tryz.ntmps32
  go_upto_region 1 with fail
  clear hw1
  go_region_held_law (fun W => W.cell? ⟨w.heap.size, 0, none⟩ = some (.int .i64 1) ∧ W.cell? ⟨w.heap.size, 1, none⟩ = some (.int .i64 m) ∧ W.cell? ⟨w.heap.size, 2, none⟩ = some (.int .i64 n) ∧ W.cell? ⟨w.heap.size, 3, none⟩ = some (.string t))
    (first | exact z0 | (refine HS.out _ ?_; repeat' (first | assumption | exact Below.refl _ _ | refine Below.drew ?_ | (simp; done) | (simp; omega) | omega)))
    ((go_at_call 46; (with_reducible refine kq.mono ?_); clear kq; rintro e w2 ⟨b, rfl, hb2, hlk⟩; have hs2 := hb2.size; obtain ⟨y0, y1, y2, y3⟩ := HS.out _ hb2))
  all_goals
    go_wp2_with (go_at_call 59; (with_reducible refine (HC.out _ (by assumption)).mono ?_); rintro e w3 ⟨rfl, hb3⟩)
    go_ret
    exact ⟨rfl, hb3⟩
set_option maxRecDepth 100000 in
set_option maxHeartbeats 2000000 in
theorem Sm.right2 (m n : Int) (t : ByteArray) (w : World) : Calls Tryz.prog 32 #[.agg #[.int .i64 2, .int .i64 m, .int .i64 n, .string t]] w fun e w' => e = .returned (.bool (mbB m && decide (n = 0 ∧ t = ⟨#[]⟩))) ∧ Below w.heap.size w w' := by
  have hb1 : Below w.heap.size w (w.alloc (.cells #[.int .i64 2, .int .i64 m, .int .i64 n, .string t] 34)) := (Below.refl _ w).alloc (Nat.le_refl _) _
  have hS := ent_box w (.int .i64 2) (.int .i64 m) (.int .i64 n) (.string t) 34
  obtain ⟨w1, hw1⟩ : ∃ v, w.alloc (.cells #[.int .i64 2, .int .i64 m, .int .i64 n, .string t] 34) = v := ⟨_, rfl⟩
  have hz1 : w.heap.size + 1 = w1.heap.size := by rw [← hw1]; simp
  rw [hw1, hz1] at hS
  rw [hw1] at hb1
  have kq : Calls Tryz.prog 46 #[] w1.drew (fun e w' => ∃ b, e = .returned (.map (some b)) ∧ Below w1.heap.size w1 w' ∧ (Instr.lookup 88 (.map (some b)) (.int .i64 2) true).run Tryz.prog w' = .ok (.tuple #[.func (.func 60) #[] #[], .bool true]) w') :=
    (makings_any w1.drew).mono fun e w' ⟨b, he, ho, hb⟩ => by
      obtain ⟨v, h1, h2⟩ := mk_look w' b ho 2 (by unfold I64; omega)
      obtain rfl := h2.2.1 rfl
      exact ⟨b, he, (Below.refl _ w1).drew.trans hb, h1⟩
  have HC : Hid (∀ W, Below w1.heap.size w1 W → Calls Tryz.prog 60 #[.agg #[.int .i64 2, .int .i64 m, .int .i64 n, .string t]] W fun e w' => e = .returned (.bool (mbB m && decide (n = 0 ∧ t = ⟨#[]⟩))) ∧ Below w.heap.size w w') := Lib.hid fun W hW => (member_any 2 m n t W).mono fun e w' ⟨e1, e2⟩ => ⟨e1, hb1.trans ((hW.trans (e2.mono hW.size)).mono hb1.size)⟩
  obtain ⟨x, hx⟩ : ∃ x, (mbB m && decide (n = 0 ∧ t = ⟨#[]⟩)) = x := ⟨_, rfl⟩
  rw [hx] at HC ⊢
  clear hx
  have HS := Lib.hid hS
  have HB1 := Lib.hid hb1
  have z0 := HS.out _ (Below.refl _ _)
  clear hS hb1 hz1
  go_enter Tryz.func32, Tryz.ntmps32
  go_upto_region 1 with fail
  clear hw1
  go_region_held_law (fun W => W.cell? ⟨w.heap.size, 0, none⟩ = some (.int .i64 2) ∧ W.cell? ⟨w.heap.size, 1, none⟩ = some (.int .i64 m) ∧ W.cell? ⟨w.heap.size, 2, none⟩ = some (.int .i64 n) ∧ W.cell? ⟨w.heap.size, 3, none⟩ = some (.string t))
    (first | exact z0 | (refine HS.out _ ?_; repeat' (first | assumption | exact Below.refl _ _ | refine Below.drew ?_ | (simp; done) | (simp; omega) | omega)))
    ((go_at_call 46; (with_reducible refine kq.mono ?_); clear kq; rintro e w2 ⟨b, rfl, hb2, hlk⟩; have hs2 := hb2.size; obtain ⟨y0, y1, y2, y3⟩ := HS.out _ hb2))
  all_goals
    go_wp2_with (go_at_call 60; (with_reducible refine (HC.out _ (by assumption)).mono ?_); rintro e w3 ⟨rfl, hb3⟩)
    go_ret
    exact ⟨rfl, hb3⟩
set_option maxRecDepth 100000 in
set_option maxHeartbeats 2000000 in
theorem Sm.right3 (m n : Int) (t : ByteArray) (w : World) : Calls Tryz.prog 32 #[.agg #[.int .i64 3, .int .i64 m, .int .i64 n, .string t]] w fun e w' => e = .returned (.bool (mbB m && decide (n = 0 ∧ t = ⟨#[]⟩))) ∧ Below w.heap.size w w' := by
  have hb1 : Below w.heap.size w (w.alloc (.cells #[.int .i64 3, .int .i64 m, .int .i64 n, .string t] 34)) := (Below.refl _ w).alloc (Nat.le_refl _) _
  have hS := ent_box w (.int .i64 3) (.int .i64 m) (.int .i64 n) (.string t) 34
  obtain ⟨w1, hw1⟩ : ∃ v, w.alloc (.cells #[.int .i64 3, .int .i64 m, .int .i64 n, .string t] 34) = v := ⟨_, rfl⟩
  have hz1 : w.heap.size + 1 = w1.heap.size := by rw [← hw1]; simp
  rw [hw1, hz1] at hS
  rw [hw1] at hb1
  have kq : Calls Tryz.prog 46 #[] w1.drew (fun e w' => ∃ b, e = .returned (.map (some b)) ∧ Below w1.heap.size w1 w' ∧ (Instr.lookup 88 (.map (some b)) (.int .i64 3) true).run Tryz.prog w' = .ok (.tuple #[.func (.func 60) #[] #[], .bool true]) w') :=
    (makings_any w1.drew).mono fun e w' ⟨b, he, ho, hb⟩ => by
      obtain ⟨v, h1, h2⟩ := mk_look w' b ho 3 (by unfold I64; omega)
      obtain rfl := h2.2.2.1 rfl
      exact ⟨b, he, (Below.refl _ w1).drew.trans hb, h1⟩
  have HC : Hid (∀ W, Below w1.heap.size w1 W → Calls Tryz.prog 60 #[.agg #[.int .i64 3, .int .i64 m, .int .i64 n, .string t]] W fun e w' => e = .returned (.bool (mbB m && decide (n = 0 ∧ t = ⟨#[]⟩))) ∧ Below w.heap.size w w') := Lib.hid fun W hW => (member_any 3 m n t W).mono fun e w' ⟨e1, e2⟩ => ⟨e1, hb1.trans ((hW.trans (e2.mono hW.size)).mono hb1.size)⟩
  obtain ⟨x, hx⟩ : ∃ x, (mbB m && decide (n = 0 ∧ t = ⟨#[]⟩)) = x := ⟨_, rfl⟩
  rw [hx] at HC ⊢
  clear hx
  have HS := Lib.hid hS
  have HB1 := Lib.hid hb1
  have z0 := HS.out _ (Below.refl _ _)
  clear hS hb1 hz1
  go_enter Tryz.func32, Tryz.ntmps32
  go_upto_region 1 with fail
  clear hw1
  go_region_held_law (fun W => W.cell? ⟨w.heap.size, 0, none⟩ = some (.int .i64 3) ∧ W.cell? ⟨w.heap.size, 1, none⟩ = some (.int .i64 m) ∧ W.cell? ⟨w.heap.size, 2, none⟩ = some (.int .i64 n) ∧ W.cell? ⟨w.heap.size, 3, none⟩ = some (.string t))
    (first | exact z0 | (refine HS.out _ ?_; repeat' (first | assumption | exact Below.refl _ _ | refine Below.drew ?_ | (simp; done) | (simp; omega) | omega)))
    ((go_at_call 46; (with_reducible refine kq.mono ?_); clear kq; rintro e w2 ⟨b, rfl, hb2, hlk⟩; have hs2 := hb2.size; obtain ⟨y0, y1, y2, y3⟩ := HS.out _ hb2))
  all_goals
    go_wp2_with (go_at_call 60; (with_reducible refine (HC.out _ (by assumption)).mono ?_); rintro e w3 ⟨rfl, hb3⟩)
    go_ret
    exact ⟨rfl, hb3⟩
set_option maxRecDepth 100000 in
set_option maxHeartbeats 2000000 in
theorem Sm.right4 (m n : Int) (t : ByteArray) (w : World) (ht : t.size ≤ 1000000) (hL : LaysT w) : Calls Tryz.prog 32 #[.agg #[.int .i64 4, .int .i64 m, .int .i64 n, .string t]] w fun e w' => e = .returned (.bool (mbB m && (decide (1 ≤ n) && decide (n ≤ 2147483647)) && decide (checkN t = 0))) ∧ Below w.heap.size w w' := by
  have hb1 : Below w.heap.size w (w.alloc (.cells #[.int .i64 4, .int .i64 m, .int .i64 n, .string t] 34)) := (Below.refl _ w).alloc (Nat.le_refl _) _
  have hS := ent_box w (.int .i64 4) (.int .i64 m) (.int .i64 n) (.string t) 34
  obtain ⟨w1, hw1⟩ : ∃ v, w.alloc (.cells #[.int .i64 4, .int .i64 m, .int .i64 n, .string t] 34) = v := ⟨_, rfl⟩
  have hz1 : w.heap.size + 1 = w1.heap.size := by rw [← hw1]; simp
  rw [hw1, hz1] at hS
  rw [hw1] at hb1
  have kq : Calls Tryz.prog 46 #[] w1.drew (fun e w' => ∃ b, e = .returned (.map (some b)) ∧ Below w1.heap.size w1 w' ∧ (Instr.lookup 88 (.map (some b)) (.int .i64 4) true).run Tryz.prog w' = .ok (.tuple #[.func (.func 61) #[] #[], .bool true]) w') :=
    (makings_any w1.drew).mono fun e w' ⟨b, he, ho, hb⟩ => by
      obtain ⟨v, h1, h2⟩ := mk_look w' b ho 4 (by unfold I64; omega)
      obtain rfl := h2.2.2.2 rfl
      exact ⟨b, he, (Below.refl _ w1).drew.trans hb, h1⟩
  have HC : Hid (∀ W, Below w1.heap.size w1 W → Calls Tryz.prog 61 #[.agg #[.int .i64 4, .int .i64 m, .int .i64 n, .string t]] W fun e w' => e = .returned (.bool (mbB m && (decide (1 ≤ n) && decide (n ≤ 2147483647)) && decide (checkN t = 0))) ∧ Below w.heap.size w w') := Lib.hid fun W hW => (saying_any 4 m n t W ht (hL.keep (hb1.trans (hW.mono hb1.size)))).mono fun e w' ⟨e1, e2⟩ => ⟨e1, hb1.trans ((hW.trans (e2.mono hW.size)).mono hb1.size)⟩
  obtain ⟨x, hx⟩ : ∃ x, (mbB m && (decide (1 ≤ n) && decide (n ≤ 2147483647)) && decide (checkN t = 0)) = x := ⟨_, rfl⟩
  rw [hx] at HC ⊢
  clear hx
  have HS := Lib.hid hS
  have HB1 := Lib.hid hb1
  have z0 := HS.out _ (Below.refl _ _)
  clear hS hb1 hz1 hL
  go_enter Tryz.func32, Tryz.ntmps32
  go_upto_region 1 with fail
  clear hw1
  go_region_held_law (fun W => W.cell? ⟨w.heap.size, 0, none⟩ = some (.int .i64 4) ∧ W.cell? ⟨w.heap.size, 1, none⟩ = some (.int .i64 m) ∧ W.cell? ⟨w.heap.size, 2, none⟩ = some (.int .i64 n) ∧ W.cell? ⟨w.heap.size, 3, none⟩ = some (.string t))
    (first | exact z0 | (refine HS.out _ ?_; repeat' (first | assumption | exact Below.refl _ _ | refine Below.drew ?_ | (simp; done) | (simp; omega) | omega)))
    ((go_at_call 46; (with_reducible refine kq.mono ?_); clear kq; rintro e w2 ⟨b, rfl, hb2, hlk⟩; have hs2 := hb2.size; obtain ⟨y0, y1, y2, y3⟩ := HS.out _ hb2))
  all_goals
    go_wp2_with (go_at_call 61; (with_reducible refine (HC.out _ (by assumption)).mono ?_); rintro e w3 ⟨rfl, hb3⟩)
    go_ret
    exact ⟨rfl, hb3⟩
set_option maxRecDepth 100000 in
set_option maxHeartbeats 2000000 in
theorem Sm.right0 (k m n : Int) (t : ByteArray) (w : World) (hk : I64 k) (h1 : mkB k = false) : Calls Tryz.prog 32 #[.agg #[.int .i64 k, .int .i64 m, .int .i64 n, .string t]] w fun e w' => e = .returned (.bool false) ∧ Below w.heap.size w w' := by
  have hb1 : Below w.heap.size w (w.alloc (.cells #[.int .i64 k, .int .i64 m, .int .i64 n, .string t] 34)) := (Below.refl _ w).alloc (Nat.le_refl _) _
  have hS := ent_box w (.int .i64 k) (.int .i64 m) (.int .i64 n) (.string t) 34
  obtain ⟨w1, hw1⟩ : ∃ v, w.alloc (.cells #[.int .i64 k, .int .i64 m, .int .i64 n, .string t] 34) = v := ⟨_, rfl⟩
  have hz1 : w.heap.size + 1 = w1.heap.size := by rw [← hw1]; simp
  rw [hw1, hz1] at hS
  rw [hw1] at hb1
  have kq : Calls Tryz.prog 46 #[] w1.drew (fun e w' => ∃ b v, e = .returned (.map (some b)) ∧ Below w1.heap.size w1 w' ∧ (Instr.lookup 88 (.map (some b)) (.int .i64 k) true).run Tryz.prog w' = .ok (.tuple #[v, .bool false]) w') :=
    (makings_any w1.drew).mono fun e w' ⟨b, he, ho, hb⟩ => by
      obtain ⟨v, h1, h2⟩ := mk_look w' b ho k hk
      rw [‹mkB k = false›] at h1
      exact ⟨b, v, he, (Below.refl _ w1).drew.trans hb, h1⟩
  have HS := Lib.hid hS
  have HB1 := Lib.hid hb1
  have z0 := HS.out _ (Below.refl _ _)
  clear hS hb1 hz1
  go_enter Tryz.func32, Tryz.ntmps32
  go_upto_region 1 with fail
  clear hw1
  go_region_held_law (fun W => W.cell? ⟨w.heap.size, 0, none⟩ = some (.int .i64 k) ∧ W.cell? ⟨w.heap.size, 1, none⟩ = some (.int .i64 m) ∧ W.cell? ⟨w.heap.size, 2, none⟩ = some (.int .i64 n) ∧ W.cell? ⟨w.heap.size, 3, none⟩ = some (.string t))
    (first | exact z0 | (refine HS.out _ ?_; repeat' (first | assumption | exact Below.refl _ _ | refine Below.drew ?_ | (simp; done) | (simp; omega) | omega)))
    ((go_at_call 46; (with_reducible refine kq.mono ?_); clear kq; rintro e w2 ⟨b, v, rfl, hb2, hlk⟩; have hs2 := hb2.size; obtain ⟨y0, y1, y2, y3⟩ := HS.out _ hb2))
  all_goals
    go_wp2
    go_ret
    exact ⟨rfl, HB1.out.trans (hb2.mono HB1.out.size)⟩
theorem Sm.right_any (k m n : Int) (t : ByteArray) (w : World) (hk : I64 k) (ht : t.size ≤ 1000000) (hL : LaysT w) : Calls Tryz.prog 32 #[.agg #[.int .i64 k, .int .i64 m, .int .i64 n, .string t]] w fun e w' => e = .returned (.bool (entB k m n t)) ∧ Below w.heap.size w w' := by
  unfold entB
  by_cases h1 : k = 1
  · subst h1; exact right1 m n t w
  · rw [if_neg h1]
    by_cases h2 : k = 2
    · subst h2; exact right2 m n t w
    · by_cases h3 : k = 3
      · subst h3; exact right3 m n t w
      · rw [if_neg (by omega)]
        by_cases h4 : k = 4
        · subst h4; exact right4 m n t w ht hL
        · rw [if_neg h4]
          exact right0 k m n t w hk (by unfold mkB; simp; omega)
end Go.Proofs
