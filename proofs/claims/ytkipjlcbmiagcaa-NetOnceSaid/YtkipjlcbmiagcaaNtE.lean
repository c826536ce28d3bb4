/-
  IsDown, Came, and the closures of Put. Conditions: as each theorem names them.
-/
import Derived.Deep.RegionWith
import Derived.Deep.RegionHeldLaw
import Derived.Test.YtkipjlcbmiagcaaNtD
namespace Go.Proofs
open Go Go.RowKit Sm Go.Lib Go.Maps Go.WideMaps
attribute [local go_sem] Oper.semAt_some
theorem Sm.zero92 (w : World) : (zeroValue 92).run Try.prog w = .ok unitV w := by kernel_rfl
theorem Sm.held_inj {v u : Value} {ps : List MemPlace} (h : heldElem v = some (.held u, ps)) : v = u := by
  unfold heldElem at h
  simp only [Option.some.injEq, Prod.mk.injEq, DataW.held.injEq] at h
  exact h.1
theorem Sm.look_lnk {w : World} {Mb n : Nat} {M : DataW Value} {D : List (Int × Int)} (h : w.ownsMap Try.prog 94 heldElem Mb n M) (hD : LnkIs M D) {a b : Int} (ha : I64 a) (hb : I64 b) :
    (Instr.lookup 32 (.map (some Mb)) (lnkV a b) true).run Try.prog w = .ok (.tuple #[unitV, .bool (decide ((a, b) ∈ D))]) w := by
  obtain ⟨v, ps, hr, hv⟩ := h.look_ok law94 Try.underlying32 (zero92 w) (zd := .held unitV) (zp := []) rfl (lnk_key ha hb)
  have e : M.atKey (lnkL a b) (.held unitV) = .held unitV := by
    by_cases e : (a, b) ∈ D
    · exact (hD.here _ e).2 _
    · exact atKey_of_not_has (hD.only a b ha hb e) _
  rw [e] at hv
  have hv := held_inj hv
  rw [hD.has ha hb, hv] at hr
  exact hr
set_option maxRecDepth 100000 in
theorem Sm.isDown_any {p Mb base : Nat} {s : NSt} {D : List (Int × Int)} {A : Option Addr} {cap : Nat} {L : List MsgM} (a b : Int) (w : World) (h : NAt w p Mb base s D A cap L) (ha : I64 a) (hb : I64 b) :
    Calls Try.prog 19 #[.pointer (some ⟨p, 0, none⟩), .int .i64 a, .int .i64 b] w fun e w' => e = .returned (.bool (decide ((a, b) ∈ D))) ∧ Below w.heap.size w w' := by
  have ht := there_yes w h
  have c0 := cell_of_heap h.blk 3
  simp only [List.getElem?_toArray, List.getElem?_cons_zero, List.getElem?_cons_succ] at c0
  obtain ⟨M, hM, hD⟩ := h.map
  have hlk := look_lnk hM hD ha hb
  unfold lnkV unitV at hlk
  obtain ⟨d, hd⟩ : ∃ d, decide ((a, b) ∈ D) = d := ⟨_, rfl⟩
  rw [hd] at hlk ⊢
  clear h hM hD hd
  go_enter Try.func19, Try.ntmps19
  go_wp2_with (go_at_call 42; (with_reducible refine ht.mono ?_); rintro e w' ⟨rfl, rfl⟩)
  go_ret
  exact ⟨by rfl, (Below.refl _ w).alloc (Nat.le_refl _) _⟩
theorem Sm.came_any {p Mb base : Nat} {s : NSt} {D : List (Int × Int)} {A : Option Addr} {cap : Nat} {L : List MsgM} (w : World) (h : NAt w p Mb base s D A cap L) :
    Calls Try.prog 21 #[.pointer (some ⟨p, 0, none⟩)] w fun e w' => e = .returned (.int .i64 s.came) ∧ w = w' := by
  have ht := there_yes w h
  have c0 := cell_of_heap h.blk 2
  simp only [List.getElem?_toArray, List.getElem?_cons_zero, List.getElem?_cons_succ] at c0
  obtain ⟨R, hR⟩ : ∃ R, s.came = R := ⟨_, rfl⟩
  rw [hR] at c0 ⊢
  clear h hR
  go_enter Try.func21, Try.ntmps21
  go_wp2_with (go_at_call 42; (with_reducible refine ht.mono ?_); rintro e w' ⟨rfl, rfl⟩)
  go_ret
  exact ⟨by rfl, rfl⟩
/-- of none -/
theorem Sm.isDown_no {v : Value} (a b : Int) (w : World) (h : NoNet w v) : Calls Try.prog 19 #[v, .int .i64 a, .int .i64 b] w fun e w' => e = .returned (.bool false) ∧ w = w' := by
  have ht := there_no w h
  clear h
  go_enter Try.func19, Try.ntmps19
  go_wp2_with (go_at_call 42; (with_reducible refine ht.mono ?_); rintro e w' ⟨rfl, rfl⟩)
  go_ret
  exact ⟨by rfl, rfl⟩
theorem Sm.came_no {v : Value} (w : World) (h : NoNet w v) : Calls Try.prog 21 #[v] w fun e w' => e = .returned (.int .i64 0) ∧ w = w' := by
  have ht := there_no w h
  clear h
  go_enter Try.func21, Try.ntmps21
  go_wp2_with (go_at_call 42; (with_reducible refine ht.mono ?_); rintro e w' ⟨rfl, rfl⟩)
  go_ret
  exact ⟨by rfl, rfl⟩
theorem Sm.len_no {v : Value} (a b : Int) (w : World) (h : NoNet w v) : Calls Try.prog 20 #[v, .int .i64 a, .int .i64 b] w fun e w' => e = .returned (.int .i64 0) ∧ w = w' := by
  have ht := there_no w h
  clear h
  go_enter Try.func20, Try.ntmps20
  go_wp2_with (go_at_call 42; (with_reducible refine ht.mono ?_); rintro e w' ⟨rfl, rfl⟩)
  go_ret
  exact ⟨by rfl, rfl⟩
/-- Put's closures -/
theorem Sm.put1_any (b1 n c : Nat) (A : Option Addr) (w : World) (hn : n ≤ 1000000000) (h1 : w.heap[b1]? = some (.cells #[.slice A n c] 39 (0, 0))) :
    Calls Try.prog 35 #[.pointer (some ⟨b1, 0, none⟩)] w fun e w' => e = .returned (.bool (decide (8192 < n))) ∧ Below w.heap.size w w' := by
  have c0 := cell_of_heap h1 0
  simp only [List.getElem?_toArray, List.getElem?_cons_zero] at c0
  have hI : (n : Int) ≤ 1000000000 := by omega
  clear h1
  go_enter Try.func35, Try.ntmps35
  go_wp2
  go_ret
  refine ⟨?_, Below.refl _ _⟩
  simp
  omega
theorem Sm.put2_any {p Mb base : Nat} {s : NSt} {D : List (Int × Int)} {A : Option Addr} {cap : Nat} {L : List MsgM} (b1 b2 b3 : Nat) (x y : Int) (w : World) (h : NAt w p Mb base s D A cap L) (hx : I64 x) (hy : I64 y) (h1 : w.heap[b1]? = some (.cells #[.pointer (some ⟨p, 0, none⟩)] 25 (0, 0)))
    (h2 : w.heap[b2]? = some (.cells #[.int .i64 x] 3 (0, 0))) (h3 : w.heap[b3]? = some (.cells #[.int .i64 y] 3 (0, 0))) :
    Calls Try.prog 36 #[.pointer (some ⟨b1, 0, none⟩), .pointer (some ⟨b2, 0, none⟩), .pointer (some ⟨b3, 0, none⟩)] w fun e w' => e = .returned (.bool (decide ((x, y) ∈ D))) ∧ Below w.heap.size w w' := by
  have ht := isDown_any x y w h hx hy
  have c0 := cell_of_heap h1 0
  have d0 := cell_of_heap h2 0
  have e0 := cell_of_heap h3 0
  simp only [List.getElem?_toArray, List.getElem?_cons_zero] at c0 d0 e0
  obtain ⟨B, hB⟩ : ∃ B, decide ((x, y) ∈ D) = B := ⟨_, rfl⟩
  rw [hB] at ht ⊢
  clear h h1 h2 h3 hB
  go_enter Try.func36, Try.ntmps36
  go_wp2_with (go_at_call 19; (with_reducible refine ht.mono ?_); rintro e w1 ⟨rfl, hb1⟩; have HB1 := Lib.hid hb1; clear hb1)
  go_ret
  exact ⟨by rfl, HB1.out⟩
theorem Sm.put3_any {p Mb base : Nat} {s : NSt} {D : List (Int × Int)} {A : Option Addr} {cap : Nat} {L : List MsgM} (b1 : Nat) (w : World) (h : NAt w p Mb base s D A cap L) (h1 : w.heap[b1]? = some (.cells #[.pointer (some ⟨p, 0, none⟩)] 25 (0, 0))) :
    Calls Try.prog 37 #[.pointer (some ⟨b1, 0, none⟩)] w fun e w' => e = .returned (.bool (decide ((L.length : Int) = s.most))) ∧ Below w.heap.size w w' := by
  have c0 := cell_of_heap h1 0
  have d1 := cell_of_heap h.blk 1
  have d4 := cell_of_heap h.blk 4
  simp only [List.getElem?_toArray, List.getElem?_cons_zero, List.getElem?_cons_succ] at c0 d1 d4
  have hl := h.lim
  obtain ⟨R, hR⟩ : ∃ R, s.most = R := ⟨_, rfl⟩
  obtain ⟨N, hN⟩ : ∃ N, L.length = N := ⟨_, rfl⟩
  rw [hR] at d1 hl ⊢
  rw [hN] at d4 hl ⊢
  have hl1 : (N : Int) ≤ 4096 := by omega
  clear h h1 hR hN hl
  go_enter Try.func37, Try.ntmps37
  go_wp2
  go_region
  go_wp2
  go_ret
  refine ⟨?_, (Below.refl _ w).drew⟩
  by_cases e : (N : Int) = R
  · simp [e]
  · simp [e]
end Go.Proofs
