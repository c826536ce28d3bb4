/-
  NetBounds: the walk. Conditions: as each theorem names them.
-/
import Derived.Deep.OwnRows
import Derived.Test.YtkipjlcbmiagcaaNtWk
namespace Go.Proofs
open Go Go.RowKit Sm Go.Lib Go.Maps Go.WideMaps
attribute [local go_sem] Oper.semAt_some
theorem Sm.own_made (w : World) (z : Value) (n : Nat) (e : TypeId) (hn : n ≤ maxLen) : (w.alloc (.cells (madeCells #[z] n) e)).ownsRow w.heap.size e 1 (.slice (some ⟨w.heap.size, 0, none⟩) n n) n (List.replicate n z) := by
  refine ⟨by simp, .inr ⟨w.heap.size, n, madeCells #[z] n, rfl, Nat.le_refl _, World.alloc_heap_new w _, Nat.le_refl _, hn, by rw [size_madeCells]; simp, ?_⟩⟩
  rw [toList_madeCells_one]
  simp
def Sm.bnP (k : Nat) : List PD := (List.range k).map fun (i : Nat) => ((i : Int), ((i % 64 : Nat) : Int), 63, [])
def Sm.bnN (most : Int) (k : Nat) : NM := ⟨⟨64, most, k⟩, [], bnP k⟩
theorem Sm.bnP_len (k : Nat) : (bnP k).length = k := by unfold bnP; simp
theorem Sm.bnP_succ (k : Nat) : bnP (k + 1) = bnP k ++ [((k : Int), ((k % 64 : Nat) : Int), 63, [])] := by
  unfold bnP
  rw [List.range_succ, List.map_append]
  rfl
theorem Sm.bn_put {most : Int} {k : Nat} (h : (k : Int) < most) : putN (bnN most k) ((k % 64 : Nat) : Int) 63 [] = (bnN most (k + 1), (k : Int), 0) := by
  have hE : putE (bnN most k).s (bnN most k).D (bnN most k).P.length ((k % 64 : Nat) : Int) 63 ([] : List (BitVec 8)).length = 0 := by
    unfold putE bnN
    have h1 : lnkB ⟨64, most, k⟩ ((k % 64 : Nat) : Int) 63 = true := by
      unfold lnkB wiB
      simp only [Bool.and_eq_true, decide_eq_true_eq]
      omega
    simp only [h1, bnP_len, List.length_nil, List.not_mem_nil, if_false]
    rw [if_neg (by decide), if_neg (by decide), if_neg (by omega)]
  unfold putN
  rw [if_neg (by rw [hE]; simp)]
  unfold bnN
  simp only [bnP_succ]
  rfl
theorem Sm.bn_E {most : Int} {k : Nat} (h : (k : Int) = most) : putE (bnN most k).s (bnN most k).D (bnN most k).P.length 0 0 0 = 211 ∧ putE (bnN most k).s (bnN most k).D (bnN most k).P.length 0 0 8193 = 3 := by
  unfold putE bnN
  have h1 : lnkB ⟨64, most, k⟩ 0 0 = true := by
    unfold lnkB wiB
    simp
  simp only [h1, bnP_len, List.not_mem_nil, if_false]
  exact ⟨by rw [if_neg (by decide), if_neg (by decide), if_pos h], by rw [if_neg (by decide), if_pos (by decide)]⟩
theorem Sm.bn_drop {most : Int} {k : Nat} (h : 0 < k) : dropN (bnN most k) (-1) (-1) 0 = ((bnN most k).less 0, 0, 0) := by
  have ho : onP (-1) (-1) (bnN most k).P = List.range k := by
    rw [onP_all]
    unfold bnN
    simp only [bnP_len]
  have hE : findE (bnN most k) (-1) (-1) = 0 := by
    unfold findE
    rw [ho]
    have : anyB (-1) (-1) = true := by decide
    rw [this, List.length_range]
    simp
    omega
  have hA : findA (bnN most k) (-1) (-1) 0 = 0 := by
    unfold findA
    rw [ho, List.length_range]
    have : pickI 0 (k : Int) = 0 := by
      unfold pickI
      simp
    rw [this]
    simp
    rw [List.getElem?_range h]
    rfl
  have hP : findP (bnN most k) (-1) (-1) 0 = (0, 0, 63, []) := by
    unfold findP
    rw [hA]
    unfold bnN bnP
    simp only [List.getElem?_map, List.getElem?_range h]
    rfl
  unfold dropN
  rw [if_neg (by simp [hE]), hA, hP]
def Sm.bnL (most : Int) (k : Nat) (l : List (BitVec 8)) : NM := ⟨⟨64, most, (k : Int) + 1⟩, [], (bnP k).eraseIdx 0 ++ [((k : Int), 0, 0, l)]⟩
theorem Sm.bn_last {most : Int} {k : Nat} (h0 : 0 < k) (h : (k : Int) = most) (l : List (BitVec 8)) (hl : l.length ≤ 8192) : putN ((bnN most k).less 0) 0 0 l = (bnL most k l, (k : Int), 0) := by
  have hlen : ((bnN most k).less 0).P.length = k - 1 := by
    unfold NM.less bnN
    simp only
    rw [List.length_eraseIdx_of_lt (by rw [bnP_len]; exact h0), bnP_len]
  have hE : putE ((bnN most k).less 0).s ((bnN most k).less 0).D ((bnN most k).less 0).P.length 0 0 l.length = 0 := by
    rw [hlen]
    unfold putE NM.less bnN
    have h1 : lnkB ⟨64, most, k⟩ 0 0 = true := by
      unfold lnkB wiB
      simp
    simp only [h1, List.not_mem_nil, if_false]
    rw [if_neg (by decide), if_neg (by omega), if_neg (by omega)]
  unfold putN
  rw [if_neg (by rw [hE]; simp)]
  rfl
theorem Sm.bnL_len {most : Int} {k : Nat} (h0 : 0 < k) (l : List (BitVec 8)) : (onP (-1) (-1) (bnL most k l).P).length = k := by
  rw [onP_all, List.length_range]
  unfold bnL
  simp only [List.length_append, List.length_cons, List.length_nil]
  rw [List.length_eraseIdx_of_lt (by rw [bnP_len]; exact h0), bnP_len]
  omega
theorem Sm.NW.put {n0 hi p : Nat} {N : NM} (x y : Int) (A : Option Addr) (n c : Nat) (l : List (BitVec 8)) (W : World) (h : NW n0 hi W p N) (hc : N.s.came < 1000000000) (hl : l.length = n) (hn : n ≤ 1000000) (hrd : Rd W W.heap.size A l) (r : NM × Int × Int) (hr : putN N x y l = r) :
    Calls Try.prog 12 #[.pointer (some ⟨p, 0, none⟩), .int .i64 x, .int .i64 y, .slice A n c] W fun e w' => e = .returned (.tuple #[.int .i64 r.2.1, .int .i64 r.2.2]) ∧ NW n0 w'.heap.size w' p r.1 ∧ Below n0 W w' := by
  refine (put_N x y A n c l W h.1 hc hl (by omega) hrd).mono ?_
  rintro e w' ⟨rfl, h1, h2⟩
  rw [hr] at h1 ⊢
  have hlow := h.low h2
  have hs := h2.size
  refine ⟨rfl, ⟨h1.mono (fun b hb e => ?_), by have := h.2; omega, Nat.le_refl _⟩, hlow⟩
  have h3 := h.2
  rcases e with e | e
  · exact ⟨e.1, hb⟩
  · exact ⟨by omega, hb⟩
theorem Sm.NW.mono {n0 hi hi' p : Nat} {W : World} {N : NM} (h : NW n0 hi W p N) (h1 : hi ≤ hi') (h2 : hi' ≤ W.heap.size) : NW n0 hi' W p N := ⟨h.1.mono (fun b _ e => ⟨e.1, by omega⟩), Nat.le_trans h.2.1 h1, h2⟩
theorem Sm.made_rd (W : World) (n : Nat) (hn : n ≤ 1000000) : Rd (W.alloc (.cells (madeCells #[.int .u8 0] n) 5)) (W.alloc (.cells (madeCells #[.int .u8 0] n) 5)).heap.size (some ⟨W.heap.size, 0, none⟩) (List.replicate n (0#8)) :=
  own_rd (n := n) (c := n) (base := W.heap.size) (by
    have h := own_made W (.int .u8 0) n 5 (by unfold maxLen; omega)
    rw [List.map_replicate]
    exact h)
set_option maxRecDepth 100000 in
set_option maxHeartbeats 4000000 in
theorem Sm.bounds_law (m : Int) (w : World) : Calls Try.prog 5 #[.int .i64 m] w fun e w' => e = .returned (.bool true) ∧ Below w.heap.size w w' := by
  have hwk := fun W => works_any W
  by_cases hm1 : m < 1
  · go_enter Try.func5, Try.ntmps5
    go_wp2_with (go_at_call 10; (with_reducible refine (hwk _).mono ?_); rintro e w' ⟨rfl, hb⟩)
    go_ret
    exact ⟨rfl, hb⟩
  by_cases hm2 : 200 < m
  · go_enter Try.func5, Try.ntmps5
    go_wp2_with (go_at_call 10; (with_reducible refine (hwk _).mono ?_); rintro e w' ⟨rfl, hb⟩)
    go_ret
    exact ⟨rfl, hb⟩
  obtain ⟨M, rfl⟩ : ∃ M : Nat, m = (M : Int) := ⟨m.toNat, by omega⟩
  obtain ⟨n0, hn0⟩ : ∃ n0, w.heap.size = n0 := ⟨_, rfl⟩
  have hnew := new_N 64 M w (by unfold newB wiB; simp; omega)
  rw [hn0] at hnew ⊢
  have HN0 := Lib.hid hn0
  have hM : 0 < M ∧ M ≤ 200 := by omega
  have hm1' : decide ((M : Int) < 1) = false := decide_eq_false (by omega)
  have hm2' : decide ((200 : Int) < M) = false := decide_eq_false (by omega)
  obtain ⟨C1, hC1⟩ : ∃ C, madeCells #[.int .u8 0] 8193 = C := ⟨_, rfl⟩
  obtain ⟨C2, hC2⟩ : ∃ C, madeCells #[.int .u8 0] 8192 = C := ⟨_, rfl⟩
  have hmk1 : ∀ W, (Instr.makeSlice 39 (.int .i64 8193) (.int .i64 8193)).run Try.prog W = .ok (.slice (some ⟨W.heap.size, 0, none⟩) 8193 8193) (W.alloc (.cells C1 5)) := fun W => by rw [← hC1]; exact run_make_row' (P := Try.prog) 39 5 (.int .u8 0) 1 Try.underlying39 (by kernel_rfl) rfl .i64 .i64 8193 (by omega) (by omega) W
  have hmk2 : ∀ W, (Instr.makeSlice 39 (.int .i64 8192) (.int .i64 8192)).run Try.prog W = .ok (.slice (some ⟨W.heap.size, 0, none⟩) 8192 8192) (W.alloc (.cells C2 5)) := fun W => by rw [← hC2]; exact run_make_row' (P := Try.prog) 39 5 (.int .u8 0) 1 Try.underlying39 (by kernel_rfl) rfl .i64 .i64 8192 (by omega) (by omega) W
  have PK1 : ∀ (p hi k : Nat) W, k < M → NW n0 hi W p (bnN M k) → Calls Try.prog 12 #[.pointer (some ⟨p, 0, none⟩), .int .i64 ((k % 64 : Nat) : Int), .int .i64 63, .slice none 0 0] W fun e w' => e = .returned (.tuple #[.int .i64 (k : Int), .int .i64 0]) ∧ NW n0 w'.heap.size w' p (bnN M (k + 1)) ∧ Below n0 W w' :=
    fun p hi k W hk h => h.put _ _ none 0 0 [] W (by show (k : Int) < 1000000000; omega) rfl (by decide) Rd.nil _ (bn_put (by omega))
  have PK2 : ∀ (p hi : Nat) W, NW n0 hi W p (bnN M M) → Calls Try.prog 12 #[.pointer (some ⟨p, 0, none⟩), .int .i64 0, .int .i64 0, .slice none 0 0] W fun e w' => e = .returned (.tuple #[.int .i64 0, .int .i64 211]) ∧ NW n0 hi w' p (bnN M M) ∧ But (fun b => n0 ≤ b ∧ b < hi) W w' :=
    fun p hi W h => putE_lit 0 0 none 0 0 [] W h rfl (by decide) 211 (bn_E rfl).1 (by decide)
  have PK3 : ∀ (p hi : Nat) W, NW n0 hi W p (bnN M M) → Calls Try.prog 12 #[.pointer (some ⟨p, 0, none⟩), .int .i64 0, .int .i64 0, .slice (some ⟨W.heap.size, 0, none⟩) 8193 8193] (W.alloc (.cells C1 5)) fun e w' => e = .returned (.tuple #[.int .i64 0, .int .i64 3]) ∧ NW n0 hi w' p (bnN M M) ∧ But (fun b => n0 ≤ b ∧ b < hi) W w' :=
    fun p hi W h => (putE_lit 0 0 _ 8193 8193 (List.replicate 8193 0#8) (W.alloc (.cells C1 5)) (h.keep ((Below.refl _ W).alloc (Nat.le_refl _) _)) List.length_replicate (by decide) 3 (bn_E rfl).2 (by decide)).mono fun e w' ⟨h1, h2, h3⟩ => ⟨h1, h2, (But.of_all ((Below.refl _ W).alloc (Nat.le_refl _) _) _).trans h3 (fun _ _ e => e)⟩
  have DR : ∀ (p hi : Nat) W, NW n0 hi W p (bnN M M) → Calls Try.prog 15 #[.pointer (some ⟨p, 0, none⟩), .int .i64 (-1), .int .i64 (-1), .int .i64 0] W fun e w' => e = .returned (.tuple #[.int .i64 0, .int .i64 0]) ∧ NW n0 hi w' p ((bnN M M).less 0) ∧ But (fun b => n0 ≤ b ∧ b < hi) W w' :=
    fun p hi W h => drop_lit (-1) (-1) 0 W h _ (bn_drop hM.1)
  have PK4 : ∀ (p hi : Nat) W, NW n0 hi W p ((bnN M M).less 0) → Calls Try.prog 12 #[.pointer (some ⟨p, 0, none⟩), .int .i64 0, .int .i64 0, .slice (some ⟨W.heap.size, 0, none⟩) 8192 8192] (W.alloc (.cells C2 5)) fun e w' => e = .returned (.tuple #[.int .i64 (M : Int), .int .i64 0]) ∧ NW n0 w'.heap.size w' p (bnL M M (List.replicate 8192 0#8)) ∧ Below n0 W w' := by
    intro p hi W h
    have hb : Below W.heap.size W (W.alloc (.cells C2 5)) := (Below.refl _ W).alloc (Nat.le_refl _) _
    refine ((h.keep hb).put 0 0 _ 8192 8192 (List.replicate 8192 0#8) _ (by show (M : Int) < 1000000000; omega) List.length_replicate (by decide) (by rw [← hC2]; exact made_rd W 8192 (by decide)) _ (bn_last hM.1 rfl _ (by rw [List.length_replicate]; exact Nat.le_refl _))).mono ?_
    rintro e w' ⟨h1, h2, h3⟩
    exact ⟨h1, h2, (hb.mono (Nat.le_trans h.2.1 h.2.2)).trans h3⟩
  have LN : ∀ (p hi : Nat) W, NW n0 hi W p (bnL M M (List.replicate 8192 0#8)) → Calls Try.prog 20 #[.pointer (some ⟨p, 0, none⟩), .int .i64 (-1), .int .i64 (-1)] W fun e w' => e = .returned (.int .i64 (M : Int)) ∧ Below W.heap.size W w' := fun p hi W h => by
    have := len_N (-1) (-1) W h.1
    rw [bnL_len hM.1] at this
    exact this
  have hmI : (M : Int) ≤ 200 := by omega
  have hmI1 : ¬ (M : Int) < 1 := by omega
  have hmI2 : ¬ (200 : Int) < (M : Int) := by omega
  clear hn0 hC1 hC2 hm1 hm2
  go_enter Try.func5, Try.ntmps5
  go_upto_region 4 with (first
    | (go_at_call 26; (with_reducible refine hnew.mono ?_); clear hnew; rintro e w1 ⟨p, rfl, hD, hb⟩; have HB1 := Lib.hid hb; have HD1 : Hid (NW n0 w1.heap.size w1 p (bnN M 0)) := Lib.hid ⟨hD.mono (fun b hb e => ⟨e, hb⟩), by have h1 := hb.size; have h2 := HN0.out; omega, Nat.le_refl _⟩; clear hD hb))
  go_wp2
  go_loopw [5] (fun v5 wr => ∃ k : Nat, k ≤ M ∧ v5 = .int .i64 (k : Int) ∧ Hid (NW n0 wr.heap.size wr p (bnN M k) ∧ Below n0 w wr)) (fun v5 _ => M - (RowKit.intOf v5).toNat)
  case atStart => exact ⟨0, Nat.zero_le _, rfl, Lib.hid ⟨HD1.out, HB1.out⟩⟩
  case round =>
    obtain ⟨wo, rfl⟩ : ∃ wo : World, wo = wr := ⟨_, rfl⟩
    obtain ⟨k, hk, rfl, HI⟩ := hrel
    clear HD1 HB1
    by_cases hlt : k < M
    · have hkI : (k : Int) < (M : Int) := by omega
      have hpk := PK1 p _ k wo hlt HI.out.1
      have e64 : ((k % 64 : Nat) : Int) = (k : Int) % 64 := by omega
      rw [e64] at hpk
      clear e64
      go_wp2_with (first
        | (go_at_call 12; (with_reducible refine hpk.mono ?_); clear hpk; rintro e w2 ⟨rfl, h1, h2⟩; have HI2 := Lib.hid (show NW n0 w2.heap.size w2 p (bnN M (k + 1)) ∧ Below n0 w w2 from ⟨h1, HI.out.2.trans h2⟩); clear h1 h2)
        | (go_at_call 17; (with_reducible refine (num_any _ _ (by decide) (by decide)).mono ?_); rintro e w' ⟨rfl, rfl⟩))
      go_roundw
      case rel => exact ⟨k + 1, by omega, by go_num, HI2⟩
      case measure => simp [RowKit.intOf]; omega
    · obtain rfl : k = M := by omega
      have hh := HI.out
      have HDa := Lib.hid hh.1
      have HBa := Lib.hid hh.2
      clear hh HI PK1
      go_upto_region 11 with (first
        | (go_at_call 12; (with_reducible refine (PK2 _ _ _ HDa.out).mono ?_); clear PK2; rintro e w2 ⟨rfl, hD, hb⟩; have HB2 := Lib.hid (HBa.out.trans (HDa.out.low hb)); have HD2 := Lib.hid hD; clear hD hb HDa HBa))
      go_wp2_with (first
        | (go_at_call 12; (with_reducible refine (PK3 _ _ _ HD2.out).mono ?_); clear PK3; rintro e w3 ⟨rfl, hD, hb⟩; have HB3 := Lib.hid (HB2.out.trans (HD2.out.low hb)); have HD3 := Lib.hid hD; clear hD hb HD2 HB2)
        | (go_at_call 15; (with_reducible refine (DR _ _ _ HD3.out).mono ?_); clear DR; rintro e w4 ⟨rfl, hD, hb⟩; have HB4 := Lib.hid (HB3.out.trans (HD3.out.low hb)); have HD4 := Lib.hid hD; clear hD hb HD3 HB3)
        | (go_at_call 12; (with_reducible refine (PK4 _ _ _ HD4.out).mono ?_); clear PK4; rintro e w5 ⟨rfl, hD, hb⟩; have HB5 := Lib.hid (HB4.out.trans hb); have HD5 := Lib.hid hD; clear hD hb HD4 HB4)
        | (go_at_call 17; (with_reducible refine (num_any _ _ (by decide) (by decide)).mono ?_); rintro e w' ⟨rfl, rfl⟩)
        | (go_at_call 20; (with_reducible refine (LN _ _ _ HD5.out).mono ?_); clear LN; rintro e w6 ⟨rfl, hb⟩; have HB6 := Lib.hid (HB5.out.trans (hb.mono (Nat.le_trans HD5.out.2.1 HD5.out.2.2))); clear hb)
        | (go_at_call 10; (with_reducible refine (hwk _).mono ?_); rintro e w7 ⟨rfl, hb⟩; have HB7 := Lib.hid (HB6.out.trans (hb.mono (by have h1 := HB6.out.size; have h2 := HN0.out; omega))); clear hb))
      go_ret
      exact ⟨rfl, HB7.out⟩
end Go.Proofs
