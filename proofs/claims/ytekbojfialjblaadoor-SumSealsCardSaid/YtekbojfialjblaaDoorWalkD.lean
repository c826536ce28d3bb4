/-
  The contract of power: at every number of 64 bits the power, and nothing that lay has turned.
-/
import Derived.Test.YtekbojfialjblaaDoorWalkC
import Derived.Test.YtekbojfialjblaaDoorValsQ
namespace Go.Proofs
open Go.RowKit Go.Shelf Sm
attribute [local go_sem] Oper.semAt_some
def Sm.KeepQ (B : Nat) (v : Value) (W W' : World) : Prop := Boxed W B 60 v → Boxed W' B 60 v
set_option maxRecDepth 100000 in
set_option maxHeartbeats 2000000 in
theorem Sm.bits64_in (F : Fence) (n : Nat) (h48 : F.fn 48) (hro : F.round = none) (hn : 1 ≤ n) (l B : Nat) (x : BitVec 64) (J Jx : List (Fin 64) → World → Prop)
    (hY : ∀ pre k W, J pre W → pre.length < 64 → YieldAt F (n - 1) Tryd.prog l (enc64 x k) W fun e W' =>
      (e = .returned (.bool true) ∧ J (pre ++ [k]) W' ∧ KeepQ B (.int .u64 (iq x)) W W') ∨ (e = .returned (.bool false) ∧ Jx (pre ++ [k]) W'))
    (W : World) (hB : Boxed W B 60 (.int .u64 (iq x))) (h0 : J [] W) :
    CallsIn F n Tryd.prog 48 #[.func (.yield l) #[] #[], .pointer (some ⟨B, 0, none⟩)] W fun e W' => (∃ v, e = .returned v) ∧
      ((∃ ys, ys = upto64 64 ∧ J ys W') ∨ (∃ pre, (∃ k, k < 64 ∧ pre = upto64 (k + 1)) ∧ Jx pre W')) := by
  refine callsIn_of_wp Tryd.func48 rfl h48 ?_ hro
  simp only [Tryd.ntmps48, List.size_toArray, List.length_cons, List.length_nil, Nat.reduceAdd, Nat.reduceSub, Array.replicate_succ, Array.replicate_zero, List.push_toArray, List.append_toArray, List.nil_append, List.cons_append]
  have e1 : IntKind.u64.signed = false := rfl
  obtain ⟨M, e2, e3, e4⟩ : ∃ M : Int, IntKind.u64.max = M ∧ bits .xor .u64 M 0 / 2 = 9223372036854775807 ∧ bits .xor .u64 M 9223372036854775807 = iq (bas64 0) := ⟨18446744073709551615, rfl, by decide, by decide⟩
  gi_wp2
  clear e1 e2 e3 e4
  gi_loopw [3, 4] (fun vi vm wr => ∃ k : Nat, k ≤ 64 ∧ vi = .int .i64 (k : Int) ∧ vm = .int .u64 (iq (bas64 k)) ∧ J (upto64 k) wr ∧ Boxed wr B 60 (.int .u64 (iq x)))
    (fun vi _ _ => 64 - (intOf vi).toNat)
  case atStart => exact ⟨0, Nat.zero_le _, rfl, rfl, h0, hB⟩
  case round =>
    obtain ⟨k, hk, rfl, rfl, hJs, hBx⟩ := hrel
    have hc := hBx.cell
    by_cases hlt : k < 64
    · obtain ⟨fn, tmps, assign, body, hy, hR⟩ := hY _ ⟨k, hlt⟩ wr hJs (by rw [upto64_length]; exact hlt)
      dsimp only [enc64] at hy
      have hz := bas64_nz k hlt
      have ht := and_bas64 x k hlt
      gi_wp2
      refine hR.mono ?_
      rintro e W3 (⟨rfl, hJ3, hk3⟩ | ⟨rfl, hJx3⟩)
      · -- the round goes on
        gi_wp2
        go_roundw
        case rel => exact ⟨k + 1, by omega, by simp, by rw [bas64_half], by rw [upto64_succ k hlt]; exact hJ3, hk3 hBx⟩
        case measure => simp [intOf]; omega
      · gi_wp2
        refine bodyPost_ret (results_none rfl _ _ _) rfl ?_
        exact ⟨⟨_, rfl⟩, .inr ⟨_, ⟨k, hlt, (upto64_succ k hlt).symm⟩, hJx3⟩⟩
    · obtain rfl : k = 64 := by omega
      have hz := bas64_z
      gi_wp2
      go_end0
      exact ⟨⟨_, rfl⟩, .inl ⟨_, rfl, hJs⟩⟩
theorem Sm.bits64_stops (F : Fence) (n : Nat) (h48 : F.fn 48) (hro : F.round = none) (hn : 1 ≤ n) (B : Nat) (x : BitVec 64) (w : World) (hB : Boxed w B 60 (.int .u64 (iq x))) :
    SeqStopsK F n Tryd.prog 48 #[.pointer (some ⟨B, 0, none⟩)] (enc64 x) (KeepQ B (.int .u64 (iq x))) (fun ys => ys = upto64 64) (fun pre => ∃ k, k < 64 ∧ pre = upto64 (k + 1)) 64 w := fun l J Jx W hW _ _ hY h0 =>
  bits64_in F n h48 hro hn l B x J Jx hY W ((hW.block B hB.lt).trans hB) h0
set_option maxHeartbeats 400000 in
theorem Sm.bitsQ_any (x : BitVec 64) (w : World) : Calls Tryd.prog 43 #[.int .u64 (iq x)] w fun e w' => e = .returned (.func (.func 48) #[] #[.pointer (some ⟨w.heap.size, 0, none⟩)]) ∧ w.alloc (.cells #[.int .u64 (iq x)] 60) = w' := by
  go_enter Tryd.func43, Tryd.ntmps43
  go_wp2
  go_ret
  exact ⟨rfl, rfl⟩
theorem Sm.keepQ_t {B : Nat} {v : Value} {X Y Z : World} (h : KeepQ B v X Y) (k : KeepQ B v Y Z) : KeepQ B v X Z := fun hb => k (h hb)
theorem Sm.keepQ_b {B : Nat} {v : Value} (W : World) (l : Nat) (o o' : Obj) (h : W.heap[l]? = some o) (ho : o.isCells = false) : KeepQ B v W (W.putObj l o') := fun hb => boxed_putObj o' h ho hb
theorem Sm.keepsOthers_below {W W' : World} (h : Below W.heap.size W W') : KeepsOthers W W' := ⟨h.size, fun k _ hk _ => (h.block k (Array.getElem?_eq_some_iff.1 hk).1).trans hk⟩
theorem Sm.boxed_below {n B : Nat} {t : TypeId} {v : Value} {W W' : World} (hb : Boxed W B t v) (h : Below n W W') (hn : B < n) : Boxed W' B t v := (h.block B hn).trans hb
set_option maxRecDepth 100000 in
set_option maxHeartbeats 2000000 in
theorem Sm.power_in (n : BitVec 64) (w : World) :
    CallsIn Fence.wide 6 Tryd.prog 36 #[.int .u64 (iq n)] w fun e W' => e = .returned (.int .u32 (iv (pw n.toNat))) ∧ Below w.heap.size w W' := by
  refine callsIn_of_wp_marks Tryd.func36 rfl trivial ?_ rfl
  simp only [Tryd.ntmps36, List.size_toArray, List.length_cons, List.length_nil, Nat.reduceAdd, Nat.reduceSub, Array.replicate_succ, Array.replicate_zero, List.push_toArray, List.append_toArray, List.nil_append, List.cons_append]
  gi_wp2_with (refine ⟨trivial, ?_⟩; gi_at_call 43; refine (callsIn_wide.2 (bitsQ_any _ _)).mono ?_; rintro e w' ⟨rfl, rfl⟩)
  have hx0 : Boxed ((w.alloc (.cells #[.int .u32 2147483648] 24)).alloc (.cells #[.int .u64 (iq n)] 60)) w.heap.size 24 (.int .u32 (iv (pw (numOf n [])))) := (Boxed.new w 24 _).alloc _
  have hx1 : Boxed ((w.alloc (.cells #[.int .u32 2147483648] 24)).alloc (.cells #[.int .u64 (iq n)] 60)) (w.heap.size + 1) 60 (.int .u64 (iq n)) := by
    have := Boxed.new (w.alloc (.cells #[.int .u32 2147483648] 24)) 60 (.int .u64 (iq n))
    simp only [World.size_alloc] at this
    exact this
  have hB0 : Below w.heap.size w ((w.alloc (.cells #[.int .u32 2147483648] 24)).alloc (.cells #[.int .u64 (iq n)] 60)) := ((Below.refl _ w).alloc (Nat.le_refl _) _).alloc (by simp) _
  refine wpIn_rangeFunc_ownF rfl (by omega) (gf := 48) (lb := #[.pointer (some ⟨w.heap.size + 1, 0, none⟩)]) rfl trivial (enters_of Tryd.func48 (by kernel_rfl) rfl)
    (bits64_stops Fence.wide (6 - 1) trivial rfl (by omega) (w.heap.size + 1) n _ hx1) keepQ_t (fun W l o o' _ h ho _ => keepQ_b W l o o' h ho) (Below.refl _ _) (fun _ => rfl)
    (fun pre W => (Boxed W w.heap.size 24 (.int .u32 (iv (pw (numOf n pre)))) ∧ True) ∧ Below w.heap.size w W ∧ w.heap.size + 1 < W.heap.size)
    (fun _ _ _ => False)
    ?hI ?hIx ⟨⟨hx0, trivial⟩, hB0, by simp⟩
    (fun x => { tmps := #[.int .u64 (iq n), undef, .int .u32 0, .pointer (some ⟨w.heap.size, 0, none⟩), undef, .bool (bitQ n x.val), .int .u64 (iq n), .func (.func 48) #[] #[.pointer (some ⟨w.heap.size + 1, 0, none⟩)], .int .i64 x.val, .bool (bitQ n x.val), undef, undef, undef, undef, undef, undef, undef], defers := [] }) ?assign ?body ?done ?stop
  case hI =>
    refine OwnFrom.and (Own.from (fun s X Y row hs hg hr => ⟨boxed_own w.heap.size 24 (fun p : List (Fin 64) => .int .u32 (iv (pw (numOf n p)))) s X Y row hs.1 hg hr, trivial⟩) _) (OwnFrom.and (ownFrom_below (Nat.le_refl _) (by simp; omega)) (fun s X Y row hs hg hr => Nat.lt_of_lt_of_le hs hg.size))
  case hIx =>
    intro c s X Y row hs hg hr
    exact hs
  case assign =>
    intro l x W K hK
    dsimp only [enc64]
    gi_wp2
    exact hK
  case body =>
    rintro l pre x W ⟨⟨h0, _⟩, hB, hsz⟩ _
    have c0 := h0.cell
    have f0 := h0.frozen
    cases hbit : bitQ n x.val
    · have HP := Lib.hid (pw_no (pre := pre) hbit)
      gi_wp2_with (refine ⟨trivial, ?_⟩; gi_at_call 18; refine (CallsIn.inRound l (callsIn_wide.2 (mul_any _ _ _))).mono ?_; rintro e w' ⟨rfl, hb1⟩; have c1 := (hb1.cell (p := ⟨w.heap.size, 0, none⟩) (by simp; omega)).trans c0; have f1 := (hb1.frozen (p := ⟨w.heap.size, 0, none⟩) (by simp; omega)).trans f0)
      refine ⟨(keepsOthers_below hb1).trans (KeepsOthers.setCell _ _ _), fun hb => (boxed_below hb hb1 hb.lt).other (by omega) _, ⟨by rw [← HP.out]; exact (boxed_below h0 hb1 h0.lt).set _, trivial⟩, (hB.trans (hb1.mono (by omega))).setCell (p := ⟨w.heap.size, 0, none⟩) (Nat.le_refl _) _, by have := hb1.size; simp [World.setCell]; omega⟩
    · have HP := Lib.hid (pw_yes (pre := pre) hbit)
      gi_wp2_with (first | (refine ⟨trivial, ?_⟩; gi_at_call 18; refine (CallsIn.inRound l (callsIn_wide.2 (mul_any _ _ _))).mono ?_; rintro e w' ⟨rfl, hb1⟩; have c1 := (hb1.cell (p := ⟨w.heap.size, 0, none⟩) (by simp; omega)).trans c0; have f1 := (hb1.frozen (p := ⟨w.heap.size, 0, none⟩) (by simp; omega)).trans f0) | (refine ⟨trivial, ?_⟩; gi_at_call 33; refine (CallsIn.inRound l (callsIn_wide.2 (byX_any _ _))).mono ?_; rintro e w' ⟨rfl, rfl⟩))
      refine ⟨((keepsOthers_below hb1).trans (KeepsOthers.setCell _ _ _)).trans (KeepsOthers.setCell _ _ _), fun hb => ((boxed_below hb hb1 hb.lt).other (by omega) _).other (by omega) _, ⟨by rw [← HP.out]; exact ((boxed_below h0 hb1 h0.lt).set _).set _, trivial⟩, ((hB.trans (hb1.mono (by omega))).setCell (p := ⟨w.heap.size, 0, none⟩) (Nat.le_refl _) _).setCell (p := ⟨w.heap.size, 0, none⟩) (Nat.le_refl _) _, by have := hb1.size; simp [World.setCell]; omega⟩
  case done =>
    rintro D ys W hD rfl ⟨⟨h0, _⟩, hB, _⟩ hK
    have c2 := h0.cell
    rw [numOf_all] at c2
    gi_wp2
    refine ⟨by simp, .inl ⟨_, _, rfl, run_takeDeferred hK, ?_⟩⟩
    exact ⟨_, results_tmp rfl _ _ _, rfl, hB.trans (belowK_b (w := w) (Nat.le_refl _) W D _ _ (by simp at hD; omega) hK rfl rfl)⟩
  case stop =>
    rintro D c pre W hD _ h _
    exact h.elim
theorem Sm.power_any (n : BitVec 64) (w : World) : Calls Tryd.prog 36 #[.int .u64 (iq n)] w fun e W' => e = .returned (.int .u32 (iv (pw n.toNat))) ∧ Below w.heap.size w W' := callsIn_wide.1 (power_in n w)
