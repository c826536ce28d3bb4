/-
  The contract of Mul: at every two words the product, and nothing that lay has turned.
-/
import Derived.Test.YtekbojfialjblaaDoorWalkA
import Derived.Test.YtekbojfialjblaaDoorWalkB
namespace Go.Proofs
open Go.RowKit Go.Shelf Sm
attribute [local go_sem] Oper.semAt_some
theorem Sm.bits32_stops (F : Fence) (n : Nat) (h42 : F.fn 42) (hro : F.round = none) (hn : 1 ≤ n) (B : Nat) (x : BitVec 32) (w : World) (hB : Boxed w B 24 (.int .u32 (iv x))) :
    SeqStopsK F n Tryd.prog 42 #[.pointer (some ⟨B, 0, none⟩)] (enc32 x) (KeepB B (.int .u32 (iv x))) (fun ys => ys = upto 32) (fun pre => ∃ k, k < 32 ∧ pre = upto (k + 1)) 32 w := fun l J Jx W hW _ _ hY h0 =>
  bits32_in F n h42 hro hn l B x J Jx hY W ((hW.block B hB.lt).trans hB) h0
set_option maxHeartbeats 400000 in
theorem Sm.bits_any (x : BitVec 32) (w : World) : Calls Tryd.prog 32 #[.int .u32 (iv x)] w fun e w' => e = .returned (.func (.func 42) #[] #[.pointer (some ⟨w.heap.size, 0, none⟩)]) ∧ w.alloc (.cells #[.int .u32 (iv x)] 24) = w' := by
  go_enter Tryd.func32, Tryd.ntmps32
  go_wp2
  go_ret
  exact ⟨rfl, rfl⟩
theorem Sm.keepB_t {B : Nat} {v : Value} {X Y Z : World} (h : KeepB B v X Y) (k : KeepB B v Y Z) : KeepB B v X Z := fun hb => k (h hb)
theorem Sm.boxed_putObj {B : Nat} {t : TypeId} {v : Value} {W : World} {l : Nat} {o : Obj} (o' : Obj) (h : W.heap[l]? = some o) (ho : o.isCells = false) (hb : Boxed W B t v) : Boxed (W.putObj l o') B t v :=
  hb.kept (grownBy_putObj' W l o') (fun e => by
    cases e
    rw [show W.heap[_]? = _ from hb] at h
    cases h; cases ho)
theorem Sm.keepB_b {B : Nat} {v : Value} (W : World) (l : Nat) (o o' : Obj) (h : W.heap[l]? = some o) (ho : o.isCells = false) : KeepB B v W (W.putObj l o') := fun hb => boxed_putObj o' h ho hb
set_option maxRecDepth 100000 in
set_option maxHeartbeats 2000000 in
theorem Sm.mul_in (a b : BitVec 32) (w : World) :
    CallsIn Fence.wide 3 Tryd.prog 18 #[.int .u32 (iv a), .int .u32 (iv b)] w fun e W' => e = .returned (.int .u32 (iv (mul a b))) ∧ Below w.heap.size w W' := by
  refine callsIn_of_wp_marks Tryd.func18 rfl trivial ?_ rfl
  simp only [Tryd.ntmps18, List.size_toArray, List.length_cons, List.length_nil, Nat.reduceAdd, Nat.reduceSub, Array.replicate_succ, Array.replicate_zero, List.push_toArray, List.append_toArray, List.nil_append, List.cons_append]
  gi_wp2_with (refine ⟨trivial, ?_⟩; gi_at_call 32; refine (callsIn_wide.2 (bits_any _ _)).mono ?_; rintro e w' ⟨rfl, rfl⟩)
  refine wpIn_wide.2 (wp_scope_straight ((wpIn_wide (n := 3)).1 ?_))
  gi_wp2
  refine wpIn_label ?_
  gi_wp2_with (refine ⟨trivial, ?_⟩; gi_at_call 32; refine (callsIn_wide.2 (bits_any _ _)).mono ?_; rintro e w' ⟨rfl, rfl⟩)
  have hx0 : Boxed ((((w.alloc (.cells #[.int .u32 (iv a)] 24)).alloc (.cells #[.int .u32 (iv b)] 24)).alloc (.cells #[.int .u32 0] 24)).alloc (.cells #[.int .u32 (iv a)] 24)) w.heap.size 24 (.int .u32 (iv a)) := (((Boxed.new w 24 _).alloc _).alloc _).alloc _
  have hx1 : Boxed ((((w.alloc (.cells #[.int .u32 (iv a)] 24)).alloc (.cells #[.int .u32 (iv b)] 24)).alloc (.cells #[.int .u32 0] 24)).alloc (.cells #[.int .u32 (iv a)] 24)) (w.heap.size + 1) 24 (.int .u32 (iv b)) := by
    have := Boxed.new (w.alloc (.cells #[.int .u32 (iv a)] 24)) 24 (.int .u32 (iv b))
    rw [World.size_alloc] at this
    exact (this.alloc _).alloc _
  have hx2 : Boxed ((((w.alloc (.cells #[.int .u32 (iv a)] 24)).alloc (.cells #[.int .u32 (iv b)] 24)).alloc (.cells #[.int .u32 0] 24)).alloc (.cells #[.int .u32 (iv a)] 24)) (w.heap.size + 1 + 1) 24 (.int .u32 (iv 0#32)) := by
    have := Boxed.new ((w.alloc (.cells #[.int .u32 (iv a)] 24)).alloc (.cells #[.int .u32 (iv b)] 24)) 24 (.int .u32 0)
    simp only [World.size_alloc] at this
    exact this.alloc _
  have hx3 : Boxed ((((w.alloc (.cells #[.int .u32 (iv a)] 24)).alloc (.cells #[.int .u32 (iv b)] 24)).alloc (.cells #[.int .u32 0] 24)).alloc (.cells #[.int .u32 (iv a)] 24)) (w.heap.size + 1 + 1 + 1) 24 (.int .u32 (iv a)) := by
    have := Boxed.new (((w.alloc (.cells #[.int .u32 (iv a)] 24)).alloc (.cells #[.int .u32 (iv b)] 24)).alloc (.cells #[.int .u32 0] 24)) 24 (.int .u32 (iv a))
    simp only [World.size_alloc] at this
    exact this
  have hB0 : Below w.heap.size w ((((w.alloc (.cells #[.int .u32 (iv a)] 24)).alloc (.cells #[.int .u32 (iv b)] 24)).alloc (.cells #[.int .u32 0] 24)).alloc (.cells #[.int .u32 (iv a)] 24)) := ((((Below.refl _ w).alloc (Nat.le_refl _) _).alloc (by simp) _).alloc (by simp; omega) _).alloc (by simp; omega) _
  refine wpIn_rangeFunc_ownF rfl (by omega) (gf := 42) (lb := #[.pointer (some ⟨w.heap.size + 1 + 1 + 1, 0, none⟩)]) rfl trivial (enters_of Tryd.func42 (by kernel_rfl) rfl)
    (bits32_stops Fence.wide (3 - 1) trivial rfl (by omega) (w.heap.size + 1 + 1 + 1) a _ hx3) keepB_t (fun W l o o' _ h ho _ => keepB_b W l o o' h ho) (Below.refl _ _) (fun _ => rfl)
    (fun pre W => (Boxed W w.heap.size 24 (.int .u32 (iv a)) ∧ Boxed W (w.heap.size + 1) 24 (.int .u32 (iv (iter pre.length b))) ∧ Boxed W (w.heap.size + 1 + 1) 24 (.int .u32 (iv (prodOf a b pre)))) ∧ Below w.heap.size w W)
    (fun c pre W => (c = .exit 0 ∧ ∃ pre' x, pre = pre' ++ [x] ∧ a <<< x.val = 0#32 ∧ Boxed W (w.heap.size + 1 + 1) 24 (.int .u32 (iv (prodOf a b pre')))) ∧ Below w.heap.size w W)
    ?hI ?hIx ⟨⟨hx0, hx1, hx2⟩, hB0⟩
    (fun x => { tmps := #[.int .u32 (iv a), .int .u32 (iv b), .pointer (some ⟨w.heap.size, 0, none⟩), .pointer (some ⟨w.heap.size + 1, 0, none⟩), .int .u32 0, .pointer (some ⟨w.heap.size + 1 + 1, 0, none⟩), .int .i64 x.val, .bool (bitAt a x.val), .int .u32 (iv a), .func (.func 42) #[] #[.pointer (some ⟨w.heap.size + 1 + 1 + 1, 0, none⟩)], .int .i64 x.val, .bool (bitAt a x.val), undef, undef, undef, undef, undef, undef, undef, undef, undef, undef, undef, undef, undef], defers := [] }) ?assign ?body ?done ?stop
  case hI =>
    exact OwnFrom.and (Own.from (fun s X Y row hs hg hr => ⟨boxed_own w.heap.size 24 (fun _ : List (Fin 32) => .int .u32 (iv a)) s X Y row hs.1 hg hr, boxed_own (w.heap.size + 1) 24 (fun p : List (Fin 32) => .int .u32 (iv (iter p.length b))) s X Y row hs.2.1 hg hr, boxed_own (w.heap.size + 1 + 1) 24 (fun p : List (Fin 32) => .int .u32 (iv (prodOf a b p))) s X Y row hs.2.2 hg hr⟩) _) (ownFrom_below (Nat.le_refl _) (by simp; omega))
  case hIx =>
    intro c
    refine OwnFrom.and (Own.from (fun s X Y row hs hg hr => ?_) _) (ownFrom_below (Nat.le_refl _) (by simp; omega))
    obtain ⟨hc, p, x, hp, hz, hb⟩ := hs
    exact ⟨hc, p, x, hp, hz, boxed_own (w.heap.size + 1 + 1) 24 (fun p : List (Fin 32) => .int .u32 (iv (prodOf a b p))) p X Y row hb hg hr⟩
  case assign =>
    intro l x W K hK
    dsimp only [enc32]
    gi_wp2
    exact hK
  case body =>
    rintro l pre x W ⟨⟨h0, h1, h2⟩, hB⟩ _
    have c0 := h0.cell
    have c1 := h1.cell
    have c2 := h2.cell
    have f1 := h1.frozen
    have f2 := h2.frozen
    have hxl := x.isLt
    have ht := shl_test a x.val
    have hn : iter (pre ++ [x]).length b = byx (iter pre.length b) := by rw [List.length_append, ← iter_succ']; rfl
    have HN := Lib.hid hn
    clear hn
    by_cases hz : a <<< x.val = 0#32
    · have HZ := Lib.hid hz
      rw [decide_eq_true hz] at ht
      clear hz
      gi_wp2
      exact ⟨KeepsOthers.refl _, ⟨rfl, pre, x, rfl, HZ.out, h2⟩, hB⟩
    · rw [decide_eq_false hz] at ht
      clear hz
      cases hbit : bitAt a x.val
      · have hp := prodOf_no (b := b) (pre := pre) hbit
        have HP := Lib.hid hp
        clear hp
        gi_wp2_with (refine ⟨trivial, ?_⟩; gi_at_call 33; refine (CallsIn.inRound l (callsIn_wide.2 (byX_any _ _))).mono ?_; rintro e w' ⟨rfl, rfl⟩)
        refine ⟨KeepsOthers.setCell _ _ _, fun hb => hb.other (by omega) _, ⟨h0.other (by omega) _, ?_, ?_⟩, hB.setCell (p := ⟨w.heap.size + 1, 0, none⟩) (by simp) _⟩
        · rw [HN.out]; exact h1.set _
        · rw [← HP.out]; exact h2.other (by omega) _
      · have hp := prodOf_yes (b := b) (pre := pre) hbit
        have hx := bits_xor (prodOf a b pre) (iter pre.length b)
        rw [hp] at hx
        clear hp
        gi_wp2_with (refine ⟨trivial, ?_⟩; gi_at_call 33; refine (CallsIn.inRound l (callsIn_wide.2 (byX_any _ _))).mono ?_; rintro e w' ⟨rfl, rfl⟩)
        refine ⟨(KeepsOthers.setCell _ _ _).trans (KeepsOthers.setCell _ _ _), fun hb => (hb.other (by omega) _).other (by omega) _, ⟨(h0.other (by omega) _).other (by omega) _, ?_, ?_⟩, (hB.setCell (p := ⟨w.heap.size + 1 + 1, 0, none⟩) (by simp; omega) _).setCell (p := ⟨w.heap.size + 1, 0, none⟩) (by simp) _⟩
        · rw [HN.out]; exact (h1.other (by omega) _).set _
        · exact (h2.set _).other (by omega) _
  case done =>
    rintro D ys W hD rfl ⟨⟨_, _, h2⟩, hB⟩ hK
    have c2 := h2.cell
    rw [prodOf_all] at c2
    gi_wp2
    refine ⟨by simp, .inl ⟨_, _, rfl, run_takeDeferred hK, ?_⟩⟩
    exact ⟨_, results_tmp rfl _ _ _, rfl, hB.trans (belowK_b (w := w) (Nat.le_refl _) W D _ _ (by simp at hD; omega) hK rfl rfl)⟩
  case stop =>
    rintro D c pre W hD ⟨k, hk, rfl⟩ ⟨⟨rfl, pre', x, hp, hz, h2⟩, hB⟩ hK
    have c2 := h2.cell
    rw [prodOf_stop hk hp hz] at c2
    clear hp hz
    gi_wp2
    refine ⟨by simp, .inl ⟨_, _, rfl, run_takeDeferred hK, ?_⟩⟩
    exact ⟨_, results_tmp rfl _ _ _, rfl, hB.trans (belowK_b (w := w) (Nat.le_refl _) W D _ _ (by simp at hD; omega) hK rfl rfl)⟩
theorem Sm.mul_any (a b : BitVec 32) (w : World) : Calls Tryd.prog 18 #[.int .u32 (iv a), .int .u32 (iv b)] w fun e W' => e = .returned (.int .u32 (iv (mul a b))) ∧ Below w.heap.size w W' := callsIn_wide.1 (mul_in a b w)
