/-
  Put takes. Conditions: as each theorem names them.
-/
import Derived.Lib.Hide
import Derived.Deep.Upon
import Derived.Deep.CutRange
import Derived.Test.YtkipjlcbmiagcaaNtI
import Derived.Test.YtkipjlcbmiagcaaNtK
import Derived.Test.YtkipjlcbmiagcaaNtL
namespace Go.Proofs
open Go Go.RowKit Sm Go.Lib Go.Maps Go.WideMaps
attribute [local go_sem] Oper.semAt_some
theorem Sm.wp_append_run {P : Program} {o : Oper} {a : Act} {w w' : World} {K : Act → World → Prop} {Q : Exit → Act → World → Prop} (s x : Operand) (t : TypeId)
    (ho : o.op = .call { callee := .builtin .append, args := #[s, x], argTypes := #[t, t] }) (v y r : Value) (hs : a.eval s = v) (hx : a.eval x = y) (hrun : (Builtin.append_ #[t, t] o.type #[v, y]).run P w = .ok r w') (h : K (a.put o.dst r) w') : Oper.wp P o a w K Q := by
  unfold Oper.wp execOp
  simp only [ho, resolve, invoke, builtin, Sem.run_bind, Sem.run_pure, Result.andThen_ok, List.map_toArray, List.map_cons, List.map_nil, hs, hx, hrun]
  exact h
theorem Sm.heap_setCells {w : World} {B i : Nat} {cs : Array Value} {u : Value} {t : TypeId} {fr : Nat × Nat} (h : w.heap[B]? = some (.cells cs t fr)) : (w.setCell ⟨B, i, none⟩ u).heap[B]? = some (.cells (cs.setIfInBounds i u) t fr) := by
  show (w.heap.modify B _)[B]? = _
  rw [Array.getElem?_modify, if_pos rfl, h]
  rfl
def Sm.put4W (W : World) (b : Nat) (u0 u1 u2 u3 : Value) : World := (((W.setCell ⟨b, 0, none⟩ u0).setCell ⟨b, 1, none⟩ u1).setCell ⟨b, 2, none⟩ u2).setCell ⟨b, 3, none⟩ u3
theorem Sm.put4 {W : World} {b : Nat} {a0 a1 a2 a3 : Value} {t : TypeId} (h : W.heap[b]? = some (.cells #[a0, a1, a2, a3] t (0, 0))) (u0 u1 u2 u3 : Value) : (put4W W b u0 u1 u2 u3).heap[b]? = some (.cells #[u0, u1, u2, u3] t (0, 0)) :=
  heap_setCells (i := 3) (u := u3) (heap_setCells (i := 2) (u := u2) (heap_setCells (i := 1) (u := u1) (heap_setCells (i := 0) (u := u0) h)))
theorem Sm.put4_but (W : World) (b : Nat) (u0 u1 u2 u3 : Value) : But (fun q => q = b) W (put4W W b u0 u1 u2 u3) :=
  ((((But.refl (fun q => q = b) W).set ⟨b, 0, none⟩ _ (.inl rfl)).set ⟨b, 1, none⟩ _ (.inl rfl)).set ⟨b, 2, none⟩ _ (.inl rfl)).set ⟨b, 3, none⟩ _ (.inl rfl)
set_option maxRecDepth 100000 in
set_option maxHeartbeats 4000000 in
theorem Sm.put_ok {p Mb base : Nat} {s : NSt} {D : List (Int × Int)} {A0 : Option Addr} {cap0 : Nat} {ms : List MsgM} (x y : Int) (A : Option Addr) (n c B : Nat) (l : List (BitVec 8)) (w : World) (h : NAt w p Mb base s D A0 cap0 ms)
    (hl : lnkB s x y = true) (hn : n ≤ 8192) (hd : (x, y) ∉ D) (hm : (ms.length : Int) ≠ s.most) (hc : s.came < 1000000000) (hln : l.length = n) (hrd : Rd w B A l) (hB : B ≤ w.heap.size) :
    Calls Try.prog 12 #[.pointer (some ⟨p, 0, none⟩), .int .i64 x, .int .i64 y, .slice A n c] w fun e w' => ∃ A' cap' m, e = .returned (.tuple #[.int .i64 s.came, .int .i64 0]) ∧ NAt w' p Mb base ⟨s.ends, s.most, s.came + 1⟩ D A' cap' (ms ++ [m]) ∧ m.num = s.came ∧ m.src = x ∧ m.dst = y ∧ m.bytes = l ∧ But (PMay p (.slice A0 ms.length cap0)) w w' ∧ ((Value.slice A' (ms.length + 1) cap').ownBlock = (Value.slice A0 ms.length cap0).ownBlock ∨ ∀ q, (Value.slice A' (ms.length + 1) cap').ownBlock = some q → w.heap.size ≤ q) ∧ ∀ b, m.sl.ownBlock = some b → w.heap.size ≤ b := by
  have hi := lnkB_i64 hl h.lim.2.1
  have HC1 := Lib.hid (fun W b (hb : Below w.heap.size w W) hx => none1_yes b W (h.keep hb) hx)
  have HC2 : Hid (false = false → ∀ W b1 b2 b3, Below w.heap.size w W → W.heap[b1]? = some (.cells #[.pointer (some ⟨p, 0, none⟩)] 25 (0, 0)) → W.heap[b2]? = some (.cells #[.int .i64 x] 3 (0, 0)) → W.heap[b3]? = some (.cells #[.int .i64 y] 3 (0, 0)) →
      Calls Try.prog 60 #[.pointer (some ⟨b1, 0, none⟩), .pointer (some ⟨b2, 0, none⟩), .pointer (some ⟨b3, 0, none⟩)] W fun e w' => e = .returned (.bool false) ∧ Below W.heap.size W w') := Lib.hid (fun _ W b1 b2 b3 hb h1 h2 h3 => by
    have h9 := noLink1_any b1 b2 b3 x y W (h.keep hb) h1 h2 h3
    rw [hl] at h9
    exact h9)
  have HC3 : Hid (∀ W b, W.heap[b]? = some (.cells #[.slice A n c] 39 (0, 0)) → Calls Try.prog 35 #[.pointer (some ⟨b, 0, none⟩)] W fun e w' => e = .returned (.bool false) ∧ Below W.heap.size W w') := Lib.hid (fun W b h1 => by
    have h9 := put1_any b n c A W (by omega) h1
    rw [decide_eq_false (by omega)] at h9
    exact h9)
  have HC4 : Hid (false = false → false = false → ∀ W b1 b2 b3, Below w.heap.size w W → W.heap[b1]? = some (.cells #[.pointer (some ⟨p, 0, none⟩)] 25 (0, 0)) → W.heap[b2]? = some (.cells #[.int .i64 x] 3 (0, 0)) → W.heap[b3]? = some (.cells #[.int .i64 y] 3 (0, 0)) →
      Calls Try.prog 36 #[.pointer (some ⟨b1, 0, none⟩), .pointer (some ⟨b2, 0, none⟩), .pointer (some ⟨b3, 0, none⟩)] W fun e w' => e = .returned (.bool false) ∧ Below W.heap.size W w') := Lib.hid (fun _ _ W b1 b2 b3 hb h1 h2 h3 => by
    have h9 := put2_any b1 b2 b3 x y W (h.keep hb) hi.2.2.2.2.1 hi.2.2.2.2.2 h1 h2 h3
    rw [decide_eq_false hd] at h9
    exact h9)
  have HC5 : Hid (false = false → false = false → ∀ W b, Below w.heap.size w W → W.heap[b]? = some (.cells #[.pointer (some ⟨p, 0, none⟩)] 25 (0, 0)) → Calls Try.prog 37 #[.pointer (some ⟨b, 0, none⟩)] W fun e w' => e = .returned (.bool false) ∧ Below W.heap.size W w') := Lib.hid (fun _ _ W b hb h1 => by
    have h9 := put3_any b W (h.keep hb) h1
    rw [decide_eq_false hm] at h9
    exact h9)
  have HH := Lib.hid h
  have HI := Lib.hid hi
  have HRD := Lib.hid hrd
  have HLN := Lib.hid hln
  have HM := Lib.hid hm
  obtain ⟨kC, hK⟩ : ∃ kC, s.came = kC := ⟨_, rfl⟩
  obtain ⟨N, hN⟩ : ∃ N, ms.length = N := ⟨_, rfl⟩
  have HK := Lib.hid hK
  have HNN := Lib.hid hN
  have hlim := h.lim
  rw [hK] at hc hlim ⊢
  rw [hN] at hlim ⊢
  have hK0 : 0 ≤ kC := hlim.2.2.2.2.2.1
  have hN0 : (N : Int) ≤ 4096 := by omega
  clear h hl hd hm hln hrd hi hK hN hlim
  go_enter Try.func12, Try.ntmps12
  go_wp2
  obtain ⟨W0, hW0⟩ : ∃ V, ((((w.alloc (.cells #[.pointer (some ⟨p, 0, none⟩)] 25)).alloc (.cells #[.int .i64 x] 3)).alloc (.cells #[.int .i64 y] 3)).alloc (.cells #[.slice A n c] 39)) = V := ⟨_, rfl⟩
  rw [hW0]
  have HBN : Hid (W0.heap[w.heap.size]? = some (.cells #[.pointer (some ⟨p, 0, none⟩)] 25 (0, 0))) := Lib.hid (by rw [← hW0]; exact old_alloc _ (old_alloc _ (old_alloc _ (new_alloc _ rfl))))
  have HBF : Hid (W0.heap[w.heap.size + 1]? = some (.cells #[.int .i64 x] 3 (0, 0))) := Lib.hid (by rw [← hW0]; exact old_alloc _ (old_alloc _ (new_alloc _ (by simp))))
  have HBT : Hid (W0.heap[w.heap.size + 2]? = some (.cells #[.int .i64 y] 3 (0, 0))) := Lib.hid (by rw [← hW0]; exact old_alloc _ (new_alloc _ (by simp)))
  have HBB : Hid (W0.heap[w.heap.size + 3]? = some (.cells #[.slice A n c] 39 (0, 0))) := Lib.hid (by rw [← hW0]; exact new_alloc _ (by simp))
  have HW0 : Hid (Below w.heap.size w W0) := Lib.hid (by rw [← hW0]; exact bel4 _ _ _ _ _)
  clear hW0
  have hS0 : (fun W => Below W0.heap.size W0 W) W0.drew := (Below.refl _ W0).drew
  refine wp_region_held_drew (S := fun W => Below W0.heap.size W0 W) rfl hS0 (fun hHeld => ?_)
  simp only [List.size_toArray, List.length_cons, List.length_nil, Nat.reduceAdd]
  have HB0 : Hid (Below W0.heap.size W0 W0.drew) := Lib.hid (Below.refl _ _).drew
  obtain ⟨V0, hV0⟩ : ∃ V, W0.drew = V := ⟨_, rfl⟩
  rw [hV0] at hHeld hS0 HB0 ⊢
  clear hV0
  refine wpAnyH_take (i := 0) (v := .pointer (some ⟨p, 0, none⟩)) rfl (by kernel_rfl) (by kernel_rfl) (by kernel_rfl) (fun _ _ _ h => h) (Or.inl ⟨by rfl, ?_⟩) (by assumption) ?_
  · intro wx hs1; have k0 := cell_of_heap ((hs1.block _ (Array.getElem?_eq_some_iff.1 HBN.out).1).trans HBN.out) 0; simp only [List.getElem?_toArray, List.getElem?_cons_zero] at k0; go_simp
  (try simp only [Act.put, List.getElem_toArray, List.getElem_cons_zero, List.setIfInBounds_toArray, List.set_cons_zero, List.set_cons_succ])
  refine wpAnyH_take (i := 2) (v := .pointer (some ⟨p, 0, none⟩)) rfl (by kernel_rfl) (by kernel_rfl) (by kernel_rfl) (fun _ _ _ h => h) (Or.inl ⟨by rfl, ?_⟩) (by assumption) ?_
  · intro wx hs1; have k0 := cell_of_heap ((hs1.block _ (Array.getElem?_eq_some_iff.1 HBN.out).1).trans HBN.out) 0; simp only [List.getElem?_toArray, List.getElem?_cons_zero] at k0; go_simp
  (try simp only [Act.put, List.getElem_toArray, List.getElem_cons_succ, List.getElem_cons_zero, List.setIfInBounds_toArray, List.set_cons_zero, List.set_cons_succ])
  refine wpAnyH_take (i := 3) (v := .int .i64 x) rfl (by kernel_rfl) (by kernel_rfl) (by kernel_rfl) (fun _ _ _ h => h) (Or.inl ⟨by rfl, ?_⟩) (by assumption) ?_
  · intro wx hs1; have k0 := cell_of_heap ((hs1.block _ (Array.getElem?_eq_some_iff.1 HBF.out).1).trans HBF.out) 0; simp only [List.getElem?_toArray, List.getElem?_cons_zero] at k0; go_simp
  (try simp only [Act.put, List.getElem_toArray, List.getElem_cons_succ, List.getElem_cons_zero, List.setIfInBounds_toArray, List.set_cons_zero, List.set_cons_succ])
  refine wpAnyH_take (i := 4) (v := .int .i64 y) rfl (by kernel_rfl) (by kernel_rfl) (by kernel_rfl) (fun _ _ _ h => h) (Or.inl ⟨by rfl, ?_⟩) (by assumption) ?_
  · intro wx hs1; have k0 := cell_of_heap ((hs1.block _ (Array.getElem?_eq_some_iff.1 HBT.out).1).trans HBT.out) 0; simp only [List.getElem?_toArray, List.getElem?_cons_zero] at k0; go_simp
  (try simp only [Act.put, List.getElem_toArray, List.getElem_cons_succ, List.getElem_cons_zero, List.setIfInBounds_toArray, List.set_cons_zero, List.set_cons_succ])
  refine wpAnyH_take (i := 6) (v := .func (.func 35) #[] #[.pointer (some ⟨w.heap.size + 3, 0, none⟩)]) rfl (by kernel_rfl) (by kernel_rfl) (by kernel_rfl) (fun _ _ _ h => h) (Or.inl ⟨by rfl, ?_⟩) (by assumption) ?_
  · intro wx hs1; go_simp
  (try simp only [Act.put, List.getElem_toArray, List.getElem_cons_succ, List.getElem_cons_zero, List.setIfInBounds_toArray, List.set_cons_zero, List.set_cons_succ])
  refine wpAnyH_take (i := 7) (v := .agg #[.func (.func 35) #[] #[.pointer (some ⟨w.heap.size + 3, 0, none⟩)], .int .i64 3]) rfl (by kernel_rfl) (by kernel_rfl) (by kernel_rfl) (fun _ _ _ h => h) (Or.inl ⟨by rfl, ?_⟩) (by assumption) ?_
  · intro wx hs1; go_simp
  (try simp only [Act.put, List.getElem_toArray, List.getElem_cons_succ, List.getElem_cons_zero, List.setIfInBounds_toArray, List.set_cons_zero, List.set_cons_succ])
  refine wpAnyH_take (i := 8) (v := .func (.func 36) #[] #[.pointer (some ⟨w.heap.size, 0, none⟩), .pointer (some ⟨w.heap.size + 1, 0, none⟩), .pointer (some ⟨w.heap.size + 2, 0, none⟩)]) rfl (by kernel_rfl) (by kernel_rfl) (by kernel_rfl) (fun _ _ _ h => h) (Or.inl ⟨by rfl, ?_⟩) (by assumption) ?_
  · intro wx hs1; go_simp
  (try simp only [Act.put, List.getElem_toArray, List.getElem_cons_succ, List.getElem_cons_zero, List.setIfInBounds_toArray, List.set_cons_zero, List.set_cons_succ])
  refine wpAnyH_take (i := 9) (v := .agg #[.func (.func 36) #[] #[.pointer (some ⟨w.heap.size, 0, none⟩), .pointer (some ⟨w.heap.size + 1, 0, none⟩), .pointer (some ⟨w.heap.size + 2, 0, none⟩)], .int .i64 210]) rfl (by kernel_rfl) (by kernel_rfl) (by kernel_rfl) (fun _ _ _ h => h) (Or.inl ⟨by rfl, ?_⟩) (by assumption) ?_
  · intro wx hs1; go_simp
  (try simp only [Act.put, List.getElem_toArray, List.getElem_cons_succ, List.getElem_cons_zero, List.setIfInBounds_toArray, List.set_cons_zero, List.set_cons_succ])
  refine wpAnyH_take (i := 10) (v := .func (.func 37) #[] #[.pointer (some ⟨w.heap.size, 0, none⟩)]) rfl (by kernel_rfl) (by kernel_rfl) (by kernel_rfl) (fun _ _ _ h => h) (Or.inl ⟨by rfl, ?_⟩) (by assumption) ?_
  · intro wx hs1; go_simp
  (try simp only [Act.put, List.getElem_toArray, List.getElem_cons_succ, List.getElem_cons_zero, List.setIfInBounds_toArray, List.set_cons_zero, List.set_cons_succ])
  refine wpAnyH_take (i := 11) (v := .agg #[.func (.func 37) #[] #[.pointer (some ⟨w.heap.size, 0, none⟩)], .int .i64 211]) rfl (by kernel_rfl) (by kernel_rfl) (by kernel_rfl) (fun _ _ _ h => h) (Or.inl ⟨by rfl, ?_⟩) (by assumption) ?_
  · intro wx hs1; go_simp
  (try simp only [Act.put, List.getElem_toArray, List.getElem_cons_succ, List.getElem_cons_zero, List.setIfInBounds_toArray, List.set_cons_zero, List.set_cons_succ])
  refine wpAnyH_ready (rs := [1]) (by kernel_rfl) (by simp) (AllReadyH.cons rfl (fun K hK => ?_) AllReadyH.nil)
  go_simp
  go_at_call 33
  (with_reducible refine (none_any (some ⟨p, 0, none⟩) _).mono ?_)
  rintro e w1 ⟨rfl, hx1, hb⟩
  try dsimp only
  have hVs := HB0.out; have HX1 := Lib.hid hx1; have HB01 := Lib.hid hb; have HB1 : Hid (Below W0.heap.size W0 w1) := Lib.hid (HB0.out.trans (hb.mono HB0.out.size)); clear hb hx1; have hS := HB1.out
  refine hK.out _ _ hS (fun _ => ?_)
  clear hK K
  (try simp only [Act.put, List.getElem_toArray, List.getElem_cons_succ, List.getElem_cons_zero, List.setIfInBounds_toArray, List.set_cons_zero, List.set_cons_succ])
  refine wpAnyH_ready (rs := [5]) (by kernel_rfl) (by simp) (AllReadyH.cons rfl (fun K hK => ?_) AllReadyH.nil)
  go_simp
  go_at_call 34
  (with_reducible refine (noLink_any (some ⟨p, 0, none⟩) x y _).mono ?_)
  rintro e w2 ⟨rfl, hn1, hn2, hn3, hb⟩
  try dsimp only
  have HX2 := Lib.hid hn1; have HX3 := Lib.hid hn2; have HX4 := Lib.hid hn3; have HB12 := Lib.hid hb; have HB2 : Hid (Below W0.heap.size W0 w2) := Lib.hid (HB1.out.trans (hb.mono HB1.out.size)); clear hb hn1 hn2 hn3; have hS := HB2.out
  refine hK.out _ _ hS (fun _ => ?_)
  clear hK K
  (try simp only [Act.put, List.getElem_toArray, List.getElem_cons_succ, List.getElem_cons_zero, List.setIfInBounds_toArray, List.set_cons_zero, List.set_cons_succ])
  refine wpAnyH_ready (rs := [12]) (by kernel_rfl) (by simp) (AllReadyH.cons rfl (fun K hK => ?_) AllReadyH.nil)
  go_simp
  try dsimp only
  have hS := HB2.out.alloc HB2.out.size (.cells #[.func (.func 59) #[] #[.pointer (some ⟨V0.heap.size, 0, none⟩)], .int .i64 1, .func (.func 60) #[] #[.pointer (some ⟨w1.heap.size, 0, none⟩), .pointer (some ⟨w1.heap.size + 1, 0, none⟩), .pointer (some ⟨w1.heap.size + 2, 0, none⟩)], .int .i64 2, .func (.func 35) #[] #[.pointer (some ⟨w.heap.size + 3, 0, none⟩)], .int .i64 3, .func (.func 36) #[] #[.pointer (some ⟨w.heap.size, 0, none⟩), .pointer (some ⟨w.heap.size + 1, 0, none⟩), .pointer (some ⟨w.heap.size + 2, 0, none⟩)], .int .i64 210, .func (.func 37) #[] #[.pointer (some ⟨w.heap.size, 0, none⟩)], .int .i64 211] 78)
  refine hK.out _ _ hS (fun _ => ?_)
  clear hK K
  (try simp only [Act.put, List.getElem_toArray, List.getElem_cons_succ, List.getElem_cons_zero, List.setIfInBounds_toArray, List.set_cons_zero, List.set_cons_succ])
  have hf := first_new [⟨59, #[.pointer (some ⟨V0.heap.size, 0, none⟩)], 1, false⟩, ⟨60, #[.pointer (some ⟨w1.heap.size, 0, none⟩), .pointer (some ⟨w1.heap.size + 1, 0, none⟩), .pointer (some ⟨w1.heap.size + 2, 0, none⟩)], 2, false⟩, ⟨35, #[.pointer (some ⟨w.heap.size + 3, 0, none⟩)], 3, false⟩, ⟨36, #[.pointer (some ⟨w.heap.size, 0, none⟩), .pointer (some ⟨w.heap.size + 1, 0, none⟩), .pointer (some ⟨w.heap.size + 2, 0, none⟩)], 210, false⟩, ⟨37, #[.pointer (some ⟨w.heap.size, 0, none⟩)], 211, false⟩] 0 rfl 5 W0 w2 #[.func (.func 59) #[] #[.pointer (some ⟨V0.heap.size, 0, none⟩)], .int .i64 1, .func (.func 60) #[] #[.pointer (some ⟨w1.heap.size, 0, none⟩), .pointer (some ⟨w1.heap.size + 1, 0, none⟩), .pointer (some ⟨w1.heap.size + 2, 0, none⟩)], .int .i64 2, .func (.func 35) #[] #[.pointer (some ⟨w.heap.size + 3, 0, none⟩)], .int .i64 3, .func (.func 36) #[] #[.pointer (some ⟨w.heap.size, 0, none⟩), .pointer (some ⟨w.heap.size + 1, 0, none⟩), .pointer (some ⟨w.heap.size + 2, 0, none⟩)], .int .i64 210, .func (.func 37) #[] #[.pointer (some ⟨w.heap.size, 0, none⟩)], .int .i64 211] rfl rfl (by omega) HB2.out (by simp [flNums]) (fun j hj ht W hW => by
    have hbW : Below w.heap.size w W := (HW0.out.trans (HB2.out.mono HW0.out.size)).trans (hW.mono (HW0.out.trans (HB2.out.mono HW0.out.size)).size)
    have hk0 : ∀ {b : Nat} {o : Obj}, W0.heap[b]? = some o → W.heap[b]? = some o := fun {b o} h1 => ((HB2.out.trans (hW.mono HB2.out.size)).block _ (Array.getElem?_eq_some_iff.1 h1).1).trans h1
    have hk2 : ∀ {b : Nat} {o : Obj}, w2.heap[b]? = some o → W.heap[b]? = some o := fun {b o} h1 => (hW.block _ (Array.getElem?_eq_some_iff.1 h1).1).trans h1
    match j, hj, ht with
    | 0, _, _ => exact HC1.out W V0.heap.size hbW (hk2 ((HB12.out.block _ (Array.getElem?_eq_some_iff.1 HX1.out).1).trans HX1.out))
    | 1, _, ht => exact HC2.out (by first | trivial | rfl) W _ _ _ hbW (hk2 HX2.out) (hk2 HX3.out) (hk2 HX4.out)
    | 2, _, _ => exact HC3.out W _ (hk0 HBB.out)
    | 3, _, ht => exact HC4.out (by first | trivial | rfl) (by first | trivial | rfl) W _ _ _ hbW (hk0 HBN.out) (hk0 HBF.out) (hk0 HBT.out)
    | 4, _, ht => exact HC5.out (by first | trivial | rfl) (by first | trivial | rfl) W _ hbW (hk0 HBN.out))
  refine wpAnyH_ready (rs := [13]) (by kernel_rfl) (by simp) (AllReadyH.cons rfl (fun K hK => ?_) AllReadyH.nil)
  go_simp
  go_at_call 32
  (with_reducible refine hf.mono ?_)
  clear hf
  rintro e w3 ⟨rfl, hb⟩
  try dsimp only
  have HB3 := Lib.hid hb; clear hb; have hS := HB3.out
  refine hK.out _ _ hS (fun _ => ?_)
  clear hK K
  (try simp only [Act.put, List.getElem_toArray, List.getElem_cons_succ, List.getElem_cons_zero, List.setIfInBounds_toArray, List.set_cons_zero, List.set_cons_succ])
  refine wpAnyH_take (i := 14) (v := .int .i64 0) rfl (by kernel_rfl) (by kernel_rfl) (by kernel_rfl) (fun _ _ _ h => h) (Or.inl ⟨by rfl, ?_⟩) (by assumption) ?_
  · intro wx hs1; go_simp
  (try simp only [Act.put, List.getElem_toArray, List.getElem_cons_succ, List.getElem_cons_zero, List.setIfInBounds_toArray, List.set_cons_zero, List.set_cons_succ])
  refine wpAnyH_done (by kernel_rfl) ?_ _
  have HB3w : Hid (Below w.heap.size w w3) := Lib.hid (HW0.out.trans (HB3.out.mono HW0.out.size))
  have hk3 : ∀ {b : Nat} {o : Obj}, W0.heap[b]? = some o → w3.heap[b]? = some o := fun {b o} h1 => (HB3.out.block _ (Array.getElem?_eq_some_iff.1 h1).1).trans h1
  have GN := Lib.hid (hk3 HBN.out)
  have GF := Lib.hid (hk3 HBF.out)
  have GT := Lib.hid (hk3 HBT.out)
  have GB := Lib.hid (hk3 HBB.out)
  have GP : Hid (∃ M N2 A2 c2, w3.heap[p]? = some (.cells #[.int .i64 s.ends, .int .i64 M, .int .i64 kC, N2, .slice A2 N c2] 35 (0, 0))) := Lib.hid ⟨_, _, _, _, by have h9 := (HH.out.keep HB3w.out).blk; rw [HK.out, HNN.out] at h9; exact h9⟩
  have HCL : Hid (∀ V, Below w3.heap.size w3 V → Calls Try.prog 38 #[.slice A n c] V fun e w' => ∃ A' c', e = .returned (.slice A' n c') ∧ w'.ownsRow w.heap.size 5 1 (.slice A' n c') n (l.map byteCell) ∧ Below V.heap.size V w' ∧ ∀ g, (Value.slice A' n c').ownBlock = some g → V.heap.size ≤ g) := Lib.hid (fun V hV => by
    have hVw : Below w.heap.size w V := HB3w.out.trans (hV.mono HB3w.out.size)
    refine (clone_any B n c A l V HLN.out (HRD.out.keep (fun q hq => hVw.cell (by omega))) (by have := hVw.size; omega) (by omega)).mono ?_
    rintro e w' ⟨A', c', rfl, h1, h2⟩
    exact ⟨A', c', rfl, own_base h1 hVw.size, h2, fun g e => (h1.lt g e).1⟩)
  go_upto_region 4 with fail
  go_cut [11] from 29 to 37 (fun s11 wx => ∃ (xb : Nat) (A' : Option Addr) (c' : Nat), s11 = .pointer (some ⟨xb, 0, none⟩) ∧ Hid (wx.heap[xb]? = some (.cells #[.int .i64 kC, .int .i64 x, .int .i64 y, .slice A' n c'] 41 (0, 0)) ∧ wx.ownsRow w.heap.size 5 1 (.slice A' n c') n (l.map byteCell) ∧ Below w3.heap.size w3 wx ∧ w3.heap.size ≤ xb))
  case first =>
    have hS0 : (fun W => Below w3.heap.size w3 W) w3.drew := (Below.refl _ w3).drew
    refine wp_region_held_drew (S := fun W => Below w3.heap.size w3 W) rfl hS0 (fun hHeld => ?_)
    simp only [List.size_toArray, List.length_cons, List.length_nil, Nat.reduceAdd]
    have HB0 : Hid (Below w3.heap.size w3 w3.drew) := Lib.hid (Below.refl _ _).drew
    obtain ⟨V0, hV0⟩ : ∃ V, w3.drew = V := ⟨_, rfl⟩
    rw [hV0] at hHeld hS0 HB0 ⊢
    clear hV0
    refine wpAnyH_take (i := 0) (v := .pointer (some ⟨p, 0, none⟩)) rfl (by kernel_rfl) (by kernel_rfl) (by kernel_rfl) (fun _ _ _ h => h) (Or.inl ⟨by rfl, ?_⟩) (by assumption) ?_
    · intro wx hs1; have k0 := cell_of_heap ((hs1.block _ (Array.getElem?_eq_some_iff.1 GN.out).1).trans GN.out) 0; simp only [List.getElem?_toArray, List.getElem?_cons_zero] at k0; go_simp
    (try simp only [Act.put, List.getElem_toArray, List.getElem_cons_zero, List.setIfInBounds_toArray, List.set_cons_zero, List.set_cons_succ])
    refine wpAnyH_take (i := 4) (v := .int .i64 x) rfl (by kernel_rfl) (by kernel_rfl) (by kernel_rfl) (fun _ _ _ h => h) (Or.inl ⟨by rfl, ?_⟩) (by assumption) ?_
    · intro wx hs1; have k0 := cell_of_heap ((hs1.block _ (Array.getElem?_eq_some_iff.1 GF.out).1).trans GF.out) 0; simp only [List.getElem?_toArray, List.getElem?_cons_zero] at k0; go_simp
    (try simp only [Act.put, List.getElem_toArray, List.getElem_cons_succ, List.getElem_cons_zero, List.setIfInBounds_toArray, List.set_cons_zero, List.set_cons_succ])
    refine wpAnyH_take (i := 5) (v := .int .i64 y) rfl (by kernel_rfl) (by kernel_rfl) (by kernel_rfl) (fun _ _ _ h => h) (Or.inl ⟨by rfl, ?_⟩) (by assumption) ?_
    · intro wx hs1; have k0 := cell_of_heap ((hs1.block _ (Array.getElem?_eq_some_iff.1 GT.out).1).trans GT.out) 0; simp only [List.getElem?_toArray, List.getElem?_cons_zero] at k0; go_simp
    (try simp only [Act.put, List.getElem_toArray, List.getElem_cons_succ, List.getElem_cons_zero, List.setIfInBounds_toArray, List.set_cons_zero, List.set_cons_succ])
    refine wpAnyH_take (i := 6) (v := .slice A n c) rfl (by kernel_rfl) (by kernel_rfl) (by kernel_rfl) (fun _ _ _ h => h) (Or.inl ⟨by rfl, ?_⟩) (by assumption) ?_
    · intro wx hs1; have k0 := cell_of_heap ((hs1.block _ (Array.getElem?_eq_some_iff.1 GB.out).1).trans GB.out) 0; simp only [List.getElem?_toArray, List.getElem?_cons_zero] at k0; go_simp
    (try simp only [Act.put, List.getElem_toArray, List.getElem_cons_succ, List.getElem_cons_zero, List.setIfInBounds_toArray, List.set_cons_zero, List.set_cons_succ])
    refine wpAnyH_take (i := 1) (v := .pointer (some ⟨p, 0, none⟩)) rfl (by kernel_rfl) (by kernel_rfl) (by kernel_rfl) (fun _ _ _ h => h) (Or.inl ⟨by rfl, ?_⟩) (by assumption) ?_
    · intro wx hs1; obtain ⟨M, N2, A2, c2, GPP⟩ := GP.out; have k0 := cell_of_heap ((hs1.block _ (Array.getElem?_eq_some_iff.1 GPP).1).trans GPP) 0; simp only [List.getElem?_toArray, List.getElem?_cons_zero] at k0; go_simp
    (try simp only [Act.put, List.getElem_toArray, List.getElem_cons_succ, List.getElem_cons_zero, List.setIfInBounds_toArray, List.set_cons_zero, List.set_cons_succ])
    refine wpAnyH_take (i := 2) (v := .pointer (some ⟨p, 2, none⟩)) rfl (by kernel_rfl) (by kernel_rfl) (by kernel_rfl) (fun _ _ _ h => h) (Or.inl ⟨by rfl, ?_⟩) (by assumption) ?_
    · intro wx hs1; go_simp
    (try simp only [Act.put, List.getElem_toArray, List.getElem_cons_succ, List.getElem_cons_zero, List.setIfInBounds_toArray, List.set_cons_zero, List.set_cons_succ])
    refine wpAnyH_take (i := 3) (v := .int .i64 kC) rfl (by kernel_rfl) (by kernel_rfl) (by kernel_rfl) (fun _ _ _ h => h) (Or.inl ⟨by rfl, ?_⟩) (by assumption) ?_
    · intro wx hs1; obtain ⟨M, N2, A2, c2, GPP⟩ := GP.out; have k0 := cell_of_heap ((hs1.block _ (Array.getElem?_eq_some_iff.1 GPP).1).trans GPP) 2; simp only [List.getElem?_toArray, List.getElem?_cons_zero, List.getElem?_cons_succ] at k0; go_simp
    (try simp only [Act.put, List.getElem_toArray, List.getElem_cons_succ, List.getElem_cons_zero, List.setIfInBounds_toArray, List.set_cons_zero, List.set_cons_succ])
    refine wpAnyH_ready (rs := [7, 9]) (by kernel_rfl) (by simp) (AllReadyH.cons rfl (fun K1 hK => ?_) (AllReadyH.cons rfl (fun K1 hK => ?_) AllReadyH.nil))
    · go_simp
      go_at_call 38
      (with_reducible refine (HCL.out _ HB0.out).mono ?_)
      rintro e w9 ⟨A', c', rfl, ho9, hb9, hng⟩
      try dsimp only
      have hb9o : Below w3.heap.size w3 w9 := HB0.out.trans (hb9.mono HB0.out.size)
      refine hK.out _ _ hb9o (fun _ => ?_)
      clear hK K1 hb9
      (try simp only [Act.put, List.getElem_toArray, List.getElem_cons_succ, List.getElem_cons_zero, List.setIfInBounds_toArray, List.set_cons_zero, List.set_cons_succ])
      refine wpAnyH_take (i := 8) (v := .agg #[.int .i64 kC, .int .i64 x, .int .i64 y, .slice A' n c']) rfl (by kernel_rfl) (by kernel_rfl) (by kernel_rfl) (fun _ _ _ h => h) (Or.inl ⟨by rfl, ?_⟩) (by assumption) ?_
      · intro wx hs1; go_simp
      (try simp only [Act.put, List.getElem_toArray, List.getElem_cons_succ, List.getElem_cons_zero, List.setIfInBounds_toArray, List.set_cons_zero, List.set_cons_succ])
      refine wpAnyH_ready (rs := [9]) (by kernel_rfl) (by simp) (AllReadyH.cons rfl (fun K hK => ?_) AllReadyH.nil)
      go_simp
      have hb9a : Below w3.heap.size w3 (w9.alloc (.cells #[.int .i64 0, .int .i64 0, .int .i64 0, .slice none 0 0] 41)) := hb9o.alloc hb9o.size _
      try dsimp only
      have hS := hb9a
      refine hK.out _ _ hS (fun _ => ?_)
      clear hK K
      (try simp only [Act.put, List.getElem_toArray, List.getElem_cons_succ, List.getElem_cons_zero, List.setIfInBounds_toArray, List.set_cons_zero, List.set_cons_succ])
      have hlt9 : ∀ g, (Value.slice A' n c').ownBlock = some g → g < w9.heap.size := fun g e => (ho9.lt g e).2
      have ho9a := own_below ho9 ((Below.refl _ w9).alloc (Nat.le_refl _) (.cells #[.int .i64 0, .int .i64 0, .int .i64 0, .slice none 0 0] 41))
      obtain ⟨VB, hVB⟩ : ∃ v, w9.alloc (.cells #[.int .i64 0, .int .i64 0, .int .i64 0, .slice none 0 0] 41) = v := ⟨_, rfl⟩
      have hZA : VB.heap[w9.heap.size]? = some (.cells #[.int .i64 0, .int .i64 0, .int .i64 0, .slice none 0 0] 41 (0, 0)) := by rw [← hVB]; exact World.alloc_heap_new _ _
      rw [hVB] at hb9a ho9a ⊢
      clear hVB
      have HBW := Lib.hid hb9a
      have HO9 := Lib.hid ho9a
      obtain ⟨xb, hxb'⟩ : ∃ x, w9.heap.size = x := ⟨_, rfl⟩
      have hxb : w3.heap.size ≤ xb := by rw [← hxb']; exact hb9o.size
      have HNE : Hid ((Value.slice A' n c').ownBlock ≠ some xb) := Lib.hid (fun e => by have := hlt9 _ e; omega)
      rw [hxb'] at hZA ⊢
      clear hxb'
      have HZ := Lib.hid hZA
      have f0 := frozen_of_heap HZ.out 0
      have f1 := frozen_of_heap HZ.out 1
      have f2 := frozen_of_heap HZ.out 2
      have f3 := frozen_of_heap HZ.out 3
      have a0 := cell_of_heap HZ.out 0
      have a1 := cell_of_heap HZ.out 1
      have a2 := cell_of_heap HZ.out 2
      have a3 := cell_of_heap HZ.out 3
      simp only [List.getElem?_toArray, List.getElem?_cons_zero, List.getElem?_cons_succ] at a0 a1 a2 a3
      have HPZ := Lib.hid (put4 HZ.out (.int .i64 kC) (.int .i64 x) (.int .i64 y) (.slice A' n c'))
      have HPB := Lib.hid (put4_but VB xb (.int .i64 kC) (.int .i64 x) (.int .i64 y) (.slice A' n c'))
      refine wpAnyH_ready (rs := [10]) (by kernel_rfl) (by simp) (AllReadyH.cons rfl (fun K hK => ?_) AllReadyH.nil)
      go_simp
      obtain ⟨w10, hw10⟩ : ∃ v, put4W VB xb (.int .i64 kC) (.int .i64 x) (.int .i64 y) (.slice A' n c') = v := ⟨_, rfl⟩
      unfold put4W at hw10 HPZ HPB
      rw [hw10] at HPZ HPB ⊢
      clear hw10 f0 f1 f2 f3 a0 a1 a2 a3
      have hbo : But (fun q => q = xb) w3 w10 := (But.of_all HBW.out _).trans HPB.out (fun _ _ e => e)
      have HB10 : Hid (Below w3.heap.size w3 w10) := Lib.hid (hbo.to_below (Nat.le_refl _) (fun q e => by have e2 : q = xb := e; omega))
      have HO10 := Lib.hid (HPB.out.row HO9.out (fun g e1 e2 => HNE.out (by rw [e1, e2])))
      try dsimp only
      have hS := HB10.out
      refine hK.out _ _ hS (fun _ => ?_)
      clear hK K
      (try simp only [Act.put, List.getElem_toArray, List.getElem_cons_succ, List.getElem_cons_zero, List.setIfInBounds_toArray, List.set_cons_zero, List.set_cons_succ])
      refine wpAnyH_done (by kernel_rfl) ?_ _
      go_wp2_with fail
      go_meet
      exact ⟨xb, A', c', rfl, Lib.hid ⟨HPZ.out, HO10.out, HB10.out, hxb⟩⟩
    · go_simp
      have hbA : Below w3.heap.size w3 (V0.alloc (.cells #[.int .i64 0, .int .i64 0, .int .i64 0, .slice none 0 0] 41)) := HB0.out.alloc HB0.out.size _
      refine hK.out _ _ hbA (fun _ => ?_)
      clear hK K1
      (try simp only [Act.put, List.getElem_toArray, List.getElem_cons_succ, List.getElem_cons_zero, List.setIfInBounds_toArray, List.set_cons_zero, List.set_cons_succ])
      obtain ⟨VA, hVA⟩ : ∃ v, V0.alloc (.cells #[.int .i64 0, .int .i64 0, .int .i64 0, .slice none 0 0] 41) = v := ⟨_, rfl⟩
      have hZA : VA.heap[V0.heap.size]? = some (.cells #[.int .i64 0, .int .i64 0, .int .i64 0, .slice none 0 0] 41 (0, 0)) := by rw [← hVA]; exact World.alloc_heap_new _ _
      rw [hVA] at hbA ⊢
      clear hVA
      have hSA := hbA
      obtain ⟨xb, hxb'⟩ : ∃ x, V0.heap.size = x := ⟨_, rfl⟩
      have hxb : w3.heap.size ≤ xb := by rw [← hxb']; exact HB0.out.size
      rw [hxb'] at hZA ⊢
      clear hxb'
      refine wpAnyH_ready (rs := [7]) (by kernel_rfl) (by simp) (AllReadyH.cons rfl (fun K hK => ?_) AllReadyH.nil)
      go_simp
      go_at_call 38
      (with_reducible refine (HCL.out _ hbA).mono ?_)
      rintro e w9 ⟨A', c', rfl, ho9, hb9, hng⟩
      try dsimp only
      have HBW : Hid (Below w3.heap.size w3 w9) := Lib.hid (hbA.trans (hb9.mono hbA.size)); have HZ := Lib.hid ((hb9.block _ (Array.getElem?_eq_some_iff.1 hZA).1).trans hZA); have HO9 := Lib.hid ho9; clear hb9 ho9; have hS := HBW.out
      refine hK.out _ _ hS (fun _ => ?_)
      clear hK K
      (try simp only [Act.put, List.getElem_toArray, List.getElem_cons_succ, List.getElem_cons_zero, List.setIfInBounds_toArray, List.set_cons_zero, List.set_cons_succ])
      have HNE : Hid ((Value.slice A' n c').ownBlock ≠ some xb) := Lib.hid (fun e => by have h1 := hng _ e; have h2 := (Array.getElem?_eq_some_iff.1 hZA).1; omega)
      refine wpAnyH_take (i := 8) (v := .agg #[.int .i64 kC, .int .i64 x, .int .i64 y, .slice A' n c']) rfl (by kernel_rfl) (by kernel_rfl) (by kernel_rfl) (fun _ _ _ h => h) (Or.inl ⟨by rfl, ?_⟩) (by assumption) ?_
      · intro wx hs1; go_simp
      (try simp only [Act.put, List.getElem_toArray, List.getElem_cons_succ, List.getElem_cons_zero, List.setIfInBounds_toArray, List.set_cons_zero, List.set_cons_succ])
      have f0 := frozen_of_heap HZ.out 0
      have f1 := frozen_of_heap HZ.out 1
      have f2 := frozen_of_heap HZ.out 2
      have f3 := frozen_of_heap HZ.out 3
      have a0 := cell_of_heap HZ.out 0
      have a1 := cell_of_heap HZ.out 1
      have a2 := cell_of_heap HZ.out 2
      have a3 := cell_of_heap HZ.out 3
      simp only [List.getElem?_toArray, List.getElem?_cons_zero, List.getElem?_cons_succ] at a0 a1 a2 a3
      have HPZ := Lib.hid (put4 HZ.out (.int .i64 kC) (.int .i64 x) (.int .i64 y) (.slice A' n c'))
      have HPB := Lib.hid (put4_but w9 xb (.int .i64 kC) (.int .i64 x) (.int .i64 y) (.slice A' n c'))
      refine wpAnyH_ready (rs := [10]) (by kernel_rfl) (by simp) (AllReadyH.cons rfl (fun K hK => ?_) AllReadyH.nil)
      go_simp
      obtain ⟨w10, hw10⟩ : ∃ v, put4W w9 xb (.int .i64 kC) (.int .i64 x) (.int .i64 y) (.slice A' n c') = v := ⟨_, rfl⟩
      unfold put4W at hw10 HPZ HPB
      rw [hw10] at HPZ HPB ⊢
      clear hw10 f0 f1 f2 f3 a0 a1 a2 a3
      have hbo : But (fun q => q = xb) w3 w10 := (But.of_all HBW.out _).trans HPB.out (fun _ _ e => e)
      have HB10 : Hid (Below w3.heap.size w3 w10) := Lib.hid (hbo.to_below (Nat.le_refl _) (fun q e => by have e2 : q = xb := e; omega))
      have HO10 := Lib.hid (HPB.out.row HO9.out (fun g e1 e2 => HNE.out (by rw [e1, e2])))
      try dsimp only
      have hS := HB10.out
      refine hK.out _ _ hS (fun _ => ?_)
      clear hK K
      (try simp only [Act.put, List.getElem_toArray, List.getElem_cons_succ, List.getElem_cons_zero, List.setIfInBounds_toArray, List.set_cons_zero, List.set_cons_succ])
      refine wpAnyH_done (by kernel_rfl) ?_ _
      go_wp2_with fail
      go_meet
      exact ⟨xb, A', c', rfl, Lib.hid ⟨HPZ.out, HO10.out, HB10.out, hxb⟩⟩
  case rest =>
    obtain ⟨xb, A', c', rfl, HR4⟩ := hcut
    obtain ⟨w5, rfl⟩ : ∃ v : World, v = wc := ⟨_, rfl⟩
    go_upto_region 5 with fail
    have HWc : Hid (Below w.heap.size w w5) := Lib.hid (HB3w.out.trans (HR4.out.2.2.1.mono HB3w.out.size))
    have HN5 : Hid (NAt w5 p Mb base s D A0 cap0 ms) := Lib.hid (HH.out.keep HWc.out)
    have hw3w := HB3w.out.size
    have HCN := Lib.hid ((HR4.out.2.2.1.block _ (Array.getElem?_eq_some_iff.1 GN.out).1).trans GN.out)
    have HXB := Lib.hid HR4.out.1
    have hpb : p < base ∧ base ≤ w.heap.size := ⟨HH.out.low.1, HH.out.low.2.2.2⟩
    have hxbw : w3.heap.size ≤ xb := HR4.out.2.2.2
    have HOWN : Hid (∀ q, (Value.slice A0 N cap0).ownBlock = some q → q < w.heap.size ∧ base ≤ q) := Lib.hid (fun q e => by have h9 := HH.out.row; rw [HNN.out] at h9; exact ⟨(h9.lt q e).2, (h9.lt q e).1⟩)
    have HB4 : Hid (∃ X0 X1 X3, w5.heap[p]? = some (.cells #[X0, X1, .int .i64 kC, X3, .slice A0 N cap0] 35 (0, 0))) := Lib.hid ⟨_, _, _, by have h9 := HN5.out.blk; rw [HK.out, HNN.out] at h9; exact h9⟩
    have HNB : Hid (¬ ((fun q => q = p ∨ (Value.slice A0 N cap0).ownBlock = some q) w.heap.size)) := Lib.hid (fun e => by rcases e with e | e; omega; have := (HOWN.out _ e).1; omega)
    have HNX : Hid (¬ ((fun q => q = p ∨ (Value.slice A0 N cap0).ownBlock = some q) xb)) := Lib.hid (fun e => by rcases e with e | e; omega; have := (HOWN.out _ e).1; omega)
    clear hk3 HCL
    go_cut [] from 38 to 48 (fun wx => ∃ (A8 : Option Addr) (c8 : Nat), Hid (wx.heap[p]? = some (.cells #[.int .i64 s.ends, .int .i64 s.most, .int .i64 kC, .map (some Mb), .slice A8 (N + 1) c8] 35 (0, 0)) ∧ wx.ownsRow base 83 4 (.slice A8 (N + 1) c8) (N + 1) (cellsM ms ++ [.int .i64 kC, .int .i64 x, .int .i64 y, .slice A' n c']) ∧ But (fun q => q = p ∨ (Value.slice A0 N cap0).ownBlock = some q) w5 wx ∧ ((Value.slice A8 (N + 1) c8).ownBlock = (Value.slice A0 N cap0).ownBlock ∨ ∀ q, (Value.slice A8 (N + 1) c8).ownBlock = some q → w5.heap.size ≤ q)))
    case first =>
      have hS0 : (fun W => But (fun q => q = p ∨ (Value.slice A0 N cap0).ownBlock = some q) w5 W) w5.drew := (But.refl _ w5).drew
      refine wp_region_held_drew (S := fun W => But (fun q => q = p ∨ (Value.slice A0 N cap0).ownBlock = some q) w5 W) rfl hS0 (fun hHeld => ?_)
      simp only [List.size_toArray, List.length_cons, List.length_nil, Nat.reduceAdd]
      have HB0 : Hid (Below w5.heap.size w5 w5.drew) := Lib.hid (Below.refl _ _).drew
      obtain ⟨V0, hV0⟩ : ∃ V, w5.drew = V := ⟨_, rfl⟩
      rw [hV0] at hHeld hS0 HB0 ⊢
      clear hV0
      refine wpAnyH_take (i := 0) (v := .pointer (some ⟨p, 0, none⟩)) rfl (by kernel_rfl) (by kernel_rfl) (by kernel_rfl) (fun _ _ _ h => h) (Or.inl ⟨by rfl, ?_⟩) (by assumption) ?_
      · intro wx hs1; have k0 := cell_of_heap (But.box hs1 HCN.out HNB.out) 0; simp only [List.getElem?_toArray, List.getElem?_cons_zero] at k0; go_simp
      (try simp only [Act.put, List.getElem_toArray, List.getElem_cons_zero, List.setIfInBounds_toArray, List.set_cons_zero, List.set_cons_succ])
      refine wpAnyH_take (i := 1) (v := .pointer (some ⟨p, 0, none⟩)) rfl (by kernel_rfl) (by kernel_rfl) (by kernel_rfl) (fun _ _ _ h => h) (Or.inl ⟨by rfl, ?_⟩) (by assumption) ?_
      · intro wx hs1; have k0 := cell_of_heap (But.box hs1 HCN.out HNB.out) 0; simp only [List.getElem?_toArray, List.getElem?_cons_zero] at k0; go_simp
      (try simp only [Act.put, List.getElem_toArray, List.getElem_cons_succ, List.getElem_cons_zero, List.setIfInBounds_toArray, List.set_cons_zero, List.set_cons_succ])
      refine wpAnyH_take (i := 2) (v := .pointer (some ⟨p, 0, none⟩)) rfl (by kernel_rfl) (by kernel_rfl) (by kernel_rfl) (fun _ _ _ h => h) (Or.inl ⟨by rfl, ?_⟩) (by assumption) ?_
      · intro wx hs1; go_simp
      (try simp only [Act.put, List.getElem_toArray, List.getElem_cons_succ, List.getElem_cons_zero, List.setIfInBounds_toArray, List.set_cons_zero, List.set_cons_succ])
      refine wpAnyH_take (i := 3) (v := .pointer (some ⟨p, 4, none⟩)) rfl (by kernel_rfl) (by kernel_rfl) (by kernel_rfl) (fun _ _ _ h => h) (Or.inl ⟨by rfl, ?_⟩) (by assumption) ?_
      · intro wx hs1; go_simp
      (try simp only [Act.put, List.getElem_toArray, List.getElem_cons_succ, List.getElem_cons_zero, List.setIfInBounds_toArray, List.set_cons_zero, List.set_cons_succ])
      refine wpAnyH_take (i := 5) (v := .agg #[.int .i64 kC, .int .i64 x, .int .i64 y, .slice A' n c']) rfl (by kernel_rfl) (by kernel_rfl) (by kernel_rfl) (fun _ _ _ h => h) (Or.inl ⟨by rfl, ?_⟩) (by assumption) ?_
      · intro wx hs1; have hx := But.box hs1 HXB.out HNX.out; have k0 := cell_of_heap hx 0; have k1 := cell_of_heap hx 1; have k2 := cell_of_heap hx 2; have k3 := cell_of_heap hx 3; simp only [List.getElem?_toArray, List.getElem?_cons_zero, List.getElem?_cons_succ] at k0 k1 k2 k3; go_simp
      (try simp only [Act.put, List.getElem_toArray, List.getElem_cons_succ, List.getElem_cons_zero, List.setIfInBounds_toArray, List.set_cons_zero, List.set_cons_succ])
      refine wpAnyH_take (i := 6) (v := .agg #[.int .i64 kC, .int .i64 x, .int .i64 y, .slice A' n c']) rfl (by kernel_rfl) (by kernel_rfl) (by kernel_rfl) (fun _ _ _ h => h) (Or.inl ⟨by rfl, ?_⟩) (by assumption) ?_
      · intro wx hs1; go_simp
      (try simp only [Act.put, List.getElem_toArray, List.getElem_cons_succ, List.getElem_cons_zero, List.setIfInBounds_toArray, List.set_cons_zero, List.set_cons_succ])
      have hk4 : V0.cell? ⟨p, 4, none⟩ = some (.slice A0 N cap0) := by obtain ⟨X0, X1, X3, hx⟩ := HB4.out; have hx2 := (HB0.out.block _ (Array.getElem?_eq_some_iff.1 hx).1).trans hx; have k0 := cell_of_heap hx2 4; simpa only [List.getElem?_toArray, List.getElem?_cons_zero, List.getElem?_cons_succ] using k0
      have hba : Below w5.heap.size w5 (V0.alloc (.cells #[.int .i64 kC, .int .i64 x, .int .i64 y, .slice A' n c'] 83)) := HB0.out.alloc HB0.out.size _
      have hka : (V0.alloc (.cells #[.int .i64 kC, .int .i64 x, .int .i64 y, .slice A' n c'] 83)).cell? ⟨p, 4, none⟩ = some (.slice A0 N cap0) := by obtain ⟨X0, X1, X3, hx⟩ := HB4.out; have hx2 := (hba.block _ (Array.getElem?_eq_some_iff.1 hx).1).trans hx; have k0 := cell_of_heap hx2 4; simpa only [List.getElem?_toArray, List.getElem?_cons_zero, List.getElem?_cons_succ] using k0
      refine wpAnyH_ready (rs := [4, 7]) (by kernel_rfl) (by simp) (AllReadyH.cons rfl (fun K1 hK => ?_) (AllReadyH.cons rfl (fun K1 hK => ?_) AllReadyH.nil))
      · go_simp
        refine hK.out _ _ hS0 (fun _ => ?_)
        clear hK K1
        (try simp only [Act.put, List.getElem_toArray, List.getElem_cons_succ, List.getElem_cons_zero, List.setIfInBounds_toArray, List.set_cons_zero, List.set_cons_succ])
        refine wpAnyH_ready (rs := [7]) (by kernel_rfl) (by simp) (AllReadyH.cons rfl (fun K hK => ?_) AllReadyH.nil)
        go_simp
        try dsimp only
        have hS := But.of_all hba (fun q => q = p ∨ (Value.slice A0 N cap0).ownBlock = some q)
        refine hK.out _ _ hS (fun _ => ?_)
        clear hK K
        (try simp only [Act.put, List.getElem_toArray, List.getElem_cons_succ, List.getElem_cons_zero, List.setIfInBounds_toArray, List.set_cons_zero, List.set_cons_succ])
        obtain ⟨VA, hVA⟩ : ∃ v, V0.alloc (.cells #[.int .i64 kC, .int .i64 x, .int .i64 y, .slice A' n c'] 83) = v := ⟨_, rfl⟩
        have hZA : VA.heap[V0.heap.size]? = some (.cells #[.int .i64 kC, .int .i64 x, .int .i64 y, .slice A' n c'] 83 (0, 0)) := by rw [← hVA]; exact World.alloc_heap_new _ _
        rw [hVA] at hba hka hS ⊢
        clear hVA
        have hrow := own_below HN5.out.row hba
        rw [HNN.out] at hrow
        have hbs : base ≤ VA.heap.size := by have h7 := hba.size; have h8 := HWc.out.size; omega
        obtain ⟨v8, w8, r1, r2, r3, r4⟩ := run_app_msg base N cap0 A0 (cellsM ms) _ _ _ _ V0.heap.size VA hrow hZA ⟨rfl, rfl, rfl, rfl⟩ (by omega) hbs
        obtain ⟨g8, c8, rfl, _, _⟩ := r2.form (by omega)
        have HB8 : Hid (But (fun q => q = p ∨ (Value.slice A0 N cap0).ownBlock = some q) w5 w8) := Lib.hid ((But.of_all hba _).trans ((But.grown r3).mono (fun b _ e => .inr e)) (fun b _ e => e))
        have hblk8 : w8.heap[p]? = some (.cells #[.int .i64 s.ends, .int .i64 s.most, .int .i64 kC, .map (some Mb), .slice A0 N cap0] 35 (0, 0)) := by
          have h9 := HN5.out.blk
          rw [HK.out, HNN.out] at h9
          exact But.box (But.grown r3) ((hba.block _ (Array.getElem?_eq_some_iff.1 h9).1).trans h9) (fun e => by have := (HOWN.out _ e).2; omega)
        have b4 := cell_of_heap hblk8 4
        have f4 := frozen_of_heap hblk8 4
        simp only [List.getElem?_toArray, List.getElem?_cons_zero, List.getElem?_cons_succ] at b4
        refine wpAnyH_ready (rs := [8]) (by kernel_rfl) (by simp) (AllReadyH.cons rfl (fun K hK => ?_) AllReadyH.nil)
        refine wp_append_run (.tmp 42) (.tmp 45) 33 rfl _ _ _ rfl rfl r1 ?_
        try dsimp only
        have hS := HB8.out
        refine hK.out _ _ hS (fun _ => ?_)
        clear hK K
        (try simp only [Act.put, List.getElem_toArray, List.getElem_cons_succ, List.getElem_cons_zero, List.setIfInBounds_toArray, List.set_cons_zero, List.set_cons_succ])
        refine wpAnyH_take (i := 9) (v := .pointer (some ⟨p, 0, none⟩)) rfl (by kernel_rfl) (by kernel_rfl) (by kernel_rfl) (fun _ _ _ h => h) (Or.inl ⟨by rfl, ?_⟩) (by assumption) ?_
        · intro wx hs1; go_simp
        (try simp only [Act.put, List.getElem_toArray, List.getElem_cons_succ, List.getElem_cons_zero, List.setIfInBounds_toArray, List.set_cons_zero, List.set_cons_succ])
        refine wpAnyH_take (i := 10) (v := .pointer (some ⟨p, 4, none⟩)) rfl (by kernel_rfl) (by kernel_rfl) (by kernel_rfl) (fun _ _ _ h => h) (Or.inl ⟨by rfl, ?_⟩) (by assumption) ?_
        · intro wx hs1; go_simp
        (try simp only [Act.put, List.getElem_toArray, List.getElem_cons_succ, List.getElem_cons_zero, List.setIfInBounds_toArray, List.set_cons_zero, List.set_cons_succ])
        refine wpAnyH_ready (rs := [11]) (by kernel_rfl) (by simp) (AllReadyH.cons rfl (fun K hK => ?_) AllReadyH.nil)
        go_simp
        have h11 := heap_setCells (i := 4) (u := .slice (some ⟨g8, 0, none⟩) (N + 1) c8) hblk8
        have hb11 : But (fun q => q = p) w8 (w8.setCell ⟨p, 4, none⟩ (.slice (some ⟨g8, 0, none⟩) (N + 1) c8)) := (But.refl (fun q => q = p) w8).set ⟨p, 4, none⟩ _ (.inl rfl)
        try dsimp only
        have hS := HB8.out.trans (hb11.mono (fun b _ e => .inl e)) (fun b _ e => e)
        refine hK.out _ _ hS (fun _ => ?_)
        clear hK K
        (try simp only [Act.put, List.getElem_toArray, List.getElem_cons_succ, List.getElem_cons_zero, List.setIfInBounds_toArray, List.set_cons_zero, List.set_cons_succ])
        refine wpAnyH_done (by kernel_rfl) ?_ _
        go_wp2_with fail
        go_meet
        exact ⟨some ⟨g8, 0, none⟩, c8, Lib.hid ⟨h11, hb11.row r2 (fun g e1 e2 => by have h7 := (r2.lt g e1).1; omega), hS, r4.imp id (fun e q e2 => by rw [e] at e2; injection e2 with e2; have := hba.size; omega)⟩⟩
      · go_simp
        refine hK.out _ _ (But.of_all hba _) (fun _ => ?_)
        clear hK K1
        (try simp only [Act.put, List.getElem_toArray, List.getElem_cons_succ, List.getElem_cons_zero, List.setIfInBounds_toArray, List.set_cons_zero, List.set_cons_succ])
        refine wpAnyH_ready (rs := [4]) (by kernel_rfl) (by simp) (AllReadyH.cons rfl (fun K hK => ?_) AllReadyH.nil)
        go_simp
        try dsimp only
        have hS := But.of_all hba (fun q => q = p ∨ (Value.slice A0 N cap0).ownBlock = some q)
        refine hK.out _ _ hS (fun _ => ?_)
        clear hK K
        (try simp only [Act.put, List.getElem_toArray, List.getElem_cons_succ, List.getElem_cons_zero, List.setIfInBounds_toArray, List.set_cons_zero, List.set_cons_succ])
        obtain ⟨VA, hVA⟩ : ∃ v, V0.alloc (.cells #[.int .i64 kC, .int .i64 x, .int .i64 y, .slice A' n c'] 83) = v := ⟨_, rfl⟩
        have hZA : VA.heap[V0.heap.size]? = some (.cells #[.int .i64 kC, .int .i64 x, .int .i64 y, .slice A' n c'] 83 (0, 0)) := by rw [← hVA]; exact World.alloc_heap_new _ _
        rw [hVA] at hba hka hS ⊢
        clear hVA
        have hrow := own_below HN5.out.row hba
        rw [HNN.out] at hrow
        have hbs : base ≤ VA.heap.size := by have h7 := hba.size; have h8 := HWc.out.size; omega
        obtain ⟨v8, w8, r1, r2, r3, r4⟩ := run_app_msg base N cap0 A0 (cellsM ms) _ _ _ _ V0.heap.size VA hrow hZA ⟨rfl, rfl, rfl, rfl⟩ (by omega) hbs
        obtain ⟨g8, c8, rfl, _, _⟩ := r2.form (by omega)
        have HB8 : Hid (But (fun q => q = p ∨ (Value.slice A0 N cap0).ownBlock = some q) w5 w8) := Lib.hid ((But.of_all hba _).trans ((But.grown r3).mono (fun b _ e => .inr e)) (fun b _ e => e))
        have hblk8 : w8.heap[p]? = some (.cells #[.int .i64 s.ends, .int .i64 s.most, .int .i64 kC, .map (some Mb), .slice A0 N cap0] 35 (0, 0)) := by
          have h9 := HN5.out.blk
          rw [HK.out, HNN.out] at h9
          exact But.box (But.grown r3) ((hba.block _ (Array.getElem?_eq_some_iff.1 h9).1).trans h9) (fun e => by have := (HOWN.out _ e).2; omega)
        have b4 := cell_of_heap hblk8 4
        have f4 := frozen_of_heap hblk8 4
        simp only [List.getElem?_toArray, List.getElem?_cons_zero, List.getElem?_cons_succ] at b4
        refine wpAnyH_ready (rs := [8]) (by kernel_rfl) (by simp) (AllReadyH.cons rfl (fun K hK => ?_) AllReadyH.nil)
        refine wp_append_run (.tmp 42) (.tmp 45) 33 rfl _ _ _ rfl rfl r1 ?_
        try dsimp only
        have hS := HB8.out
        refine hK.out _ _ hS (fun _ => ?_)
        clear hK K
        (try simp only [Act.put, List.getElem_toArray, List.getElem_cons_succ, List.getElem_cons_zero, List.setIfInBounds_toArray, List.set_cons_zero, List.set_cons_succ])
        refine wpAnyH_take (i := 9) (v := .pointer (some ⟨p, 0, none⟩)) rfl (by kernel_rfl) (by kernel_rfl) (by kernel_rfl) (fun _ _ _ h => h) (Or.inl ⟨by rfl, ?_⟩) (by assumption) ?_
        · intro wx hs1; go_simp
        (try simp only [Act.put, List.getElem_toArray, List.getElem_cons_succ, List.getElem_cons_zero, List.setIfInBounds_toArray, List.set_cons_zero, List.set_cons_succ])
        refine wpAnyH_take (i := 10) (v := .pointer (some ⟨p, 4, none⟩)) rfl (by kernel_rfl) (by kernel_rfl) (by kernel_rfl) (fun _ _ _ h => h) (Or.inl ⟨by rfl, ?_⟩) (by assumption) ?_
        · intro wx hs1; go_simp
        (try simp only [Act.put, List.getElem_toArray, List.getElem_cons_succ, List.getElem_cons_zero, List.setIfInBounds_toArray, List.set_cons_zero, List.set_cons_succ])
        refine wpAnyH_ready (rs := [11]) (by kernel_rfl) (by simp) (AllReadyH.cons rfl (fun K hK => ?_) AllReadyH.nil)
        go_simp
        have h11 := heap_setCells (i := 4) (u := .slice (some ⟨g8, 0, none⟩) (N + 1) c8) hblk8
        have hb11 : But (fun q => q = p) w8 (w8.setCell ⟨p, 4, none⟩ (.slice (some ⟨g8, 0, none⟩) (N + 1) c8)) := (But.refl (fun q => q = p) w8).set ⟨p, 4, none⟩ _ (.inl rfl)
        try dsimp only
        have hS := HB8.out.trans (hb11.mono (fun b _ e => .inl e)) (fun b _ e => e)
        refine hK.out _ _ hS (fun _ => ?_)
        clear hK K
        (try simp only [Act.put, List.getElem_toArray, List.getElem_cons_succ, List.getElem_cons_zero, List.setIfInBounds_toArray, List.set_cons_zero, List.set_cons_succ])
        refine wpAnyH_done (by kernel_rfl) ?_ _
        go_wp2_with fail
        go_meet
        exact ⟨some ⟨g8, 0, none⟩, c8, Lib.hid ⟨h11, hb11.row r2 (fun g e1 e2 => by have h7 := (r2.lt g e1).1; omega), hS, r4.imp id (fun e q e2 => by rw [e] at e2; injection e2 with e2; have := hba.size; omega)⟩⟩
    case rest =>
      obtain ⟨A8, c8, HR5⟩ := hcut
      have HPM := Lib.hid HR5.out.2.2.1
      have HCN6 := Lib.hid (But.box HPM.out HCN.out HNB.out)
      have HXB6 := Lib.hid (But.box HPM.out HXB.out HNX.out)
      have HP6 := Lib.hid HR5.out.1
      have e0 := cell_of_heap HCN6.out 0
      have e1 := cell_of_heap HP6.out 2
      have f1 := frozen_of_heap HP6.out 2
      simp only [List.getElem?_toArray, List.getElem?_cons_zero, List.getElem?_cons_succ] at e0 e1
      have hxp : xb ≠ p := by omega
      have hfin := heap_setCells (i := 2) (u := .int .i64 (kC + 1)) HP6.out
      have hbf : But (fun q => q = p) wc (wc.setCell ⟨p, 2, none⟩ (.int .i64 (kC + 1))) := (But.refl (fun q => q = p) wc).set ⟨p, 2, none⟩ _ (.inl rfl)
      have hx7 := cell_of_heap (But.box hbf HXB6.out hxp) 0
      simp only [List.getElem?_toArray, List.getElem?_cons_zero] at hx7
      have HFIN := Lib.hid hfin
      have HBF := Lib.hid hbf
      clear hfin hbf
      go_wp2
      have hK' := HK.out
      have hN' := HNN.out
      have hBut : But (PMay p (.slice A0 ms.length cap0)) w (wc.setCell ⟨p, 2, none⟩ (.int .i64 (kC + 1))) := by rw [hN']; exact ((But.of_all HWc.out _).trans HPM.out (fun _ _ e => e)).trans (HBF.out.mono (fun b _ e => .inl e)) (fun _ _ e => e)
      have hb4 := HR4.out.2.1
      have h6 := HPM.out.row hb4 (fun g e1 e2 => by have h7 := (hb4.lt g e1).1; rcases e2 with e2 | e2; omega; (have h8 := (HOWN.out _ e2).1; omega))
      have h7 := own_base (HBF.out.row h6 (fun g e1 e2 => by have h7 := (h6.lt g e1).1; have e3 : g = p := e2; omega)) hpb.2
      have h8 := HBF.out.row HR5.out.2.1 (fun g e1 e2 => by have h7 := (HR5.out.2.1.lt g e1).1; have e3 : g = p := e2; omega)
      have hsep : ∀ b, (Value.slice A' n c').ownBlock = some b → (Value.slice A8 (N + 1) c8).ownBlock ≠ some b := fun b hb e => by
        have q1 := hb4.lt b hb
        rcases HR5.out.2.2.2 with e5 | e5
        · rw [e5] at e; have := (HOWN.out _ e).1; omega
        · have := e5 b e; omega
      have hfinal := NAt.added ⟨kC, x, y, l, A', c'⟩ A8 c8 HH.out hBut (by rw [hN', hK']; exact HFIN.out) (by rw [hN']; show World.ownsRow _ base 83 4 _ (N + 1) (cellsM ms ++ [.int .i64 kC, .int .i64 x, .int .i64 y, .slice A' l.length c']); rw [HLN.out]; exact h8) (by rw [hN']; exact HR5.out.2.2.2.imp id (fun e q e2 => Nat.le_trans HWc.out.size (e q e2))) (by show World.ownsRow _ base 5 1 (.slice A' l.length c') l.length _; rw [HLN.out]; exact h7) (by rw [hN']; show ∀ b, (Value.slice A' l.length c').ownBlock = some b → _; rw [HLN.out]; exact hsep) HM.out (by rw [hK']; exact hc) ⟨hK'.symm, HI.out.1, HI.out.2.1, HI.out.2.2.1, HI.out.2.2.2.1, by show l.length ≤ 8192; rw [HLN.out]; exact hn⟩
      have hst1 : (Value.slice A8 (N + 1) c8).ownBlock = (Value.slice A0 N cap0).ownBlock ∨ ∀ q, (Value.slice A8 (N + 1) c8).ownBlock = some q → w.heap.size ≤ q := HR5.out.2.2.2.imp id (fun e q e2 => Nat.le_trans HWc.out.size (e q e2))
      have hst2 : ∀ b, (MsgM.sl ⟨kC, x, y, l, A', c'⟩).ownBlock = some b → w.heap.size ≤ b := fun b hb => by
        have hb' : (Value.slice A' n c').ownBlock = some b := by rw [← HLN.out]; exact hb
        have q1 := (hb4.lt b hb').1
        omega
      rw [hK'] at hfinal
      rw [hN'] at hBut
      exact bodyPost_ret (v := .tuple #[.int .i64 kC, .int .i64 0]) (by simp [results, Try.results12, go_sem]) rfl ⟨rfl, A8, c8, ⟨kC, x, y, l, A', c'⟩, hfinal, rfl, rfl, rfl, rfl, hBut, hst1, hst2⟩
end Go.Proofs
