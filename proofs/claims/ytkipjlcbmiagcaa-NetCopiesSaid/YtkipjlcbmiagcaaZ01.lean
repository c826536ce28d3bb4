/-
  Put takes. Conditions: as each theorem names them.
  Put of none, and what Put refuses of a net. Conditions: as each theorem names them.
  copied, among and what it makes, on. Conditions: as each theorem names them.
  What among makes. Conditions: as each theorem names them.
  A net as data: which messages a pick may pick, what its calls do to it. No condition.
  A region that draws its order, within a fence: what yields the same in every world that meets S may be taken first. Conditions: what the theorems name.
  on: what it answers. Conditions: as each theorem names them.
  Len. Conditions: as each theorem names them.
  A range over a function, whose variable is one that was there ahead of the loop: the law. Conditions: what the theorem names.
  find's closures, and what find refuses. Conditions: as each theorem names them.
  find: what it refuses, and where the picked message stands. Conditions: as each theorem names them.
  without: a row of messages but for one. Conditions: as each theorem names them.
  reach: the picked message, if its link is up. Conditions: as each theorem names them.
  Peek, Take, Drop. Conditions: as each theorem names them.
  Take and Drop. Conditions: as each theorem names them.
  Drop. Conditions: as each theorem names them.
  A net's calls, by its data. Conditions: as each theorem names them.
  works: the chapter's rows. Conditions: as each theorem names them.
-/
import Derived.Lib.Hide
import Derived.Deep.Upon
import Derived.Deep.CutRange
import Derived.Test.YtkipjlcbmiagcaaZ00
import Derived.ChangeKeysEq
import Derived.Laws.StructEq
import Derived.OrdersHeld
import Derived.Deep.RegionHeld
import Derived.Deep.RegionLaw
import Derived.Lib.SliceRun
import Derived.Lib.SlBytesConst
namespace Go.Proofs
open Go Go.RowKit Sm Go.Lib Go.Maps Go.WideMaps
attribute [local go_sem] Oper.semAt_some
theorem Sm.wp_append_run {P : Program} {o : Oper} {a : Act} {w w' : World} {K : Act → World → Prop} {Q : Exit → Act → World → Prop} (s x : Operand) (t : TypeId)
    (ho : o.op = .call { callee := .builtin .append, args := #[s, x], argTypes := #[t, t] }) (v y r : Value) (hs : a.eval s = v) (hx : a.eval x = y) (hrun : (Builtin.append_ #[t, t] o.type #[v, y]).run P w = .ok r w') (h : K (a.put o.dst r) w') : Oper.wp P o a w K Q := by
  unfold Oper.wp execOp
  simp only [ho, resolve, invoke, builtin, Sem.run_bind, Sem.run_pure, Result.andThen_ok, List.map_toArray, List.map_cons, List.map_nil, hs, hx, hrun]
  exact h
theorem Sm.heap_setCells {w : World} {B i : Nat} {cs : Array Value} {u : Value} {t : TypeId} {fr : Nat × Nat} (h : w.heap[B]? = some (.cells cs t fr)) : (w.setCell ⟨B, i, none⟩ u).heap[B]? = some (.cells (cs.setIfInBounds i u) t fr) := by
  show (w.heap.modify B _)[B]? = _
  rw [Array.getElem?_modify, if_pos rfl, h]
  rfl
def Sm.put4W (W : World) (b : Nat) (u0 u1 u2 u3 : Value) : World := (((W.setCell ⟨b, 0, none⟩ u0).setCell ⟨b, 1, none⟩ u1).setCell ⟨b, 2, none⟩ u2).setCell ⟨b, 3, none⟩ u3
theorem Sm.put4 {W : World} {b : Nat} {a0 a1 a2 a3 : Value} {t : TypeId} (h : W.heap[b]? = some (.cells #[a0, a1, a2, a3] t (0, 0))) (u0 u1 u2 u3 : Value) : (put4W W b u0 u1 u2 u3).heap[b]? = some (.cells #[u0, u1, u2, u3] t (0, 0)) :=
  heap_setCells (i := 3) (u := u3) (heap_setCells (i := 2) (u := u2) (heap_setCells (i := 1) (u := u1) (heap_setCells (i := 0) (u := u0) h)))
theorem Sm.put4_but (W : World) (b : Nat) (u0 u1 u2 u3 : Value) : But (fun q => q = b) W (put4W W b u0 u1 u2 u3) :=
  ((((But.refl (fun q => q = b) W).set ⟨b, 0, none⟩ _ (.inl rfl)).set ⟨b, 1, none⟩ _ (.inl rfl)).set ⟨b, 2, none⟩ _ (.inl rfl)).set ⟨b, 3, none⟩ _ (.inl rfl)
set_option maxRecDepth 100000 in
set_option maxHeartbeats 4000000 in
theorem Sm.put_ok {p Mb base : Nat} {s : NSt} {D : List (Int × Int)} {A0 : Option Addr} {cap0 : Nat} {ms : List MsgM} (x y : Int) (A : Option Addr) (n c B : Nat) (l : List (BitVec 8)) (w : World) (h : NAt w p Mb base s D A0 cap0 ms)
    (hl : lnkB s x y = true) (hn : n ≤ 8192) (hd : (x, y) ∉ D) (hm : (ms.length : Int) ≠ s.most) (hc : s.came < 1000000000) (hln : l.length = n) (hrd : Rd w B A l) (hB : B ≤ w.heap.size) :
    Calls Try.prog 12 #[.pointer (some ⟨p, 0, none⟩), .int .i64 x, .int .i64 y, .slice A n c] w fun e w' => ∃ A' cap' m, e = .returned (.tuple #[.int .i64 s.came, .int .i64 0]) ∧ NAt w' p Mb base ⟨s.ends, s.most, s.came + 1⟩ D A' cap' (ms ++ [m]) ∧ m.num = s.came ∧ m.src = x ∧ m.dst = y ∧ m.bytes = l ∧ But (PMay p (.slice A0 ms.length cap0)) w w' ∧ ((Value.slice A' (ms.length + 1) cap').ownBlock = (Value.slice A0 ms.length cap0).ownBlock ∨ ∀ q, (Value.slice A' (ms.length + 1) cap').ownBlock = some q → w.heap.size ≤ q) ∧ ∀ b, m.sl.ownBlock = some b → w.heap.size ≤ b := by
  have hi := lnkB_i64 hl h.lim.2.1
  have HC1 := Lib.hid (fun W b (hb : Below w.heap.size w W) hx => none1_yes b W (h.keep hb) hx)
  have HC2 : Hid (false = false → ∀ W b1 b2 b3, Below w.heap.size w W → W.heap[b1]? = some (.cells #[.pointer (some ⟨p, 0, none⟩)] 25 (0, 0)) → W.heap[b2]? = some (.cells #[.int .i64 x] 3 (0, 0)) → W.heap[b3]? = some (.cells #[.int .i64 y] 3 (0, 0)) →
      Calls Try.prog 60 #[.pointer (some ⟨b1, 0, none⟩), .pointer (some ⟨b2, 0, none⟩), .pointer (some ⟨b3, 0, none⟩)] W fun e w' => e = .returned (.bool false) ∧ Below W.heap.size W w') := Lib.hid (fun _ W b1 b2 b3 hb h1 h2 h3 => by
    have h9 := noLink1_any b1 b2 b3 x y W (h.keep hb) h1 h2 h3
    rw [hl] at h9
    exact h9)
  have HC3 : Hid (∀ W b, W.heap[b]? = some (.cells #[.slice A n c] 39 (0, 0)) → Calls Try.prog 35 #[.pointer (some ⟨b, 0, none⟩)] W fun e w' => e = .returned (.bool false) ∧ Below W.heap.size W w') := Lib.hid (fun W b h1 => by
    have h9 := put1_any b n c A W (by omega) h1
    rw [decide_eq_false (by omega)] at h9
    exact h9)
  have HC4 : Hid (false = false → false = false → ∀ W b1 b2 b3, Below w.heap.size w W → W.heap[b1]? = some (.cells #[.pointer (some ⟨p, 0, none⟩)] 25 (0, 0)) → W.heap[b2]? = some (.cells #[.int .i64 x] 3 (0, 0)) → W.heap[b3]? = some (.cells #[.int .i64 y] 3 (0, 0)) →
      Calls Try.prog 36 #[.pointer (some ⟨b1, 0, none⟩), .pointer (some ⟨b2, 0, none⟩), .pointer (some ⟨b3, 0, none⟩)] W fun e w' => e = .returned (.bool false) ∧ Below W.heap.size W w') := Lib.hid (fun _ _ W b1 b2 b3 hb h1 h2 h3 => by
    have h9 := put2_any b1 b2 b3 x y W (h.keep hb) hi.2.2.2.2.1 hi.2.2.2.2.2 h1 h2 h3
    rw [decide_eq_false hd] at h9
    exact h9)
  have HC5 : Hid (false = false → false = false → ∀ W b, Below w.heap.size w W → W.heap[b]? = some (.cells #[.pointer (some ⟨p, 0, none⟩)] 25 (0, 0)) → Calls Try.prog 37 #[.pointer (some ⟨b, 0, none⟩)] W fun e w' => e = .returned (.bool false) ∧ Below W.heap.size W w') := Lib.hid (fun _ _ W b hb h1 => by
    have h9 := put3_any b W (h.keep hb) h1
    rw [decide_eq_false hm] at h9
    exact h9)
  have HH := Lib.hid h
  have HI := Lib.hid hi
  have HRD := Lib.hid hrd
  have HLN := Lib.hid hln
  have HM := Lib.hid hm
  obtain ⟨kC, hK⟩ : ∃ kC, s.came = kC := ⟨_, rfl⟩
  obtain ⟨N, hN⟩ : ∃ N, ms.length = N := ⟨_, rfl⟩
  have HK := Lib.hid hK
  have HNN := Lib.hid hN
  have hlim := h.lim
  rw [hK] at hc hlim ⊢
  rw [hN] at hlim ⊢
  have hK0 : 0 ≤ kC := hlim.2.2.2.2.2.1
  have hN0 : (N : Int) ≤ 4096 := by omega
  clear h hl hd hm hln hrd hi hK hN hlim
  go_enter Try.func12, Try.ntmps12
  go_wp2
  obtain ⟨W0, hW0⟩ : ∃ V, ((((w.alloc (.cells #[.pointer (some ⟨p, 0, none⟩)] 25)).alloc (.cells #[.int .i64 x] 3)).alloc (.cells #[.int .i64 y] 3)).alloc (.cells #[.slice A n c] 39)) = V := ⟨_, rfl⟩
  rw [hW0]
  have HBN : Hid (W0.heap[w.heap.size]? = some (.cells #[.pointer (some ⟨p, 0, none⟩)] 25 (0, 0))) := Lib.hid (by rw [← hW0]; exact old_alloc _ (old_alloc _ (old_alloc _ (new_alloc _ rfl))))
  have HBF : Hid (W0.heap[w.heap.size + 1]? = some (.cells #[.int .i64 x] 3 (0, 0))) := Lib.hid (by rw [← hW0]; exact old_alloc _ (old_alloc _ (new_alloc _ (by simp))))
  have HBT : Hid (W0.heap[w.heap.size + 2]? = some (.cells #[.int .i64 y] 3 (0, 0))) := Lib.hid (by rw [← hW0]; exact old_alloc _ (new_alloc _ (by simp)))
  have HBB : Hid (W0.heap[w.heap.size + 3]? = some (.cells #[.slice A n c] 39 (0, 0))) := Lib.hid (by rw [← hW0]; exact new_alloc _ (by simp))
  have HW0 : Hid (Below w.heap.size w W0) := Lib.hid (by rw [← hW0]; exact bel4 _ _ _ _ _)
  clear hW0
  have hS0 : (fun W => Below W0.heap.size W0 W) W0.drew := (Below.refl _ W0).drew
  refine wp_region_held_drew (S := fun W => Below W0.heap.size W0 W) rfl hS0 (fun hHeld => ?_)
  simp only [List.size_toArray, List.length_cons, List.length_nil, Nat.reduceAdd]
  have HB0 : Hid (Below W0.heap.size W0 W0.drew) := Lib.hid (Below.refl _ _).drew
  obtain ⟨V0, hV0⟩ : ∃ V, W0.drew = V := ⟨_, rfl⟩
  rw [hV0] at hHeld hS0 HB0 ⊢
  clear hV0
  refine wpAnyH_take (i := 0) (v := .pointer (some ⟨p, 0, none⟩)) rfl (by kernel_rfl) (by kernel_rfl) (by kernel_rfl) (fun _ _ _ h => h) (Or.inl ⟨by rfl, ?_⟩) (by assumption) ?_
  · intro wx hs1; have k0 := cell_of_heap ((hs1.block _ (Array.getElem?_eq_some_iff.1 HBN.out).1).trans HBN.out) 0; simp only [List.getElem?_toArray, List.getElem?_cons_zero] at k0; go_simp
  (try simp only [Act.put, List.getElem_toArray, List.getElem_cons_zero, List.setIfInBounds_toArray, List.set_cons_zero, List.set_cons_succ])
  refine wpAnyH_take (i := 2) (v := .pointer (some ⟨p, 0, none⟩)) rfl (by kernel_rfl) (by kernel_rfl) (by kernel_rfl) (fun _ _ _ h => h) (Or.inl ⟨by rfl, ?_⟩) (by assumption) ?_
  · intro wx hs1; have k0 := cell_of_heap ((hs1.block _ (Array.getElem?_eq_some_iff.1 HBN.out).1).trans HBN.out) 0; simp only [List.getElem?_toArray, List.getElem?_cons_zero] at k0; go_simp
  (try simp only [Act.put, List.getElem_toArray, List.getElem_cons_succ, List.getElem_cons_zero, List.setIfInBounds_toArray, List.set_cons_zero, List.set_cons_succ])
  refine wpAnyH_take (i := 3) (v := .int .i64 x) rfl (by kernel_rfl) (by kernel_rfl) (by kernel_rfl) (fun _ _ _ h => h) (Or.inl ⟨by rfl, ?_⟩) (by assumption) ?_
  · intro wx hs1; have k0 := cell_of_heap ((hs1.block _ (Array.getElem?_eq_some_iff.1 HBF.out).1).trans HBF.out) 0; simp only [List.getElem?_toArray, List.getElem?_cons_zero] at k0; go_simp
  (try simp only [Act.put, List.getElem_toArray, List.getElem_cons_succ, List.getElem_cons_zero, List.setIfInBounds_toArray, List.set_cons_zero, List.set_cons_succ])
  refine wpAnyH_take (i := 4) (v := .int .i64 y) rfl (by kernel_rfl) (by kernel_rfl) (by kernel_rfl) (fun _ _ _ h => h) (Or.inl ⟨by rfl, ?_⟩) (by assumption) ?_
  · intro wx hs1; have k0 := cell_of_heap ((hs1.block _ (Array.getElem?_eq_some_iff.1 HBT.out).1).trans HBT.out) 0; simp only [List.getElem?_toArray, List.getElem?_cons_zero] at k0; go_simp
  (try simp only [Act.put, List.getElem_toArray, List.getElem_cons_succ, List.getElem_cons_zero, List.setIfInBounds_toArray, List.set_cons_zero, List.set_cons_succ])
  refine wpAnyH_take (i := 6) (v := .func (.func 35) #[] #[.pointer (some ⟨w.heap.size + 3, 0, none⟩)]) rfl (by kernel_rfl) (by kernel_rfl) (by kernel_rfl) (fun _ _ _ h => h) (Or.inl ⟨by rfl, ?_⟩) (by assumption) ?_
  · intro wx hs1; go_simp
  (try simp only [Act.put, List.getElem_toArray, List.getElem_cons_succ, List.getElem_cons_zero, List.setIfInBounds_toArray, List.set_cons_zero, List.set_cons_succ])
  refine wpAnyH_take (i := 7) (v := .agg #[.func (.func 35) #[] #[.pointer (some ⟨w.heap.size + 3, 0, none⟩)], .int .i64 3]) rfl (by kernel_rfl) (by kernel_rfl) (by kernel_rfl) (fun _ _ _ h => h) (Or.inl ⟨by rfl, ?_⟩) (by assumption) ?_
  · intro wx hs1; go_simp
  (try simp only [Act.put, List.getElem_toArray, List.getElem_cons_succ, List.getElem_cons_zero, List.setIfInBounds_toArray, List.set_cons_zero, List.set_cons_succ])
  refine wpAnyH_take (i := 8) (v := .func (.func 36) #[] #[.pointer (some ⟨w.heap.size, 0, none⟩), .pointer (some ⟨w.heap.size + 1, 0, none⟩), .pointer (some ⟨w.heap.size + 2, 0, none⟩)]) rfl (by kernel_rfl) (by kernel_rfl) (by kernel_rfl) (fun _ _ _ h => h) (Or.inl ⟨by rfl, ?_⟩) (by assumption) ?_
  · intro wx hs1; go_simp
  (try simp only [Act.put, List.getElem_toArray, List.getElem_cons_succ, List.getElem_cons_zero, List.setIfInBounds_toArray, List.set_cons_zero, List.set_cons_succ])
  refine wpAnyH_take (i := 9) (v := .agg #[.func (.func 36) #[] #[.pointer (some ⟨w.heap.size, 0, none⟩), .pointer (some ⟨w.heap.size + 1, 0, none⟩), .pointer (some ⟨w.heap.size + 2, 0, none⟩)], .int .i64 210]) rfl (by kernel_rfl) (by kernel_rfl) (by kernel_rfl) (fun _ _ _ h => h) (Or.inl ⟨by rfl, ?_⟩) (by assumption) ?_
  · intro wx hs1; go_simp
  (try simp only [Act.put, List.getElem_toArray, List.getElem_cons_succ, List.getElem_cons_zero, List.setIfInBounds_toArray, List.set_cons_zero, List.set_cons_succ])
  refine wpAnyH_take (i := 10) (v := .func (.func 37) #[] #[.pointer (some ⟨w.heap.size, 0, none⟩)]) rfl (by kernel_rfl) (by kernel_rfl) (by kernel_rfl) (fun _ _ _ h => h) (Or.inl ⟨by rfl, ?_⟩) (by assumption) ?_
  · intro wx hs1; go_simp
  (try simp only [Act.put, List.getElem_toArray, List.getElem_cons_succ, List.getElem_cons_zero, List.setIfInBounds_toArray, List.set_cons_zero, List.set_cons_succ])
  refine wpAnyH_take (i := 11) (v := .agg #[.func (.func 37) #[] #[.pointer (some ⟨w.heap.size, 0, none⟩)], .int .i64 211]) rfl (by kernel_rfl) (by kernel_rfl) (by kernel_rfl) (fun _ _ _ h => h) (Or.inl ⟨by rfl, ?_⟩) (by assumption) ?_
  · intro wx hs1; go_simp
  (try simp only [Act.put, List.getElem_toArray, List.getElem_cons_succ, List.getElem_cons_zero, List.setIfInBounds_toArray, List.set_cons_zero, List.set_cons_succ])
  refine wpAnyH_ready (rs := [1]) (by kernel_rfl) (by simp) (AllReadyH.cons rfl (fun K hK => ?_) AllReadyH.nil)
  go_simp
  go_at_call 33
  (with_reducible refine (none_any (some ⟨p, 0, none⟩) _).mono ?_)
  rintro e w1 ⟨rfl, hx1, hb⟩
  try dsimp only
  have hVs := HB0.out; have HX1 := Lib.hid hx1; have HB01 := Lib.hid hb; have HB1 : Hid (Below W0.heap.size W0 w1) := Lib.hid (HB0.out.trans (hb.mono HB0.out.size)); clear hb hx1; have hS := HB1.out
  refine hK.out _ _ hS (fun _ => ?_)
  clear hK K
  (try simp only [Act.put, List.getElem_toArray, List.getElem_cons_succ, List.getElem_cons_zero, List.setIfInBounds_toArray, List.set_cons_zero, List.set_cons_succ])
  refine wpAnyH_ready (rs := [5]) (by kernel_rfl) (by simp) (AllReadyH.cons rfl (fun K hK => ?_) AllReadyH.nil)
  go_simp
  go_at_call 34
  (with_reducible refine (noLink_any (some ⟨p, 0, none⟩) x y _).mono ?_)
  rintro e w2 ⟨rfl, hn1, hn2, hn3, hb⟩
  try dsimp only
  have HX2 := Lib.hid hn1; have HX3 := Lib.hid hn2; have HX4 := Lib.hid hn3; have HB12 := Lib.hid hb; have HB2 : Hid (Below W0.heap.size W0 w2) := Lib.hid (HB1.out.trans (hb.mono HB1.out.size)); clear hb hn1 hn2 hn3; have hS := HB2.out
  refine hK.out _ _ hS (fun _ => ?_)
  clear hK K
  (try simp only [Act.put, List.getElem_toArray, List.getElem_cons_succ, List.getElem_cons_zero, List.setIfInBounds_toArray, List.set_cons_zero, List.set_cons_succ])
  refine wpAnyH_ready (rs := [12]) (by kernel_rfl) (by simp) (AllReadyH.cons rfl (fun K hK => ?_) AllReadyH.nil)
  go_simp
  try dsimp only
  have hS := HB2.out.alloc HB2.out.size (.cells #[.func (.func 59) #[] #[.pointer (some ⟨V0.heap.size, 0, none⟩)], .int .i64 1, .func (.func 60) #[] #[.pointer (some ⟨w1.heap.size, 0, none⟩), .pointer (some ⟨w1.heap.size + 1, 0, none⟩), .pointer (some ⟨w1.heap.size + 2, 0, none⟩)], .int .i64 2, .func (.func 35) #[] #[.pointer (some ⟨w.heap.size + 3, 0, none⟩)], .int .i64 3, .func (.func 36) #[] #[.pointer (some ⟨w.heap.size, 0, none⟩), .pointer (some ⟨w.heap.size + 1, 0, none⟩), .pointer (some ⟨w.heap.size + 2, 0, none⟩)], .int .i64 210, .func (.func 37) #[] #[.pointer (some ⟨w.heap.size, 0, none⟩)], .int .i64 211] 78)
  refine hK.out _ _ hS (fun _ => ?_)
  clear hK K
  (try simp only [Act.put, List.getElem_toArray, List.getElem_cons_succ, List.getElem_cons_zero, List.setIfInBounds_toArray, List.set_cons_zero, List.set_cons_succ])
  have hf := first_new [⟨59, #[.pointer (some ⟨V0.heap.size, 0, none⟩)], 1, false⟩, ⟨60, #[.pointer (some ⟨w1.heap.size, 0, none⟩), .pointer (some ⟨w1.heap.size + 1, 0, none⟩), .pointer (some ⟨w1.heap.size + 2, 0, none⟩)], 2, false⟩, ⟨35, #[.pointer (some ⟨w.heap.size + 3, 0, none⟩)], 3, false⟩, ⟨36, #[.pointer (some ⟨w.heap.size, 0, none⟩), .pointer (some ⟨w.heap.size + 1, 0, none⟩), .pointer (some ⟨w.heap.size + 2, 0, none⟩)], 210, false⟩, ⟨37, #[.pointer (some ⟨w.heap.size, 0, none⟩)], 211, false⟩] 0 rfl 5 W0 w2 #[.func (.func 59) #[] #[.pointer (some ⟨V0.heap.size, 0, none⟩)], .int .i64 1, .func (.func 60) #[] #[.pointer (some ⟨w1.heap.size, 0, none⟩), .pointer (some ⟨w1.heap.size + 1, 0, none⟩), .pointer (some ⟨w1.heap.size + 2, 0, none⟩)], .int .i64 2, .func (.func 35) #[] #[.pointer (some ⟨w.heap.size + 3, 0, none⟩)], .int .i64 3, .func (.func 36) #[] #[.pointer (some ⟨w.heap.size, 0, none⟩), .pointer (some ⟨w.heap.size + 1, 0, none⟩), .pointer (some ⟨w.heap.size + 2, 0, none⟩)], .int .i64 210, .func (.func 37) #[] #[.pointer (some ⟨w.heap.size, 0, none⟩)], .int .i64 211] rfl rfl (by omega) HB2.out (by simp [flNums]) (fun j hj ht W hW => by
    have hbW : Below w.heap.size w W := (HW0.out.trans (HB2.out.mono HW0.out.size)).trans (hW.mono (HW0.out.trans (HB2.out.mono HW0.out.size)).size)
    have hk0 : ∀ {b : Nat} {o : Obj}, W0.heap[b]? = some o → W.heap[b]? = some o := fun {b o} h1 => ((HB2.out.trans (hW.mono HB2.out.size)).block _ (Array.getElem?_eq_some_iff.1 h1).1).trans h1
    have hk2 : ∀ {b : Nat} {o : Obj}, w2.heap[b]? = some o → W.heap[b]? = some o := fun {b o} h1 => (hW.block _ (Array.getElem?_eq_some_iff.1 h1).1).trans h1
    match j, hj, ht with
    | 0, _, _ => exact HC1.out W V0.heap.size hbW (hk2 ((HB12.out.block _ (Array.getElem?_eq_some_iff.1 HX1.out).1).trans HX1.out))
    | 1, _, ht => exact HC2.out (by first | trivial | rfl) W _ _ _ hbW (hk2 HX2.out) (hk2 HX3.out) (hk2 HX4.out)
    | 2, _, _ => exact HC3.out W _ (hk0 HBB.out)
    | 3, _, ht => exact HC4.out (by first | trivial | rfl) (by first | trivial | rfl) W _ _ _ hbW (hk0 HBN.out) (hk0 HBF.out) (hk0 HBT.out)
    | 4, _, ht => exact HC5.out (by first | trivial | rfl) (by first | trivial | rfl) W _ hbW (hk0 HBN.out))
  refine wpAnyH_ready (rs := [13]) (by kernel_rfl) (by simp) (AllReadyH.cons rfl (fun K hK => ?_) AllReadyH.nil)
  go_simp
  go_at_call 32
  (with_reducible refine hf.mono ?_)
  clear hf
  rintro e w3 ⟨rfl, hb⟩
  try dsimp only
  have HB3 := Lib.hid hb; clear hb; have hS := HB3.out
  refine hK.out _ _ hS (fun _ => ?_)
  clear hK K
  (try simp only [Act.put, List.getElem_toArray, List.getElem_cons_succ, List.getElem_cons_zero, List.setIfInBounds_toArray, List.set_cons_zero, List.set_cons_succ])
  refine wpAnyH_take (i := 14) (v := .int .i64 0) rfl (by kernel_rfl) (by kernel_rfl) (by kernel_rfl) (fun _ _ _ h => h) (Or.inl ⟨by rfl, ?_⟩) (by assumption) ?_
  · intro wx hs1; go_simp
  (try simp only [Act.put, List.getElem_toArray, List.getElem_cons_succ, List.getElem_cons_zero, List.setIfInBounds_toArray, List.set_cons_zero, List.set_cons_succ])
  refine wpAnyH_done (by kernel_rfl) ?_ _
  have HB3w : Hid (Below w.heap.size w w3) := Lib.hid (HW0.out.trans (HB3.out.mono HW0.out.size))
  have hk3 : ∀ {b : Nat} {o : Obj}, W0.heap[b]? = some o → w3.heap[b]? = some o := fun {b o} h1 => (HB3.out.block _ (Array.getElem?_eq_some_iff.1 h1).1).trans h1
  have GN := Lib.hid (hk3 HBN.out)
  have GF := Lib.hid (hk3 HBF.out)
  have GT := Lib.hid (hk3 HBT.out)
  have GB := Lib.hid (hk3 HBB.out)
  have GP : Hid (∃ M N2 A2 c2, w3.heap[p]? = some (.cells #[.int .i64 s.ends, .int .i64 M, .int .i64 kC, N2, .slice A2 N c2] 35 (0, 0))) := Lib.hid ⟨_, _, _, _, by have h9 := (HH.out.keep HB3w.out).blk; rw [HK.out, HNN.out] at h9; exact h9⟩
  have HCL : Hid (∀ V, Below w3.heap.size w3 V → Calls Try.prog 38 #[.slice A n c] V fun e w' => ∃ A' c', e = .returned (.slice A' n c') ∧ w'.ownsRow w.heap.size 5 1 (.slice A' n c') n (l.map byteCell) ∧ Below V.heap.size V w' ∧ ∀ g, (Value.slice A' n c').ownBlock = some g → V.heap.size ≤ g) := Lib.hid (fun V hV => by
    have hVw : Below w.heap.size w V := HB3w.out.trans (hV.mono HB3w.out.size)
    refine (clone_any B n c A l V HLN.out (HRD.out.keep (fun q hq => hVw.cell (by omega))) (by have := hVw.size; omega) (by omega)).mono ?_
    rintro e w' ⟨A', c', rfl, h1, h2⟩
    exact ⟨A', c', rfl, own_base h1 hVw.size, h2, fun g e => (h1.lt g e).1⟩)
  go_upto_region 4 with fail
  go_cut [11] from 29 to 37 (fun s11 wx => ∃ (xb : Nat) (A' : Option Addr) (c' : Nat), s11 = .pointer (some ⟨xb, 0, none⟩) ∧ Hid (wx.heap[xb]? = some (.cells #[.int .i64 kC, .int .i64 x, .int .i64 y, .slice A' n c'] 41 (0, 0)) ∧ wx.ownsRow w.heap.size 5 1 (.slice A' n c') n (l.map byteCell) ∧ Below w3.heap.size w3 wx ∧ w3.heap.size ≤ xb))
  case first =>
    have hS0 : (fun W => Below w3.heap.size w3 W) w3.drew := (Below.refl _ w3).drew
    refine wp_region_held_drew (S := fun W => Below w3.heap.size w3 W) rfl hS0 (fun hHeld => ?_)
    simp only [List.size_toArray, List.length_cons, List.length_nil, Nat.reduceAdd]
    have HB0 : Hid (Below w3.heap.size w3 w3.drew) := Lib.hid (Below.refl _ _).drew
    obtain ⟨V0, hV0⟩ : ∃ V, w3.drew = V := ⟨_, rfl⟩
    rw [hV0] at hHeld hS0 HB0 ⊢
    clear hV0
    refine wpAnyH_take (i := 0) (v := .pointer (some ⟨p, 0, none⟩)) rfl (by kernel_rfl) (by kernel_rfl) (by kernel_rfl) (fun _ _ _ h => h) (Or.inl ⟨by rfl, ?_⟩) (by assumption) ?_
    · intro wx hs1; have k0 := cell_of_heap ((hs1.block _ (Array.getElem?_eq_some_iff.1 GN.out).1).trans GN.out) 0; simp only [List.getElem?_toArray, List.getElem?_cons_zero] at k0; go_simp
    (try simp only [Act.put, List.getElem_toArray, List.getElem_cons_zero, List.setIfInBounds_toArray, List.set_cons_zero, List.set_cons_succ])
    refine wpAnyH_take (i := 4) (v := .int .i64 x) rfl (by kernel_rfl) (by kernel_rfl) (by kernel_rfl) (fun _ _ _ h => h) (Or.inl ⟨by rfl, ?_⟩) (by assumption) ?_
    · intro wx hs1; have k0 := cell_of_heap ((hs1.block _ (Array.getElem?_eq_some_iff.1 GF.out).1).trans GF.out) 0; simp only [List.getElem?_toArray, List.getElem?_cons_zero] at k0; go_simp
    (try simp only [Act.put, List.getElem_toArray, List.getElem_cons_succ, List.getElem_cons_zero, List.setIfInBounds_toArray, List.set_cons_zero, List.set_cons_succ])
    refine wpAnyH_take (i := 5) (v := .int .i64 y) rfl (by kernel_rfl) (by kernel_rfl) (by kernel_rfl) (fun _ _ _ h => h) (Or.inl ⟨by rfl, ?_⟩) (by assumption) ?_
    · intro wx hs1; have k0 := cell_of_heap ((hs1.block _ (Array.getElem?_eq_some_iff.1 GT.out).1).trans GT.out) 0; simp only [List.getElem?_toArray, List.getElem?_cons_zero] at k0; go_simp
    (try simp only [Act.put, List.getElem_toArray, List.getElem_cons_succ, List.getElem_cons_zero, List.setIfInBounds_toArray, List.set_cons_zero, List.set_cons_succ])
    refine wpAnyH_take (i := 6) (v := .slice A n c) rfl (by kernel_rfl) (by kernel_rfl) (by kernel_rfl) (fun _ _ _ h => h) (Or.inl ⟨by rfl, ?_⟩) (by assumption) ?_
    · intro wx hs1; have k0 := cell_of_heap ((hs1.block _ (Array.getElem?_eq_some_iff.1 GB.out).1).trans GB.out) 0; simp only [List.getElem?_toArray, List.getElem?_cons_zero] at k0; go_simp
    (try simp only [Act.put, List.getElem_toArray, List.getElem_cons_succ, List.getElem_cons_zero, List.setIfInBounds_toArray, List.set_cons_zero, List.set_cons_succ])
    refine wpAnyH_take (i := 1) (v := .pointer (some ⟨p, 0, none⟩)) rfl (by kernel_rfl) (by kernel_rfl) (by kernel_rfl) (fun _ _ _ h => h) (Or.inl ⟨by rfl, ?_⟩) (by assumption) ?_
    · intro wx hs1; obtain ⟨M, N2, A2, c2, GPP⟩ := GP.out; have k0 := cell_of_heap ((hs1.block _ (Array.getElem?_eq_some_iff.1 GPP).1).trans GPP) 0; simp only [List.getElem?_toArray, List.getElem?_cons_zero] at k0; go_simp
    (try simp only [Act.put, List.getElem_toArray, List.getElem_cons_succ, List.getElem_cons_zero, List.setIfInBounds_toArray, List.set_cons_zero, List.set_cons_succ])
    refine wpAnyH_take (i := 2) (v := .pointer (some ⟨p, 2, none⟩)) rfl (by kernel_rfl) (by kernel_rfl) (by kernel_rfl) (fun _ _ _ h => h) (Or.inl ⟨by rfl, ?_⟩) (by assumption) ?_
    · intro wx hs1; go_simp
    (try simp only [Act.put, List.getElem_toArray, List.getElem_cons_succ, List.getElem_cons_zero, List.setIfInBounds_toArray, List.set_cons_zero, List.set_cons_succ])
    refine wpAnyH_take (i := 3) (v := .int .i64 kC) rfl (by kernel_rfl) (by kernel_rfl) (by kernel_rfl) (fun _ _ _ h => h) (Or.inl ⟨by rfl, ?_⟩) (by assumption) ?_
    · intro wx hs1; obtain ⟨M, N2, A2, c2, GPP⟩ := GP.out; have k0 := cell_of_heap ((hs1.block _ (Array.getElem?_eq_some_iff.1 GPP).1).trans GPP) 2; simp only [List.getElem?_toArray, List.getElem?_cons_zero, List.getElem?_cons_succ] at k0; go_simp
    (try simp only [Act.put, List.getElem_toArray, List.getElem_cons_succ, List.getElem_cons_zero, List.setIfInBounds_toArray, List.set_cons_zero, List.set_cons_succ])
    refine wpAnyH_ready (rs := [7, 9]) (by kernel_rfl) (by simp) (AllReadyH.cons rfl (fun K1 hK => ?_) (AllReadyH.cons rfl (fun K1 hK => ?_) AllReadyH.nil))
    · go_simp
      go_at_call 38
      (with_reducible refine (HCL.out _ HB0.out).mono ?_)
      rintro e w9 ⟨A', c', rfl, ho9, hb9, hng⟩
      try dsimp only
      have hb9o : Below w3.heap.size w3 w9 := HB0.out.trans (hb9.mono HB0.out.size)
      refine hK.out _ _ hb9o (fun _ => ?_)
      clear hK K1 hb9
      (try simp only [Act.put, List.getElem_toArray, List.getElem_cons_succ, List.getElem_cons_zero, List.setIfInBounds_toArray, List.set_cons_zero, List.set_cons_succ])
      refine wpAnyH_take (i := 8) (v := .agg #[.int .i64 kC, .int .i64 x, .int .i64 y, .slice A' n c']) rfl (by kernel_rfl) (by kernel_rfl) (by kernel_rfl) (fun _ _ _ h => h) (Or.inl ⟨by rfl, ?_⟩) (by assumption) ?_
      · intro wx hs1; go_simp
      (try simp only [Act.put, List.getElem_toArray, List.getElem_cons_succ, List.getElem_cons_zero, List.setIfInBounds_toArray, List.set_cons_zero, List.set_cons_succ])
      refine wpAnyH_ready (rs := [9]) (by kernel_rfl) (by simp) (AllReadyH.cons rfl (fun K hK => ?_) AllReadyH.nil)
      go_simp
      have hb9a : Below w3.heap.size w3 (w9.alloc (.cells #[.int .i64 0, .int .i64 0, .int .i64 0, .slice none 0 0] 41)) := hb9o.alloc hb9o.size _
      try dsimp only
      have hS := hb9a
      refine hK.out _ _ hS (fun _ => ?_)
      clear hK K
      (try simp only [Act.put, List.getElem_toArray, List.getElem_cons_succ, List.getElem_cons_zero, List.setIfInBounds_toArray, List.set_cons_zero, List.set_cons_succ])
      have hlt9 : ∀ g, (Value.slice A' n c').ownBlock = some g → g < w9.heap.size := fun g e => (ho9.lt g e).2
      have ho9a := own_below ho9 ((Below.refl _ w9).alloc (Nat.le_refl _) (.cells #[.int .i64 0, .int .i64 0, .int .i64 0, .slice none 0 0] 41))
      obtain ⟨VB, hVB⟩ : ∃ v, w9.alloc (.cells #[.int .i64 0, .int .i64 0, .int .i64 0, .slice none 0 0] 41) = v := ⟨_, rfl⟩
      have hZA : VB.heap[w9.heap.size]? = some (.cells #[.int .i64 0, .int .i64 0, .int .i64 0, .slice none 0 0] 41 (0, 0)) := by rw [← hVB]; exact World.alloc_heap_new _ _
      rw [hVB] at hb9a ho9a ⊢
      clear hVB
      have HBW := Lib.hid hb9a
      have HO9 := Lib.hid ho9a
      obtain ⟨xb, hxb'⟩ : ∃ x, w9.heap.size = x := ⟨_, rfl⟩
      have hxb : w3.heap.size ≤ xb := by rw [← hxb']; exact hb9o.size
      have HNE : Hid ((Value.slice A' n c').ownBlock ≠ some xb) := Lib.hid (fun e => by have := hlt9 _ e; omega)
      rw [hxb'] at hZA ⊢
      clear hxb'
      have HZ := Lib.hid hZA
      have f0 := frozen_of_heap HZ.out 0
      have f1 := frozen_of_heap HZ.out 1
      have f2 := frozen_of_heap HZ.out 2
      have f3 := frozen_of_heap HZ.out 3
      have a0 := cell_of_heap HZ.out 0
      have a1 := cell_of_heap HZ.out 1
      have a2 := cell_of_heap HZ.out 2
      have a3 := cell_of_heap HZ.out 3
      simp only [List.getElem?_toArray, List.getElem?_cons_zero, List.getElem?_cons_succ] at a0 a1 a2 a3
      have HPZ := Lib.hid (put4 HZ.out (.int .i64 kC) (.int .i64 x) (.int .i64 y) (.slice A' n c'))
      have HPB := Lib.hid (put4_but VB xb (.int .i64 kC) (.int .i64 x) (.int .i64 y) (.slice A' n c'))
      refine wpAnyH_ready (rs := [10]) (by kernel_rfl) (by simp) (AllReadyH.cons rfl (fun K hK => ?_) AllReadyH.nil)
      go_simp
      obtain ⟨w10, hw10⟩ : ∃ v, put4W VB xb (.int .i64 kC) (.int .i64 x) (.int .i64 y) (.slice A' n c') = v := ⟨_, rfl⟩
      unfold put4W at hw10 HPZ HPB
      rw [hw10] at HPZ HPB ⊢
      clear hw10 f0 f1 f2 f3 a0 a1 a2 a3
      have hbo : But (fun q => q = xb) w3 w10 := (But.of_all HBW.out _).trans HPB.out (fun _ _ e => e)
      have HB10 : Hid (Below w3.heap.size w3 w10) := Lib.hid (hbo.to_below (Nat.le_refl _) (fun q e => by have e2 : q = xb := e; omega))
      have HO10 := Lib.hid (HPB.out.row HO9.out (fun g e1 e2 => HNE.out (by rw [e1, e2])))
      try dsimp only
      have hS := HB10.out
      refine hK.out _ _ hS (fun _ => ?_)
      clear hK K
      (try simp only [Act.put, List.getElem_toArray, List.getElem_cons_succ, List.getElem_cons_zero, List.setIfInBounds_toArray, List.set_cons_zero, List.set_cons_succ])
      refine wpAnyH_done (by kernel_rfl) ?_ _
      go_wp2_with fail
      go_meet
      exact ⟨xb, A', c', rfl, Lib.hid ⟨HPZ.out, HO10.out, HB10.out, hxb⟩⟩
    · go_simp
      have hbA : Below w3.heap.size w3 (V0.alloc (.cells #[.int .i64 0, .int .i64 0, .int .i64 0, .slice none 0 0] 41)) := HB0.out.alloc HB0.out.size _
      refine hK.out _ _ hbA (fun _ => ?_)
      clear hK K1
      (try simp only [Act.put, List.getElem_toArray, List.getElem_cons_succ, List.getElem_cons_zero, List.setIfInBounds_toArray, List.set_cons_zero, List.set_cons_succ])
      obtain ⟨VA, hVA⟩ : ∃ v, V0.alloc (.cells #[.int .i64 0, .int .i64 0, .int .i64 0, .slice none 0 0] 41) = v := ⟨_, rfl⟩
      have hZA : VA.heap[V0.heap.size]? = some (.cells #[.int .i64 0, .int .i64 0, .int .i64 0, .slice none 0 0] 41 (0, 0)) := by rw [← hVA]; exact World.alloc_heap_new _ _
      rw [hVA] at hbA ⊢
      clear hVA
      have hSA := hbA
      obtain ⟨xb, hxb'⟩ : ∃ x, V0.heap.size = x := ⟨_, rfl⟩
      have hxb : w3.heap.size ≤ xb := by rw [← hxb']; exact HB0.out.size
      rw [hxb'] at hZA ⊢
      clear hxb'
      refine wpAnyH_ready (rs := [7]) (by kernel_rfl) (by simp) (AllReadyH.cons rfl (fun K hK => ?_) AllReadyH.nil)
      go_simp
      go_at_call 38
      (with_reducible refine (HCL.out _ hbA).mono ?_)
      rintro e w9 ⟨A', c', rfl, ho9, hb9, hng⟩
      try dsimp only
      have HBW : Hid (Below w3.heap.size w3 w9) := Lib.hid (hbA.trans (hb9.mono hbA.size)); have HZ := Lib.hid ((hb9.block _ (Array.getElem?_eq_some_iff.1 hZA).1).trans hZA); have HO9 := Lib.hid ho9; clear hb9 ho9; have hS := HBW.out
      refine hK.out _ _ hS (fun _ => ?_)
      clear hK K
      (try simp only [Act.put, List.getElem_toArray, List.getElem_cons_succ, List.getElem_cons_zero, List.setIfInBounds_toArray, List.set_cons_zero, List.set_cons_succ])
      have HNE : Hid ((Value.slice A' n c').ownBlock ≠ some xb) := Lib.hid (fun e => by have h1 := hng _ e; have h2 := (Array.getElem?_eq_some_iff.1 hZA).1; omega)
      refine wpAnyH_take (i := 8) (v := .agg #[.int .i64 kC, .int .i64 x, .int .i64 y, .slice A' n c']) rfl (by kernel_rfl) (by kernel_rfl) (by kernel_rfl) (fun _ _ _ h => h) (Or.inl ⟨by rfl, ?_⟩) (by assumption) ?_
      · intro wx hs1; go_simp
      (try simp only [Act.put, List.getElem_toArray, List.getElem_cons_succ, List.getElem_cons_zero, List.setIfInBounds_toArray, List.set_cons_zero, List.set_cons_succ])
      have f0 := frozen_of_heap HZ.out 0
      have f1 := frozen_of_heap HZ.out 1
      have f2 := frozen_of_heap HZ.out 2
      have f3 := frozen_of_heap HZ.out 3
      have a0 := cell_of_heap HZ.out 0
      have a1 := cell_of_heap HZ.out 1
      have a2 := cell_of_heap HZ.out 2
      have a3 := cell_of_heap HZ.out 3
      simp only [List.getElem?_toArray, List.getElem?_cons_zero, List.getElem?_cons_succ] at a0 a1 a2 a3
      have HPZ := Lib.hid (put4 HZ.out (.int .i64 kC) (.int .i64 x) (.int .i64 y) (.slice A' n c'))
      have HPB := Lib.hid (put4_but w9 xb (.int .i64 kC) (.int .i64 x) (.int .i64 y) (.slice A' n c'))
      refine wpAnyH_ready (rs := [10]) (by kernel_rfl) (by simp) (AllReadyH.cons rfl (fun K hK => ?_) AllReadyH.nil)
      go_simp
      obtain ⟨w10, hw10⟩ : ∃ v, put4W w9 xb (.int .i64 kC) (.int .i64 x) (.int .i64 y) (.slice A' n c') = v := ⟨_, rfl⟩
      unfold put4W at hw10 HPZ HPB
      rw [hw10] at HPZ HPB ⊢
      clear hw10 f0 f1 f2 f3 a0 a1 a2 a3
      have hbo : But (fun q => q = xb) w3 w10 := (But.of_all HBW.out _).trans HPB.out (fun _ _ e => e)
      have HB10 : Hid (Below w3.heap.size w3 w10) := Lib.hid (hbo.to_below (Nat.le_refl _) (fun q e => by have e2 : q = xb := e; omega))
      have HO10 := Lib.hid (HPB.out.row HO9.out (fun g e1 e2 => HNE.out (by rw [e1, e2])))
      try dsimp only
      have hS := HB10.out
      refine hK.out _ _ hS (fun _ => ?_)
      clear hK K
      (try simp only [Act.put, List.getElem_toArray, List.getElem_cons_succ, List.getElem_cons_zero, List.setIfInBounds_toArray, List.set_cons_zero, List.set_cons_succ])
      refine wpAnyH_done (by kernel_rfl) ?_ _
      go_wp2_with fail
      go_meet
      exact ⟨xb, A', c', rfl, Lib.hid ⟨HPZ.out, HO10.out, HB10.out, hxb⟩⟩
  case rest =>
    obtain ⟨xb, A', c', rfl, HR4⟩ := hcut
    obtain ⟨w5, rfl⟩ : ∃ v : World, v = wc := ⟨_, rfl⟩
    go_upto_region 5 with fail
    have HWc : Hid (Below w.heap.size w w5) := Lib.hid (HB3w.out.trans (HR4.out.2.2.1.mono HB3w.out.size))
    have HN5 : Hid (NAt w5 p Mb base s D A0 cap0 ms) := Lib.hid (HH.out.keep HWc.out)
    have hw3w := HB3w.out.size
    have HCN := Lib.hid ((HR4.out.2.2.1.block _ (Array.getElem?_eq_some_iff.1 GN.out).1).trans GN.out)
    have HXB := Lib.hid HR4.out.1
    have hpb : p < base ∧ base ≤ w.heap.size := ⟨HH.out.low.1, HH.out.low.2.2.2⟩
    have hxbw : w3.heap.size ≤ xb := HR4.out.2.2.2
    have HOWN : Hid (∀ q, (Value.slice A0 N cap0).ownBlock = some q → q < w.heap.size ∧ base ≤ q) := Lib.hid (fun q e => by have h9 := HH.out.row; rw [HNN.out] at h9; exact ⟨(h9.lt q e).2, (h9.lt q e).1⟩)
    have HB4 : Hid (∃ X0 X1 X3, w5.heap[p]? = some (.cells #[X0, X1, .int .i64 kC, X3, .slice A0 N cap0] 35 (0, 0))) := Lib.hid ⟨_, _, _, by have h9 := HN5.out.blk; rw [HK.out, HNN.out] at h9; exact h9⟩
    have HNB : Hid (¬ ((fun q => q = p ∨ (Value.slice A0 N cap0).ownBlock = some q) w.heap.size)) := Lib.hid (fun e => by rcases e with e | e; omega; have := (HOWN.out _ e).1; omega)
    have HNX : Hid (¬ ((fun q => q = p ∨ (Value.slice A0 N cap0).ownBlock = some q) xb)) := Lib.hid (fun e => by rcases e with e | e; omega; have := (HOWN.out _ e).1; omega)
    clear hk3 HCL
    go_cut [] from 38 to 48 (fun wx => ∃ (A8 : Option Addr) (c8 : Nat), Hid (wx.heap[p]? = some (.cells #[.int .i64 s.ends, .int .i64 s.most, .int .i64 kC, .map (some Mb), .slice A8 (N + 1) c8] 35 (0, 0)) ∧ wx.ownsRow base 83 4 (.slice A8 (N + 1) c8) (N + 1) (cellsM ms ++ [.int .i64 kC, .int .i64 x, .int .i64 y, .slice A' n c']) ∧ But (fun q => q = p ∨ (Value.slice A0 N cap0).ownBlock = some q) w5 wx ∧ ((Value.slice A8 (N + 1) c8).ownBlock = (Value.slice A0 N cap0).ownBlock ∨ ∀ q, (Value.slice A8 (N + 1) c8).ownBlock = some q → w5.heap.size ≤ q)))
    case first =>
      have hS0 : (fun W => But (fun q => q = p ∨ (Value.slice A0 N cap0).ownBlock = some q) w5 W) w5.drew := (But.refl _ w5).drew
      refine wp_region_held_drew (S := fun W => But (fun q => q = p ∨ (Value.slice A0 N cap0).ownBlock = some q) w5 W) rfl hS0 (fun hHeld => ?_)
      simp only [List.size_toArray, List.length_cons, List.length_nil, Nat.reduceAdd]
      have HB0 : Hid (Below w5.heap.size w5 w5.drew) := Lib.hid (Below.refl _ _).drew
      obtain ⟨V0, hV0⟩ : ∃ V, w5.drew = V := ⟨_, rfl⟩
      rw [hV0] at hHeld hS0 HB0 ⊢
      clear hV0
      refine wpAnyH_take (i := 0) (v := .pointer (some ⟨p, 0, none⟩)) rfl (by kernel_rfl) (by kernel_rfl) (by kernel_rfl) (fun _ _ _ h => h) (Or.inl ⟨by rfl, ?_⟩) (by assumption) ?_
      · intro wx hs1; have k0 := cell_of_heap (But.box hs1 HCN.out HNB.out) 0; simp only [List.getElem?_toArray, List.getElem?_cons_zero] at k0; go_simp
      (try simp only [Act.put, List.getElem_toArray, List.getElem_cons_zero, List.setIfInBounds_toArray, List.set_cons_zero, List.set_cons_succ])
      refine wpAnyH_take (i := 1) (v := .pointer (some ⟨p, 0, none⟩)) rfl (by kernel_rfl) (by kernel_rfl) (by kernel_rfl) (fun _ _ _ h => h) (Or.inl ⟨by rfl, ?_⟩) (by assumption) ?_
      · intro wx hs1; have k0 := cell_of_heap (But.box hs1 HCN.out HNB.out) 0; simp only [List.getElem?_toArray, List.getElem?_cons_zero] at k0; go_simp
      (try simp only [Act.put, List.getElem_toArray, List.getElem_cons_succ, List.getElem_cons_zero, List.setIfInBounds_toArray, List.set_cons_zero, List.set_cons_succ])
      refine wpAnyH_take (i := 2) (v := .pointer (some ⟨p, 0, none⟩)) rfl (by kernel_rfl) (by kernel_rfl) (by kernel_rfl) (fun _ _ _ h => h) (Or.inl ⟨by rfl, ?_⟩) (by assumption) ?_
      · intro wx hs1; go_simp
      (try simp only [Act.put, List.getElem_toArray, List.getElem_cons_succ, List.getElem_cons_zero, List.setIfInBounds_toArray, List.set_cons_zero, List.set_cons_succ])
      refine wpAnyH_take (i := 3) (v := .pointer (some ⟨p, 4, none⟩)) rfl (by kernel_rfl) (by kernel_rfl) (by kernel_rfl) (fun _ _ _ h => h) (Or.inl ⟨by rfl, ?_⟩) (by assumption) ?_
      · intro wx hs1; go_simp
      (try simp only [Act.put, List.getElem_toArray, List.getElem_cons_succ, List.getElem_cons_zero, List.setIfInBounds_toArray, List.set_cons_zero, List.set_cons_succ])
      refine wpAnyH_take (i := 5) (v := .agg #[.int .i64 kC, .int .i64 x, .int .i64 y, .slice A' n c']) rfl (by kernel_rfl) (by kernel_rfl) (by kernel_rfl) (fun _ _ _ h => h) (Or.inl ⟨by rfl, ?_⟩) (by assumption) ?_
      · intro wx hs1; have hx := But.box hs1 HXB.out HNX.out; have k0 := cell_of_heap hx 0; have k1 := cell_of_heap hx 1; have k2 := cell_of_heap hx 2; have k3 := cell_of_heap hx 3; simp only [List.getElem?_toArray, List.getElem?_cons_zero, List.getElem?_cons_succ] at k0 k1 k2 k3; go_simp
      (try simp only [Act.put, List.getElem_toArray, List.getElem_cons_succ, List.getElem_cons_zero, List.setIfInBounds_toArray, List.set_cons_zero, List.set_cons_succ])
      refine wpAnyH_take (i := 6) (v := .agg #[.int .i64 kC, .int .i64 x, .int .i64 y, .slice A' n c']) rfl (by kernel_rfl) (by kernel_rfl) (by kernel_rfl) (fun _ _ _ h => h) (Or.inl ⟨by rfl, ?_⟩) (by assumption) ?_
      · intro wx hs1; go_simp
      (try simp only [Act.put, List.getElem_toArray, List.getElem_cons_succ, List.getElem_cons_zero, List.setIfInBounds_toArray, List.set_cons_zero, List.set_cons_succ])
      have hk4 : V0.cell? ⟨p, 4, none⟩ = some (.slice A0 N cap0) := by obtain ⟨X0, X1, X3, hx⟩ := HB4.out; have hx2 := (HB0.out.block _ (Array.getElem?_eq_some_iff.1 hx).1).trans hx; have k0 := cell_of_heap hx2 4; simpa only [List.getElem?_toArray, List.getElem?_cons_zero, List.getElem?_cons_succ] using k0
      have hba : Below w5.heap.size w5 (V0.alloc (.cells #[.int .i64 kC, .int .i64 x, .int .i64 y, .slice A' n c'] 83)) := HB0.out.alloc HB0.out.size _
      have hka : (V0.alloc (.cells #[.int .i64 kC, .int .i64 x, .int .i64 y, .slice A' n c'] 83)).cell? ⟨p, 4, none⟩ = some (.slice A0 N cap0) := by obtain ⟨X0, X1, X3, hx⟩ := HB4.out; have hx2 := (hba.block _ (Array.getElem?_eq_some_iff.1 hx).1).trans hx; have k0 := cell_of_heap hx2 4; simpa only [List.getElem?_toArray, List.getElem?_cons_zero, List.getElem?_cons_succ] using k0
      refine wpAnyH_ready (rs := [4, 7]) (by kernel_rfl) (by simp) (AllReadyH.cons rfl (fun K1 hK => ?_) (AllReadyH.cons rfl (fun K1 hK => ?_) AllReadyH.nil))
      · go_simp
        refine hK.out _ _ hS0 (fun _ => ?_)
        clear hK K1
        (try simp only [Act.put, List.getElem_toArray, List.getElem_cons_succ, List.getElem_cons_zero, List.setIfInBounds_toArray, List.set_cons_zero, List.set_cons_succ])
        refine wpAnyH_ready (rs := [7]) (by kernel_rfl) (by simp) (AllReadyH.cons rfl (fun K hK => ?_) AllReadyH.nil)
        go_simp
        try dsimp only
        have hS := But.of_all hba (fun q => q = p ∨ (Value.slice A0 N cap0).ownBlock = some q)
        refine hK.out _ _ hS (fun _ => ?_)
        clear hK K
        (try simp only [Act.put, List.getElem_toArray, List.getElem_cons_succ, List.getElem_cons_zero, List.setIfInBounds_toArray, List.set_cons_zero, List.set_cons_succ])
        obtain ⟨VA, hVA⟩ : ∃ v, V0.alloc (.cells #[.int .i64 kC, .int .i64 x, .int .i64 y, .slice A' n c'] 83) = v := ⟨_, rfl⟩
        have hZA : VA.heap[V0.heap.size]? = some (.cells #[.int .i64 kC, .int .i64 x, .int .i64 y, .slice A' n c'] 83 (0, 0)) := by rw [← hVA]; exact World.alloc_heap_new _ _
        rw [hVA] at hba hka hS ⊢
        clear hVA
        have hrow := own_below HN5.out.row hba
        rw [HNN.out] at hrow
        have hbs : base ≤ VA.heap.size := by have h7 := hba.size; have h8 := HWc.out.size; omega
        obtain ⟨v8, w8, r1, r2, r3, r4⟩ := run_app_msg base N cap0 A0 (cellsM ms) _ _ _ _ V0.heap.size VA hrow hZA ⟨rfl, rfl, rfl, rfl⟩ (by omega) hbs
        obtain ⟨g8, c8, rfl, _, _⟩ := r2.form (by omega)
        have HB8 : Hid (But (fun q => q = p ∨ (Value.slice A0 N cap0).ownBlock = some q) w5 w8) := Lib.hid ((But.of_all hba _).trans ((But.grown r3).mono (fun b _ e => .inr e)) (fun b _ e => e))
        have hblk8 : w8.heap[p]? = some (.cells #[.int .i64 s.ends, .int .i64 s.most, .int .i64 kC, .map (some Mb), .slice A0 N cap0] 35 (0, 0)) := by
          have h9 := HN5.out.blk
          rw [HK.out, HNN.out] at h9
          exact But.box (But.grown r3) ((hba.block _ (Array.getElem?_eq_some_iff.1 h9).1).trans h9) (fun e => by have := (HOWN.out _ e).2; omega)
        have b4 := cell_of_heap hblk8 4
        have f4 := frozen_of_heap hblk8 4
        simp only [List.getElem?_toArray, List.getElem?_cons_zero, List.getElem?_cons_succ] at b4
        refine wpAnyH_ready (rs := [8]) (by kernel_rfl) (by simp) (AllReadyH.cons rfl (fun K hK => ?_) AllReadyH.nil)
        refine wp_append_run (.tmp 42) (.tmp 45) 33 rfl _ _ _ rfl rfl r1 ?_
        try dsimp only
        have hS := HB8.out
        refine hK.out _ _ hS (fun _ => ?_)
        clear hK K
        (try simp only [Act.put, List.getElem_toArray, List.getElem_cons_succ, List.getElem_cons_zero, List.setIfInBounds_toArray, List.set_cons_zero, List.set_cons_succ])
        refine wpAnyH_take (i := 9) (v := .pointer (some ⟨p, 0, none⟩)) rfl (by kernel_rfl) (by kernel_rfl) (by kernel_rfl) (fun _ _ _ h => h) (Or.inl ⟨by rfl, ?_⟩) (by assumption) ?_
        · intro wx hs1; go_simp
        (try simp only [Act.put, List.getElem_toArray, List.getElem_cons_succ, List.getElem_cons_zero, List.setIfInBounds_toArray, List.set_cons_zero, List.set_cons_succ])
        refine wpAnyH_take (i := 10) (v := .pointer (some ⟨p, 4, none⟩)) rfl (by kernel_rfl) (by kernel_rfl) (by kernel_rfl) (fun _ _ _ h => h) (Or.inl ⟨by rfl, ?_⟩) (by assumption) ?_
        · intro wx hs1; go_simp
        (try simp only [Act.put, List.getElem_toArray, List.getElem_cons_succ, List.getElem_cons_zero, List.setIfInBounds_toArray, List.set_cons_zero, List.set_cons_succ])
        refine wpAnyH_ready (rs := [11]) (by kernel_rfl) (by simp) (AllReadyH.cons rfl (fun K hK => ?_) AllReadyH.nil)
        go_simp
        have h11 := heap_setCells (i := 4) (u := .slice (some ⟨g8, 0, none⟩) (N + 1) c8) hblk8
        have hb11 : But (fun q => q = p) w8 (w8.setCell ⟨p, 4, none⟩ (.slice (some ⟨g8, 0, none⟩) (N + 1) c8)) := (But.refl (fun q => q = p) w8).set ⟨p, 4, none⟩ _ (.inl rfl)
        try dsimp only
        have hS := HB8.out.trans (hb11.mono (fun b _ e => .inl e)) (fun b _ e => e)
        refine hK.out _ _ hS (fun _ => ?_)
        clear hK K
        (try simp only [Act.put, List.getElem_toArray, List.getElem_cons_succ, List.getElem_cons_zero, List.setIfInBounds_toArray, List.set_cons_zero, List.set_cons_succ])
        refine wpAnyH_done (by kernel_rfl) ?_ _
        go_wp2_with fail
        go_meet
        exact ⟨some ⟨g8, 0, none⟩, c8, Lib.hid ⟨h11, hb11.row r2 (fun g e1 e2 => by have h7 := (r2.lt g e1).1; omega), hS, r4.imp id (fun e q e2 => by rw [e] at e2; injection e2 with e2; have := hba.size; omega)⟩⟩
      · go_simp
        refine hK.out _ _ (But.of_all hba _) (fun _ => ?_)
        clear hK K1
        (try simp only [Act.put, List.getElem_toArray, List.getElem_cons_succ, List.getElem_cons_zero, List.setIfInBounds_toArray, List.set_cons_zero, List.set_cons_succ])
        refine wpAnyH_ready (rs := [4]) (by kernel_rfl) (by simp) (AllReadyH.cons rfl (fun K hK => ?_) AllReadyH.nil)
        go_simp
        try dsimp only
        have hS := But.of_all hba (fun q => q = p ∨ (Value.slice A0 N cap0).ownBlock = some q)
        refine hK.out _ _ hS (fun _ => ?_)
        clear hK K
        (try simp only [Act.put, List.getElem_toArray, List.getElem_cons_succ, List.getElem_cons_zero, List.setIfInBounds_toArray, List.set_cons_zero, List.set_cons_succ])
        obtain ⟨VA, hVA⟩ : ∃ v, V0.alloc (.cells #[.int .i64 kC, .int .i64 x, .int .i64 y, .slice A' n c'] 83) = v := ⟨_, rfl⟩
        have hZA : VA.heap[V0.heap.size]? = some (.cells #[.int .i64 kC, .int .i64 x, .int .i64 y, .slice A' n c'] 83 (0, 0)) := by rw [← hVA]; exact World.alloc_heap_new _ _
        rw [hVA] at hba hka hS ⊢
        clear hVA
        have hrow := own_below HN5.out.row hba
        rw [HNN.out] at hrow
        have hbs : base ≤ VA.heap.size := by have h7 := hba.size; have h8 := HWc.out.size; omega
        obtain ⟨v8, w8, r1, r2, r3, r4⟩ := run_app_msg base N cap0 A0 (cellsM ms) _ _ _ _ V0.heap.size VA hrow hZA ⟨rfl, rfl, rfl, rfl⟩ (by omega) hbs
        obtain ⟨g8, c8, rfl, _, _⟩ := r2.form (by omega)
        have HB8 : Hid (But (fun q => q = p ∨ (Value.slice A0 N cap0).ownBlock = some q) w5 w8) := Lib.hid ((But.of_all hba _).trans ((But.grown r3).mono (fun b _ e => .inr e)) (fun b _ e => e))
        have hblk8 : w8.heap[p]? = some (.cells #[.int .i64 s.ends, .int .i64 s.most, .int .i64 kC, .map (some Mb), .slice A0 N cap0] 35 (0, 0)) := by
          have h9 := HN5.out.blk
          rw [HK.out, HNN.out] at h9
          exact But.box (But.grown r3) ((hba.block _ (Array.getElem?_eq_some_iff.1 h9).1).trans h9) (fun e => by have := (HOWN.out _ e).2; omega)
        have b4 := cell_of_heap hblk8 4
        have f4 := frozen_of_heap hblk8 4
        simp only [List.getElem?_toArray, List.getElem?_cons_zero, List.getElem?_cons_succ] at b4
        refine wpAnyH_ready (rs := [8]) (by kernel_rfl) (by simp) (AllReadyH.cons rfl (fun K hK => ?_) AllReadyH.nil)
        refine wp_append_run (.tmp 42) (.tmp 45) 33 rfl _ _ _ rfl rfl r1 ?_
        try dsimp only
        have hS := HB8.out
        refine hK.out _ _ hS (fun _ => ?_)
        clear hK K
        (try simp only [Act.put, List.getElem_toArray, List.getElem_cons_succ, List.getElem_cons_zero, List.setIfInBounds_toArray, List.set_cons_zero, List.set_cons_succ])
        refine wpAnyH_take (i := 9) (v := .pointer (some ⟨p, 0, none⟩)) rfl (by kernel_rfl) (by kernel_rfl) (by kernel_rfl) (fun _ _ _ h => h) (Or.inl ⟨by rfl, ?_⟩) (by assumption) ?_
        · intro wx hs1; go_simp
        (try simp only [Act.put, List.getElem_toArray, List.getElem_cons_succ, List.getElem_cons_zero, List.setIfInBounds_toArray, List.set_cons_zero, List.set_cons_succ])
        refine wpAnyH_take (i := 10) (v := .pointer (some ⟨p, 4, none⟩)) rfl (by kernel_rfl) (by kernel_rfl) (by kernel_rfl) (fun _ _ _ h => h) (Or.inl ⟨by rfl, ?_⟩) (by assumption) ?_
        · intro wx hs1; go_simp
        (try simp only [Act.put, List.getElem_toArray, List.getElem_cons_succ, List.getElem_cons_zero, List.setIfInBounds_toArray, List.set_cons_zero, List.set_cons_succ])
        refine wpAnyH_ready (rs := [11]) (by kernel_rfl) (by simp) (AllReadyH.cons rfl (fun K hK => ?_) AllReadyH.nil)
        go_simp
        have h11 := heap_setCells (i := 4) (u := .slice (some ⟨g8, 0, none⟩) (N + 1) c8) hblk8
        have hb11 : But (fun q => q = p) w8 (w8.setCell ⟨p, 4, none⟩ (.slice (some ⟨g8, 0, none⟩) (N + 1) c8)) := (But.refl (fun q => q = p) w8).set ⟨p, 4, none⟩ _ (.inl rfl)
        try dsimp only
        have hS := HB8.out.trans (hb11.mono (fun b _ e => .inl e)) (fun b _ e => e)
        refine hK.out _ _ hS (fun _ => ?_)
        clear hK K
        (try simp only [Act.put, List.getElem_toArray, List.getElem_cons_succ, List.getElem_cons_zero, List.setIfInBounds_toArray, List.set_cons_zero, List.set_cons_succ])
        refine wpAnyH_done (by kernel_rfl) ?_ _
        go_wp2_with fail
        go_meet
        exact ⟨some ⟨g8, 0, none⟩, c8, Lib.hid ⟨h11, hb11.row r2 (fun g e1 e2 => by have h7 := (r2.lt g e1).1; omega), hS, r4.imp id (fun e q e2 => by rw [e] at e2; injection e2 with e2; have := hba.size; omega)⟩⟩
    case rest =>
      obtain ⟨A8, c8, HR5⟩ := hcut
      have HPM := Lib.hid HR5.out.2.2.1
      have HCN6 := Lib.hid (But.box HPM.out HCN.out HNB.out)
      have HXB6 := Lib.hid (But.box HPM.out HXB.out HNX.out)
      have HP6 := Lib.hid HR5.out.1
      have e0 := cell_of_heap HCN6.out 0
      have e1 := cell_of_heap HP6.out 2
      have f1 := frozen_of_heap HP6.out 2
      simp only [List.getElem?_toArray, List.getElem?_cons_zero, List.getElem?_cons_succ] at e0 e1
      have hxp : xb ≠ p := by omega
      have hfin := heap_setCells (i := 2) (u := .int .i64 (kC + 1)) HP6.out
      have hbf : But (fun q => q = p) wc (wc.setCell ⟨p, 2, none⟩ (.int .i64 (kC + 1))) := (But.refl (fun q => q = p) wc).set ⟨p, 2, none⟩ _ (.inl rfl)
      have hx7 := cell_of_heap (But.box hbf HXB6.out hxp) 0
      simp only [List.getElem?_toArray, List.getElem?_cons_zero] at hx7
      have HFIN := Lib.hid hfin
      have HBF := Lib.hid hbf
      clear hfin hbf
      go_wp2
      have hK' := HK.out
      have hN' := HNN.out
      have hBut : But (PMay p (.slice A0 ms.length cap0)) w (wc.setCell ⟨p, 2, none⟩ (.int .i64 (kC + 1))) := by rw [hN']; exact ((But.of_all HWc.out _).trans HPM.out (fun _ _ e => e)).trans (HBF.out.mono (fun b _ e => .inl e)) (fun _ _ e => e)
      have hb4 := HR4.out.2.1
      have h6 := HPM.out.row hb4 (fun g e1 e2 => by have h7 := (hb4.lt g e1).1; rcases e2 with e2 | e2; omega; (have h8 := (HOWN.out _ e2).1; omega))
      have h7 := own_base (HBF.out.row h6 (fun g e1 e2 => by have h7 := (h6.lt g e1).1; have e3 : g = p := e2; omega)) hpb.2
      have h8 := HBF.out.row HR5.out.2.1 (fun g e1 e2 => by have h7 := (HR5.out.2.1.lt g e1).1; have e3 : g = p := e2; omega)
      have hsep : ∀ b, (Value.slice A' n c').ownBlock = some b → (Value.slice A8 (N + 1) c8).ownBlock ≠ some b := fun b hb e => by
        have q1 := hb4.lt b hb
        rcases HR5.out.2.2.2 with e5 | e5
        · rw [e5] at e; have := (HOWN.out _ e).1; omega
        · have := e5 b e; omega
      have hfinal := NAt.added ⟨kC, x, y, l, A', c'⟩ A8 c8 HH.out hBut (by rw [hN', hK']; exact HFIN.out) (by rw [hN']; show World.ownsRow _ base 83 4 _ (N + 1) (cellsM ms ++ [.int .i64 kC, .int .i64 x, .int .i64 y, .slice A' l.length c']); rw [HLN.out]; exact h8) (by rw [hN']; exact HR5.out.2.2.2.imp id (fun e q e2 => Nat.le_trans HWc.out.size (e q e2))) (by show World.ownsRow _ base 5 1 (.slice A' l.length c') l.length _; rw [HLN.out]; exact h7) (by rw [hN']; show ∀ b, (Value.slice A' l.length c').ownBlock = some b → _; rw [HLN.out]; exact hsep) HM.out (by rw [hK']; exact hc) ⟨hK'.symm, HI.out.1, HI.out.2.1, HI.out.2.2.1, HI.out.2.2.2.1, by show l.length ≤ 8192; rw [HLN.out]; exact hn⟩
      have hst1 : (Value.slice A8 (N + 1) c8).ownBlock = (Value.slice A0 N cap0).ownBlock ∨ ∀ q, (Value.slice A8 (N + 1) c8).ownBlock = some q → w.heap.size ≤ q := HR5.out.2.2.2.imp id (fun e q e2 => Nat.le_trans HWc.out.size (e q e2))
      have hst2 : ∀ b, (MsgM.sl ⟨kC, x, y, l, A', c'⟩).ownBlock = some b → w.heap.size ≤ b := fun b hb => by
        have hb' : (Value.slice A' n c').ownBlock = some b := by rw [← HLN.out]; exact hb
        have q1 := (hb4.lt b hb').1
        omega
      rw [hK'] at hfinal
      rw [hN'] at hBut
      exact bodyPost_ret (v := .tuple #[.int .i64 kC, .int .i64 0]) (by simp [results, Try.results12, go_sem]) rfl ⟨rfl, A8, c8, ⟨kC, x, y, l, A', c'⟩, hfinal, rfl, rfl, rfl, rfl, hBut, hst1, hst2⟩
end Go.Proofs
namespace Go.Proofs
open Go Go.RowKit Sm Go.Lib Go.Maps Go.WideMaps
theorem Sm.put_no {v : Value} (x y : Int) (A : Option Addr) (n c : Nat) (w : World) (h : NoNet w v) (hn : n ≤ 1000000000) :
    Calls Try.prog 12 #[v, .int .i64 x, .int .i64 y, .slice A n c] w fun e w' => e = .returned (.tuple #[.int .i64 0, .int .i64 1]) ∧ Below w.heap.size w w' := by
  obtain ⟨r, rfl⟩ := h.ptr
  refine put_err r x y A n c true true (decide (8192 < n)) true true 1 w (fun _ _ _ _ _ => rfl) (by decide) (fun W b hb hx => none1_no b W (h.keep hb) hx) (fun e => by cases e) (fun W b hx => put1_any b n c A W hn hx) (fun e => by cases e) (fun e => by cases e)
/-- why a net does not take a message: 0: it does -/
def Sm.putE (s : NSt) (D : List (Int × Int)) (k : Nat) (x y : Int) (n : Nat) : Int :=
  if lnkB s x y = false then 2 else if 8192 < n then 3 else if (x, y) ∈ D then 210 else if (k : Int) = s.most then 211 else 0
theorem Sm.firstF_five (f2 f3 f4 f5 : Bool) (c1 c2 c3 c4 c5 : Array Value) : firstF [⟨59, c1, 1, false⟩, ⟨60, c2, 2, f2⟩, ⟨35, c3, 3, f3⟩, ⟨36, c4, 210, f4⟩, ⟨37, c5, 211, f5⟩] = if f2 = true then 2 else if f3 = true then 3 else if f4 = true then 210 else if f5 = true then 211 else 0 := by
  cases f2 <;> cases f3 <;> cases f4 <;> cases f5 <;> rfl
theorem Sm.put_bad {p Mb base : Nat} {s : NSt} {D : List (Int × Int)} {A0 : Option Addr} {cap0 : Nat} {ms : List MsgM} (x y : Int) (A : Option Addr) (n c : Nat) (w : World) (h : NAt w p Mb base s D A0 cap0 ms) (hn : n ≤ 1000000000) (hE : putE s D ms.length x y n ≠ 0) :
    Calls Try.prog 12 #[.pointer (some ⟨p, 0, none⟩), .int .i64 x, .int .i64 y, .slice A n c] w fun e w' => e = .returned (.tuple #[.int .i64 0, .int .i64 (putE s D ms.length x y n)]) ∧ Below w.heap.size w w' := by
  have hlk : (!(lnkB s x y)) = false → lnkB s x y = true := fun e => by cases h9 : lnkB s x y <;> simp_all
  refine put_err (some ⟨p, 0, none⟩) x y A n c false (!(lnkB s x y)) (decide (8192 < n)) (decide ((x, y) ∈ D)) (decide ((ms.length : Int) = s.most)) _ w (fun _ _ _ _ _ => ?_) hE (fun W b hb hx => none1_yes b W (h.keep hb) hx)
    (fun _ W b1 b2 b3 hb h1 h2 h3 => noLink1_any b1 b2 b3 x y W (h.keep hb) h1 h2 h3) (fun W b hx => put1_any b n c A W hn hx)
    (fun _ e W b1 b2 b3 hb h1 h2 h3 => ?_) (fun _ _ W b hb h1 => put3_any b W (h.keep hb) h1)
  · rw [firstF_five]
    unfold putE
    cases lnkB s x y <;> simp
  · have hi := lnkB_i64 (hlk e) h.lim.2.1
    exact put2_any b1 b2 b3 x y W (h.keep hb) hi.2.2.2.2.1 hi.2.2.2.2.2 h1 h2 h3
end Go.Proofs
namespace Go.Proofs
open Go Go.RowKit Sm Go.Lib Go.Maps Go.WideMaps
attribute [local go_sem] Oper.semAt_some
set_option maxRecDepth 100000 in
theorem Sm.among_any (x y : Int) (w : World) : Calls Try.prog 66 #[.int .i64 x, .int .i64 y] w fun e w' => e = .returned (.func (.func 73) #[] #[.pointer (some ⟨w.heap.size, 0, none⟩), .pointer (some ⟨w.heap.size + 1, 0, none⟩)]) ∧
    w'.heap[w.heap.size]? = some (.cells #[.int .i64 x] 3 (0, 0)) ∧ w'.heap[w.heap.size + 1]? = some (.cells #[.int .i64 y] 3 (0, 0)) ∧ Below w.heap.size w w' := by
  go_enter Try.func66, Try.ntmps66
  go_wp2
  refine bodyPost_ret (v := .func (.func 73) #[] #[.pointer (some ⟨w.heap.size, 0, none⟩), .pointer (some ⟨w.heap.size + 1, 0, none⟩)]) ?_ rfl ⟨rfl, ?_, ?_, ?_⟩
  · simp [results, Try.results66, go_sem]
  · exact old_alloc _ (new_alloc _ rfl)
  · exact new_alloc _ (by simp)
  · exact bel2 _ _ _
/-- does a pick on a link, or on all, pick a message of such ends? -/
def Sm.pkB (x y a b : Int) : Bool := anyB x y || (decide (a = x) && decide (b = y))
set_option maxRecDepth 100000 in
theorem Sm.copied_any (num a b : Int) (B n c : Nat) (A : Option Addr) (l : List (BitVec 8)) (w : World) (hl : l.length = n) (hr : Rd w B A l) (hB : B ≤ w.heap.size) (hn : n ≤ 8192) :
    Calls Try.prog 46 #[.agg #[.int .i64 num, .int .i64 a, .int .i64 b, .slice A n c]] w fun e w' => ∃ A' c', e = .returned (.agg #[.int .i64 num, .int .i64 a, .int .i64 b, .slice A' n c']) ∧ w'.ownsRow w.heap.size 5 1 (.slice A' n c') n (l.map byteCell) ∧ Below w.heap.size w w' := by
  obtain ⟨W3, hW3⟩ : ∃ V, (((w.alloc (.cells #[.int .i64 num, .int .i64 a, .int .i64 b, .slice A n c] 83)).alloc (.cells #[.int .i64 0, .int .i64 0, .int .i64 0, .slice none 0 0] 41)).alloc (.cells #[.int .i64 num, .int .i64 a, .int .i64 b, .slice A n c] 41)) = V := ⟨_, rfl⟩
  have hb3 : Below w.heap.size w W3 := by rw [← hW3]; exact (bel2 w _ _).alloc (bel2 w _ _).size _
  have hx3 : W3.heap[w.heap.size + 2]? = some (.cells #[.int .i64 num, .int .i64 a, .int .i64 b, .slice A n c] 41 (0, 0)) := by rw [← hW3]; exact new_alloc _ (by simp)
  have hy3 : W3.heap[w.heap.size + 1]? = some (.cells #[.int .i64 0, .int .i64 0, .int .i64 0, .slice none 0 0] 41 (0, 0)) := by rw [← hW3]; exact old_alloc _ (new_alloc _ (by simp))
  have HY3 := Lib.hid hy3
  have hcl := clone_any B n c A l W3 hl (hr.keep (fun q hq => hb3.cell (by omega))) (by have := hb3.size; omega) (by omega)
  rw [← hW3] at hcl
  have HB3 := Lib.hid hb3
  have HX3 := Lib.hid hx3
  have HW3 := Lib.hid hW3
  clear hr hl hb3 hx3 hy3 hW3
  go_enter Try.func46, Try.ntmps46
  go_wp2_with (go_at_call 38; (with_reducible refine hcl.mono ?_); clear hcl; rintro e w4 ⟨A', c', rfl, ho, hb⟩; rw [HW3.out] at ho hb; have hx4 := (hb.block _ (Array.getElem?_eq_some_iff.1 HX3.out).1).trans HX3.out; have k0 := cell_of_heap hx4 0; have k1 := cell_of_heap hx4 1; have k2 := cell_of_heap hx4 2; have k3 := cell_of_heap hx4 3; have f3 := frozen_of_heap hx4 3; simp only [List.getElem?_toArray, List.getElem?_cons_zero, List.getElem?_cons_succ] at k0 k1 k2 k3; have hy4 := (hb.block _ (Array.getElem?_eq_some_iff.1 HY3.out).1).trans HY3.out; have j0 := cell_of_heap hy4 0; have j1 := cell_of_heap hy4 1; have j2 := cell_of_heap hy4 2; have j3 := cell_of_heap hy4 3; have g0 := frozen_of_heap hy4 0; have g1 := frozen_of_heap hy4 1; have g2 := frozen_of_heap hy4 2; have g3 := frozen_of_heap hy4 3; simp only [List.getElem?_toArray, List.getElem?_cons_zero, List.getElem?_cons_succ] at j0 j1 j2 j3; have HY4 := Lib.hid hy4; have HO := Lib.hid ho; have HB := Lib.hid hb; clear ho hb hx4 hy4)
  have hs3 : W3.heap.size = w.heap.size + 3 := by rw [← HW3.out]; simp
  obtain ⟨W5, hW5⟩ : ∃ V, w4.setCell ⟨w.heap.size + 1 + 1, 3, none⟩ (.slice A' n c') = V := ⟨_, rfl⟩
  have hb45 : But (fun q => q = w.heap.size + 1 + 1) w4 W5 := by rw [← hW5]; exact (But.refl (fun q => q = w.heap.size + 1 + 1) w4).set ⟨w.heap.size + 1 + 1, 3, none⟩ _ (.inl rfl)
  have hy5 := But.box hb45 HY4.out (by omega)
  have hz5 := put4 hy5 (.int .i64 num) (.int .i64 a) (.int .i64 b) (.slice A' n c')
  have hb56 := put4_but W5 (w.heap.size + 1) (.int .i64 num) (.int .i64 a) (.int .i64 b) (.slice A' n c')
  unfold put4W at hz5 hb56
  rw [hW5]
  have r0 := cell_of_heap hz5 0
  have r1 := cell_of_heap hz5 1
  have r2 := cell_of_heap hz5 2
  have r3 := cell_of_heap hz5 3
  simp only [List.getElem?_toArray, List.getElem?_cons_zero, List.getElem?_cons_succ] at r0 r1 r2 r3
  have ho5 := hb45.row HO.out (fun g e1 e2 => by have h7 := (HO.out.lt g e1).1; have e3 : g = w.heap.size + 1 + 1 := e2; omega)
  have ho6 := hb56.row ho5 (fun g e1 e2 => by have h7 := (ho5.lt g e1).1; have e3 : g = w.heap.size + 1 := e2; omega)
  have hbw : Below w.heap.size w w4 := HB3.out.trans (HB.out.mono HB3.out.size)
  have hb5 := hbw.trans (hb45.to_below hbw.size (fun q e => by have e2 : q = w.heap.size + 1 + 1 := e; omega))
  have hb6 := hb5.trans (hb56.to_below hb5.size (fun q e => by have e2 : q = w.heap.size + 1 := e; omega))
  exact bodyPost_ret (v := .agg #[.int .i64 num, .int .i64 a, .int .i64 b, .slice A' n c']) (by simp [results, Try.results46, go_sem, r0, r1, r2, r3]) rfl ⟨A', c', rfl, own_base ho6 (by omega), hb6⟩
end Go.Proofs
namespace Go.Proofs
open Go Go.RowKit Sm Go.Lib Go.Maps Go.WideMaps
attribute [local go_sem] Oper.semAt_some
theorem Sm.plain3 : Try.prog.plainKey 3 = true := by kernel_rfl
set_option maxRecDepth 100000 in
theorem Sm.info3b : ∃ i, Try.prog.info? 3 = some i := ⟨Try.t3, rfl⟩
theorem Sm.guard94 (w : World) (x y : Operand) (xs ys : Array Value) : (eqGuard .eql 94 x y (.agg xs) (.agg ys)).run Try.prog w = .ok () w := run_eqGuard_agg w .eql 94 x y _ _ (by kernel_rfl)
theorem Sm.eql94 (a b x y : Int) (W : World) : (Op.equalIn 10000 94 (.agg #[.int .i64 a, .int .i64 b]) (.agg #[.int .i64 x, .int .i64 y])).run Try.prog W = .ok (decide (a = x) && decide (b = y)) W := by
  rw [show (10000 : Nat) = 9998 + 2 from rfl]
  obtain ⟨i, hi⟩ := info3b
  have hc : Try.prog.cellsOf 3 = 1 := by kernel_rfl
  rw [run_equalIn_array W 9999 _ _ Try.underlying94 hi, hc]
  have p0 := run_part_plain (P := Try.prog) W plain3 (show (#[Value.int .i64 a, .int .i64 b])[0]? = some (.int .i64 a) from rfl)
  have p1 := run_part_plain (P := Try.prog) W plain3 (show (#[Value.int .i64 a, .int .i64 b])[1]? = some (.int .i64 b) from rfl)
  have q0 := run_part_plain (P := Try.prog) W plain3 (show (#[Value.int .i64 x, .int .i64 y])[0]? = some (.int .i64 x) from rfl)
  have q1 := run_part_plain (P := Try.prog) W plain3 (show (#[Value.int .i64 x, .int .i64 y])[1]? = some (.int .i64 y) from rfl)
  have e0 := run_equalIn_int (P := Try.prog) W 9998 3 .i64 .i64 a x Try.underlying3
  have e1 := run_equalIn_int (P := Try.prog) W 9998 3 .i64 .i64 b y Try.underlying3
  have hr : List.range 2 = [0, 1] := by decide
  simp only [hr, Op.eqItems, Sem.run_bind, Nat.zero_mul, Nat.one_mul, p0, q0, e0, Result.andThen_ok]
  by_cases h1 : a = x
  · subst h1
    by_cases h2 : b = y
    · subst h2
      simp [p1, e1]
    · simp [p1, q1, e1, h2]
  · simp [h1]
set_option maxRecDepth 100000 in
set_option maxHeartbeats 2000000 in
theorem Sm.among1_any (b1 b2 : Nat) (x y num a b : Int) (A : Option Addr) (n c : Nat) (w : World) (h1 : w.heap[b1]? = some (.cells #[.int .i64 x] 3 (0, 0))) (h2 : w.heap[b2]? = some (.cells #[.int .i64 y] 3 (0, 0))) :
    Calls Try.prog 73 #[.agg #[.int .i64 num, .int .i64 a, .int .i64 b, .slice A n c], .pointer (some ⟨b1, 0, none⟩), .pointer (some ⟨b2, 0, none⟩)] w fun e w' => e = .returned (.bool (pkB x y a b)) ∧ Below w.heap.size w w' := by
  have h63 := fun W => isAnywhere_any x y W
  have h69 := fun W => link_any num a b (.slice A n c) W
  unfold lnkV at h69
  obtain ⟨v, hv⟩ : ∃ v, Value.slice A n c = v := ⟨_, rfl⟩
  obtain ⟨W0, hW0⟩ : ∃ V, w.alloc (.cells #[.int .i64 num, .int .i64 a, .int .i64 b, .slice A n c] 83) = V := ⟨_, rfl⟩
  have HW0 : Hid (Below w.heap.size w W0) := Lib.hid (by rw [← hW0]; exact (Below.refl _ w).alloc (Nat.le_refl _) _)
  have G1 := Lib.hid ((HW0.out.block _ (Array.getElem?_eq_some_iff.1 h1).1).trans h1)
  have G2 := Lib.hid ((HW0.out.block _ (Array.getElem?_eq_some_iff.1 h2).1).trans h2)
  have G3 : Hid (W0.heap[w.heap.size]? = some (.cells #[.int .i64 num, .int .i64 a, .int .i64 b, .slice A n c] 83 (0, 0))) := Lib.hid (by rw [← hW0]; exact new_alloc _ rfl)
  have HQ0 : ∀ W, (Op.equalIn 10000 94 (.agg #[.int .i64 a, .int .i64 b]) (.agg #[.int .i64 x, .int .i64 y])).run Try.prog W = .ok (decide (a = x) && decide (b = y)) W := fun W => eql94 a b x y W
  obtain ⟨q, hq⟩ : ∃ q, (decide (a = x) && decide (b = y)) = q := ⟨_, rfl⟩
  obtain ⟨t, ht⟩ : ∃ t, anyB x y = t := ⟨_, rfl⟩
  unfold pkB
  rw [hq] at HQ0 ⊢
  rw [ht] at h63 ⊢
  have HQ := Lib.hid HQ0
  clear h1 h2 HQ0 hq ht hv v
  cases t with
  | true =>
    go_enter Try.func73, Try.ntmps73
    go_wp2
    clear hW0
    have hS0 : (fun W => Below W0.heap.size W0 W) W0.drew := (Below.refl _ W0).drew
    refine wp_region_held_drew (S := fun W => Below W0.heap.size W0 W) rfl hS0 (fun hHeld => ?_)
    simp only [List.size_toArray, List.length_cons, List.length_nil, Nat.reduceAdd]
    have HB0 : Hid (Below W0.heap.size W0 W0.drew) := Lib.hid (Below.refl _ _).drew
    obtain ⟨V0, hV0⟩ : ∃ V, W0.drew = V := ⟨_, rfl⟩
    rw [hV0] at hHeld hS0 HB0 ⊢
    clear hV0
    refine wpAnyH_take (i := 0) (v := .int .i64 x) rfl (by kernel_rfl) (by kernel_rfl) (by kernel_rfl) (fun _ _ _ h => h) (Or.inl ⟨by rfl, ?_⟩) (by assumption) ?_
    · intro wx hs1; have k0 := cell_of_heap ((hs1.block _ (Array.getElem?_eq_some_iff.1 G1.out).1).trans G1.out) 0; simp only [List.getElem?_toArray, List.getElem?_cons_zero] at k0; go_simp
    (try simp only [Act.put, List.getElem_toArray, List.getElem_cons_zero, List.setIfInBounds_toArray, List.set_cons_zero, List.set_cons_succ])
    refine wpAnyH_take (i := 1) (v := .int .i64 y) rfl (by kernel_rfl) (by kernel_rfl) (by kernel_rfl) (fun _ _ _ h => h) (Or.inl ⟨by rfl, ?_⟩) (by assumption) ?_
    · intro wx hs1; have k0 := cell_of_heap ((hs1.block _ (Array.getElem?_eq_some_iff.1 G2.out).1).trans G2.out) 0; simp only [List.getElem?_toArray, List.getElem?_cons_zero] at k0; go_simp
    (try simp only [Act.put, List.getElem_toArray, List.getElem_cons_succ, List.getElem_cons_zero, List.setIfInBounds_toArray, List.set_cons_zero, List.set_cons_succ])
    refine wpAnyH_ready (rs := [2]) (by kernel_rfl) (by simp) (AllReadyH.cons rfl (fun K hK => ?_) AllReadyH.nil)
    go_simp
    go_at_call 63
    (with_reducible refine (h63 _).mono ?_)
    rintro e w1 ⟨rfl, hb⟩
    try dsimp only
    have HB1 : Hid (Below W0.heap.size W0 w1) := Lib.hid (HB0.out.trans (hb.mono HB0.out.size)); clear hb; have hS := HB1.out
    refine hK.out _ _ hS (fun _ => ?_)
    clear hK K
    (try simp only [Act.put, List.getElem_toArray, List.getElem_cons_succ, List.getElem_cons_zero, List.setIfInBounds_toArray, List.set_cons_zero, List.set_cons_succ])
    refine wpAnyH_take (i := 3) (v := .bool true) rfl (by kernel_rfl) (by kernel_rfl) (by kernel_rfl) (fun _ _ _ h => h) (Or.inl ⟨by rfl, ?_⟩) (by assumption) ?_
    · intro wx hs1; go_simp
    (try simp only [Act.put, List.getElem_toArray, List.getElem_cons_succ, List.getElem_cons_zero, List.setIfInBounds_toArray, List.set_cons_zero, List.set_cons_succ])
    refine wpAnyH_take (i := 4) (v := undef) rfl (by kernel_rfl) (by kernel_rfl) (by kernel_rfl) (fun _ _ _ h => h) (Or.inr ⟨by rfl, rfl⟩) (by assumption) ?_
    (try simp only [Act.put, List.getElem_toArray, List.getElem_cons_succ, List.getElem_cons_zero, List.setIfInBounds_toArray, List.set_cons_zero, List.set_cons_succ])
    refine wpAnyH_take (i := 5) (v := undef) rfl (by kernel_rfl) (by kernel_rfl) (by kernel_rfl) (fun _ _ _ h => h) (Or.inr ⟨by rfl, rfl⟩) (by assumption) ?_
    (try simp only [Act.put, List.getElem_toArray, List.getElem_cons_succ, List.getElem_cons_zero, List.setIfInBounds_toArray, List.set_cons_zero, List.set_cons_succ])
    refine wpAnyH_take (i := 6) (v := undef) rfl (by kernel_rfl) (by kernel_rfl) (by kernel_rfl) (fun _ _ _ h => h) (Or.inr ⟨by rfl, rfl⟩) (by assumption) ?_
    (try simp only [Act.put, List.getElem_toArray, List.getElem_cons_succ, List.getElem_cons_zero, List.setIfInBounds_toArray, List.set_cons_zero, List.set_cons_succ])
    refine wpAnyH_take (i := 7) (v := undef) rfl (by kernel_rfl) (by kernel_rfl) (by kernel_rfl) (fun _ _ _ h => h) (Or.inr ⟨by rfl, rfl⟩) (by assumption) ?_
    (try simp only [Act.put, List.getElem_toArray, List.getElem_cons_succ, List.getElem_cons_zero, List.setIfInBounds_toArray, List.set_cons_zero, List.set_cons_succ])
    refine wpAnyH_take (i := 8) (v := undef) rfl (by kernel_rfl) (by kernel_rfl) (by kernel_rfl) (fun _ _ _ h => h) (Or.inr ⟨by rfl, rfl⟩) (by assumption) ?_
    (try simp only [Act.put, List.getElem_toArray, List.getElem_cons_succ, List.getElem_cons_zero, List.setIfInBounds_toArray, List.set_cons_zero, List.set_cons_succ])
    refine wpAnyH_take (i := 9) (v := undef) rfl (by kernel_rfl) (by kernel_rfl) (by kernel_rfl) (fun _ _ _ h => h) (Or.inr ⟨by rfl, rfl⟩) (by assumption) ?_
    (try simp only [Act.put, List.getElem_toArray, List.getElem_cons_succ, List.getElem_cons_zero, List.setIfInBounds_toArray, List.set_cons_zero, List.set_cons_succ])
    refine wpAnyH_take (i := 10) (v := .bool true) rfl (by kernel_rfl) (by kernel_rfl) (by kernel_rfl) (fun _ _ _ h => h) (Or.inl ⟨by rfl, ?_⟩) (by assumption) ?_
    · intro wx hs1; go_simp
    (try simp only [Act.put, List.getElem_toArray, List.getElem_cons_succ, List.getElem_cons_zero, List.setIfInBounds_toArray, List.set_cons_zero, List.set_cons_succ])
    refine wpAnyH_take (i := 11) (v := .bool true) rfl (by kernel_rfl) (by kernel_rfl) (by kernel_rfl) (fun _ _ _ h => h) (Or.inl ⟨by rfl, ?_⟩) (by assumption) ?_
    · intro wx hs1; go_simp
    (try simp only [Act.put, List.getElem_toArray, List.getElem_cons_succ, List.getElem_cons_zero, List.setIfInBounds_toArray, List.set_cons_zero, List.set_cons_succ])
    refine wpAnyH_done (by kernel_rfl) ?_ _
    go_wp2
    go_ret
    exact ⟨by rfl, HW0.out.trans (HB1.out.mono HW0.out.size)⟩
  | false =>
    go_enter Try.func73, Try.ntmps73
    go_wp2
    clear hW0
    have hS0 : (fun W => Below W0.heap.size W0 W) W0.drew := (Below.refl _ W0).drew
    refine wp_region_held_drew (S := fun W => Below W0.heap.size W0 W) rfl hS0 (fun hHeld => ?_)
    simp only [List.size_toArray, List.length_cons, List.length_nil, Nat.reduceAdd]
    have HB0 : Hid (Below W0.heap.size W0 W0.drew) := Lib.hid (Below.refl _ _).drew
    obtain ⟨V0, hV0⟩ : ∃ V, W0.drew = V := ⟨_, rfl⟩
    rw [hV0] at hHeld hS0 HB0 ⊢
    clear hV0
    refine wpAnyH_take (i := 0) (v := .int .i64 x) rfl (by kernel_rfl) (by kernel_rfl) (by kernel_rfl) (fun _ _ _ h => h) (Or.inl ⟨by rfl, ?_⟩) (by assumption) ?_
    · intro wx hs1; have k0 := cell_of_heap ((hs1.block _ (Array.getElem?_eq_some_iff.1 G1.out).1).trans G1.out) 0; simp only [List.getElem?_toArray, List.getElem?_cons_zero] at k0; go_simp
    (try simp only [Act.put, List.getElem_toArray, List.getElem_cons_zero, List.setIfInBounds_toArray, List.set_cons_zero, List.set_cons_succ])
    refine wpAnyH_take (i := 1) (v := .int .i64 y) rfl (by kernel_rfl) (by kernel_rfl) (by kernel_rfl) (fun _ _ _ h => h) (Or.inl ⟨by rfl, ?_⟩) (by assumption) ?_
    · intro wx hs1; have k0 := cell_of_heap ((hs1.block _ (Array.getElem?_eq_some_iff.1 G2.out).1).trans G2.out) 0; simp only [List.getElem?_toArray, List.getElem?_cons_zero] at k0; go_simp
    (try simp only [Act.put, List.getElem_toArray, List.getElem_cons_succ, List.getElem_cons_zero, List.setIfInBounds_toArray, List.set_cons_zero, List.set_cons_succ])
    refine wpAnyH_ready (rs := [2]) (by kernel_rfl) (by simp) (AllReadyH.cons rfl (fun K hK => ?_) AllReadyH.nil)
    go_simp
    go_at_call 63
    (with_reducible refine (h63 _).mono ?_)
    rintro e w1 ⟨rfl, hb⟩
    try dsimp only
    have HB1 : Hid (Below W0.heap.size W0 w1) := Lib.hid (HB0.out.trans (hb.mono HB0.out.size)); clear hb; have hS := HB1.out
    refine hK.out _ _ hS (fun _ => ?_)
    clear hK K
    (try simp only [Act.put, List.getElem_toArray, List.getElem_cons_succ, List.getElem_cons_zero, List.setIfInBounds_toArray, List.set_cons_zero, List.set_cons_succ])
    refine wpAnyH_take (i := 3) (v := .bool false) rfl (by kernel_rfl) (by kernel_rfl) (by kernel_rfl) (fun _ _ _ h => h) (Or.inl ⟨by rfl, ?_⟩) (by assumption) ?_
    · intro wx hs1; go_simp
    (try simp only [Act.put, List.getElem_toArray, List.getElem_cons_succ, List.getElem_cons_zero, List.setIfInBounds_toArray, List.set_cons_zero, List.set_cons_succ])
    refine wpAnyH_take (i := 4) (v := .agg #[.int .i64 num, .int .i64 a, .int .i64 b, .slice A n c]) rfl (by kernel_rfl) (by kernel_rfl) (by kernel_rfl) (fun _ _ _ h => h) (Or.inl ⟨by rfl, ?_⟩) (by assumption) ?_
    · intro wx hs1; have hx := (hs1.block _ (Array.getElem?_eq_some_iff.1 G3.out).1).trans G3.out; have k0 := cell_of_heap hx 0; have k1 := cell_of_heap hx 1; have k2 := cell_of_heap hx 2; have k3 := cell_of_heap hx 3; simp only [List.getElem?_toArray, List.getElem?_cons_zero, List.getElem?_cons_succ] at k0 k1 k2 k3; go_simp
    (try simp only [Act.put, List.getElem_toArray, List.getElem_cons_succ, List.getElem_cons_zero, List.setIfInBounds_toArray, List.set_cons_zero, List.set_cons_succ])
    refine wpAnyH_take (i := 6) (v := .int .i64 x) rfl (by kernel_rfl) (by kernel_rfl) (by kernel_rfl) (fun _ _ _ h => h) (Or.inl ⟨by rfl, ?_⟩) (by assumption) ?_
    · intro wx hs1; have k0 := cell_of_heap ((hs1.block _ (Array.getElem?_eq_some_iff.1 G1.out).1).trans G1.out) 0; simp only [List.getElem?_toArray, List.getElem?_cons_zero] at k0; go_simp
    (try simp only [Act.put, List.getElem_toArray, List.getElem_cons_succ, List.getElem_cons_zero, List.setIfInBounds_toArray, List.set_cons_zero, List.set_cons_succ])
    refine wpAnyH_take (i := 7) (v := .int .i64 y) rfl (by kernel_rfl) (by kernel_rfl) (by kernel_rfl) (fun _ _ _ h => h) (Or.inl ⟨by rfl, ?_⟩) (by assumption) ?_
    · intro wx hs1; have k0 := cell_of_heap ((hs1.block _ (Array.getElem?_eq_some_iff.1 G2.out).1).trans G2.out) 0; simp only [List.getElem?_toArray, List.getElem?_cons_zero] at k0; go_simp
    (try simp only [Act.put, List.getElem_toArray, List.getElem_cons_succ, List.getElem_cons_zero, List.setIfInBounds_toArray, List.set_cons_zero, List.set_cons_succ])
    refine wpAnyH_take (i := 8) (v := .agg #[.int .i64 x, .int .i64 y]) rfl (by kernel_rfl) (by kernel_rfl) (by kernel_rfl) (fun _ _ _ h => h) (Or.inl ⟨by rfl, ?_⟩) (by assumption) ?_
    · intro wx hs1; go_simp
    (try simp only [Act.put, List.getElem_toArray, List.getElem_cons_succ, List.getElem_cons_zero, List.setIfInBounds_toArray, List.set_cons_zero, List.set_cons_succ])
    refine wpAnyH_ready (rs := [5]) (by kernel_rfl) (by simp) (AllReadyH.cons rfl (fun K hK => ?_) AllReadyH.nil)
    go_simp
    go_at_call 69
    (with_reducible refine (h69 _).mono ?_)
    rintro e w2 ⟨rfl, hb⟩
    try dsimp only
    have HB2 : Hid (Below W0.heap.size W0 w2) := Lib.hid (HB1.out.trans (hb.mono HB1.out.size)); clear hb; have hS := HB2.out
    refine hK.out _ _ hS (fun _ => ?_)
    clear hK K
    (try simp only [Act.put, List.getElem_toArray, List.getElem_cons_succ, List.getElem_cons_zero, List.setIfInBounds_toArray, List.set_cons_zero, List.set_cons_succ])
    refine wpAnyH_take (i := 9) (v := .bool q) rfl (by kernel_rfl) (by kernel_rfl) (by kernel_rfl) (fun _ _ _ h => h) (Or.inl ⟨by rfl, ?_⟩) (by assumption) ?_
    · intro wx hs1; have hq := HQ.out wx; have hg := fun X Y => guard94 wx X Y #[.int .i64 a, .int .i64 b] #[.int .i64 x, .int .i64 y]; go_simp
    (try simp only [Act.put, List.getElem_toArray, List.getElem_cons_succ, List.getElem_cons_zero, List.setIfInBounds_toArray, List.set_cons_zero, List.set_cons_succ])
    refine wpAnyH_take (i := 10) (v := .bool q) rfl (by kernel_rfl) (by kernel_rfl) (by kernel_rfl) (fun _ _ _ h => h) (Or.inl ⟨by rfl, ?_⟩) (by assumption) ?_
    · intro wx hs1; go_simp
    (try simp only [Act.put, List.getElem_toArray, List.getElem_cons_succ, List.getElem_cons_zero, List.setIfInBounds_toArray, List.set_cons_zero, List.set_cons_succ])
    refine wpAnyH_take (i := 11) (v := .bool q) rfl (by kernel_rfl) (by kernel_rfl) (by kernel_rfl) (fun _ _ _ h => h) (Or.inl ⟨by rfl, ?_⟩) (by assumption) ?_
    · intro wx hs1; go_simp
    (try simp only [Act.put, List.getElem_toArray, List.getElem_cons_succ, List.getElem_cons_zero, List.setIfInBounds_toArray, List.set_cons_zero, List.set_cons_succ])
    refine wpAnyH_done (by kernel_rfl) ?_ _
    go_wp2
    go_ret
    exact ⟨by rfl, HW0.out.trans (HB2.out.mono HW0.out.size)⟩
end Go.Proofs
namespace Go.Proofs
open Go Go.RowKit Sm Go.Lib Go.Maps Go.WideMaps
/-- a message's data: its number, ends, bytes -/
abbrev Sm.PD := Int × Int × Int × List (BitVec 8)
def Sm.MsgM.d (m : MsgM) : PD := (m.num, m.src, m.dst, m.bytes)
def Sm.pkD (x y : Int) (m : PD) : Bool := pkB x y m.2.1 m.2.2.1
/-- the places of what is picked among the first n -/
def Sm.onN (x y : Int) (P : List PD) : Nat → List Nat
  | 0 => []
  | n + 1 => onN x y P n ++ (if (P[n]?.map (pkD x y)).getD false = true then [n] else [])
def Sm.onP (x y : Int) (P : List PD) : List Nat := onN x y P P.length
theorem Sm.onN_yes {x y : Int} {P : List PD} {n : Nat} {m : PD} (h : P[n]? = some m) (hp : pkD x y m = true) : onN x y P (n + 1) = onN x y P n ++ [n] := by
  rw [onN, h]
  simp [hp]
theorem Sm.onN_not {x y : Int} {P : List PD} {n : Nat} {m : PD} (h : P[n]? = some m) (hp : pkD x y m = false) : onN x y P (n + 1) = onN x y P n := by
  rw [onN, h]
  simp [hp]
theorem Sm.onN_len (x y : Int) (P : List PD) (n : Nat) : (onN x y P n).length ≤ n := by
  induction n with
  | zero => exact Nat.le_refl _
  | succ n ih =>
    rw [onN, List.length_append]
    split
    · simp; omega
    · simp; omega
theorem Sm.onN_pre (x y : Int) (P : List PD) {m n : Nat} (h : m ≤ n) : ∃ r, onN x y P n = onN x y P m ++ r := by
  induction n with
  | zero =>
    obtain rfl : m = 0 := by omega
    exact ⟨[], by simp⟩
  | succ n ih =>
    by_cases e : m = n + 1
    · exact ⟨[], by rw [e]; simp⟩
    · obtain ⟨r, hr⟩ := ih (by omega)
      exact ⟨r ++ _, by rw [onN, hr, List.append_assoc]⟩
theorem Sm.onN_lt {x y : Int} {P : List PD} {n i : Nat} (h : i ∈ onN x y P n) : i < n ∧ ∃ m, P[i]? = some m ∧ pkD x y m = true := by
  induction n with
  | zero => cases h
  | succ n ih =>
    rw [onN, List.mem_append] at h
    rcases h with h | h
    · obtain ⟨h1, h2⟩ := ih h
      exact ⟨by omega, h2⟩
    · split at h
      · rename_i hc
        rw [List.mem_singleton] at h
        subst h
        refine ⟨by omega, ?_⟩
        cases e : P[i]? with
        | none => rw [e] at hc; simp at hc
        | some m => rw [e] at hc; exact ⟨m, rfl, by simpa using hc⟩
      · cases h
theorem Sm.onP_lt {x y : Int} {P : List PD} {i : Nat} (h : i ∈ onP x y P) : i < P.length := (onN_lt h).1
/-- the place of what is picked first behind n others -/
theorem Sm.onP_at {x y : Int} {P : List PD} {n : Nat} {m : PD} (h : P[n]? = some m) (hp : pkD x y m = true) : (onP x y P)[(onN x y P n).length]? = some n := by
  have hn : n < P.length := (List.getElem?_eq_some_iff.1 h).1
  obtain ⟨r, hr⟩ := onN_pre x y P (show n + 1 ≤ P.length from hn)
  unfold onP
  rw [hr, onN_yes h hp, List.append_assoc]
  simp
theorem Sm.onN_all {P : List PD} {n : Nat} (h : n ≤ P.length) : onN (-1) (-1) P n = List.range n := by
  induction n with
  | zero => rfl
  | succ n ih =>
    have hn : n < P.length := by omega
    rw [onN_yes (List.getElem?_eq_getElem hn) (by unfold pkD pkB anyB; simp), ih (by omega), List.range_succ]
theorem Sm.onP_all (P : List PD) : onP (-1) (-1) P = List.range P.length := onN_all (Nat.le_refl _)
/-! ### a net's state, and its calls -/
structure Sm.NM where
  s : NSt
  D : List (Int × Int)
  P : List PD
def Sm.zeroP : PD := (0, 0, 0, [])
/-- why a pick is refused: 0: it is not -/
def Sm.findE (N : NM) (x y : Int) : Int := if (anyB x y || lnkB N.s x y) = false then 2 else if (onP x y N.P).length = 0 then 5 else 0
/-- which place is picked -/
def Sm.findA (N : NM) (x y pick : Int) : Nat := ((onP x y N.P)[(pickI pick (onP x y N.P).length).toNat]?).getD 0
def Sm.findP (N : NM) (x y pick : Int) : PD := (N.P[findA N x y pick]?).getD zeroP
def Sm.reachE (N : NM) (x y pick : Int) : Int := if findE N x y ≠ 0 then findE N x y else if ((findP N x y pick).2.1, (findP N x y pick).2.2.1) ∈ N.D then 210 else 0
def Sm.peekN (N : NM) (x y pick : Int) : PD × Int := if reachE N x y pick ≠ 0 then (zeroP, reachE N x y pick) else (findP N x y pick, 0)
def Sm.NM.less (N : NM) (i : Nat) : NM := ⟨N.s, N.D, N.P.eraseIdx i⟩
def Sm.takeN (N : NM) (x y pick : Int) : NM × PD × Int := if reachE N x y pick ≠ 0 then (N, zeroP, reachE N x y pick) else (N.less (findA N x y pick), findP N x y pick, 0)
def Sm.dropN (N : NM) (x y pick : Int) : NM × Int × Int := if findE N x y ≠ 0 then (N, 0, findE N x y) else (N.less (findA N x y pick), (findP N x y pick).1, 0)
def Sm.putN (N : NM) (x y : Int) (b : List (BitVec 8)) : NM × Int × Int :=
  if putE N.s N.D N.P.length x y b.length ≠ 0 then (N, 0, putE N.s N.D N.P.length x y b.length) else (⟨⟨N.s.ends, N.s.most, N.s.came + 1⟩, N.D, N.P ++ [(N.s.came, x, y, b)]⟩, N.s.came, 0)
def Sm.downN (N : NM) (x y : Int) (is : Bool) : NM × Int := if lnkB N.s x y = true then (⟨N.s, downL is x y N.D, N.P⟩, 0) else (N, 2)
theorem Sm.pickI_lt (pick n : Int) (h : 0 < n) : 0 ≤ pickI pick n ∧ pickI pick n < n := by
  unfold pickI
  exact ⟨Int.emod_nonneg _ (by omega), Int.emod_lt_of_pos _ h⟩
theorem Sm.find_ok {N : NM} {x y : Int} (pick : Int) (h : findE N x y = 0) : (onP x y N.P)[(pickI pick (onP x y N.P).length).toNat]? = some (findA N x y pick) ∧ findA N x y pick < N.P.length ∧ N.P[findA N x y pick]? = some (findP N x y pick) ∧ 0 < (onP x y N.P).length ∧ (anyB x y || lnkB N.s x y) = true := by
  unfold findE at h
  split at h
  · cases h
  · rename_i h1
    split at h
    · cases h
    · rename_i h2
      have hl : 0 < (onP x y N.P).length := by omega
      have hp := pickI_lt pick (onP x y N.P).length (by omega)
      have hk : (pickI pick (onP x y N.P).length).toNat < (onP x y N.P).length := by omega
      have e : (onP x y N.P)[(pickI pick (onP x y N.P).length).toNat]? = some (findA N x y pick) := by
        unfold findA
        rw [List.getElem?_eq_getElem hk]
        rfl
      have hm := onP_lt (List.mem_of_getElem? e)
      refine ⟨e, hm, ?_, hl, by cases hh : (anyB x y || lnkB N.s x y) with | true => rfl | false => exact absurd hh h1⟩
      unfold findP
      rw [List.getElem?_eq_getElem hm]
      rfl
/-- a net in memory, by its data; all its blocks are of B -/
def Sm.Nt (B : Nat → Prop) (W : World) (p : Nat) (N : NM) : Prop :=
  ∃ Mb base A cap L, NAt W p Mb base N.s N.D A cap L ∧ L.map MsgM.d = N.P ∧ B p ∧ B Mb ∧ (∀ b, (Value.slice A L.length cap).ownBlock = some b → B b) ∧ ∀ m ∈ L, ∀ b, m.sl.ownBlock = some b → B b
theorem Sm.Nt.keep {B : Nat → Prop} {W W' : World} {p : Nat} {N : NM} (h : Nt B W p N) (hb : Below W.heap.size W W') : Nt B W' p N := by
  obtain ⟨Mb, base, A, cap, L, h1, h2⟩ := h
  exact ⟨Mb, base, A, cap, L, h1.keep hb, h2⟩
theorem Sm.NAt.but {S : Nat → Prop} {W W' : World} {p Mb base : Nat} {s : NSt} {D : List (Int × Int)} {A : Option Addr} {cap : Nat} {L : List MsgM} (h : NAt W p Mb base s D A cap L) (hb : But S W W') (hp : ¬ S p) (hM : ¬ S Mb)
    (hr : ∀ b, (Value.slice A L.length cap).ownBlock = some b → ¬ S b) (hm : ∀ m ∈ L, ∀ b, m.sl.ownBlock = some b → ¬ S b) : NAt W' p Mb base s D A cap L :=
  ⟨hb.box h.blk hp, h.map.imp fun _ hD => ⟨map_keep hD.1 (hb.block _ hD.1.lt hM), hD.2⟩, hb.row h.row hr, fun m hx => hb.row (h.byt m hx) (hm m hx), h.sep, ⟨h.low.1, h.low.2.1, h.low.2.2.1, Nat.le_trans h.low.2.2.2 hb.size⟩, h.lim, h.lnk, h.msg⟩
theorem Sm.Nt.but {B S : Nat → Prop} {W W' : World} {p : Nat} {N : NM} (h : Nt B W p N) (hb : But S W W') (hS : ∀ b, S b → ¬ B b) : Nt B W' p N := by
  obtain ⟨Mb, base, A, cap, L, h1, h2, h3, h4, h5, h6⟩ := h
  exact ⟨Mb, base, A, cap, L, h1.but hb (fun e => hS _ e h3) (fun e => hS _ e h4) (fun b e e2 => hS b e2 (h5 b e)) (fun m hm b e e2 => hS b e2 (h6 m hm b e)), h2, h3, h4, h5, h6⟩
theorem Sm.Nt.mono {B B' : Nat → Prop} {W : World} {p : Nat} {N : NM} (h : Nt B W p N) (hB : ∀ b, b < W.heap.size → B b → B' b) : Nt B' W p N := by
  obtain ⟨Mb, base, A, cap, L, h1, h2, h3, h4, h5, h6⟩ := h
  exact ⟨Mb, base, A, cap, L, h1, h2, hB _ (Array.getElem?_eq_some_iff.1 h1.blk).1 h3, hB _ (by have := h1.low; omega) h4, fun b e => hB b (h1.row.lt b e).2 (h5 b e), fun m hm b e => hB b ((h1.byt m hm).lt b e).2 (h6 m hm b e)⟩
/-- what a call does to memory -/
def Sm.StepN (B : Nat → Prop) (W W' : World) (p : Nat) (N : NM) : Prop := Nt (fun b => B b ∨ W.heap.size ≤ b) W' p N ∧ But B W W'
theorem Sm.stepN_same {B : Nat → Prop} {W W' : World} {p : Nat} {N : NM} (h : Nt B W p N) (hb : Below W.heap.size W W') : StepN B W W' p N :=
  ⟨(h.keep hb).mono (fun _ _ e => .inl e), But.of_all hb _⟩
theorem Sm.Nt.lens {B : Nat → Prop} {W : World} {p : Nat} {N : NM} (h : Nt B W p N) : N.P.length ≤ 4096 ∧ (N.P.length : Int) ≤ N.s.most ∧ 0 ≤ N.s.came ∧ N.s.came ≤ 1000000000 ∧ 1 ≤ N.s.ends ∧ N.s.ends ≤ 64 := by
  obtain ⟨Mb, base, A, cap, L, h1, h2, _⟩ := h
  have h3 := h1.lim
  have h4 : N.P.length = L.length := by rw [← h2, List.length_map]
  omega
end Go.Proofs
namespace Go.Proofs
open Go Go.RowKit Sm
section
variable {F : Fence} {n : Nat} {P : Program} {ops : Array Oper} {Q : Exit → Act → World → Prop} {md : Region.Mode} {S : World → Prop}
theorem Sm.YieldsIf.opIn {i : Nat} {o : Oper} {v : Value} {a : Act} (hF : ∀ f, F.fn f) (hi : ops[i]? = some o) (hnd : ∀ c, o.op ≠ .defer c) (hy : YieldsIf P ops S o v a)
    {K : Act → World → Prop} {w : World} (hS : S w) (h : K (a.put o.dst v) w) : wpOpIn F n P ops Q i K a w := by
  unfold wpOpIn
  simp only [hi]
  rcases hy with ⟨hw, hv⟩ | ⟨hw, rfl⟩
  · simp only [hw, if_true]
    refine ⟨fun f _ => hF f, ?_⟩
    rw [Oper.semAt_eq _ _ _ hnd, hv w hS]
    exact h
  · simp only [hw, Bool.false_eq_true, if_false]
    exact ⟨fun f _ => hF f, h⟩
theorem Sm.wpOpIn_putIf {j : Nat} {oi oj : Oper} {v : Value} (hF : ∀ f, F.fn f) (hj : ops[j]? = some oj) (hap : oi.apart ops oj = true) (hnd : ∀ c, oj.op ≠ .defer c)
    (hsi : ∀ cs b, oi.op ≠ .select cs b) (hsj : ∀ cs b, oj.op ≠ .select cs b)
    (hQ : ∀ c a w, Q (.panic c) (a.put oi.dst v) w → Q (.panic c) a w) {K : Act → World → Prop} {a : Act} {w : World}
    (hy : YieldsIf P ops S oi v a) (h : wpOpIn F n P ops Q j K (a.put oi.dst v) w) :
    wpOpIn F n P ops Q j (fun a' w' => YieldsIf P ops S oi v a' ∧ K (a'.put oi.dst v) w') a w := by
  obtain ⟨h1, h2, h3⟩ := Oper.apart_spec hap
  have keep : ∀ (a : Act), YieldsIf P ops S oi v a → ∀ u, YieldsIf P ops S oi v (a.put oj.dst u) := fun a hy u =>
    hy.of_same (execOp_put oi hsi a oj.dst u h3) (wanted_put oi a oj.dst u h3)
  have keepD : ∀ d, YieldsIf P ops S oi v { a with defers := d :: a.defers } := fun d => hy.of_same rfl rfl
  unfold wpOpIn at *
  simp only [hj] at *
  rw [wanted_put oj a oi.dst v h1] at h
  split
  · rename_i hw
    simp only [hw, if_true] at h
    refine ⟨fun f _ => hF f, ?_⟩
    have h := h.2
    rw [Oper.semAt_eq _ _ _ hnd] at h ⊢
    rw [execOp_put oj hsj a oi.dst v h1] at h
    generalize (execOp a.eval oj).run P w = r at *
    cases r with
    | ok x w' =>
      cases x <;> simp only [Oper.uponIn] at h ⊢
      case value u => exact ⟨keep a hy u, by rw [← Act.put_comm a v u h2]; exact h⟩
      case skip => exact ⟨keep a hy _, by rw [← Act.put_comm a v undef h2]; exact h⟩
      case defer d =>
        refine ⟨keep _ (keepD d) _, ?_⟩
        rw [← Act.put_comm _ v undef h2, ← Act.put_defers]
        exact h
      case enter f args =>
        refine ⟨h.1, CallsIn.mono h.2 fun e w'' he => ?_⟩
        cases e with
        | returned u => exact ⟨keep a hy u, by rw [← Act.put_comm a v u h2]; exact he⟩
        | panicked c => exact hQ _ _ _ he
        | outgrown => exact he
      case row row args => exact ⟨h.1, RowsIn.mono h.2 fun u w'' he => ⟨keep a hy u, by rw [← Act.put_comm a v u h2]; exact he⟩⟩
      case round l f tmps assign body =>
        refine ⟨h.1, RoundIn.mono h.2 fun e w'' he => ?_⟩
        cases e with
        | returned u => exact ⟨keep a hy u, by rw [← Act.put_comm a v u h2]; exact he⟩
        | panicked c => exact hQ _ _ _ he
        | outgrown => exact he
    | halt x w' =>
      cases x <;> simp only [Oper.uponIn] at h ⊢
      case panic u => exact hQ _ _ _ h
  · rename_i hw
    simp only [hw] at h
    exact ⟨fun f _ => hF f, keep a hy _, by rw [← Act.put_comm a v undef h2]; exact h.2⟩
def Sm.wpAnyHI (F : Fence) (n : Nat) (P : Program) (md : Region.Mode) (ops : Array Oper) (Q : Exit → Act → World → Prop) (S : World → Prop) : Nat → Array Bool → Act → World → Prop
  | 0, listed, a, w => Region.ready md ops listed = [] ∧ Q .normal a w
  | fuel + 1, listed, a, w =>
    (Region.ready md ops listed = [] → Q .normal a w) ∧
    ∀ i ∈ Region.ready md ops listed, wpOpIn F n P ops Q i (fun a' w' => S w' ∧ wpAnyHI F n P md ops Q S fuel (listed.setIfInBounds i true) a' w') a w
theorem Sm.wpAnyIn_of_heldI : ∀ (fuel : Nat) (listed : Array Bool) (a : Act) (w : World), wpAnyHI F n P md ops Q S fuel listed a w → wpAnyIn F n P md ops Q fuel listed a w
  | 0, _, _, _, h => h
  | fuel + 1, _, _, _, h => ⟨h.1, fun i hi => wpOpIn_mono (fun a' w' h' => wpAnyIn_of_heldI fuel _ a' w' h'.2) (h.2 i hi)⟩
theorem Sm.wpAnyHI_first {i : Nat} {oi : Oper} {v : Value} (hF : ∀ f, F.fn f) (hi : ops[i]? = some oi) (hpl : plainOps ops = true) (hsel : ∀ (j : Nat) (o : Oper) cs b, ops[j]? = some o → o.op ≠ .select cs b)
    (hQ : ∀ c a w, Q (.panic c) (a.put oi.dst v) w → Q (.panic c) a w) :
    ∀ (fuel : Nat) (listed : Array Bool) (a : Act) (w : World),
      (∀ j oj, ops[j]? = some oj → j ≠ i → listed.getD j true = false → (∀ e ∈ oj.after, Region.binds md e = true → e.on ≠ i) → oi.apart ops oj = true) →
      i ∈ Region.ready md ops listed → YieldsIf P ops S oi v a → S w →
      wpAnyHI F n P md ops Q S fuel (listed.setIfInBounds i true) (a.put oi.dst v) w → wpAnyHI F n P md ops Q S (fuel + 1) listed a w := by
  intro fuel
  induction fuel with
  | zero =>
    intro listed a w _ hr hy hS H
    refine ⟨fun h => (by rw [h] at hr; cases hr), fun j hj => ?_⟩
    by_cases hji : j = i
    · subst hji; exact YieldsIf.opIn hF hi (plainOps_spec hpl hi) hy hS ⟨hS, H⟩
    · have := ready_mono hj hji
      rw [H.1] at this
      cases this
  | succ fuel ih =>
    intro listed a w hfree hr hy hS H
    refine ⟨fun h => (by rw [h] at hr; cases hr), fun j hj => ?_⟩
    by_cases hji : j = i
    · subst hji; exact YieldsIf.opIn hF hi (plainOps_spec hpl hi) hy hS ⟨hS, H⟩
    · have h1 := H.2 j (ready_mono hj hji)
      obtain ⟨hjun, oj, hoj, hall⟩ := mem_ready.1 hj
      have hnot : ∀ e ∈ oj.after, Region.binds md e = true → e.on ≠ i := fun e he hb heq => by
        have h1 := hall e he hb
        have h0 := (mem_ready.1 hr).1
        rw [heq] at h1
        rcases Nat.lt_or_ge i listed.size with h' | h'
        · simp [h'] at h0 h1; rw [h0] at h1; cases h1
        · simp [Array.getElem?_eq_none h'] at h1
      have h2 := wpOpIn_putIf hF hoj (hfree j oj hoj hji hjun hnot) (plainOps_spec hpl hoj) (fun cs b => hsel i oi cs b hi) (fun cs b => hsel j oj cs b hoj) hQ hy h1
      have hfree' : ∀ k ok, ops[k]? = some ok → k ≠ i → (listed.setIfInBounds j true).getD k true = false →
          (∀ e ∈ ok.after, Region.binds md e = true → e.on ≠ i) → oi.apart ops ok = true := fun k ok hk hki hun hno => by
        refine hfree k ok hk hki ?_ hno
        by_cases hjk : j = k
        · subst hjk; exact hjun
        · rw [getD_set_ne true hjk] at hun; exact hun
      refine wpOpIn_mono (fun a' w' h3 => ⟨h3.2.1, ih (listed.setIfInBounds j true) a' w' hfree' (ready_mono hr (Ne.symm hji)) h3.1 h3.2.1 ?_⟩) h2
      rw [Array.setIfInBounds_comm _ _ hji]
      exact h3.2.2
theorem Sm.wpAnyHI_take {i : Nat} {oi : Oper} {v : Value} {fuel : Nat} {listed : Array Bool} {a : Act} {w : World} (hF : ∀ f, F.fn f) (hi : ops[i]? = some oi) (hpl : plainOps ops = true)
    (hs : Region.noSelect ops = true) (hf : Region.free md ops listed i = true) (hr : (Region.ready md ops listed).contains i = true)
    (hQ : ∀ c a w, Q (.panic c) (a.put oi.dst v) w → Q (.panic c) a w) (hy : YieldsIf P ops S oi v a) (hS : S w)
    (h : wpAnyHI F n P md ops Q S fuel (listed.setIfInBounds i true) (a.put oi.dst v) w) : wpAnyHI F n P md ops Q S (fuel + 1) listed a w :=
  wpAnyHI_first hF hi hpl (Region.noSelect_spec hs) hQ fuel listed a w (Region.free_spec hi hf) (by simpa using hr) hy hS h
/-- one alone may come up -/
theorem Sm.wpAnyHI_one {i : Nat} {o : Oper} {fuel : Nat} {listed : Array Bool} {a : Act} {w : World} (hr : Region.ready md ops listed = [i]) (hi : ops[i]? = some o) (hw : Region.wanted o (yielded ops a.tmps) = true)
    (h : ∀ K : Act → World → Prop, Shut (∀ a' w', S w' → (S w' → wpAnyHI F n P md ops Q S fuel (listed.setIfInBounds i true) a' w') → K a' w') → o.wpIn F n P a w K Q) : wpAnyHI F n P md ops Q S (fuel + 1) listed a w := by
  refine ⟨fun h0 => (by rw [hr] at h0; cases h0), fun j hj => ?_⟩
  rw [hr] at hj
  obtain rfl : j = i := by simpa using hj
  unfold wpOpIn
  simp only [hi, hw, if_true]
  exact h _ (fun a' w' hS hW => ⟨hS, hW hS⟩)
theorem Sm.wpAnyHI_done {listed : Array Bool} {a : Act} {w : World} (hr : Region.ready md ops listed = []) (h : Q .normal a w) : ∀ fuel, wpAnyHI F n P md ops Q S fuel listed a w
  | 0 => ⟨hr, h⟩
  | _ + 1 => ⟨fun _ => h, by rw [hr]; simp⟩
/-- the beginning -/
theorem Sm.wpIn_region_heldI {id : Nat} {a : Act} {w : World} (hm : P.follows .mixedOrders = true) (hS : S w.drew)
    (h : S w.drew → wpAnyHI F n P .any ops Q S ops.size (Array.replicate ops.size false) a w.drew) : (Code.region id ops true).wpIn F n P Q a w :=
  wpIn_region_any hm (wpAnyIn_of_heldI _ _ _ _ (h hS))
end
end Go.Proofs
namespace Go.Proofs
open Go Go.RowKit Sm Go.Lib Go.Maps Go.WideMaps
attribute [local go_sem] Oper.semAt_some
/-- what on makes, in memory -/
structure Sm.OnAt (W : World) (p bn bf g1 g2 : Nat) (x y : Int) : Prop where
  n : W.heap[bn]? = some (.cells #[.pointer (some ⟨p, 0, none⟩)] 25 (0, 0))
  f : W.heap[bf]? = some (.cells #[.func (.func 73) #[] #[.pointer (some ⟨g1, 0, none⟩), .pointer (some ⟨g2, 0, none⟩)]] 103 (0, 0))
  x : W.heap[g1]? = some (.cells #[.int .i64 x] 3 (0, 0))
  y : W.heap[g2]? = some (.cells #[.int .i64 y] 3 (0, 0))
theorem Sm.OnAt.but {S : Nat → Prop} {W W' : World} {p bn bf g1 g2 : Nat} {x y : Int} (h : OnAt W p bn bf g1 g2 x y) (hb : But S W W') (hS : ∀ b, S b → b ≠ bn ∧ b ≠ bf ∧ b ≠ g1 ∧ b ≠ g2) : OnAt W' p bn bf g1 g2 x y :=
  ⟨hb.box h.n (fun e => (hS _ e).1 rfl), hb.box h.f (fun e => (hS _ e).2.1 rfl), hb.box h.x (fun e => (hS _ e).2.2.1 rfl), hb.box h.y (fun e => (hS _ e).2.2.2 rfl)⟩
theorem Sm.OnAt.keep {W W' : World} {p bn bf g1 g2 : Nat} {x y : Int} (h : OnAt W p bn bf g1 g2 x y) (hb : Below W.heap.size W W') : OnAt W' p bn bf g1 g2 x y :=
  h.but (But.of_all hb (fun _ => False)) (fun _ e => e.elim)
set_option maxRecDepth 100000 in
set_option maxHeartbeats 2000000 in
theorem Sm.on_any (p : Nat) (x y : Int) (w : World) : Calls Try.prog 47 #[.pointer (some ⟨p, 0, none⟩), .int .i64 x, .int .i64 y] w fun e w' => ∃ bn bf g1 g2, e = .returned (.func (.func 67) #[] #[.pointer (some ⟨bn, 0, none⟩), .pointer (some ⟨bf, 0, none⟩)]) ∧
    OnAt w' p bn bf g1 g2 x y ∧ w.heap.size ≤ bn ∧ w.heap.size ≤ bf ∧ w.heap.size ≤ g1 ∧ w.heap.size ≤ g2 ∧ Below w.heap.size w w' := by
  have h1 := fun W => among_any x y W
  have hmf : ∀ (fn : Fn) (first cap : Array Value) (w : World), (Instr.makeFunc fn first cap).run Try.prog w = .ok (.func fn first cap) w := fun _ _ _ _ => rfl
  go_enter Try.func47, Try.ntmps47
  go_wp2_with (go_at_call 66; (with_reducible refine (h1 _).mono ?_); rintro e w1 ⟨rfl, k1, k2, hb1⟩)
  have hbA : Below w.heap.size w (w.alloc (.cells #[.pointer (some ⟨p, 0, none⟩)] 25)) := (Below.refl _ w).alloc (Nat.le_refl _) _
  have q0 := World.alloc_heap_new w (.cells #[.pointer (some ⟨p, 0, none⟩)] 25)
  have hs := hb1.size
  simp only [World.size_alloc] at k1 k2 hs
  have hb := hbA.trans (hb1.mono hbA.size)
  have q1 := (hb1.block _ (by simp)).trans q0
  go_ret
  exact ⟨w.heap.size, w1.heap.size, w.heap.size + 1, w.heap.size + 1 + 1, rfl, ⟨old_alloc _ q1, World.alloc_heap_new w1 _, old_alloc _ k1, old_alloc _ k2⟩, by omega, by omega, by omega, by omega, hb.alloc hb.size _⟩
theorem Sm.cellsM_at : ∀ (L : List MsgM) (k : Nat) (m : MsgM), L[k]? = some m → (cellsM L)[k * 4]? = some (.int .i64 m.num) ∧ (cellsM L)[k * 4 + 1]? = some (.int .i64 m.src) ∧ (cellsM L)[k * 4 + 2]? = some (.int .i64 m.dst) ∧ (cellsM L)[k * 4 + 3]? = some m.sl
  | a :: r, 0, m, h => by
    simp only [List.getElem?_cons_zero, Option.some.injEq] at h
    subst h
    exact ⟨rfl, rfl, rfl, rfl⟩
  | a :: r, k + 1, m, h => by
    have ih := cellsM_at r k m (by simpa using h)
    have e : cellsM (a :: r) = .int .i64 a.num :: .int .i64 a.src :: .int .i64 a.dst :: a.sl :: cellsM r := rfl
    rw [e, show (k + 1) * 4 = k * 4 + 1 + 1 + 1 + 1 by omega]
    exact ih
def Sm.MayD (X : Nat → Prop) (N : Nat) : Nat → Prop := fun b => X b ∨ N ≤ b
def Sm.rowD : Array Value → Nat → Prop := fun _ _ => False
/-- a message's value -/
def Sm.MsgM.val (m : MsgM) : Value := .agg #[.int .i64 m.num, .int .i64 m.src, .int .i64 m.dst, m.sl]
/-- with what the k-th of the picked is told -/
def Sm.HOn (x y : Int) (L : List MsgM) (_L k : Nat) (args : Array Value) (_W : World) : Prop := ∃ (i : Nat) (m : MsgM), L[i]? = some m ∧ pkB x y m.src m.dst = true ∧ k = (onN x y (L.map MsgM.d) i).length ∧ args = #[.int .i64 (i : Int), m.val]
/-- blocks that a round may turn: none of the net's -/
structure Sm.Apart (X : Nat → Prop) (p Mb : Nat) (v : Value) (L : List MsgM) : Prop where
  p : ¬ X p
  M : ¬ X Mb
  row : ∀ b, v.ownBlock = some b → ¬ X b
  msg : ∀ m ∈ L, ∀ b, m.sl.ownBlock = some b → ¬ X b
structure Sm.OnI (X : Nat → Prop) (J : Nat → World → Prop) (w wr : World) (k L : Nat) : Prop where
  j : J k wr
  keep : But (MayD X w.heap.size) w wr
  lo : L ≤ wr.heap.size
set_option maxRecDepth 100000 in
set_option maxHeartbeats 4000000 in
theorem Sm.on_seq {p Mb base bn bf g1 g2 : Nat} {s : NSt} {D : List (Int × Int)} {A : Option Addr} {cap : Nat} {L : List MsgM} (x y : Int) (w : World) (h : NAt w p Mb base s D A cap L) (ho : OnAt w p bn bf g1 g2 x y) (X : Nat → Prop)
    (hX : Apart X p Mb (.slice A L.length cap) L) (hX2 : ∀ b, X b → b ≠ bn ∧ b ≠ bf ∧ b ≠ g1 ∧ b ≠ g2) (hXl : ∀ b, X b → b < w.heap.size) :
    SeqX Try.prog 67 #[.pointer (some ⟨bn, 0, none⟩), .pointer (some ⟨bf, 0, none⟩)] X (HOn x y L) rowD (fun _ => True) (fun k => k = (onP x y (L.map MsgM.d)).length) (fun k => 1 ≤ k ∧ k ≤ (onP x y (L.map MsgM.d)).length) w := by
  intro L0 J Jx W hW hJ hJx hY hJ0
  have hno := (Array.getElem?_eq_some_iff.1 ho.n).1
  have hfo := (Array.getElem?_eq_some_iff.1 ho.f).1
  have hxo := (Array.getElem?_eq_some_iff.1 ho.x).1
  have hyo := (Array.getElem?_eq_some_iff.1 ho.y).1
  have hpo := (Array.getElem?_eq_some_iff.1 h.blk).1
  have hDA : ∀ W', But (MayD X w.heap.size) w W' → NAt W' p Mb base s D A cap L ∧ OnAt W' p bn bf g1 g2 x y := fun W' hb => by
    refine ⟨h.but hb (fun e => ?_) (fun e => ?_) (fun b e e2 => ?_) (fun m hm b e e2 => ?_), ho.but hb (fun b e => ?_)⟩
    · rcases e with e | e
      · exact hX.p e
      · omega
    · rcases e with e | e
      · exact hX.M e
      · have := h.low; omega
    · rcases e2 with e2 | e2
      · exact hX.row b e e2
      · have := (h.row.lt b e).2; omega
    · rcases e2 with e2 | e2
      · exact hX.msg m hm b e e2
      · have := ((h.byt m hm).lt b e).2; omega
    · rcases e with e | e
      · exact hX2 b e
      · omega
  have hbW : But (MayD X w.heap.size) w W := (But.of_below hW).mono (fun b _ e => .inr e)
  obtain ⟨hNW, hOW⟩ := hDA W hbW
  have c1 := cell_of_heap hOW.n 0
  have c4 := cell_of_heap hNW.blk 4
  simp only [List.getElem?_toArray, List.getElem?_cons_zero, List.getElem?_cons_succ] at c1 c4
  have hlen : L.length ≤ 4096 := by have := h.lim; omega
  have hlI : (L.length : Int) ≤ 4096 := by omega
  have HDA := Lib.hid hDA
  obtain ⟨B, hB⟩ : ∃ B, W.heap.size = B := ⟨_, rfl⟩
  have hwB : w.heap.size ≤ B := by rw [← hB]; exact hW.size
  have HI0 : Hid (OnI X J w W (onN x y (L.map MsgM.d) 0).length B) := Lib.hid ⟨hJ0, hbW, by omega⟩
  show Calls Try.prog 67 #[.func (.yield L0) #[] #[], .pointer (some ⟨bn, 0, none⟩), .pointer (some ⟨bf, 0, none⟩)] W _
  rw [hB] at hJ hJx hY
  have HY := Lib.hid hY
  have HXL := Lib.hid hXl
  clear hJ0 hDA hbW hNW hOW h ho hY hB hX hX2 hXl
  go_enter Try.func67, Try.ntmps67
  go_wp2
  go_loopw [11] (fun v11 wr => ∃ k : Nat, k ≤ L.length ∧ v11 = .int .i64 (k : Int) ∧ Hid (OnI X J w wr (onN x y (L.map MsgM.d) k).length B)) (fun v11 _ => L.length - (RowKit.intOf v11).toNat)
  case atStart => exact ⟨0, Nat.zero_le _, rfl, HI0⟩
  case round =>
    obtain ⟨wo, rfl⟩ : ∃ wo : World, wo = wr := ⟨_, rfl⟩
    obtain ⟨k, hk, rfl, HI⟩ := hrel
    clear HI0 c1 c4
    by_cases hlt : k < L.length
    · obtain ⟨hNo, hOo⟩ := HDA.out wo HI.out.keep
      obtain ⟨g, cap', hv, _, hgl⟩ := hNo.row.form (by omega)
      injection hv with hv1 hv2 hv3
      subst hv1
      obtain ⟨m, hm⟩ : ∃ m, L[k]? = some m := ⟨_, List.getElem?_eq_getElem hlt⟩
      have hc := cellsM_at L k m hm
      have hl4 : (cellsM L).length = L.length * 4 := hNo.row.1
      have ck0 := (hNo.row.cellAt (k * 4) (by omega)).trans hc.1
      have ck1 := (hNo.row.cellAt (k * 4 + 1) (by omega)).trans hc.2.1
      have ck2 := (hNo.row.cellAt (k * 4 + 2) (by omega)).trans hc.2.2.1
      have ck3 := (hNo.row.cellAt (k * 4 + 3) (by omega)).trans hc.2.2.2
      have hmd : (L.map MsgM.d)[k]? = some m.d := by rw [List.getElem?_map, hm]; rfl
      replace ck3 : wo.cell? ⟨g, k * 4 + 3, none⟩ = some (.slice m.A m.bytes.length m.c) := ck3
      have HB : Hid (Below wo.heap.size wo (wo.alloc (.cells #[.int .i64 m.num, .int .i64 m.src, .int .i64 m.dst, .slice m.A m.bytes.length m.c] 83))) := Lib.hid ((Below.refl _ wo).alloc (Nat.le_refl _) _)
      have HN : Hid ((wo.alloc (.cells #[.int .i64 m.num, .int .i64 m.src, .int .i64 m.dst, .slice m.A m.bytes.length m.c] 83)).heap[wo.heap.size]? = some (.cells #[.int .i64 m.num, .int .i64 m.src, .int .i64 m.dst, .slice m.A m.bytes.length m.c] 83 (0, 0))) := Lib.hid (World.alloc_heap_new wo _)
      have h73 := among1_any g1 g2 x y m.num m.src m.dst m.A m.bytes.length m.c _ (HB.out.block _ (Array.getElem?_eq_some_iff.1 hOo.x).1 |>.trans hOo.x) (HB.out.block _ (Array.getElem?_eq_some_iff.1 hOo.y).1 |>.trans hOo.y)
      have HO := Lib.hid hOo
      clear hNo hOo hv3 hgl hc hl4 hv2
      go_upto_region 3 with fail
      obtain ⟨W1, hW1⟩ : ∃ V, wo.alloc (.cells #[.int .i64 m.num, .int .i64 m.src, .int .i64 m.dst, .slice m.A m.bytes.length m.c] 83) = V := ⟨_, rfl⟩
      rw [hW1] at HB HN h73 ⊢
      have kf := cell_of_heap ((HB.out.block _ (Array.getElem?_eq_some_iff.1 HO.out.f).1).trans HO.out.f) 0
      have j0 := cell_of_heap HN.out 0
      have j1 := cell_of_heap HN.out 1
      have j2 := cell_of_heap HN.out 2
      have j3 := cell_of_heap HN.out 3
      simp only [List.getElem?_toArray, List.getElem?_cons_zero, List.getElem?_cons_succ] at kf j0 j1 j2 j3
      clear ck0 ck1 ck2 ck3 hW1 HO
      have HIK : Hid (∀ V, Below wo.heap.size wo V → OnI X J w V (onN x y (L.map MsgM.d) k).length B) := Lib.hid fun V hb =>
        ⟨hJ _ _ _ HI.out.j (hb.mono HI.out.lo), HI.out.keep.trans (But.of_below hb) (fun b _ e => .inr (Nat.le_trans HI.out.keep.size e)), Nat.le_trans HI.out.lo hb.size⟩
      cases hp : pkB x y m.src m.dst with
      | false =>
        rw [hp] at h73
        have HE : Hid ((onN x y (L.map MsgM.d) (k + 1)).length = (onN x y (L.map MsgM.d) k).length) := Lib.hid (by rw [onN_not hmd hp])
        clear hp hm hmd HN
        go_wp2_with (go_at_call 73; (with_reducible refine h73.mono ?_); clear h73; rintro e W2 ⟨rfl, hb2⟩; have HI2 := Lib.hid (HIK.out W2 (HB.out.trans (hb2.mono HB.out.size))); rw [← HE.out] at HI2; clear hb2)
        go_roundw
        case rel => exact ⟨k + 1, by omega, by go_num, HI2⟩
        case measure => simp [RowKit.intOf]; omega
      | true =>
        rw [hp] at h73
        have HE : Hid ((onN x y (L.map MsgM.d) (k + 1)).length = (onN x y (L.map MsgM.d) k).length + 1) := Lib.hid (by rw [onN_yes hmd hp]; simp)
        have HLE : Hid ((onN x y (L.map MsgM.d) k).length + 1 ≤ (onP x y (L.map MsgM.d)).length) := Lib.hid (by
          rw [← HE.out]
          obtain ⟨r, hr⟩ := onN_pre x y (L.map MsgM.d) (show k + 1 ≤ (L.map MsgM.d).length by rw [List.length_map]; omega)
          unfold onP
          rw [hr, List.length_append]
          exact Nat.le_add_right _ _)
        have HH : Hid (∀ V, HOn x y L B (onN x y (L.map MsgM.d) k).length #[.int .i64 (k : Int), m.val] V) := Lib.hid fun V => ⟨k, m, hm, hp, rfl, rfl⟩
        clear hp hm hmd
        unfold MsgM.val MsgM.sl at HH
        refine (wpIn_wide (n := 3)).1 ?_
        gi_wp2_with ((try refine ⟨trivial, ?_⟩); gi_at_call 73; refine (callsIn_wide.2 h73).mono ?_; clear h73; rintro e W2 ⟨rfl, hb2⟩; have HB2 := Lib.hid (HB.out.trans (hb2.mono HB.out.size)); have hr2 := (hb2.block _ (Array.getElem?_eq_some_iff.1 HN.out).1).trans HN.out; have i0 := cell_of_heap hr2 0; have i1 := cell_of_heap hr2 1; have i2 := cell_of_heap hr2 2; have i3 := cell_of_heap hr2 3; simp only [List.getElem?_toArray, List.getElem?_cons_zero, List.getElem?_cons_succ] at i0 i1 i2 i3; clear hb2 hr2; obtain ⟨fn, tmps, assign, body, hy, hR⟩ := HY.out (onN x y (L.map MsgM.d) k).length _ W2 (hJ _ _ _ HI.out.j (HB2.out.mono HI.out.lo)) (HH.out W2))
        refine (roundIn_any hR).mono ?_
        clear hR hy
        rintro e W3 (⟨rfl, _, hJ3, hbut⟩ | ⟨rfl, hJx3, _⟩)
        · have h2 := HIK.out W2 HB2.out
          have HI3 : Hid (OnI X J w W3 (onN x y (L.map MsgM.d) (k + 1)).length B) := Lib.hid (by
            rw [HE.out]
            exact ⟨hJ3, h2.keep.trans hbut (fun b _ e => by
              rcases e with e | e | e
              · exact .inl e
              · exact .inr e.1
              · exact e.elim), Nat.le_trans h2.lo hbut.size⟩)
          clear hbut hJ3 h2
          gi_wp2
          go_wp2_with fail
          go_roundw
          case rel => exact ⟨k + 1, by omega, by go_num, HI3⟩
          case measure => simp [RowKit.intOf]; omega
        · gi_wp2
          go_wp2_with fail
          refine bodyPost_ret (results_none rfl _ _ _) rfl ?_
          exact ⟨⟨_, rfl⟩, .inr ⟨_, ⟨Nat.le_add_left _ _, HLE.out⟩, hJx3⟩⟩
    · obtain rfl : k = L.length := by omega
      go_wp2_with fail
      go_end0
      exact ⟨⟨_, rfl⟩, .inl ⟨_, by unfold onP; rw [List.length_map], HI.out.j⟩⟩
end Go.Proofs
namespace Go.Proofs
open Go Go.RowKit Sm Go.Lib Go.Maps Go.WideMaps
attribute [local go_sem] Oper.semAt_some
theorem Sm.NAt.lt {W : World} {p Mb base : Nat} {s : NSt} {D : List (Int × Int)} {A : Option Addr} {cap : Nat} {L : List MsgM} (h : NAt W p Mb base s D A cap L) : p < W.heap.size ∧ Mb < W.heap.size ∧ (∀ b, (Value.slice A L.length cap).ownBlock = some b → b < W.heap.size) ∧ ∀ m ∈ L, ∀ b, m.sl.ownBlock = some b → b < W.heap.size :=
  ⟨(Array.getElem?_eq_some_iff.1 h.blk).1, by have := h.low; omega, fun b e => (h.row.lt b e).2, fun m hm b e => ((h.byt m hm).lt b e).2⟩
/-- blocks that are new are none of the net's -/
theorem Sm.NAt.apart {W : World} {p Mb base : Nat} {s : NSt} {D : List (Int × Int)} {A : Option Addr} {cap : Nat} {L : List MsgM} (h : NAt W p Mb base s D A cap L) {X : Nat → Prop} (hX : ∀ b, X b → W.heap.size ≤ b) : Apart X p Mb (.slice A L.length cap) L := by
  obtain ⟨h1, h2, h3, h4⟩ := h.lt
  exact ⟨fun e => by have := hX _ e; omega, fun e => by have := hX _ e; omega, fun b e e2 => by have := hX _ e2; have := h3 b e; omega, fun m hm b e e2 => by have := hX _ e2; have := h4 m hm b e; omega⟩
set_option maxRecDepth 100000 in
set_option maxHeartbeats 4000000 in
theorem Sm.len_any {p Mb base : Nat} {s : NSt} {D : List (Int × Int)} {A : Option Addr} {cap : Nat} {L : List MsgM} (x y : Int) (w : World) (h : NAt w p Mb base s D A cap L) :
    Calls Try.prog 20 #[.pointer (some ⟨p, 0, none⟩), .int .i64 x, .int .i64 y] w fun e w' => e = .returned (.int .i64 ((onP x y (L.map MsgM.d)).length : Int)) ∧ Below w.heap.size w w' := by
  have ht := there_yes w h
  obtain ⟨wA, hwA⟩ : ∃ wA, w.alloc (.cells #[.int .i64 0] 3) = wA := ⟨_, rfl⟩
  have hbA : Below w.heap.size w wA := by rw [← hwA]; exact (Below.refl _ w).alloc (Nat.le_refl _) _
  have hm0 : wA.heap[w.heap.size]? = some (.cells #[.int .i64 0] 3 (0, 0)) := by rw [← hwA]; exact World.alloc_heap_new w _
  have hP := on_any p x y wA
  have hl := (Array.getElem?_eq_some_iff.1 hm0).1
  have h9 : (onP x y (L.map MsgM.d)).length ≤ 4096 := by
    have h1 := onN_len x y (L.map MsgM.d) (L.map MsgM.d).length
    rw [List.length_map] at h1
    have h2 : (onP x y (L.map MsgM.d)).length ≤ L.length := by unfold onP; rw [List.length_map]; exact h1
    have := h.lim
    omega
  have HN := Lib.hid h
  have hap := h.apart (X := fun q => q = w.heap.size) (fun b e => by omega)
  refine (callsIn_wide (n := 3)).1 (callsIn_of_wp_marks Try.func20 rfl trivial ?_ rfl)
  refine wpIn_wide.2 ?_
  simp only [Try.ntmps20, List.size_toArray, List.length_cons, List.length_nil, Nat.reduceAdd, Nat.reduceSub, Array.replicate_succ, Array.replicate_zero, List.push_toArray, List.append_toArray, List.nil_append, List.cons_append]
  subst hwA
  clear h
  go_wp2_with (first
    | (go_at_call 42; (with_reducible refine ht.mono ?_); clear ht; rintro e w' ⟨rfl, rfl⟩)
    | (go_at_call 47; (with_reducible refine hP.mono ?_); clear hP; rintro e w1 ⟨bn, bf, g1, g2, rfl, hO, z1, z2, z3, z4, hb1⟩))
  rename_i K hK
  simp only [World.size_alloc] at z1 z2 z3 z4 hl
  have hbw := hbA.trans (hb1.mono hbA.size)
  have hm1 := (hb1.block _ (by simp)).trans hm0
  have hs1 := hb1.size
  simp only [World.size_alloc] at hs1
  clear hbA hm0 hb1
  have hN1 := HN.out.keep hbw
  refine (wpIn_wide (n := 3)).1 ?_
  refine wpIn_range (gf := 67) (lb := #[.pointer (some ⟨bn, 0, none⟩), .pointer (some ⟨bf, 0, none⟩)]) rfl (enters_of Try.func67 (by kernel_rfl) rfl)
    (on_seq x y w1 hN1 hO (fun q => q = w.heap.size) hap (fun b e => by omega) (fun b e => by omega)) (fun q e => by omega) ?hH ?hrow ?hps
    (fun k W => k ≤ (onP x y (L.map MsgM.d)).length ∧ W.heap[w.heap.size]? = some (.cells #[.int .i64 (k : Int)] 3 (0, 0)) ∧ But (fun q => q = w.heap.size) w1 W) (fun _ _ _ => False) ?hI (fun _ _ _ _ h _ => h) ⟨by omega, hm1, But.refl _ _⟩
    (fun args a' _ => ∃ u v, a' = { tmps := #[.pointer (some ⟨p, 0, none⟩), .int .i64 x, .int .i64 y, undef, undef, undef, .int .i64 0, .pointer (some ⟨w.heap.size, 0, none⟩), .pointer (some ⟨p, 0, none⟩), .bool true, .bool false, .pointer (some ⟨p, 0, none⟩), .int .i64 x, .int .i64 y, .func (.func 67) #[] #[.pointer (some ⟨bn, 0, none⟩), .pointer (some ⟨bf, 0, none⟩)], u, v, undef, undef, undef], defers := [] }) (fun _ _ _ _ h _ => h) ?assign ?body ?done (fun _ _ _ _ h _ => h.elim)
  case hH => exact fun k args W W' hh _ => hh
  case hrow => exact fun k args W b _ e => e.elim
  case hps =>
    rintro k args W ⟨i, m, _, _, _, rfl⟩
    rfl
  case hI => exact fun k W W' ⟨i0, i1, i2⟩ hb => ⟨i0, (hb.block _ (by omega)).trans i1, i2.trans (But.of_below hb) (fun b hb' e => absurd hb' (Nat.not_lt.2 e))⟩
  case assign =>
    rintro l0 k args W K2 hsz hi ⟨i, m, _, _, _, rfl⟩ hK2
    gi_wp2
    exact hK2 _ _ (Below.refl _ _) ⟨.int .i64 (i : Int), m.val, by simp⟩
  case body =>
    rintro l0 k args a' W hsz ⟨i0, i1, i2⟩ ⟨i, m, hm, hp, hk, rfl⟩ ⟨u, v, rfl⟩
    have k1 := cell_of_heap i1 0
    have k2 := frozen_of_heap i1 0
    simp only [List.getElem?_toArray, List.getElem?_cons_zero] at k1
    have hk9 : k + 1 ≤ (onP x y (L.map MsgM.d)).length := by
      have hmd : (L.map MsgM.d)[i]? = some m.d := by rw [List.getElem?_map, hm]; rfl
      have := (List.getElem?_eq_some_iff.1 (onP_at hmd hp)).1
      omega
    have hbx := heap_setCells (i := 0) (u := .int .i64 ((k : Int) + 1)) i1
    have hbq : But (fun q => q = w.heap.size) W (W.setCell ⟨w.heap.size, 0, none⟩ (.int .i64 ((k : Int) + 1))) := (But.refl _ _).set ⟨w.heap.size, 0, none⟩ _ (.inl rfl)
    have HB := Lib.hid hbx
    have HQ := Lib.hid hbq
    have HI := Lib.hid (i2.trans hbq (fun _ _ e => e))
    have hkI : (k : Int) + 1 ≤ 4096 := by omega
    clear hbx hbq i1 i2 hk hp hm
    gi_wp2
    exact ⟨trivial, HQ.out.mono (fun b _ e => .inl e), hk9, by rw [show ((k + 1 : Nat) : Int) = (k : Int) + 1 by omega]; exact HB.out, HI.out⟩
  case done =>
    rintro k W rfl ⟨_, i1, i2⟩ hD
    have k1 := cell_of_heap i1 0
    simp only [List.getElem?_toArray, List.getElem?_cons_zero] at k1
    have HI := Lib.hid i2
    have HD := Lib.hid hD
    obtain ⟨n, hn⟩ : ∃ n, ((onP x y (L.map MsgM.d)).length : Int) = n := ⟨_, rfl⟩
    rw [hn] at k1
    have HNN := Lib.hid hn
    clear i1 i2 hD hn
    refine hK _ _ ?_
    clear hK
    go_wp2
    refine retM1 (D := w1.heap.size) (v := .int .i64 n) rfl HD.out ?_ ⟨by rw [HNN.out], ?_⟩
    · simp [results, Try.results20, go_sem]
    · exact But.below (hbw.trans (HI.out.to_below (by omega) (fun b e => by omega))) (put_but _ _ _) (fun b e => by omega)
end Go.Proofs
namespace Go.Proofs
open Go Go.RowKit Sm
set_option maxHeartbeats 1000000 in
/-- **the law of a loop whose variable was there ahead of it** -/
theorem Sm.wpIn_rangeA {P : Program} {g : Operand} {ps : Array Tmp} {assign body : Code} {Q : Exit → Act → World → Prop} {a : Act} {w : World} {n : Nat} {gf : Nat} {lb : Array Value}
    (hg : a.eval g = .func (.func gf) #[] lb) (eg : ∀ args w, (callFunc gf args).run P w = .ok (.enter gf args) w)
    {X : Nat → Prop} {H : Nat → Nat → Array Value → World → Prop} {row : Array Value → Nat → Prop} {Go S Sp : Nat → Prop} (hseq : SeqX P gf lb X H row Go S Sp w)
    (hX : ∀ b, X b → b < w.heap.size) (hH : ∀ k args W W', H (w.heap.size + 2) k args W → But (fun b => b < w.heap.size + 2) W W' → H (w.heap.size + 2) k args W')
    (hrow : ∀ k args W b, H (w.heap.size + 2) k args W → row args b → w.heap.size + 2 ≤ b) (hps : ∀ k args W, H (w.heap.size + 2) k args W → args.size = ps.size)
    (I Ia : Nat → World → Prop) (Ix : Code → Nat → World → Prop) (hI : LowJ w.heap.size I) (hIa : LowJ w.heap.size Ia) (hIx : ∀ c, LowJ w.heap.size (Ix c)) (h0 : I 0 w) (Ax : Array Value → Act → World → Prop)
    (hAx : ∀ args a' W W', Ax args a' W → But (fun b => b < w.heap.size + 2) W W' → Ax args a' W')
    (hassign : ∀ (l k : Nat) (args : Array Value) (W : World) (K : Act → World → Prop), w.heap.size + 2 ≤ W.heap.size → I k W → H (w.heap.size + 2) k args W → (∀ a' W', But X W W' → Ia k W' → Ax args a' W' → K a' W') →
      assign.wpIn (Fence.wide.inRound l) (n - 1 - 1) P (Exit.then K (fun _ _ _ => False)) { tmps := (ps.zip args).foldl (fun t (p, v) => t.setIfInBounds p v) a.tmps, defers := [] } W)
    (hbody : ∀ (l k : Nat) (args : Array Value) (a' : Act) (W : World), w.heap.size + 2 ≤ W.heap.size → Ia k W → H (w.heap.size + 2) k args W → Ax args a' W → body.wpIn (Fence.wide.inRound l) (n - 1 - 1) P (postX Go X row args I Ix k W) a' W)
    (hdone : ∀ (k : Nat) (W : World), S k → I k W → W.heap[w.heap.size]? = some (.deferred (some [])) → Q .normal { a with defers := { target := .collected w.heap.size, args := #[] } :: a.defers } W)
    (hstop : ∀ (c : Code) (k : Nat) (W : World), Sp k → Ix c k W → W.heap[w.heap.size]? = some (.deferred (some [])) → c.wpIn Fence.wide n P Q { a with defers := { target := .collected w.heap.size, args := #[] } :: a.defers } W) :
    (Code.rangeFunc g ps assign body).wpIn Fence.wide n P Q a w := by
  refine wpIn_rangeFunc ?_
  intro fn hfn
  obtain ⟨rec, hrec⟩ : ∃ rec : LoopState → Option Code → Loop, rec = fun st pe => { state := st, pending := pe, fn, tmps := a.tmps, params := ps, assign, body, defers := w.heap.size } := ⟨_, rfl⟩
  obtain ⟨W1, hW1⟩ : ∃ W1, (w.alloc (.deferred (some []))).alloc (.loop (rec .ready none)) = W1 := ⟨_, rfl⟩
  have hs1 : W1.heap.size = w.heap.size + 2 := by rw [← hW1]; simp
  have hb1 : Below w.heap.size w W1 := by rw [← hW1]; exact ((Below.refl _ w).alloc (Nat.le_refl _) _).alloc (by simp) _
  have hL1 : W1.heap[w.heap.size + 1]? = some (.loop (rec .ready none)) := by
    rw [← hW1]; have := World.alloc_heap_new (w.alloc (.deferred (some []))) (.loop (rec .ready none)); rwa [World.size_alloc] at this
  have hK1 : W1.heap[w.heap.size]? = some (.deferred (some [])) := by
    rw [← hW1]; exact (Below.heap_alloc _ _ _ (by simp)).trans (World.alloc_heap_new w _)
  refine ⟨w.heap.size + 1, [{ target := .collected w.heap.size, args := #[] }], W1, { target := .fn (.func gf) lb, args := #[.func (.yield (w.heap.size + 1)) #[] #[]] }, W1, gf,
    #[.func (.yield (w.heap.size + 1)) #[] #[]] ++ lb, W1, ?_, ?_, ?_, ?_, (fun h => by cases h), callsIn_wide.2 ?_⟩
  · rw [← hW1, hrec]; exact run_enterLoop_outer _ _ _ _ _
  · simp only [resolve, hg]
    simp [go_sem]
  · intro f' hf'; trivial
  · simp [invoke, go_sem, eg]
  · have keep : ∀ {st : LoopState} {pe : Option Code} {W W' : World}, W.heap[w.heap.size + 1]? = some (.loop (rec st pe)) ∧ W.heap[w.heap.size]? = some (.deferred (some [])) → Below (w.heap.size + 2) W W' → W'.heap[w.heap.size + 1]? = some (.loop (rec st pe)) ∧ W'.heap[w.heap.size]? = some (.deferred (some [])) :=
      fun h hb => ⟨(hb.block _ (by omega)).trans h.1, (hb.block _ (by omega)).trans h.2⟩
    refine (hseq (w.heap.size + 1)
      (fun k W => I k W ∧ w.heap.size + 2 ≤ W.heap.size ∧ (W.heap[w.heap.size + 1]? = some (.loop (rec .ready none)) ∧ W.heap[w.heap.size]? = some (.deferred (some []))))
      (fun k W => ∃ c, Ix c k W ∧ (W.heap[w.heap.size + 1]? = some (.loop (rec .done (some c))) ∧ W.heap[w.heap.size]? = some (.deferred (some []))))
      W1 hb1
      (fun k W W' h hb => ⟨hI k W W' h.1 (hb.mono (by omega)), Nat.le_trans h.2.1 hb.size, keep h.2.2 (by rw [hs1] at hb; exact hb)⟩)
      (fun k W W' h hb => by
        obtain ⟨c, hc, h2⟩ := h
        exact ⟨c, hIx c k W W' hc (hb.mono (by omega)), keep h2 (by rw [hs1] at hb; exact hb)⟩)
      ?_ ⟨hI 0 w W1 h0 hb1, by omega, hL1, hK1⟩).mono ?_
    · rintro k args W ⟨hi, hsz, hl, hk⟩ hh
      rw [hs1] at hh ⊢
      have hlt : w.heap.size + 1 < W.heap.size := (Array.getElem?_eq_some_iff.1 hl).1
      have hy := run_yield (P := P) (args := args) hl (by rw [hrec]; exact hps _ _ _ hh)
      rw [hrec] at hy
      refine ⟨fn, _, assign, body, hy, roundIn_any (m := n - 1 - 1) (roundIn_of_wpIn hfn (hassign _ k args W _ hsz hi hh ?_))⟩
      intro a' Wa hba hia hax
      have hXn : ∀ b, b = w.heap.size + 1 ∨ b = w.heap.size → ¬ X b := fun b hb e => by have := hX b e; omega
      have hla : Wa.heap[w.heap.size + 1]? = some (.loop (rec .ready none)) := hba.box hl (hXn _ (.inl rfl))
      have hka : Wa.heap[w.heap.size]? = some (.deferred (some [])) := hba.box hk (hXn _ (.inr rfl))
      have hlta : w.heap.size + 1 < Wa.heap.size := (Array.getElem?_eq_some_iff.1 hla).1
      refine ⟨_, run_beginRound hla (by rw [hrec]), ?_⟩
      have hb2 := put_but Wa (w.heap.size + 1) (.loop { rec .ready none with state := .busy })
      have hl2 : (Wa.putObj (w.heap.size + 1) (.loop { rec .ready none with state := .busy })).heap[w.heap.size + 1]? = some (.loop { rec .ready none with state := .busy }) := World.putObj_heap_same hlta
      have hk2 : (Wa.putObj (w.heap.size + 1) (.loop { rec .ready none with state := .busy })).heap[w.heap.size]? = some (.deferred (some [])) := (World.putObj_heap_other (by omega)).trans hka
      have hi2 : Ia k (Wa.putObj (w.heap.size + 1) (.loop { rec .ready none with state := .busy })) := hIa.but hia hb2 (by omega) (fun b e => by omega)
      have hha : H (w.heap.size + 2) k args Wa := hH k args W Wa hh (hba.mono fun b _ e => by have := hX b e; omega)
      have hh2 := hH k args Wa _ hha (hb2.mono fun b _ e => by omega)
      have hax2 := hAx args a' Wa _ hax (hb2.mono fun b _ e => by omega)
      refine wpIn_mono (hbody _ k args a' _ (by simp; omega) hi2 hh2 hax2) ?_
      have fin : ∀ (jump : Option Code) (W3 : World), But (fun b => X b ∨ row args b) (Wa.putObj (w.heap.size + 1) (.loop { rec .ready none with state := .busy })) W3 →
          (Instr.endRound (w.heap.size + 1) jump).run P W3 = .ok (.bool jump.isNone) (W3.putObj (w.heap.size + 1) (.loop (rec (if jump.isNone then .ready else .done) jump))) ∧
          w.heap.size + 2 ≤ W3.heap.size ∧
          ((W3.putObj (w.heap.size + 1) (.loop (rec (if jump.isNone then .ready else .done) jump))).heap[w.heap.size + 1]? = some (.loop (rec (if jump.isNone then .ready else .done) jump)) ∧
          (W3.putObj (w.heap.size + 1) (.loop (rec (if jump.isNone then .ready else .done) jump))).heap[w.heap.size]? = some (.deferred (some []))) ∧
          But (RoundMay X w.heap.size (w.heap.size + 2) row args) W (W3.putObj (w.heap.size + 1) (.loop (rec (if jump.isNone then .ready else .done) jump))) := fun jump W3 hk3 => by
        have hno : ∀ b, b = w.heap.size + 1 ∨ b = w.heap.size → ¬ (X b ∨ row args b) := fun b hb e => by
          rcases e with e | e
          · have := hX b e; omega
          · have := hrow _ _ _ _ hh2 e; omega
        have hl3 := hk3.box hl2 (hno _ (.inl rfl))
        have hk4 := hk3.box hk2 (hno _ (.inr rfl))
        have hlt3 := (Array.getElem?_eq_some_iff.1 hl3).1
        have := run_endRound (P := P) jump hl3
        rw [hrec] at this ⊢
        refine ⟨this, by omega, ⟨World.putObj_heap_same hlt3, (World.putObj_heap_other (by omega)).trans hk4⟩, ?_⟩
        have hmay : ∀ b, b = w.heap.size + 1 → RoundMay X w.heap.size (w.heap.size + 2) row args b := fun b e => .inr (.inl (by omega))
        have c1 : But (RoundMay X w.heap.size (w.heap.size + 2) row args) W (Wa.putObj (w.heap.size + 1) (.loop { rec .ready none with state := .busy })) := (hba.mono fun b _ e => Or.inl e).trans hb2 (fun b _ e => hmay b e)
        have c2 := c1.trans hk3 (fun b _ e => by
          rcases e with e | e
          · exact .inl e
          · exact .inr (.inr e))
        exact c2.trans (put_but W3 _ _) (fun b _ e => hmay b e)
      rintro e a3 W3 hp
      cases e with
      | normal =>
        obtain ⟨hgo, hk3, hi3⟩ := hp
        obtain ⟨hr, hz, hlk, hbt⟩ := fin none W3 hk3
        exact ⟨_, _, hr, .inl ⟨rfl, hgo, ⟨hI.but hi3 (put_but W3 _ _) (by omega) (fun b e => by omega), by simpa using hz, hlk⟩, hbt⟩⟩
      | ret =>
        obtain ⟨hk3, hi3⟩ := hp
        obtain ⟨hr, hz, hlk, hbt⟩ := fin (some .ret) W3 hk3
        exact ⟨_, _, hr, .inr ⟨rfl, ⟨.ret, (hIx _).but hi3 (put_but W3 _ _) (by omega) (fun b e => by omega), hlk⟩, hbt⟩⟩
      | exit id =>
        obtain ⟨hk3, hi3⟩ := hp
        obtain ⟨hr, hz, hlk, hbt⟩ := fin (some (.exit id)) W3 hk3
        exact ⟨_, _, hr, .inr ⟨rfl, ⟨.exit id, (hIx _).but hi3 (put_but W3 _ _) (by omega) (fun b e => by omega), hlk⟩, hbt⟩⟩
      | goto t =>
        obtain ⟨hk3, hi3⟩ := hp
        obtain ⟨hr, hz, hlk, hbt⟩ := fin (some (.goto t)) W3 hk3
        exact ⟨_, _, hr, .inr ⟨rfl, ⟨.goto t, (hIx _).but hi3 (put_but W3 _ _) (by omega) (fun b e => by omega), hlk⟩, hbt⟩⟩
      | panic ch => exact hp.elim
      | outgrown => exact hp.elim
    · rintro e W2 ⟨⟨v, rfl⟩, (⟨k, hS, hi, hz, hl, hk⟩ | ⟨k, hSp, c, hi, hl, hk⟩)⟩
      · have hlt : w.heap.size + 1 < W2.heap.size := (Array.getElem?_eq_some_iff.1 hl).1
        exact ⟨none, _, by have := run_endLoop (P := P) hl (by rw [hrec]; simp); rw [hrec] at this; exact this, hdone k _ hS (hI.but hi (put_but W2 _ _) (by omega) (fun b e => by omega)) ((World.putObj_heap_other (by omega)).trans hk)⟩
      · have hlt : w.heap.size + 1 < W2.heap.size := (Array.getElem?_eq_some_iff.1 hl).1
        exact ⟨some c, _, by have := run_endLoop (P := P) hl (by rw [hrec]; simp); rw [hrec] at this; exact this, hstop c k _ hSp ((hIx c).but hi (put_but W2 _ _) (by omega) (fun b e => by omega)) ((World.putObj_heap_other (by omega)).trans hk)⟩
end Go.Proofs
namespace Go.Proofs
open Go Go.RowKit Sm Go.Lib Go.Maps Go.WideMaps
attribute [local go_sem] Oper.semAt_some
set_option maxRecDepth 100000 in
theorem Sm.find1_any {p Mb base : Nat} {s : NSt} {D : List (Int × Int)} {A : Option Addr} {cap : Nat} {L : List MsgM} (b1 b2 b3 : Nat) (x y : Int) (w : World) (h : NAt w p Mb base s D A cap L)
    (h1 : w.heap[b1]? = some (.cells #[.int .i64 x] 3 (0, 0))) (h2 : w.heap[b2]? = some (.cells #[.int .i64 y] 3 (0, 0))) (h3 : w.heap[b3]? = some (.cells #[.pointer (some ⟨p, 0, none⟩)] 25 (0, 0))) :
    Calls Try.prog 62 #[.pointer (some ⟨b1, 0, none⟩), .pointer (some ⟨b2, 0, none⟩), .pointer (some ⟨b3, 0, none⟩)] w fun e w' => e = .returned (.bool (!(anyB x y || lnkB s x y))) ∧ Below w.heap.size w w' := by
  have h63 := isAnywhere_any x y w
  have H61 : Hid (∀ W, Below w.heap.size w W → Calls Try.prog 61 #[.pointer (some ⟨p, 0, none⟩), .int .i64 x, .int .i64 y] W fun e w' => e = .returned (.bool (lnkB s x y)) ∧ Below W.heap.size W w') := Lib.hid fun W hb => isLink_any x y W (h.keep hb)
  have HC : Hid (∀ W, Below w.heap.size w W → W.cell? ⟨b1, 0, none⟩ = some (.int .i64 x) ∧ W.cell? ⟨b2, 0, none⟩ = some (.int .i64 y) ∧ W.cell? ⟨b3, 0, none⟩ = some (.pointer (some ⟨p, 0, none⟩))) := Lib.hid fun W hb =>
    ⟨cell_of_heap ((hb.block _ (Array.getElem?_eq_some_iff.1 h1).1).trans h1) 0, cell_of_heap ((hb.block _ (Array.getElem?_eq_some_iff.1 h2).1).trans h2) 0, cell_of_heap ((hb.block _ (Array.getElem?_eq_some_iff.1 h3).1).trans h3) 0⟩
  obtain ⟨q1, q2, q3⟩ := HC.out w (Below.refl _ _)
  obtain ⟨B, hB⟩ : ∃ B, lnkB s x y = B := ⟨_, rfl⟩
  obtain ⟨t, ht⟩ : ∃ t, anyB x y = t := ⟨_, rfl⟩
  rw [hB] at H61 ⊢
  rw [ht] at h63 ⊢
  clear h h1 h2 h3 hB ht
  cases t with
  | true =>
    go_enter Try.func62, Try.ntmps62
    go_wp2_with (go_at_call 63; (with_reducible refine h63.mono ?_); clear h63; rintro e w1 ⟨rfl, hb1⟩)
    go_ret
    exact ⟨by rfl, hb1⟩
  | false =>
    go_enter Try.func62, Try.ntmps62
    go_wp2_with (first
      | (go_at_call 63; (with_reducible refine h63.mono ?_); clear h63; rintro e w1 ⟨rfl, hb1⟩; clear q1 q2 q3; obtain ⟨q1, q2, q3⟩ := HC.out w1 hb1; have h61 := H61.out w1 hb1; have HB1 := Lib.hid hb1; clear hb1)
      | (go_at_call 61; (with_reducible refine h61.mono ?_); clear h61; rintro e w2 ⟨rfl, hb2⟩))
    go_ret
    exact ⟨by simp, HB1.out.trans (hb2.mono HB1.out.size)⟩
theorem Sm.find2_any {p Mb base : Nat} {s : NSt} {D : List (Int × Int)} {A : Option Addr} {cap : Nat} {L : List MsgM} (b1 b2 b3 : Nat) (x y : Int) (w : World) (h : NAt w p Mb base s D A cap L)
    (h1 : w.heap[b1]? = some (.cells #[.pointer (some ⟨p, 0, none⟩)] 25 (0, 0))) (h2 : w.heap[b2]? = some (.cells #[.int .i64 x] 3 (0, 0))) (h3 : w.heap[b3]? = some (.cells #[.int .i64 y] 3 (0, 0))) :
    Calls Try.prog 64 #[.pointer (some ⟨b1, 0, none⟩), .pointer (some ⟨b2, 0, none⟩), .pointer (some ⟨b3, 0, none⟩)] w fun e w' => e = .returned (.bool (decide ((onP x y (L.map MsgM.d)).length = 0))) ∧ Below w.heap.size w w' := by
  have h20 := len_any x y w h
  have q1 := cell_of_heap h1 0
  have q2 := cell_of_heap h2 0
  have q3 := cell_of_heap h3 0
  simp only [List.getElem?_toArray, List.getElem?_cons_zero] at q1 q2 q3
  obtain ⟨n, hn⟩ : ∃ n, (onP x y (L.map MsgM.d)).length = n := ⟨_, rfl⟩
  rw [hn] at h20 ⊢
  clear h h1 h2 h3 hn
  go_enter Try.func64, Try.ntmps64
  go_wp2_with (go_at_call 20; (with_reducible refine h20.mono ?_); clear h20; rintro e w1 ⟨rfl, hb1⟩)
  go_ret
  refine ⟨?_, hb1⟩
  by_cases e : n = 0
  · simp [e]
  · simp [e]
/-- the boxes of find -/
def Sm.fiW (w : World) (r : Option Addr) (x y : Int) : World := (((w.alloc (.cells #[.pointer r] 25)).alloc (.cells #[.int .i64 x] 3)).alloc (.cells #[.int .i64 y] 3)).alloc (.cells #[.int .i64 0] 3)
structure Sm.FiB (w W : World) (r : Option Addr) (x y at_ : Int) : Prop where
  b : Below w.heap.size w W
  n : W.heap[w.heap.size]? = some (.cells #[.pointer r] 25 (0, 0))
  x : W.heap[w.heap.size + 1]? = some (.cells #[.int .i64 x] 3 (0, 0))
  y : W.heap[w.heap.size + 1 + 1]? = some (.cells #[.int .i64 y] 3 (0, 0))
  a : W.heap[w.heap.size + 1 + 1 + 1]? = some (.cells #[.int .i64 at_] 3 (0, 0))
theorem Sm.fiB_new (w : World) (r : Option Addr) (x y : Int) : FiB w (fiW w r x y) r x y 0 :=
  ⟨bel4 w _ _ _ _, old_alloc _ (old_alloc _ (old_alloc _ (new_alloc _ rfl))), old_alloc _ (old_alloc _ (new_alloc _ (by simp))), old_alloc _ (new_alloc _ (by simp)), new_alloc _ (by simp)⟩
theorem Sm.FiB.keep {w W W' : World} {r : Option Addr} {x y a : Int} (h : FiB w W r x y a) (hb : Below W.heap.size W W') : FiB w W' r x y a :=
  have k : ∀ {b : Nat} {o : Obj}, W.heap[b]? = some o → W'.heap[b]? = some o := fun h => (hb.block _ (Array.getElem?_eq_some_iff.1 h).1).trans h
  ⟨h.b.trans (hb.mono h.b.size), k h.n, k h.x, k h.y, k h.a⟩
theorem Sm.FiB.cells {w W : World} {r : Option Addr} {x y a : Int} (h : FiB w W r x y a) : W.cell? ⟨w.heap.size, 0, none⟩ = some (.pointer r) ∧ W.cell? ⟨w.heap.size + 1, 0, none⟩ = some (.int .i64 x) ∧ W.cell? ⟨w.heap.size + 1 + 1, 0, none⟩ = some (.int .i64 y) ∧ W.cell? ⟨w.heap.size + 1 + 1 + 1, 0, none⟩ = some (.int .i64 a) ∧ W.frozen? ⟨w.heap.size + 1 + 1 + 1, 0, none⟩ = false :=
  ⟨cell_of_heap h.n 0, cell_of_heap h.x 0, cell_of_heap h.y 0, cell_of_heap h.a 0, frozen_of_heap h.a 0⟩
set_option maxRecDepth 100000 in
set_option maxHeartbeats 1000000 in
theorem Sm.find_bad (r : Option Addr) (x y pick : Int) (n1 n2 n3 : Bool) (E : Int) (w : World) (hF : ∀ c1 c2 c3, firstF [⟨59, c1, 1, n1⟩, ⟨62, c2, 2, n2⟩, ⟨64, c3, 5, n3⟩] = E) (hE : E ≠ 0)
    (h59 : ∀ W b, Below w.heap.size w W → W.heap[b]? = some (.cells #[.pointer r] 25 (0, 0)) → Calls Try.prog 59 #[.pointer (some ⟨b, 0, none⟩)] W fun e w' => e = .returned (.bool n1) ∧ Below W.heap.size W w')
    (h62 : n1 = false → ∀ W, FiB w W r x y 0 → Calls Try.prog 62 #[.pointer (some ⟨w.heap.size + 1, 0, none⟩), .pointer (some ⟨w.heap.size + 1 + 1, 0, none⟩), .pointer (some ⟨w.heap.size, 0, none⟩)] W fun e w' => e = .returned (.bool n2) ∧ Below W.heap.size W w')
    (h64 : n1 = false → n2 = false → ∀ W, FiB w W r x y 0 → Calls Try.prog 64 #[.pointer (some ⟨w.heap.size, 0, none⟩), .pointer (some ⟨w.heap.size + 1, 0, none⟩), .pointer (some ⟨w.heap.size + 1 + 1, 0, none⟩)] W fun e w' => e = .returned (.bool n3) ∧ Below W.heap.size W w') :
    Calls Try.prog 41 #[.pointer r, .int .i64 x, .int .i64 y, .int .i64 pick] w fun e w' => e = .returned (.tuple #[.int .i64 0, .int .i64 E]) ∧ Below w.heap.size w w' := by
  have hB := fiB_new w r x y
  obtain ⟨W0, hW0⟩ : ∃ V, fiW w r x y = V := ⟨_, rfl⟩
  rw [hW0] at hB
  unfold fiW at hW0
  have h0 := none_any r W0
  have HBX := Lib.hid hB
  obtain ⟨q1, q2, q3, q4, q5⟩ := hB.cells
  have HF := Lib.hid hF
  have H59 := Lib.hid h59
  have H62 := Lib.hid h62
  have H64 := Lib.hid h64
  have hE2 : (E != 0) = true := by simpa using hE
  clear hB hF h59 h62 h64 hE
  go_enter Try.func41, Try.ntmps41
  go_upto_region 1 with fail
  clear hW0
  refine wp_scope_straight ?_
  go_upto_region 2 with
  (first
    | (go_at_call 33; (with_reducible refine h0.mono ?_); clear h0; rintro e w1 ⟨rfl, hx1, hb1⟩; have HX1 := Lib.hid hx1; have HB1 := Lib.hid hb1; clear hx1 hb1;
        have hf := first_new [⟨59, #[.pointer (some ⟨W0.heap.size, 0, none⟩)], 1, n1⟩, ⟨62, #[.pointer (some ⟨w.heap.size + 1, 0, none⟩), .pointer (some ⟨w.heap.size + 1 + 1, 0, none⟩), .pointer (some ⟨w.heap.size, 0, none⟩)], 2, n2⟩, ⟨64, #[.pointer (some ⟨w.heap.size, 0, none⟩), .pointer (some ⟨w.heap.size + 1, 0, none⟩), .pointer (some ⟨w.heap.size + 1 + 1, 0, none⟩)], 5, n3⟩] E (HF.out _ _ _) 3 W0 w1 #[.func (.func 59) #[] #[.pointer (some ⟨W0.heap.size, 0, none⟩)], .int .i64 1, .func (.func 62) #[] #[.pointer (some ⟨w.heap.size + 1, 0, none⟩), .pointer (some ⟨w.heap.size + 1 + 1, 0, none⟩), .pointer (some ⟨w.heap.size, 0, none⟩)], .int .i64 2, .func (.func 64) #[] #[.pointer (some ⟨w.heap.size, 0, none⟩), .pointer (some ⟨w.heap.size + 1, 0, none⟩), .pointer (some ⟨w.heap.size + 1 + 1, 0, none⟩)], .int .i64 5] rfl rfl (by omega) HB1.out (by simp [flNums]) (fun j hj ht W hW => by
          have hbW := HB1.out.trans (hW.mono HB1.out.size)
          match j, hj, ht with
          | 0, _, _ => exact H59.out W _ (HBX.out.b.trans (hbW.mono HBX.out.b.size)) ((hW.block _ (Array.getElem?_eq_some_iff.1 HX1.out).1).trans HX1.out)
          | 1, _, ht => exact H62.out (ht _ (List.mem_cons_self ..)) W (HBX.out.keep hbW)
          | 2, _, ht => exact H64.out (ht _ (List.mem_cons_self ..)) (ht _ (List.mem_cons_of_mem _ (List.mem_cons_self ..))) W (HBX.out.keep hbW)))
    | (go_at_call 32; (with_reducible refine hf.mono ?_); clear hf; rintro e w2 ⟨rfl, hb2⟩; have HB2 := Lib.hid (HBX.out.keep hb2); obtain ⟨p1, p2, p3, p4, p5⟩ := (HBX.out.keep hb2).cells; clear q1 q2 q3 q4 q5 HX1 HB1 hb2))
  have hb3 : Below w.heap.size w (w2.setCell ⟨w.heap.size + 1 + 1 + 1, 0, none⟩ (.int .i64 0)) := HB2.out.b.setCell (by simp only; omega) _
  have HB3 := Lib.hid hb3
  have z0 := cell_of_heap (heap_setCells (i := 0) (u := .int .i64 0) HB2.out.a) 0
  simp only [List.setIfInBounds_toArray, List.set_cons_zero, List.getElem?_toArray, List.getElem?_cons_zero] at z0
  have Z0 := Lib.hid z0
  clear hb3 z0
  go_wp2
  simp only [Exit.noGoto]
  have z0 := Z0.out
  exact bodyPost_ret (v := .tuple #[.int .i64 0, .int .i64 E]) (by simp [results, Try.results41, go_sem, z0]) rfl ⟨rfl, HB3.out⟩
end Go.Proofs
namespace Go.Proofs
open Go Go.RowKit Sm Go.Lib Go.Maps Go.WideMaps
attribute [local go_sem] Oper.semAt_some
theorem Sm.find_no {v : Value} (x y pick : Int) (w : World) (h : NoNet w v) : Calls Try.prog 41 #[v, .int .i64 x, .int .i64 y, .int .i64 pick] w fun e w' => e = .returned (.tuple #[.int .i64 0, .int .i64 1]) ∧ Below w.heap.size w w' := by
  obtain ⟨r, rfl⟩ := h.ptr
  exact find_bad r x y pick true true true 1 w (fun _ _ _ => rfl) (by decide) (fun W b hb hx => none1_no b W (h.keep hb) hx) (fun e => by cases e) (fun e => by cases e)
theorem Sm.firstF_three (f2 f3 : Bool) (c1 c2 c3 : Array Value) : firstF [⟨59, c1, 1, false⟩, ⟨62, c2, 2, f2⟩, ⟨64, c3, 5, f3⟩] = if f2 = true then 2 else if f3 = true then 5 else 0 := by
  cases f2 <;> cases f3 <;> rfl
theorem Sm.findE_first {s : NSt} {D : List (Int × Int)} {P : List PD} (x y : Int) (c1 c2 c3 : Array Value) : firstF [⟨59, c1, 1, false⟩, ⟨62, c2, 2, !(anyB x y || lnkB s x y)⟩, ⟨64, c3, 5, decide ((onP x y P).length = 0)⟩] = findE ⟨s, D, P⟩ x y := by
  rw [firstF_three]
  unfold findE
  cases (anyB x y || lnkB s x y)
  · rfl
  · simp
theorem Sm.find_err {p Mb base : Nat} {s : NSt} {D : List (Int × Int)} {A : Option Addr} {cap : Nat} {L : List MsgM} (x y pick : Int) (w : World) (h : NAt w p Mb base s D A cap L) (hE : findE ⟨s, D, L.map MsgM.d⟩ x y ≠ 0) :
    Calls Try.prog 41 #[.pointer (some ⟨p, 0, none⟩), .int .i64 x, .int .i64 y, .int .i64 pick] w fun e w' => e = .returned (.tuple #[.int .i64 0, .int .i64 (findE ⟨s, D, L.map MsgM.d⟩ x y)]) ∧ Below w.heap.size w w' :=
  find_bad (some ⟨p, 0, none⟩) x y pick false (!(anyB x y || lnkB s x y)) (decide ((onP x y (L.map MsgM.d)).length = 0)) _ w (fun c1 c2 c3 => findE_first x y c1 c2 c3) hE (fun W b hb hx => none1_yes b W (h.keep hb) hx)
    (fun _ W hW => find1_any _ _ _ x y W (h.keep hW.b) hW.x hW.y hW.n) (fun _ _ W hW => find2_any _ _ _ x y W (h.keep hW.b) hW.n hW.x hW.y)
set_option maxRecDepth 100000 in
set_option maxHeartbeats 4000000 in
theorem Sm.find_yes {p Mb base : Nat} {s : NSt} {D : List (Int × Int)} {A : Option Addr} {cap : Nat} {L : List MsgM} (x y pick : Int) (w : World) (h : NAt w p Mb base s D A cap L) (hE : findE ⟨s, D, L.map MsgM.d⟩ x y = 0) :
    Calls Try.prog 41 #[.pointer (some ⟨p, 0, none⟩), .int .i64 x, .int .i64 y, .int .i64 pick] w fun e w' => e = .returned (.tuple #[.int .i64 (findA ⟨s, D, L.map MsgM.d⟩ x y pick : Int), .int .i64 0]) ∧ Below w.heap.size w w' := by
  have hB := fiB_new w (some ⟨p, 0, none⟩) x y
  obtain ⟨W0, hW0⟩ : ∃ V, fiW w (some ⟨p, 0, none⟩) x y = V := ⟨_, rfl⟩
  rw [hW0] at hB
  unfold fiW at hW0
  have h0 := none_any (some ⟨p, 0, none⟩) W0
  have HBX := Lib.hid hB
  obtain ⟨q1, q2, q3, q4, q5⟩ := hB.cells
  obtain ⟨n2, hn2⟩ : ∃ n2, (!(anyB x y || lnkB s x y)) = n2 := ⟨_, rfl⟩
  obtain ⟨n3, hn3⟩ : ∃ n3, decide ((onP x y (L.map MsgM.d)).length = 0) = n3 := ⟨_, rfl⟩
  obtain ⟨n1, hn1⟩ : ∃ n1, false = n1 := ⟨_, rfl⟩
  have HF : Hid (∀ c1 c2 c3 : Array Value, firstF [⟨59, c1, 1, n1⟩, ⟨62, c2, 2, n2⟩, ⟨64, c3, 5, n3⟩] = 0) := Lib.hid fun c1 c2 c3 => by rw [← hn1, ← hn2, ← hn3, findE_first (D := D), hE]
  have H59 : Hid (∀ W b, Below w.heap.size w W → W.heap[b]? = some (.cells #[.pointer (some ⟨p, 0, none⟩)] 25 (0, 0)) → Calls Try.prog 59 #[.pointer (some ⟨b, 0, none⟩)] W fun e w' => e = .returned (.bool n1) ∧ Below W.heap.size W w') := Lib.hid fun W b hb hx => by rw [← hn1]; exact none1_yes b W (h.keep hb) hx
  have H62 : Hid (n1 = false → ∀ W, FiB w W (some ⟨p, 0, none⟩) x y 0 → Calls Try.prog 62 #[.pointer (some ⟨w.heap.size + 1, 0, none⟩), .pointer (some ⟨w.heap.size + 1 + 1, 0, none⟩), .pointer (some ⟨w.heap.size, 0, none⟩)] W fun e w' => e = .returned (.bool n2) ∧ Below W.heap.size W w') :=
    Lib.hid fun _ W hW => by rw [← hn2]; exact find1_any _ _ _ x y W (h.keep hW.b) hW.x hW.y hW.n
  have H64 : Hid (n1 = false → n2 = false → ∀ W, FiB w W (some ⟨p, 0, none⟩) x y 0 → Calls Try.prog 64 #[.pointer (some ⟨w.heap.size, 0, none⟩), .pointer (some ⟨w.heap.size + 1, 0, none⟩), .pointer (some ⟨w.heap.size + 1 + 1, 0, none⟩)] W fun e w' => e = .returned (.bool n3) ∧ Below W.heap.size W w') :=
    Lib.hid fun _ _ W hW => by rw [← hn3]; exact find2_any _ _ _ x y W (h.keep hW.b) hW.n hW.x hW.y
  obtain ⟨hat, hfl, hfp, hpos, _⟩ := find_ok pick hE
  have hlen : (onP x y (L.map MsgM.d)).length ≤ 4096 := by
    have h1 := onN_len x y (L.map MsgM.d) (L.map MsgM.d).length
    have h2 : (onP x y (L.map MsgM.d)).length ≤ L.length := by unfold onP; rw [List.length_map] at h1 ⊢; exact h1
    have := h.lim
    omega
  obtain ⟨R, hR⟩ : ∃ R, findA ⟨s, D, L.map MsgM.d⟩ x y pick = R := ⟨_, rfl⟩
  simp only at hat hpos
  rw [hR] at hat ⊢
  obtain ⟨ln, hln⟩ : ∃ ln, (onP x y (L.map MsgM.d)).length = ln := ⟨_, rfl⟩
  have hpk := pickI_lt pick (ln : Int) (by omega)
  rw [hln] at hat hlen hpos
  have h65 := fun W => picked_any pick (ln : Int) (by omega) (by omega) W
  obtain ⟨K0, hK0⟩ : ∃ K0 : Nat, pickI pick (ln : Int) = (K0 : Int) := ⟨(pickI pick (ln : Int)).toNat, by omega⟩
  rw [hK0] at hpk hat h65
  have H20 : Hid (∀ W, FiB w W (some ⟨p, 0, none⟩) x y 0 → Calls Try.prog 20 #[.pointer (some ⟨p, 0, none⟩), .int .i64 x, .int .i64 y] W fun e w' => e = .returned (.int .i64 (ln : Int)) ∧ Below W.heap.size W w') := Lib.hid fun W hW => by rw [← hln]; exact len_any x y W (h.keep hW.b)
  have h47 := fun W => on_any p x y W
  have HN := Lib.hid h
  have HAT := Lib.hid hat
  have HLN := Lib.hid hln
  clear hB h hE hn1 hn2 hn3 hat hfl hfp hR hK0 hln
  refine (callsIn_wide (n := 3)).1 (callsIn_of_wp_marks Try.func41 rfl trivial ?_ rfl)
  simp only [Try.ntmps41, List.size_toArray, List.length_cons, List.length_nil, Nat.reduceAdd, Nat.reduceSub, Array.replicate_succ, Array.replicate_zero, List.push_toArray, List.append_toArray, List.nil_append, List.cons_append]
  gi_wp2
  refine wpIn_wide.2 (wp_scope_straight ?_)
  clear hW0
  go_upto_region 5 with
  (first
    | (go_at_call 33; (with_reducible refine h0.mono ?_); clear h0; rintro e w1 ⟨rfl, hx1, hb1⟩; have HX1 := Lib.hid hx1; have HB1 := Lib.hid hb1; clear hx1 hb1;
        have hf := first_new [⟨59, #[.pointer (some ⟨W0.heap.size, 0, none⟩)], 1, n1⟩, ⟨62, #[.pointer (some ⟨w.heap.size + 1, 0, none⟩), .pointer (some ⟨w.heap.size + 1 + 1, 0, none⟩), .pointer (some ⟨w.heap.size, 0, none⟩)], 2, n2⟩, ⟨64, #[.pointer (some ⟨w.heap.size, 0, none⟩), .pointer (some ⟨w.heap.size + 1, 0, none⟩), .pointer (some ⟨w.heap.size + 1 + 1, 0, none⟩)], 5, n3⟩] 0 (HF.out _ _ _) 3 W0 w1 #[.func (.func 59) #[] #[.pointer (some ⟨W0.heap.size, 0, none⟩)], .int .i64 1, .func (.func 62) #[] #[.pointer (some ⟨w.heap.size + 1, 0, none⟩), .pointer (some ⟨w.heap.size + 1 + 1, 0, none⟩), .pointer (some ⟨w.heap.size, 0, none⟩)], .int .i64 2, .func (.func 64) #[] #[.pointer (some ⟨w.heap.size, 0, none⟩), .pointer (some ⟨w.heap.size + 1, 0, none⟩), .pointer (some ⟨w.heap.size + 1 + 1, 0, none⟩)], .int .i64 5] rfl rfl (by omega) HB1.out (by simp [flNums]) (fun j hj ht W hW => by
          have hbW := HB1.out.trans (hW.mono HB1.out.size)
          match j, hj, ht with
          | 0, _, _ => exact H59.out W _ (HBX.out.b.trans (hbW.mono HBX.out.b.size)) ((hW.block _ (Array.getElem?_eq_some_iff.1 HX1.out).1).trans HX1.out)
          | 1, _, ht => exact H62.out (ht _ (List.mem_cons_self ..)) W (HBX.out.keep hbW)
          | 2, _, ht => exact H64.out (ht _ (List.mem_cons_self ..)) (ht _ (List.mem_cons_of_mem _ (List.mem_cons_self ..))) W (HBX.out.keep hbW)))
    | (go_at_call 32; (with_reducible refine hf.mono ?_); clear hf; rintro e w2 ⟨rfl, hb2⟩; have HB2 := Lib.hid (HBX.out.keep hb2); obtain ⟨p1, p2, p3, p4, p5⟩ := (HBX.out.keep hb2).cells; clear q1 q2 q3 q4 q5 HX1 HB1 hb2)
    | (go_at_call 20; (with_reducible refine (H20.out _ HB2.out).mono ?_); rintro e w3 ⟨rfl, hb3⟩; have HB3 := Lib.hid (HB2.out.keep hb3); obtain ⟨r1, r2, r3, r4, r5⟩ := (HB2.out.keep hb3).cells; clear p1 p2 p3 p4 p5 hb3)
    | (go_at_call 65; (with_reducible refine (h65 _).mono ?_); clear h65; rintro e w4 ⟨rfl, hb4⟩; have HB4 := Lib.hid (HB3.out.keep hb4); obtain ⟨u1, u2, u3, u4, u5⟩ := (HB3.out.keep hb4).cells; clear r1 r2 r3 r4 r5 hb4))
  have hb5 := HB4.out.b.alloc HB4.out.b.size (.cells #[.int .i64 (K0 : Int)] 3)
  have hw5 := World.alloc_heap_new w4 (.cells #[.int .i64 (K0 : Int)] 3)
  have hF5 := HB4.out.keep ((Below.refl _ w4).alloc (Nat.le_refl _) (.cells #[.int .i64 (K0 : Int)] 3))
  have hs4 := HB4.out.b.size
  obtain ⟨w5, hw⟩ : ∃ V, w4.alloc (.cells #[.int .i64 (K0 : Int)] 3) = V := ⟨_, rfl⟩
  have hs5 : w5.heap.size = w4.heap.size + 1 := by rw [← hw]; simp
  rw [hw] at hw5 hF5 hb5 ⊢
  obtain ⟨v1, v2, v3, v4, v5⟩ := hF5.cells
  have HSZ : Hid (w.heap.size + 4 ≤ w4.heap.size) := Lib.hid (by have := (Array.getElem?_eq_some_iff.1 HB4.out.a).1; omega)
  clear hw HB2 HB3 HB4 H20 u1 u2 u3 u4 u5
  have HF5 := Lib.hid hF5
  have HS5 := Lib.hid hs5
  clear hF5 hs5
  refine (wpIn_wide (n := 3)).1 ?_
  refine wpIn_label ?_
  go_wp2_with (go_at_call 47; (with_reducible refine (h47 _).mono ?_); clear h47; rintro e w6 ⟨bn, bf, g1, g2, rfl, hO, z1, z2, z3, z4, hb6⟩)
  rename_i K hK
  have hs6 := hb6.size
  have h6x := HF5.out.keep hb6
  have hn6 := (hb6.block _ (Array.getElem?_eq_some_iff.1 hw5).1).trans hw5
  have hN6 := HN.out.keep h6x.b
  have hs45 := HS5.out
  have hlo := HN.out.lt.1
  have hap : Apart (fun q => q = w.heap.size + 1 + 1 + 1 ∨ q = w4.heap.size) p Mb (.slice A L.length cap) L := HN.out.apart (fun b e => by omega)
  have hap4 : w.heap.size + 4 ≤ w4.heap.size := HSZ.out
  clear v1 v2 v3 v4 v5 hw5
  have fin : ∀ u v W6, W6.heap[w.heap.size + 1 + 1 + 1]? = some (.cells #[.int .i64 (R : Int)] 3 (0, 0)) → But (fun q => q = w.heap.size + 1 + 1 + 1 ∨ q = w4.heap.size) w6 W6 → W6.heap[w6.heap.size]? = some (.deferred (some [])) → K ({ tmps := #[.pointer (some ⟨p, 0, none⟩), .int .i64 x, .int .i64 y, .int .i64 pick, .pointer (some ⟨w.heap.size, 0, none⟩), .pointer (some ⟨w.heap.size + 1, 0, none⟩), .pointer (some ⟨w.heap.size + 1 + 1, 0, none⟩), undef, .pointer (some ⟨w.heap.size + 1 + 1 + 1, 0, none⟩), .int .i64 0, .pointer (some ⟨w4.heap.size, 0, none⟩), .pointer (some ⟨p, 0, none⟩), .agg #[.func (.func 59) #[] #[.pointer (some ⟨W0.heap.size, 0, none⟩)], .int .i64 1], .func (.func 62) #[] #[.pointer (some ⟨w.heap.size + 1, 0, none⟩), .pointer (some ⟨w.heap.size + 1 + 1, 0, none⟩), .pointer (some ⟨w.heap.size, 0, none⟩)], .agg #[.func (.func 62) #[] #[.pointer (some ⟨w.heap.size + 1, 0, none⟩), .pointer (some ⟨w.heap.size + 1 + 1, 0, none⟩), .pointer (some ⟨w.heap.size, 0, none⟩)], .int .i64 2], .func (.func 64) #[] #[.pointer (some ⟨w.heap.size, 0, none⟩), .pointer (some ⟨w.heap.size + 1, 0, none⟩), .pointer (some ⟨w.heap.size + 1 + 1, 0, none⟩)], .agg #[.func (.func 64) #[] #[.pointer (some ⟨w.heap.size, 0, none⟩), .pointer (some ⟨w.heap.size + 1, 0, none⟩), .pointer (some ⟨w.heap.size + 1 + 1, 0, none⟩)], .int .i64 5], .slice (some ⟨w1.heap.size, 0, none⟩) 3 3, .int .i64 0, .int .i64 0, .bool false, undef, .int .i64 pick, .pointer (some ⟨p, 0, none⟩), .int .i64 x, .int .i64 y, .int .i64 (ln : Int), .int .i64 (K0 : Int), .pointer (some ⟨p, 0, none⟩), .int .i64 x, .int .i64 y, .func (.func 67) #[] #[.pointer (some ⟨bn, 0, none⟩), .pointer (some ⟨bf, 0, none⟩)], u, v, undef, undef, undef, undef, undef], defers := [{ target := .collected w6.heap.size, args := #[] }] }) W6 := by
    intro u v W6 i1 i2 hD
    have k1 := cell_of_heap i1 0
    have f1 := frozen_of_heap i1 0
    have k3 := cell_of_heap (heap_setCells (i := 0) (u := .int .i64 (R : Int)) i1) 0
    simp only [List.getElem?_toArray, List.getElem?_cons_zero, List.setIfInBounds_toArray, List.set_cons_zero] at k1 k3
    have hb7 : Below w.heap.size w W6 := h6x.b.trans (i2.to_below (by have := h6x.b.size; omega) (fun b e => by omega))
    have hb8 := hb7.setCell (p := ⟨w.heap.size + 1 + 1 + 1, 0, none⟩) (by simp only; omega) (.int .i64 (R : Int))
    have hD8 : (W6.setCell ⟨w.heap.size + 1 + 1 + 1, 0, none⟩ (.int .i64 (R : Int))).heap[w6.heap.size]? = some (.deferred (some [])) := (Below.heap_setCell _ _ _ _ (by simp only; omega)).trans hD
    have HB8 := Lib.hid hb8
    have HD8 := Lib.hid hD8
    have K3 := Lib.hid k3
    clear hb7 hb8 hD8 i1 i2 hD k3
    refine hK _ _ ?_
    clear hK
    go_wp2
    simp only [Exit.noGoto]
    refine retM1 (D := w6.heap.size) (v := .tuple #[.int .i64 (R : Int), .int .i64 0]) rfl HD8.out ?_ ⟨rfl, ?_⟩
    · have k4 : ((W6.setCell ⟨w.heap.size + 1 + 1 + 1, 0, none⟩ (.int .i64 (R : Int))).putObj w6.heap.size (.deferred none)).cell? ⟨w.heap.size + 1 + 1 + 1, 0, none⟩ = some (.int .i64 (R : Int)) := (World.cell?_of_block (World.putObj_heap_other (by simp only; omega))).trans K3.out
      simp [results, Try.results41, go_sem, k4]
    · exact But.below HB8.out (put_but _ _ _) (fun b e => by omega)
  have HFIN := Lib.hid fin
  clear fin hK
  refine (wpIn_wide (n := 3)).1 ?_
  show Code.wpIn Fence.wide 3 Try.prog _ _ ({ tmps := #[.pointer (some ⟨p, 0, none⟩), .int .i64 x, .int .i64 y, .int .i64 pick, .pointer (some ⟨w.heap.size, 0, none⟩), .pointer (some ⟨w.heap.size + 1, 0, none⟩), .pointer (some ⟨w.heap.size + 1 + 1, 0, none⟩), undef, .pointer (some ⟨w.heap.size + 1 + 1 + 1, 0, none⟩), .int .i64 0, .pointer (some ⟨w4.heap.size, 0, none⟩), .pointer (some ⟨p, 0, none⟩), .agg #[.func (.func 59) #[] #[.pointer (some ⟨W0.heap.size, 0, none⟩)], .int .i64 1], .func (.func 62) #[] #[.pointer (some ⟨w.heap.size + 1, 0, none⟩), .pointer (some ⟨w.heap.size + 1 + 1, 0, none⟩), .pointer (some ⟨w.heap.size, 0, none⟩)], .agg #[.func (.func 62) #[] #[.pointer (some ⟨w.heap.size + 1, 0, none⟩), .pointer (some ⟨w.heap.size + 1 + 1, 0, none⟩), .pointer (some ⟨w.heap.size, 0, none⟩)], .int .i64 2], .func (.func 64) #[] #[.pointer (some ⟨w.heap.size, 0, none⟩), .pointer (some ⟨w.heap.size + 1, 0, none⟩), .pointer (some ⟨w.heap.size + 1 + 1, 0, none⟩)], .agg #[.func (.func 64) #[] #[.pointer (some ⟨w.heap.size, 0, none⟩), .pointer (some ⟨w.heap.size + 1, 0, none⟩), .pointer (some ⟨w.heap.size + 1 + 1, 0, none⟩)], .int .i64 5], .slice (some ⟨w1.heap.size, 0, none⟩) 3 3, .int .i64 0, .int .i64 0, .bool false, undef, .int .i64 pick, .pointer (some ⟨p, 0, none⟩), .int .i64 x, .int .i64 y, .int .i64 (ln : Int), .int .i64 (K0 : Int), .pointer (some ⟨p, 0, none⟩), .int .i64 x, .int .i64 y, .func (.func 67) #[] #[.pointer (some ⟨bn, 0, none⟩), .pointer (some ⟨bf, 0, none⟩)], undef, undef, undef, undef, undef, undef, undef], defers := [] }) w6
  refine wpIn_rangeA (gf := 67) (lb := #[.pointer (some ⟨bn, 0, none⟩), .pointer (some ⟨bf, 0, none⟩)]) rfl (enters_of Try.func67 (by kernel_rfl) rfl)
    (on_seq x y w6 hN6 hO (fun q => q = w.heap.size + 1 + 1 + 1 ∨ q = w4.heap.size) hap (fun b e => by omega) (fun b e => by omega)) (fun q e => by omega) ?hH ?hrow ?hps
    (fun k W => k ≤ K0 ∧ W.heap[w4.heap.size]? = some (.cells #[.int .i64 ((K0 : Int) - k)] 3 (0, 0)) ∧ (∃ z : Int, W.heap[w.heap.size + 1 + 1 + 1]? = some (.cells #[.int .i64 z] 3 (0, 0))) ∧ But (fun q => q = w.heap.size + 1 + 1 + 1 ∨ q = w4.heap.size) w6 W)
    (fun k W => k ≤ K0 ∧ W.heap[w4.heap.size]? = some (.cells #[.int .i64 ((K0 : Int) - k)] 3 (0, 0)) ∧ (∃ z : Nat, (onP x y (L.map MsgM.d))[k]? = some z ∧ W.heap[w.heap.size + 1 + 1 + 1]? = some (.cells #[.int .i64 (z : Int)] 3 (0, 0))) ∧ But (fun q => q = w.heap.size + 1 + 1 + 1 ∨ q = w4.heap.size) w6 W)
    (fun c k W => c = .exit 0 ∧ W.heap[w.heap.size + 1 + 1 + 1]? = some (.cells #[.int .i64 (R : Int)] 3 (0, 0)) ∧ But (fun q => q = w.heap.size + 1 + 1 + 1 ∨ q = w4.heap.size) w6 W)
    ?hI ?hIa ?hIx ⟨by omega, by simpa using hn6, ⟨0, h6x.a⟩, But.refl _ _⟩
    (fun args a' _ => ∃ u v, args = #[u, v] ∧ a' = { tmps := #[.pointer (some ⟨p, 0, none⟩), .int .i64 x, .int .i64 y, .int .i64 pick, .pointer (some ⟨w.heap.size, 0, none⟩), .pointer (some ⟨w.heap.size + 1, 0, none⟩), .pointer (some ⟨w.heap.size + 1 + 1, 0, none⟩), undef, .pointer (some ⟨w.heap.size + 1 + 1 + 1, 0, none⟩), .int .i64 0, .pointer (some ⟨w4.heap.size, 0, none⟩), .pointer (some ⟨p, 0, none⟩), .agg #[.func (.func 59) #[] #[.pointer (some ⟨W0.heap.size, 0, none⟩)], .int .i64 1], .func (.func 62) #[] #[.pointer (some ⟨w.heap.size + 1, 0, none⟩), .pointer (some ⟨w.heap.size + 1 + 1, 0, none⟩), .pointer (some ⟨w.heap.size, 0, none⟩)], .agg #[.func (.func 62) #[] #[.pointer (some ⟨w.heap.size + 1, 0, none⟩), .pointer (some ⟨w.heap.size + 1 + 1, 0, none⟩), .pointer (some ⟨w.heap.size, 0, none⟩)], .int .i64 2], .func (.func 64) #[] #[.pointer (some ⟨w.heap.size, 0, none⟩), .pointer (some ⟨w.heap.size + 1, 0, none⟩), .pointer (some ⟨w.heap.size + 1 + 1, 0, none⟩)], .agg #[.func (.func 64) #[] #[.pointer (some ⟨w.heap.size, 0, none⟩), .pointer (some ⟨w.heap.size + 1, 0, none⟩), .pointer (some ⟨w.heap.size + 1 + 1, 0, none⟩)], .int .i64 5], .slice (some ⟨w1.heap.size, 0, none⟩) 3 3, .int .i64 0, .int .i64 0, .bool false, undef, .int .i64 pick, .pointer (some ⟨p, 0, none⟩), .int .i64 x, .int .i64 y, .int .i64 (ln : Int), .int .i64 (K0 : Int), .pointer (some ⟨p, 0, none⟩), .int .i64 x, .int .i64 y, .func (.func 67) #[] #[.pointer (some ⟨bn, 0, none⟩), .pointer (some ⟨bf, 0, none⟩)], u, v, undef, undef, undef, undef, undef], defers := [] }) (fun _ _ _ _ h _ => h) ?assign ?body ?done ?stop
  case hH => exact fun k args W W' hh _ => hh
  case hrow => exact fun k args W b _ e => e.elim
  case hps =>
    rintro k args W ⟨i, m, _, _, _, rfl⟩
    rfl
  case hI => exact fun k W W' ⟨i0, i1, ⟨z, i2⟩, i3⟩ hb => ⟨i0, (hb.block _ (by omega)).trans i1, ⟨z, (hb.block _ (by omega)).trans i2⟩, i3.trans (But.of_below hb) (fun b hb' e => absurd hb' (Nat.not_lt.2 e))⟩
  case hIa => exact fun k W W' ⟨i0, i1, ⟨z, iz, i2⟩, i3⟩ hb => ⟨i0, (hb.block _ (by omega)).trans i1, ⟨z, iz, (hb.block _ (by omega)).trans i2⟩, i3.trans (But.of_below hb) (fun b hb' e => absurd hb' (Nat.not_lt.2 e))⟩
  case hIx => exact fun c k W W' ⟨i1, i2, i3⟩ hb => ⟨i1, (hb.block _ (by omega)).trans i2, i3.trans (But.of_below hb) (fun b hb' e => absurd hb' (Nat.not_lt.2 e))⟩
  case assign =>
    rintro l0 k args W K2 hsz ⟨i0, i1, ⟨z, i2⟩, i3⟩ ⟨i, m, hm, hp, hk, rfl⟩ hK2
    have f0 := frozen_of_heap i2 0
    have c0 := cell_of_heap i2 0
    simp only [List.getElem?_toArray, List.getElem?_cons_zero] at c0
    have hmd : (L.map MsgM.d)[i]? = some m.d := by rw [List.getElem?_map, hm]; rfl
    have hoi : (onP x y (L.map MsgM.d))[k]? = some i := by rw [hk]; exact onP_at hmd hp
    have h8 := heap_setCells (i := 0) (u := .int .i64 (i : Int)) i2
    have h9 : (W.setCell ⟨w.heap.size + 1 + 1 + 1, 0, none⟩ (.int .i64 (i : Int))).heap[w4.heap.size]? = some (.cells #[.int .i64 ((K0 : Int) - k)] 3 (0, 0)) := (Below.heap_setCell _ _ _ _ (by simp only; omega)).trans i1
    have hbs : But (fun q => q = w.heap.size + 1 + 1 + 1 ∨ q = w4.heap.size) W (W.setCell ⟨w.heap.size + 1 + 1 + 1, 0, none⟩ (.int .i64 (i : Int))) := (But.refl _ W).set ⟨w.heap.size + 1 + 1 + 1, 0, none⟩ _ (.inl (.inl rfl))
    have HK2 := Lib.hid (hK2 { tmps := #[.pointer (some ⟨p, 0, none⟩), .int .i64 x, .int .i64 y, .int .i64 pick, .pointer (some ⟨w.heap.size, 0, none⟩), .pointer (some ⟨w.heap.size + 1, 0, none⟩), .pointer (some ⟨w.heap.size + 1 + 1, 0, none⟩), undef, .pointer (some ⟨w.heap.size + 1 + 1 + 1, 0, none⟩), .int .i64 0, .pointer (some ⟨w4.heap.size, 0, none⟩), .pointer (some ⟨p, 0, none⟩), .agg #[.func (.func 59) #[] #[.pointer (some ⟨W0.heap.size, 0, none⟩)], .int .i64 1], .func (.func 62) #[] #[.pointer (some ⟨w.heap.size + 1, 0, none⟩), .pointer (some ⟨w.heap.size + 1 + 1, 0, none⟩), .pointer (some ⟨w.heap.size, 0, none⟩)], .agg #[.func (.func 62) #[] #[.pointer (some ⟨w.heap.size + 1, 0, none⟩), .pointer (some ⟨w.heap.size + 1 + 1, 0, none⟩), .pointer (some ⟨w.heap.size, 0, none⟩)], .int .i64 2], .func (.func 64) #[] #[.pointer (some ⟨w.heap.size, 0, none⟩), .pointer (some ⟨w.heap.size + 1, 0, none⟩), .pointer (some ⟨w.heap.size + 1 + 1, 0, none⟩)], .agg #[.func (.func 64) #[] #[.pointer (some ⟨w.heap.size, 0, none⟩), .pointer (some ⟨w.heap.size + 1, 0, none⟩), .pointer (some ⟨w.heap.size + 1 + 1, 0, none⟩)], .int .i64 5], .slice (some ⟨w1.heap.size, 0, none⟩) 3 3, .int .i64 0, .int .i64 0, .bool false, undef, .int .i64 pick, .pointer (some ⟨p, 0, none⟩), .int .i64 x, .int .i64 y, .int .i64 (ln : Int), .int .i64 (K0 : Int), .pointer (some ⟨p, 0, none⟩), .int .i64 x, .int .i64 y, .func (.func 67) #[] #[.pointer (some ⟨bn, 0, none⟩), .pointer (some ⟨bf, 0, none⟩)], .int .i64 (i : Int), m.val, undef, undef, undef, undef, undef], defers := [] } _ hbs ⟨i0, h9, ⟨i, hoi, h8⟩, i3.trans hbs (fun _ _ e => e)⟩ ⟨_, _, rfl, rfl⟩)
    clear i1 i2 i3 hK2 h8 h9 hbs hm hp hk hmd hoi
    gi_wp2
    exact HK2.out
  case body =>
    rintro l0 k args a' W hsz ⟨i0, i1, ⟨z, iz, i2⟩, i3⟩ _ ⟨u, v, rfl, rfl⟩
    have k1 := cell_of_heap i1 0
    have k2 := frozen_of_heap i1 0
    simp only [List.getElem?_toArray, List.getElem?_cons_zero] at k1
    by_cases e : k = K0
    · subst e
      have hz : z = R := by
        have h1 := HAT.out
        simp only [Int.toNat_natCast] at h1
        rw [iz] at h1
        exact Option.some.inj h1
      rw [hz] at i2
      rw [show (k : Int) - k = 0 by omega] at k1
      have HI2 := Lib.hid i2
      have HI3 := Lib.hid i3
      clear i1 i2 i3 hz iz
      gi_wp2
      exact ⟨But.refl _ _, rfl, HI2.out, HI3.out⟩
    · obtain ⟨q, hq⟩ : ∃ q : Int, (K0 : Int) - k = q := ⟨_, rfl⟩
      rw [hq] at k1
      have hq0 : (q == 0) = false := by simp; omega
      have hq1 : 0 < q := by omega
      have hq2 : q ≤ 4096 := by omega
      have h8 := heap_setCells (i := 0) (u := .int .i64 (q - 1)) i1
      have h9 : (W.setCell ⟨w4.heap.size, 0, none⟩ (.int .i64 (q - 1))).heap[w.heap.size + 1 + 1 + 1]? = some (.cells #[.int .i64 (z : Int)] 3 (0, 0)) := (Below.heap_setCell _ _ _ _ (by simp only; omega)).trans i2
      have hbs : But (fun q => q = w.heap.size + 1 + 1 + 1 ∨ q = w4.heap.size) W (W.setCell ⟨w4.heap.size, 0, none⟩ (.int .i64 (q - 1))) := (But.refl _ W).set ⟨w4.heap.size, 0, none⟩ _ (.inl (.inr rfl))
      have H8 : Hid ((W.setCell ⟨w4.heap.size, 0, none⟩ (.int .i64 (q - 1))).heap[w4.heap.size]? = some (.cells #[.int .i64 ((K0 : Int) - ((k + 1 : Nat) : Int))] 3 (0, 0))) := Lib.hid (by rw [show (K0 : Int) - ((k + 1 : Nat) : Int) = q - 1 by omega]; exact h8)
      have H9 := Lib.hid h9
      have HBS := Lib.hid hbs
      have HI3 := Lib.hid (i3.trans hbs (fun _ _ e => e))
      have hk1 : k + 1 ≤ K0 := by omega
      clear i1 i2 i3 iz h8 h9 hbs hq
      gi_wp2
      exact ⟨trivial, HBS.out.mono (fun b _ e => .inl e), hk1, H8.out, ⟨_, H9.out⟩, HI3.out⟩
  case done =>
    rintro k W hk ⟨i0, _⟩ hD
    have := HLN.out
    omega
  case stop =>
    rintro c2 k W _ ⟨rfl, i2, i3⟩ hD
    gi_wp2
    exact HFIN.out undef undef W i2 i3 hD
end Go.Proofs
namespace Go.Proofs
open Go Go.RowKit Sm Go.Lib Go.Maps Go.WideMaps
attribute [local go_sem] Oper.semAt_some
/-- an array behind stores in a row -/
def Sm.setL : Array Value → Nat → List Value → Array Value
  | c, _, [] => c
  | c, o, v :: r => setL (c.setIfInBounds o v) (o + 1) r
theorem Sm.heap_setL {g : Nat} {t : TypeId} {fr : Nat × Nat} : ∀ (vs : List Value) (o : Nat) (w : World) (cur : Array Value), w.heap[g]? = some (.cells cur t fr) → (w.setCells g o vs).heap[g]? = some (.cells (setL cur o vs) t fr)
  | [], _, _, _, h => h
  | v :: r, o, w, cur, h => by
    rw [World.setCells, setL]
    exact heap_setL r (o + 1) _ _ (heap_setCells h)
theorem Sm.setL_size : ∀ (vs : List Value) (o : Nat) (cur : Array Value), (setL cur o vs).size = cur.size
  | [], _, _ => rfl
  | v :: r, o, cur => by rw [setL, setL_size r]; simp
theorem Sm.setL_list : ∀ (vs : List Value) (o : Nat) (cur : Array Value), o + vs.length ≤ cur.size → (setL cur o vs).toList = cur.toList.take o ++ vs ++ cur.toList.drop (o + vs.length)
  | [], o, cur, _ => by simp [setL]
  | v :: r, o, cur, h => by
    simp only [List.length_cons] at h
    rw [setL, setL_list r (o + 1) _ (by simp; omega)]
    have ho : o < cur.toList.length := by simp; omega
    rw [Array.toList_setIfInBounds, List.take_set, List.drop_set_of_lt (by omega)]
    have e1 : (cur.toList.take (o + 1)).set o v = cur.toList.take o ++ [v] := by
      rw [List.take_succ_eq_append_getElem ho, List.set_append_right _ _ (by simp; omega)]
      have : min o cur.size = o := Nat.min_eq_left (by simpa using Nat.le_of_lt ho)
      simp [this]
    rw [e1]
    simp [List.append_assoc, Nat.add_assoc, Nat.add_comm 1]
theorem Sm.butCells (g : Nat) : ∀ (vs : List Value) (o : Nat) (w w1 : World), But (fun b => b = g) w w1 → But (fun b => b = g) w (w1.setCells g o vs)
  | [], _, _, _, h => h
  | v :: r, o, w, w1, h => by
    rw [World.setCells]
    exact butCells g r (o + 1) w _ (h.set ⟨g, o, none⟩ v (.inl rfl))
theorem Sm.take_cells (L : List MsgM) : ∀ i, (cellsM L).take (i * 4) = cellsM (L.take i) := by
  induction L with
  | nil => intro i; simp [cellsM]
  | cons m r ih =>
    intro i
    cases i with
    | zero => simp [cellsM]
    | succ i =>
      have e : cellsM (m :: r) = .int .i64 m.num :: .int .i64 m.src :: .int .i64 m.dst :: m.sl :: cellsM r := rfl
      rw [e, show (i + 1) * 4 = i * 4 + 1 + 1 + 1 + 1 by omega]
      simp only [List.take_succ_cons, ih i]
      rfl
theorem Sm.drop_cells (L : List MsgM) : ∀ i, (cellsM L).drop (i * 4) = cellsM (L.drop i) := by
  induction L with
  | nil => intro i; simp [cellsM]
  | cons m r ih =>
    intro i
    cases i with
    | zero => simp [cellsM]
    | succ i =>
      have e : cellsM (m :: r) = .int .i64 m.num :: .int .i64 m.src :: .int .i64 m.dst :: m.sl :: cellsM r := rfl
      rw [e, show (i + 1) * 4 = i * 4 + 1 + 1 + 1 + 1 by omega]
      simp only [List.drop_succ_cons, ih i]
theorem Sm.cells_erase (L : List MsgM) (i : Nat) : (cellsM L).take (i * 4) ++ (cellsM L).drop ((i + 1) * 4) = cellsM (L.eraseIdx i) := by
  rw [take_cells, drop_cells, List.eraseIdx_eq_take_drop_succ]
  unfold cellsM
  rw [List.flatMap_append]
theorem Sm.run_clear_msg (w : World) (ty : TypeId) (g o c : Nat) (hc : ∀ j, j < 4 → (w.cell? ⟨g, o + j, none⟩).isSome = true) (hf : ∀ j, j < 4 → w.frozen? ⟨g, o + j, none⟩ = false) :
    (Builtin.clear_ #[33] ty #[.slice (some ⟨g, o, none⟩) 1 c]).run Try.prog w = .ok (.tuple #[]) (w.setCells g o [.int .i64 0, .int .i64 0, .int .i64 0, .slice none 0 0]) := by
  have hz : ∀ w, (zeroValue 83).run Try.prog w = .ok (.agg #[.int .i64 0, .int .i64 0, .int .i64 0, .slice none 0 0]) w := fun w => by kernel_rfl
  have hst := run_storeCells_cells (P := Try.prog) g o [.int .i64 0, .int .i64 0, .int .i64 0, .slice none 0 0] 0 w (by simpa using hc) (by simpa using hf) (by
    intro v hv
    simp only [List.mem_cons, List.mem_nil_iff, or_false] at hv
    rcases hv with rfl | rfl | rfl | rfl <;> rfl)
  simp only [Nat.add_zero] at hst
  have hzc : (Builtin.zeroCells (Value.agg #[.int .i64 0, .int .i64 0, .int .i64 0, .slice none 0 0]).cells 1).toList = [.int .i64 0, .int .i64 0, .int .i64 0, .slice none 0 0] := by kernel_rfl
  have ht : Try.prog.underlying 33 = some (.slice 83) := Try.underlying33
  simp [Builtin.clear_, run_underlying ht, hz, hzc, hst]
set_option maxRecDepth 100000 in
set_option maxHeartbeats 4000000 in
theorem Sm.without_any (g i m cap base : Nat) (xs : List Value) (w : World) (h : w.ownsRow base 83 4 (.slice (some ⟨g, 0, none⟩) (i + 1 + m) cap) (i + 1 + m) xs) (hn : i + 1 + m ≤ 4096) (h1 : ∀ u ∈ xs, u.oneCell' = true) :
    Calls Try.prog 40 #[.slice (some ⟨g, 0, none⟩) (i + 1 + m) cap, .int .i64 (i : Int)] w fun e w' => e = .returned (.slice (some ⟨g, 0, none⟩) (i + m) cap) ∧ w'.ownsRow base 83 4 (.slice (some ⟨g, 0, none⟩) (i + m) cap) (i + m) (xs.take (i * 4) ++ xs.drop ((i + 1) * 4)) ∧ But (fun b => b = g) w w' := by
  obtain ⟨hxl, h2 | ⟨g', cap', cur, hv, hbg, hg, hnc, hcm, hcs, htk⟩⟩ := h
  · simp at h2
  simp only [Value.slice.injEq, Option.some.injEq, Addr.mk.injEq, and_true, true_and] at hv
  obtain ⟨rfl, rfl⟩ := hv
  have hcl : cur.toList.length = cap * 4 := by rw [Array.length_toList, hcs]
  obtain ⟨news, hnews⟩ : ∃ news, xs.drop ((i + 1) * 4) = news := ⟨_, rfl⟩
  have hnl : news.length = m * 4 := by rw [← hnews, List.length_drop, hxl]; omega
  have hcell : ∀ W : World, W.heap[g]? = some (.cells cur 83 (0, 0)) → ∀ j, j < cap * 4 → (W.cell? ⟨g, j, none⟩).isSome = true ∧ W.frozen? ⟨g, j, none⟩ = false := fun W hW j hj => by
    refine ⟨?_, frozen_of_heap hW j⟩
    rw [cell_of_heap hW j, Array.getElem?_eq_getElem (by omega)]
    rfl
  have hgd : w.drew.heap[g]? = some (.cells cur 83 (0, 0)) := hg
  have hga : ∀ j u, news[j]? = some u → w.drew.cell? ⟨g, (i + 1) * 4 + j, none⟩ = some u := fun j u hu => by
    rw [cell_of_heap hgd]
    have hj := (List.getElem?_eq_some_iff.1 hu).1
    rw [← hnews, List.getElem?_drop, ← htk, List.getElem?_take_of_lt (by omega)] at hu
    rw [← Array.getElem?_toList]
    exact hu
  obtain ⟨A, hA, hAn⟩ : ∃ A, (if cap = i + 1 then some (⟨g, 0, none⟩ : Addr) else some ⟨g, (i + 1) * 4, none⟩) = some A ∧ Hid (∀ j u, news[j]? = some u → w.drew.cell? (A.add j) = some u) := by
    by_cases e : cap = i + 1
    · refine ⟨⟨g, 0, none⟩, by rw [if_pos e], Lib.hid fun j u hu => ?_⟩
      have := (List.getElem?_eq_some_iff.1 hu).1
      omega
    · exact ⟨⟨g, (i + 1) * 4, none⟩, by rw [if_neg e], Lib.hid fun j u hu => by rw [Addr.add_lit]; exact hga j u hu⟩
  have s1 : Hid (news.length = m * 4) := Lib.hid hnl
  have s2 : Hid (∀ u ∈ news, u.oneCell' = true) := Lib.hid fun u hu => h1 u (List.mem_of_mem_drop (by rw [hnews]; exact hu))
  have s3 : Hid (∀ t, t < news.length → (w.drew.cell? ⟨g, 0 + i * 4 + t, none⟩).isSome = true ∧ w.drew.frozen? ⟨g, 0 + i * 4 + t, none⟩ = false) := Lib.hid fun t ht => hcell _ hgd _ (by omega)
  obtain ⟨i0, hi0, hz1⟩ : ∃ i0, Try.prog.info? 83 = some i0 ∧ i0.size = 4 := by
    obtain ⟨i0, a1, _, a3, _⟩ := info83
    exact ⟨i0, a1, a3⟩
  obtain ⟨W1, hW1⟩ : ∃ W1, W1 = w.drew.setCells g (0 + i * 4) news := ⟨_, rfl⟩
  have hg1 : W1.heap[g]? = some (.cells (setL cur (i * 4) news) 83 (0, 0)) := by rw [hW1, Nat.zero_add]; exact heap_setL news (i * 4) _ cur hgd
  have hb1 : But (fun b => b = g) w W1 := by rw [hW1]; exact butCells g news _ w _ (But.refl _ w).drew
  have hs1 : (setL cur (i * 4) news).size = cap * 4 := by rw [setL_size, hcs]
  have hcl1 : ∀ ty, (Builtin.clear_ #[33] ty #[.slice (some ⟨g, (i + m) * 4, none⟩) 1 (cap - (i + m))]).run Try.prog W1 = .ok (.tuple #[]) (W1.setCells g ((i + m) * 4) [.int .i64 0, .int .i64 0, .int .i64 0, .slice none 0 0]) := fun ty =>
    run_clear_msg W1 ty g ((i + m) * 4) (cap - (i + m)) (fun j hj => by rw [cell_of_heap hg1, Array.getElem?_eq_getElem (by omega)]; rfl) (fun j hj => frozen_of_heap hg1 _)
  have hfin : Hid ((W1.setCells g ((i + m) * 4) [.int .i64 0, .int .i64 0, .int .i64 0, .slice none 0 0]).ownsRow base 83 4 (.slice (some ⟨g, 0, none⟩) (i + m) cap) (i + m) (xs.take (i * 4) ++ xs.drop ((i + 1) * 4)) ∧ But (fun b => b = g) w (W1.setCells g ((i + m) * 4) [.int .i64 0, .int .i64 0, .int .i64 0, .slice none 0 0])) := Lib.hid (by
    refine ⟨⟨by rw [hnews, List.length_append, hnl, List.length_take, hxl]; omega, .inr ⟨g, cap, _, rfl, hbg, heap_setL _ _ _ _ hg1, by omega, hcm, by rw [setL_size, hs1], ?_⟩⟩, butCells g _ _ w _ hb1⟩
    rw [setL_list _ _ _ (by rw [hs1]; simp; omega), setL_list _ _ _ (by rw [hnl, hcs]; omega), hnews]
    rw [List.append_assoc, List.take_append_of_le_length (by simp only [List.length_take, List.length_append, List.length_drop, hcl, hnl]; omega)]
    rw [List.take_take, Nat.min_self, List.append_assoc]
    have e1 : (cur.toList.take (i * 4)) = xs.take (i * 4) := by rw [← htk, List.take_take, Nat.min_eq_left (by omega)]
    rw [e1, ← List.append_assoc, List.take_append_of_le_length (by simp only [List.length_take, List.length_append, hxl, hnl]; omega)]
    exact List.take_of_length_le (by simp only [List.length_take, List.length_append, hxl, hnl]; omega))
  have hW : Hid (W1 = w.drew.setCells g (0 + i * 4) news) := Lib.hid hW1
  have hwr : IntKind.i64.wrap ((i : Int) + 1) = (i : Int) + 1 := by rw [IntKind.wrap_i64]; omega
  have hp0 : (0 : Int) ≤ (i : Int) + 1 := by omega
  have hp1 : (i : Int) + 1 ≤ (i : Int) + 1 + (m : Int) := by omega
  have hp2 : ((i : Int) + 1).toNat = i + 1 := by omega
  have hic : i ≤ cap := by omega
  have hcne : ¬ cap = i + m := by omega
  have hq0 : (0 : Int) ≤ (i : Int) + (m : Int) := by omega
  have hq1 : (i : Int) + (m : Int) ≤ (i : Int) + 1 + (m : Int) := by omega
  have hq2 : ((i : Int) + (m : Int)).toNat = i + m := by omega
  have hq3 : i + 1 + m - (i + m) = 1 := by omega
  have hcm2 : i + m ≤ cap := by omega
  have hcapI : (cap : Int) ≤ 9223372036854775807 := by unfold maxLen at hcm; omega
  clear hW1 hg hgd hga hcell hnews hnl hxl htk hcl hg1 hb1 hs1 hcs hbg hcm h1
  go_enter Try.func40, Try.ntmps40
  go_wp2_with fail
  go_region_law (refine step_append_room rfl (.tmp 8) (.tmp 12) 33 rfl 83 i0 4 Try.underlying33 hi0 hz1 g 0 i cap (by simp [Act.eval, Act.put]) A m (cap - (i + 1)) news (by simp [Act.eval, Act.put]) s1.out hAn.out s2.out (by omega) s3.out ?_; rw [← hW.out])
  all_goals
    go_wp2
    go_ret
    exact ⟨rfl, hfin.out⟩
end Go.Proofs
namespace Go.Proofs
open Go Go.RowKit Sm Go.Lib Go.Maps Go.WideMaps
attribute [local go_sem] Oper.semAt_some
theorem Sm.own_rd {W : World} {base n c : Nat} {A : Option Addr} {l : List (BitVec 8)} (h : W.ownsRow base 5 1 (.slice A n c) n (l.map byteCell)) : Rd W W.heap.size A l := fun hl => by
  have h1 := h.1
  rw [List.length_map] at h1
  obtain ⟨g, cap, hv, _, hg⟩ := h.form (by omega)
  injection hv with hv1 hv2 hv3
  subst hv1 hv3
  refine ⟨g, 0, rfl, hg, fun j x hx => ?_⟩
  have hj := (List.getElem?_eq_some_iff.1 hx).1
  rw [Nat.zero_add, h.cellAt j (by omega), List.getElem?_map, hx]
  rfl
theorem Sm.own_len {W : World} {base n : Nat} {v : Value} {l : List (BitVec 8)} (h : W.ownsRow base 5 1 v n (l.map byteCell)) : l.length = n := by
  have h1 := h.1
  rw [List.length_map] at h1
  omega
def Sm.zPar : Value := .agg #[.int .i64 0, .int .i64 0, .int .i64 0, .slice none 0 0]
theorem Sm.build41 (w : World) : (Instr.build 41 #[]).run Try.prog w = .ok zPar w := by kernel_rfl
theorem Sm.par_new (w : World) : (w.alloc (.cells #[.int .i64 0, .int .i64 0, .int .i64 0, .slice none 0 0] 41)).heap[w.heap.size]? = some (.cells #[.int .i64 0, .int .i64 0, .int .i64 0, .slice none 0 0] 41 (0, 0)) := World.alloc_heap_new w _
theorem Sm.four_cells {w : World} {p : Nat} {a b c d : Value} {t : TypeId} (h : w.heap[p]? = some (.cells #[a, b, c, d] t (0, 0))) : (w.cell? ⟨p, 0, none⟩ = some a ∧ w.cell? ⟨p, 1, none⟩ = some b ∧ w.cell? ⟨p, 2, none⟩ = some c ∧ w.cell? ⟨p, 3, none⟩ = some d)
    ∧ (w.frozen? ⟨p, 0, none⟩ = false ∧ w.frozen? ⟨p, 1, none⟩ = false ∧ w.frozen? ⟨p, 2, none⟩ = false ∧ w.frozen? ⟨p, 3, none⟩ = false) :=
  ⟨⟨cell_of_heap h 0, cell_of_heap h 1, cell_of_heap h 2, cell_of_heap h 3⟩, frozen_of_heap h 0, frozen_of_heap h 1, frozen_of_heap h 2, frozen_of_heap h 3⟩
set_option maxRecDepth 100000 in
set_option maxHeartbeats 1000000 in
/-- nothing is found -/
theorem Sm.reach_bad (v : Value) (x y pick E : Int) (w : World) (hE : E ≠ 0) (hf : ∀ W, Below w.heap.size w W → Calls Try.prog 41 #[v, .int .i64 x, .int .i64 y, .int .i64 pick] W fun e w' => e = .returned (.tuple #[.int .i64 0, .int .i64 E]) ∧ Below W.heap.size W w') :
    Calls Try.prog 39 #[v, .int .i64 x, .int .i64 y, .int .i64 pick] w fun e w' => e = .returned (.tuple #[.int .i64 0, zPar, .int .i64 E]) ∧ Below w.heap.size w w' := by
  obtain ⟨W0, hW0⟩ : ∃ V, w.alloc (.cells #[.int .i64 0, .int .i64 0, .int .i64 0, .slice none 0 0] 41) = V := ⟨_, rfl⟩
  have hb0 : Below w.heap.size w W0 := by rw [← hW0]; exact (Below.refl _ w).alloc (Nat.le_refl _) _
  have hx0 := par_new w
  rw [hW0] at hx0
  have h41 := hf W0 hb0
  have HX := Lib.hid hx0
  have HB := Lib.hid hb0
  have hE2 : (E != 0) = true := by simpa using hE
  have hz := build41
  unfold zPar at hz ⊢
  clear hb0 hx0 hf hE
  go_enter Try.func39, Try.ntmps39
  go_upto_region 1 with fail
  clear hW0
  go_wp2_with (go_at_call 41; (with_reducible refine h41.mono ?_); clear h41; rintro e w1 ⟨rfl, hb1⟩; have HX1 := Lib.hid ((hb1.block _ (Array.getElem?_eq_some_iff.1 HX.out).1).trans HX.out); obtain ⟨⟨k0, k1, k2, k3⟩, ⟨f0, f1, f2, f3⟩⟩ := four_cells HX1.out; have HB1 := Lib.hid (HB.out.trans (hb1.mono HB.out.size)); clear hb1)
  have h4 := put4 HX1.out (.int .i64 0) (.int .i64 0) (.int .i64 0) (.slice none 0 0)
  have h5 := put4_but w1 w.heap.size (.int .i64 0) (.int .i64 0) (.int .i64 0) (.slice none 0 0)
  unfold put4W at h4 h5
  obtain ⟨⟨z0, z1, z2, z3⟩, _⟩ := four_cells h4
  have hb6 := HB1.out.trans (h5.to_below HB1.out.size (fun b e => by omega))
  exact bodyPost_ret (v := .tuple #[.int .i64 0, .agg #[.int .i64 0, .int .i64 0, .int .i64 0, .slice none 0 0], .int .i64 E]) (by simp [results, Try.results39, go_sem, z0, z1, z2, z3]) rfl ⟨rfl, hb6⟩
theorem Sm.reach_no {v : Value} (x y pick : Int) (w : World) (h : NoNet w v) : Calls Try.prog 39 #[v, .int .i64 x, .int .i64 y, .int .i64 pick] w fun e w' => e = .returned (.tuple #[.int .i64 0, zPar, .int .i64 1]) ∧ Below w.heap.size w w' :=
  reach_bad v x y pick 1 w (by decide) (fun W hb => find_no x y pick W (h.keep hb))
theorem Sm.find_msg {N : NM} {L : List MsgM} (hL : L.map MsgM.d = N.P) {x y : Int} (pick : Int) (hE : findE N x y = 0) : ∃ m, L[findA N x y pick]? = some m ∧ findP N x y pick = m.d ∧ findA N x y pick < L.length := by
  obtain ⟨_, h2, h3, _⟩ := find_ok pick hE
  rw [← hL, List.length_map] at h2
  rw [← hL, List.getElem?_map] at h3
  obtain ⟨m, hm⟩ : ∃ m, L[findA N x y pick]? = some m := ⟨_, List.getElem?_eq_getElem h2⟩
  rw [hm] at h3
  exact ⟨m, hm, (Option.some.inj h3).symm, h2⟩
set_option maxRecDepth 100000 in
set_option maxHeartbeats 2000000 in
/-- something is found -/
theorem Sm.reach_found {p Mb base : Nat} {s : NSt} {D : List (Int × Int)} {A : Option Addr} {cap : Nat} {L : List MsgM} (x y pick : Int) (R : Nat) (m : MsgM) (w : World) (h : NAt w p Mb base s D A cap L) (hm : L[R]? = some m)
    (hf : ∀ W, Below w.heap.size w W → Calls Try.prog 41 #[.pointer (some ⟨p, 0, none⟩), .int .i64 x, .int .i64 y, .int .i64 pick] W fun e w' => e = .returned (.tuple #[.int .i64 (R : Int), .int .i64 0]) ∧ Below W.heap.size W w') :
    Calls Try.prog 39 #[.pointer (some ⟨p, 0, none⟩), .int .i64 x, .int .i64 y, .int .i64 pick] w fun e w' => Below w.heap.size w w' ∧
      ((((m.src, m.dst) ∈ D) ∧ e = .returned (.tuple #[.int .i64 0, zPar, .int .i64 210])) ∨ (((m.src, m.dst) ∉ D) ∧ ∃ A' c', e = .returned (.tuple #[.int .i64 (R : Int), .agg #[.int .i64 m.num, .int .i64 m.src, .int .i64 m.dst, .slice A' m.bytes.length c'], .int .i64 0]) ∧ w'.ownsRow w.heap.size 5 1 (.slice A' m.bytes.length c') m.bytes.length (m.bytes.map byteCell))) := by
  obtain ⟨W0, hW0⟩ : ∃ V, w.alloc (.cells #[.int .i64 0, .int .i64 0, .int .i64 0, .slice none 0 0] 41) = V := ⟨_, rfl⟩
  have hb0 : Below w.heap.size w W0 := by rw [← hW0]; exact (Below.refl _ w).alloc (Nat.le_refl _) _
  have hx0 := par_new w
  rw [hW0] at hx0
  have h41 := hf W0 hb0
  have hR := (List.getElem?_eq_some_iff.1 hm).1
  have hlm := h.lim
  have hRI : (R : Int) < (L.length : Int) := by omega
  have hR2 : (L.length : Int) ≤ 4096 := by omega
  have hms := h.msg m (List.mem_of_getElem? hm)
  have hi64 : I64 m.src ∧ I64 m.dst := by unfold I64; omega
  have HX := Lib.hid hx0
  have HB := Lib.hid hb0
  have HN := Lib.hid h
  have HM := Lib.hid hm
  have hz := build41
  obtain ⟨g, cap', hv, hbg, hgl⟩ := h.row.form (by omega)
  injection hv with hv1 hv2 hv3
  subst hv1
  have hbl := hms.2.2.2.2.2.2
  clear hb0 hx0 hf hms hlm hv2 hv3 h
  unfold zPar at hz ⊢
  go_enter Try.func39, Try.ntmps39
  go_upto_region 1 with fail
  clear hW0
  go_upto_region 4 with (go_at_call 41; (with_reducible refine h41.mono ?_); clear h41; rintro e w1 ⟨rfl, hb1⟩)
  have HX1 := Lib.hid ((hb1.block _ (Array.getElem?_eq_some_iff.1 HX.out).1).trans HX.out)
  have HB1 := Lib.hid (HB.out.trans (hb1.mono HB.out.size))
  have hN1 := HN.out.keep HB1.out
  have c4 := cell_of_heap hN1.blk 4
  simp only [List.getElem?_toArray, List.getElem?_cons_zero, List.getElem?_cons_succ] at c4
  have hc := cellsM_at L R m HM.out
  have hl4 : (cellsM L).length = L.length * 4 := hN1.row.1
  have ck0 := (hN1.row.cellAt (R * 4) (by omega)).trans hc.1
  have ck1 := (hN1.row.cellAt (R * 4 + 1) (by omega)).trans hc.2.1
  have ck2 := (hN1.row.cellAt (R * 4 + 2) (by omega)).trans hc.2.2.1
  have ck3 : w1.cell? ⟨g, R * 4 + 3, none⟩ = some (.slice m.A m.bytes.length m.c) := (hN1.row.cellAt (R * 4 + 3) (by omega)).trans hc.2.2.2
  have hx2 := World.alloc_heap_new w1 (.cells #[.int .i64 m.num, .int .i64 m.src, .int .i64 m.dst, .slice m.A m.bytes.length m.c] 83)
  have hb2 : Below w1.heap.size w1 (w1.alloc (.cells #[.int .i64 m.num, .int .i64 m.src, .int .i64 m.dst, .slice m.A m.bytes.length m.c] 83)) := (Below.refl _ w1).alloc (Nat.le_refl _) _
  obtain ⟨w2, hw2⟩ : ∃ V, w1.alloc (.cells #[.int .i64 m.num, .int .i64 m.src, .int .i64 m.dst, .slice m.A m.bytes.length m.c] 83) = V := ⟨_, rfl⟩
  rw [hw2] at hx2 hb2
  have HX2 := Lib.hid hx2
  have HB2 := Lib.hid hb2
  have h19 := isDown_any m.src m.dst w2 (hN1.keep hb2) hi64.1 hi64.2
  have hs1 := HB1.out.size
  clear hb1 hc hl4 hN1 hx2 hb2
  go_upto_region 5 with fail
  clear hw2 ck0 ck1 ck2 ck3 c4
  obtain ⟨⟨i0, i1, i2, i3⟩, _⟩ := four_cells HX2.out
  have hin : (decide ((m.src, m.dst) ∈ D) = true) = ((m.src, m.dst) ∈ D) := decide_eq_true_eq
  obtain ⟨dn, hdn⟩ : ∃ dn, decide ((m.src, m.dst) ∈ D) = dn := ⟨_, rfl⟩
  rw [hdn] at h19
  have HDN := Lib.hid hdn
  clear hin hdn
  cases dn with
  | true =>
    go_wp2_with (go_at_call 19; (with_reducible refine h19.mono ?_); clear h19; rintro e w3 ⟨rfl, hb3⟩; have HX3 := Lib.hid (((HB2.out.trans (hb3.mono HB2.out.size)).block _ (Array.getElem?_eq_some_iff.1 HX1.out).1).trans HX1.out); obtain ⟨⟨k0, k1, k2, k3⟩, ⟨f0, f1, f2, f3⟩⟩ := four_cells HX3.out; have HB3 := Lib.hid (HB1.out.trans ((HB2.out.trans (hb3.mono HB2.out.size)).mono HB1.out.size)); clear hb3 i0 i1 i2 i3)
    have h4 := put4 HX3.out (.int .i64 0) (.int .i64 0) (.int .i64 0) (.slice none 0 0)
    have h5 := put4_but w3 w.heap.size (.int .i64 0) (.int .i64 0) (.int .i64 0) (.slice none 0 0)
    unfold put4W at h4 h5
    obtain ⟨⟨z0, z1, z2, z3⟩, _⟩ := four_cells h4
    have hb6 := HB3.out.trans (h5.to_below HB3.out.size (fun b e => by omega))
    exact bodyPost_ret (v := .tuple #[.int .i64 0, .agg #[.int .i64 0, .int .i64 0, .int .i64 0, .slice none 0 0], .int .i64 210]) (by simp [results, Try.results39, go_sem, z0, z1, z2, z3]) rfl ⟨hb6, .inl ⟨of_decide_eq_true HDN.out, rfl⟩⟩
  | false =>
    have HCP : Hid (∀ W, Below w2.heap.size w2 W → Calls Try.prog 46 #[.agg #[.int .i64 m.num, .int .i64 m.src, .int .i64 m.dst, .slice m.A m.bytes.length m.c]] W fun e w' => ∃ A' c', e = .returned (.agg #[.int .i64 m.num, .int .i64 m.src, .int .i64 m.dst, .slice A' m.bytes.length c']) ∧ w'.ownsRow W.heap.size 5 1 (.slice A' m.bytes.length c') m.bytes.length (m.bytes.map byteCell) ∧ Below W.heap.size W w') := Lib.hid fun W hb => by
      have hbw := HB1.out.trans ((HB2.out.trans (hb.mono HB2.out.size)).mono HB1.out.size)
      have hby := (HN.out.keep hbw).byt m (List.mem_of_getElem? HM.out)
      exact copied_any m.num m.src m.dst W.heap.size m.bytes.length m.c m.A m.bytes W rfl (own_rd hby) (Nat.le_refl _) hbl
    go_wp2_with (first
      | (go_at_call 19; (with_reducible refine h19.mono ?_); clear h19; rintro e w3 ⟨rfl, hb3⟩; have HX3 := Lib.hid (((HB2.out.trans (hb3.mono HB2.out.size)).block _ (Array.getElem?_eq_some_iff.1 HX1.out).1).trans HX1.out); have HB3 := Lib.hid (HB1.out.trans ((HB2.out.trans (hb3.mono HB2.out.size)).mono HB1.out.size)); clear i0 i1 i2 i3; obtain ⟨⟨i0, i1, i2, i3⟩, _⟩ := four_cells ((hb3.block _ (Array.getElem?_eq_some_iff.1 HX2.out).1).trans HX2.out); have h46 := HCP.out w3 hb3; have hs3 := HB3.out.size; clear hb3)
      | (go_at_call 46; (with_reducible refine h46.mono ?_); clear h46; rintro e w4 ⟨A', c', rfl, ho, hb4⟩; have HX4 := Lib.hid ((hb4.block _ (Array.getElem?_eq_some_iff.1 HX3.out).1).trans HX3.out); obtain ⟨⟨k0, k1, k2, k3⟩, ⟨f0, f1, f2, f3⟩⟩ := four_cells HX4.out; have HB4 := Lib.hid (HB3.out.trans (hb4.mono HB3.out.size)); have HO := Lib.hid ho; have hl3 := (Array.getElem?_eq_some_iff.1 HX3.out).1; clear hb4 ho i0 i1 i2 i3))
    have h4 := put4 HX4.out (.int .i64 m.num) (.int .i64 m.src) (.int .i64 m.dst) (.slice A' m.bytes.length c')
    have h5 := put4_but w4 w.heap.size (.int .i64 m.num) (.int .i64 m.src) (.int .i64 m.dst) (.slice A' m.bytes.length c')
    unfold put4W at h4 h5
    obtain ⟨⟨z0, z1, z2, z3⟩, _⟩ := four_cells h4
    have hb6 := HB4.out.trans (h5.to_below HB4.out.size (fun b e => by omega))
    have ho6 := h5.row HO.out (fun g e1 e2 => by have := (HO.out.lt g e1).1; omega)
    exact bodyPost_ret (v := .tuple #[.int .i64 (R : Int), .agg #[.int .i64 m.num, .int .i64 m.src, .int .i64 m.dst, .slice A' m.bytes.length c'], .int .i64 0]) (by simp [results, Try.results39, go_sem, z0, z1, z2, z3]) rfl ⟨hb6, .inr ⟨of_decide_eq_false HDN.out, A', c', rfl, own_base ho6 (by omega)⟩⟩
end Go.Proofs
namespace Go.Proofs
open Go Go.RowKit Sm Go.Lib Go.Maps Go.WideMaps
attribute [local go_sem] Oper.semAt_some
/-- a parcel's value, its bytes at A -/
def Sm.parVal (P : PD) (A : Option Addr) (c : Nat) : Value := .agg #[.int .i64 P.1, .int .i64 P.2.1, .int .i64 P.2.2.1, .slice A P.2.2.2.length c]
def Sm.ParV (W : World) (base : Nat) (P : PD) (A : Option Addr) (c : Nat) : Prop := W.ownsRow base 5 1 (.slice A P.2.2.2.length c) P.2.2.2.length (P.2.2.2.map byteCell)
theorem Sm.ParV.but {S : Nat → Prop} {W W' : World} {base base' : Nat} {P : PD} {A : Option Addr} {c : Nat} (h : ParV W base P A c) (hb : But S W W') (hS : ∀ b, S b → b < base) (hl : base' ≤ base) : ParV W' base' P A c :=
  own_base (hb.row h (fun g e e2 => by have h1 := (h.lt g e).1; have := hS g e2; omega)) hl
theorem Sm.reach_N {p Mb base : Nat} {A : Option Addr} {cap : Nat} {L : List MsgM} {N : NM} (x y pick : Int) (w : World) (h : NAt w p Mb base N.s N.D A cap L) (hL : L.map MsgM.d = N.P) :
    Calls Try.prog 39 #[.pointer (some ⟨p, 0, none⟩), .int .i64 x, .int .i64 y, .int .i64 pick] w fun e w' => ∃ A c, e = .returned (.tuple #[.int .i64 (if reachE N x y pick = 0 then (findA N x y pick : Int) else 0), parVal (peekN N x y pick).1 A c, .int .i64 (peekN N x y pick).2]) ∧ ParV w' w.heap.size (peekN N x y pick).1 A c ∧ Below w.heap.size w w' := by
  have hNe : (⟨N.s, N.D, L.map MsgM.d⟩ : NM) = N := by rw [hL]
  by_cases hE : findE N x y = 0
  · obtain ⟨m, hm, hfp, hlt⟩ := find_msg hL pick hE
    refine (reach_found x y pick (findA N x y pick) m w h hm (fun W hb => ?_)).mono ?_
    · have := find_yes x y pick W (h.keep hb) (by rw [hNe]; exact hE)
      rw [hNe] at this
      exact this
    · rintro e w' ⟨hb, ⟨h1, rfl⟩ | ⟨h1, A', c', rfl, ho⟩⟩
      · have hr : reachE N x y pick = 210 := by
          unfold reachE
          rw [if_neg (by simp [hE]), hfp]
          exact if_pos h1
        have hp : peekN N x y pick = (zeroP, 210) := by
          unfold peekN
          rw [hr]
          rfl
        rw [hp, hr]
        exact ⟨none, 0, rfl, World.ownsRow_nil _ _ _ _, hb⟩
      · have hr : reachE N x y pick = 0 := by
          unfold reachE
          rw [if_neg (by simp [hE]), hfp]
          exact if_neg h1
        have hp : peekN N x y pick = (m.d, 0) := by
          unfold peekN
          rw [hr, hfp]
          rfl
        rw [hp, hr]
        exact ⟨A', c', rfl, ho, hb⟩
  · have hr : reachE N x y pick = findE N x y := by
      unfold reachE
      rw [if_pos hE]
    have hp : peekN N x y pick = (zeroP, findE N x y) := by
      unfold peekN
      rw [hr, if_pos hE]
    rw [hp, hr, if_neg hE]
    refine (reach_bad (.pointer (some ⟨p, 0, none⟩)) x y pick (findE N x y) w hE (fun W hb => ?_)).mono ?_
    · have := find_err x y pick W (h.keep hb) (by rw [hNe]; exact hE)
      rw [hNe] at this
      exact this
    · rintro e w' ⟨rfl, hb⟩
      exact ⟨none, 0, rfl, World.ownsRow_nil _ _ _ _, hb⟩
theorem Sm.reach_N0 {v : Value} (x y pick : Int) (w : World) (h : NoNet w v) :
    Calls Try.prog 39 #[v, .int .i64 x, .int .i64 y, .int .i64 pick] w fun e w' => ∃ A c, e = .returned (.tuple #[.int .i64 0, parVal zeroP A c, .int .i64 1]) ∧ ParV w' w.heap.size zeroP A c ∧ Below w.heap.size w w' :=
  (reach_no x y pick w h).mono fun _e w' ⟨h1, h2⟩ => ⟨none, 0, h1, World.ownsRow_nil _ _ _ _, h2⟩
set_option maxRecDepth 100000 in
set_option maxHeartbeats 1000000 in
theorem Sm.peek_of (v : Value) (x y pick r E : Int) (P : PD) (w : World) (hf : ∀ W, Below w.heap.size w W → Calls Try.prog 39 #[v, .int .i64 x, .int .i64 y, .int .i64 pick] W fun e w' => ∃ A c, e = .returned (.tuple #[.int .i64 r, parVal P A c, .int .i64 E]) ∧ ParV w' W.heap.size P A c ∧ Below W.heap.size W w') :
    Calls Try.prog 13 #[v, .int .i64 x, .int .i64 y, .int .i64 pick] w fun e w' => ∃ A c, e = .returned (.tuple #[parVal P A c, .int .i64 E]) ∧ ParV w' w.heap.size P A c ∧ Below w.heap.size w w' := by
  obtain ⟨W0, hW0⟩ : ∃ V, w.alloc (.cells #[.int .i64 0, .int .i64 0, .int .i64 0, .slice none 0 0] 41) = V := ⟨_, rfl⟩
  have hb0 : Below w.heap.size w W0 := by rw [← hW0]; exact (Below.refl _ w).alloc (Nat.le_refl _) _
  have hx0 := par_new w
  rw [hW0] at hx0
  have h39 := hf W0 hb0
  have HX := Lib.hid hx0
  have HB := Lib.hid hb0
  obtain ⟨a, b, c, l⟩ := P
  unfold parVal at h39 ⊢
  simp only at h39 ⊢
  obtain ⟨n, hn⟩ : ∃ n, l.length = n := ⟨_, rfl⟩
  rw [hn] at h39 ⊢
  have hl0 := (Array.getElem?_eq_some_iff.1 hx0).1
  clear hb0 hx0 hf hn
  go_enter Try.func13, Try.ntmps13
  go_upto_region 1 with fail
  clear hW0
  go_upto_region 2 with (go_at_call 39; (with_reducible refine h39.mono ?_); clear h39; rintro e w1 ⟨A, cp, rfl, ho, hb1⟩)
  have hx1 := (hb1.block _ (Array.getElem?_eq_some_iff.1 HX.out).1).trans HX.out
  have hbw := HB.out.trans (hb1.mono HB.out.size)
  have hl1 : w.heap.size < w1.heap.size := Nat.lt_of_lt_of_le hl0 hb1.size
  have hx2 := old_alloc (.cells #[.int .i64 a, .int .i64 b, .int .i64 c, .slice A n cp] 41) hx1
  have hx3 := World.alloc_heap_new w1 (.cells #[.int .i64 a, .int .i64 b, .int .i64 c, .slice A n cp] 41)
  have hb2 := hbw.alloc hbw.size (.cells #[.int .i64 a, .int .i64 b, .int .i64 c, .slice A n cp] 41)
  have ho2 := ho.but (But.of_all ((Below.refl _ w1).alloc (Nat.le_refl _) (.cells #[.int .i64 a, .int .i64 b, .int .i64 c, .slice A n cp] 41)) (fun _ => False)) (fun _ e => e.elim) (Nat.le_refl _)
  obtain ⟨w2, hw2⟩ : ∃ V, w1.alloc (.cells #[.int .i64 a, .int .i64 b, .int .i64 c, .slice A n cp] 41) = V := ⟨_, rfl⟩
  rw [hw2] at hx2 hx3 hb2 ho2 ⊢
  have HX1 := Lib.hid hx2
  have HB1 := Lib.hid hb2
  have HO := Lib.hid ho2
  obtain ⟨⟨k0, k1, k2, k3⟩, ⟨f0, f1, f2, f3⟩⟩ := four_cells hx2
  obtain ⟨⟨j0, j1, j2, j3⟩, _⟩ := four_cells hx3
  clear hb1 ho hx1 hx2 hx3 hb2 ho2 hw2 hbw
  go_wp2
  have h4 := put4 HX1.out (.int .i64 a) (.int .i64 b) (.int .i64 c) (.slice A n cp)
  have h5 := put4_but w2 w.heap.size (.int .i64 a) (.int .i64 b) (.int .i64 c) (.slice A n cp)
  unfold put4W at h4 h5
  obtain ⟨⟨z0, z1, z2, z3⟩, _⟩ := four_cells h4
  have hb6 := HB1.out.trans (h5.to_below HB1.out.size (fun b e => by omega))
  have ho6 := HO.out.but h5 (fun b e => by omega) (Nat.le_of_lt hl0)
  exact bodyPost_ret (v := .tuple #[.agg #[.int .i64 a, .int .i64 b, .int .i64 c, .slice A n cp], .int .i64 E]) (by simp [results, Try.results13, go_sem, z0, z1, z2, z3]) rfl ⟨A, cp, rfl, ho6, hb6⟩
end Go.Proofs
namespace Go.Proofs
open Go Go.RowKit Sm Go.Lib Go.Maps Go.WideMaps
attribute [local go_sem] Oper.semAt_some
theorem Sm.cellsM_one (L : List MsgM) : ∀ u ∈ cellsM L, u.oneCell' = true := fun u hu => by
  obtain ⟨m, _, h⟩ := List.mem_flatMap.1 hu
  simp only [MsgM.cells, List.mem_cons, List.mem_nil_iff, or_false] at h
  rcases h with rfl | rfl | rfl | rfl <;> rfl
theorem Sm.NAt.less {w W : World} {p Mb base : Nat} {s : NSt} {D : List (Int × Int)} {A : Option Addr} {cap : Nat} {L : List MsgM} (R : Nat) (h : NAt w p Mb base s D A cap L) (hR : R < L.length) (hP : But (PMay p (.slice A L.length cap)) w W)
    (hblk : W.heap[p]? = some (.cells #[.int .i64 s.ends, .int .i64 s.most, .int .i64 s.came, .map (some Mb), .slice A (L.length - 1) cap] 35 (0, 0)))
    (hrow : W.ownsRow base 83 4 (.slice A (L.length - 1) cap) (L.length - 1) (cellsM (L.eraseIdx R))) : NAt W p Mb base s D A cap (L.eraseIdx R) := by
  have hl := h.low
  have hlim := h.lim
  have hlen : (L.eraseIdx R).length = L.length - 1 := List.length_eraseIdx_of_lt hR
  have hsub : ∀ m ∈ L.eraseIdx R, m ∈ L := fun m hm => List.mem_of_mem_eraseIdx hm
  have h0 : ∀ q, (Value.slice A L.length cap).ownBlock = some q → base ≤ q := fun q e => (h.row.lt q e).1
  have hob : ∀ n, (Value.slice A n cap).ownBlock = (Value.slice A L.length cap).ownBlock := fun n => by cases A <;> rfl
  refine ⟨by rw [hlen]; exact hblk, h.map.imp fun _ hD => ⟨map_keep hD.1 (hP.block _ hD.1.lt (fun e => ?_)), hD.2⟩, by rw [hlen]; exact hrow, fun x hx => ?_, fun x hx b hb => ?_, ⟨hl.1, hl.2.1, hl.2.2.1, Nat.le_trans hl.2.2.2 hP.size⟩,
    ⟨hlim.1, hlim.2.1, hlim.2.2.1, hlim.2.2.2.1, by rw [hlen]; omega, hlim.2.2.2.2.2.1, hlim.2.2.2.2.2.2⟩, h.lnk, fun x hx => h.msg x (hsub x hx)⟩
  · rcases e with e | e
    · exact hl.2.2.1 e.symm
    · have := h0 _ e; omega
  · refine hP.row (h.byt x (hsub x hx)) (fun g e1 e2 => ?_)
    rcases e2 with e2 | e2
    · have := ((h.byt x (hsub x hx)).lt g e1).1; omega
    · exact h.sep x (hsub x hx) g e1 e2
  · rw [hob]
    exact h.sep x (hsub x hx) b hb
set_option maxRecDepth 100000 in
set_option maxHeartbeats 1000000 in
theorem Sm.take_bad (v : Value) (x y pick r E : Int) (P : PD) (w : World) (hE : E ≠ 0) (hf : ∀ W, Below w.heap.size w W → Calls Try.prog 39 #[v, .int .i64 x, .int .i64 y, .int .i64 pick] W fun e w' => ∃ A c, e = .returned (.tuple #[.int .i64 r, parVal P A c, .int .i64 E]) ∧ ParV w' W.heap.size P A c ∧ Below W.heap.size W w') :
    Calls Try.prog 14 #[v, .int .i64 x, .int .i64 y, .int .i64 pick] w fun e w' => ∃ A c, e = .returned (.tuple #[parVal P A c, .int .i64 E]) ∧ ParV w' w.heap.size P A c ∧ Below w.heap.size w w' := by
  obtain ⟨W0, hW0⟩ : ∃ V, w.alloc (.cells #[.int .i64 0, .int .i64 0, .int .i64 0, .slice none 0 0] 41) = V := ⟨_, rfl⟩
  have hb0 : Below w.heap.size w W0 := by rw [← hW0]; exact (Below.refl _ w).alloc (Nat.le_refl _) _
  have hx0 := par_new w
  rw [hW0] at hx0
  have h39 := hf W0 hb0
  have HX := Lib.hid hx0
  have HB := Lib.hid hb0
  have hE2 : (E == 0) = false := by simpa using hE
  obtain ⟨a, b, c, l⟩ := P
  unfold parVal at h39 ⊢
  simp only at h39 ⊢
  obtain ⟨n, hn⟩ : ∃ n, l.length = n := ⟨_, rfl⟩
  rw [hn] at h39 ⊢
  have hl0 := (Array.getElem?_eq_some_iff.1 hx0).1
  clear hb0 hx0 hf hn hE
  go_enter Try.func14, Try.ntmps14
  go_upto_region 1 with fail
  clear hW0
  go_upto_region 2 with (go_at_call 39; (with_reducible refine h39.mono ?_); clear h39; rintro e w1 ⟨A, cp, rfl, ho, hb1⟩)
  have hx1 := (hb1.block _ (Array.getElem?_eq_some_iff.1 HX.out).1).trans HX.out
  have hbw := HB.out.trans (hb1.mono HB.out.size)
  have hl1 : w.heap.size < w1.heap.size := Nat.lt_of_lt_of_le hl0 hb1.size
  have hx2 := old_alloc (.cells #[.int .i64 a, .int .i64 b, .int .i64 c, .slice A n cp] 41) hx1
  have hx3 := World.alloc_heap_new w1 (.cells #[.int .i64 a, .int .i64 b, .int .i64 c, .slice A n cp] 41)
  have hb2 := hbw.alloc hbw.size (.cells #[.int .i64 a, .int .i64 b, .int .i64 c, .slice A n cp] 41)
  have ho2 := ho.but (But.of_all ((Below.refl _ w1).alloc (Nat.le_refl _) (.cells #[.int .i64 a, .int .i64 b, .int .i64 c, .slice A n cp] 41)) (fun _ => False)) (fun _ e => e.elim) (Nat.le_refl _)
  obtain ⟨w2, hw2⟩ : ∃ V, w1.alloc (.cells #[.int .i64 a, .int .i64 b, .int .i64 c, .slice A n cp] 41) = V := ⟨_, rfl⟩
  rw [hw2] at hx2 hx3 hb2 ho2 ⊢
  have HX1 := Lib.hid hx2
  have HB1 := Lib.hid hb2
  have HO := Lib.hid ho2
  obtain ⟨⟨k0, k1, k2, k3⟩, ⟨f0, f1, f2, f3⟩⟩ := four_cells hx2
  obtain ⟨⟨j0, j1, j2, j3⟩, _⟩ := four_cells hx3
  clear hb1 ho hx1 hx2 hx3 hb2 ho2 hw2 hbw
  go_wp2
  have h4 := put4 HX1.out (.int .i64 a) (.int .i64 b) (.int .i64 c) (.slice A n cp)
  have h5 := put4_but w2 w.heap.size (.int .i64 a) (.int .i64 b) (.int .i64 c) (.slice A n cp)
  unfold put4W at h4 h5
  obtain ⟨⟨z0, z1, z2, z3⟩, _⟩ := four_cells h4
  have hb6 := HB1.out.trans (h5.to_below HB1.out.size (fun b e => by omega))
  have ho6 := HO.out.but h5 (fun b e => by omega) (Nat.le_of_lt hl0)
  exact bodyPost_ret (v := .tuple #[.agg #[.int .i64 a, .int .i64 b, .int .i64 c, .slice A n cp], .int .i64 E]) (by simp [results, Try.results14, go_sem, z0, z1, z2, z3]) rfl ⟨A, cp, rfl, ho6, hb6⟩
/-- a net's messages but for one, put back into it -/
theorem Sm.NAt.cut {w W V : World} {p Mb base : Nat} {s : NSt} {D : List (Int × Int)} {g cap i m : Nat} {L : List MsgM} (h : NAt w p Mb base s D (some ⟨g, 0, none⟩) cap L) (hn : L.length = i + 1 + m) (hwW : But (fun b => b = g) w W)
    (hrow : W.ownsRow base 83 4 (.slice (some ⟨g, 0, none⟩) (i + m) cap) (i + m) ((cellsM L).take (i * 4) ++ (cellsM L).drop ((i + 1) * 4))) (hV : V = W.setCell ⟨p, 4, none⟩ (.slice (some ⟨g, 0, none⟩) (i + m) cap)) :
    NAt V p Mb base s D (some ⟨g, 0, none⟩) cap (L.eraseIdx i) ∧ But (PMay p (.slice (some ⟨g, 0, none⟩) L.length cap)) w V := by
  have hpg : p ≠ g := fun e => by have h1 := (h.row.lt g rfl).1; have := h.low; omega
  have hb : But (PMay p (.slice (some ⟨g, 0, none⟩) L.length cap)) w V := by
    rw [hV]
    exact (hwW.mono (fun b _ e => .inr (by rw [e]; rfl))).set ⟨p, 4, none⟩ _ (.inl (.inl rfl))
  have hblk := hwW.box h.blk hpg
  have e1 : L.length - 1 = i + m := by omega
  refine ⟨NAt.less i h (by omega) hb ?_ ?_, hb⟩
  · rw [hV, e1]
    exact heap_setCells hblk
  · rw [hV, e1, ← cells_erase]
    refine ((But.refl (fun b => b = p) W).set ⟨p, 4, none⟩ _ (.inl rfl)).row hrow (fun g2 e e2 => ?_)
    have e3 : g = g2 := Option.some.inj e
    exact hpg (e2 ▸ e3.symm)
set_option maxRecDepth 100000 in
set_option maxHeartbeats 1000000 in
theorem Sm.take_yes {p Mb base g cap : Nat} {s : NSt} {D : List (Int × Int)} {L : List MsgM} (x y pick : Int) (i m : Nat) (P : PD) (w : World) (h : NAt w p Mb base s D (some ⟨g, 0, none⟩) cap L) (hn : L.length = i + 1 + m)
    (hf : ∀ W, Below w.heap.size w W → Calls Try.prog 39 #[.pointer (some ⟨p, 0, none⟩), .int .i64 x, .int .i64 y, .int .i64 pick] W fun e w' => ∃ A c, e = .returned (.tuple #[.int .i64 (i : Int), parVal P A c, .int .i64 0]) ∧ ParV w' W.heap.size P A c ∧ Below W.heap.size W w') :
    Calls Try.prog 14 #[.pointer (some ⟨p, 0, none⟩), .int .i64 x, .int .i64 y, .int .i64 pick] w fun e w' => ∃ A c, e = .returned (.tuple #[parVal P A c, .int .i64 0]) ∧ ParV w' w.heap.size P A c ∧ NAt w' p Mb base s D (some ⟨g, 0, none⟩) cap (L.eraseIdx i) ∧ But (PMay p (.slice (some ⟨g, 0, none⟩) L.length cap)) w w' := by
  obtain ⟨W0, hW0⟩ : ∃ V, w.alloc (.cells #[.int .i64 0, .int .i64 0, .int .i64 0, .slice none 0 0] 41) = V := ⟨_, rfl⟩
  have hb0 : Below w.heap.size w W0 := by rw [← hW0]; exact (Below.refl _ w).alloc (Nat.le_refl _) _
  have hx0 := par_new w
  rw [hW0] at hx0
  have h39 := hf W0 hb0
  have HX := Lib.hid hx0
  have HB := Lib.hid hb0
  have HN := Lib.hid h
  have hgw := (h.row.lt g rfl).2
  have hpw := h.lt.1
  have hpg : p ≠ g := fun e => by have h1 := (h.row.lt g rfl).1; have := h.low; omega
  have hlim := h.lim
  have hn4 : i + 1 + m ≤ 4096 := by omega
  obtain ⟨a, b, c, l⟩ := P
  unfold parVal at h39 ⊢
  simp only at h39 ⊢
  obtain ⟨n, hnl⟩ : ∃ n, l.length = n := ⟨_, rfl⟩
  rw [hnl] at h39 ⊢
  have hl0 := (Array.getElem?_eq_some_iff.1 hx0).1
  have HL := Lib.hid hn
  clear hb0 hx0 hf hnl hlim h hn
  go_enter Try.func14, Try.ntmps14
  go_upto_region 1 with fail
  clear hW0
  go_upto_region 2 with (go_at_call 39; (with_reducible refine h39.mono ?_); clear h39; rintro e w1 ⟨A, cp, rfl, ho, hb1⟩)
  have hx1 := (hb1.block _ (Array.getElem?_eq_some_iff.1 HX.out).1).trans HX.out
  have hbw := HB.out.trans (hb1.mono HB.out.size)
  have hl1 : w.heap.size < w1.heap.size := Nat.lt_of_lt_of_le hl0 hb1.size
  have hx2 := old_alloc (.cells #[.int .i64 a, .int .i64 b, .int .i64 c, .slice A n cp] 41) hx1
  have hx3 := World.alloc_heap_new w1 (.cells #[.int .i64 a, .int .i64 b, .int .i64 c, .slice A n cp] 41)
  have hb2 := hbw.alloc hbw.size (.cells #[.int .i64 a, .int .i64 b, .int .i64 c, .slice A n cp] 41)
  have ho2 := ho.but (But.of_all ((Below.refl _ w1).alloc (Nat.le_refl _) (.cells #[.int .i64 a, .int .i64 b, .int .i64 c, .slice A n cp] 41)) (fun _ => False)) (fun _ e => e.elim) (Nat.le_refl _)
  obtain ⟨w2, hw2⟩ : ∃ V, w1.alloc (.cells #[.int .i64 a, .int .i64 b, .int .i64 c, .slice A n cp] 41) = V := ⟨_, rfl⟩
  rw [hw2] at hx2 hx3 hb2 ho2 ⊢
  have hN2 := HN.out.keep hb2
  have hrow := hN2.row
  have hc4 := cell_of_heap hN2.blk 4
  simp only [List.getElem?_toArray, List.getElem?_cons_zero, List.getElem?_cons_succ] at hc4
  rw [HL.out] at hrow hc4
  have h40 := without_any g i m cap base (cellsM L) w2 hrow hn4 (cellsM_one L)
  have hxp : w.heap.size < w2.heap.size := (Array.getElem?_eq_some_iff.1 hx2).1
  have HN2 := Lib.hid hN2
  have HX1 := Lib.hid hx2
  have HX3 := Lib.hid hx3
  have HB1 := Lib.hid hb2
  have HO := Lib.hid ho2
  have hs1 : W0.heap.size ≤ w1.heap.size := hb1.size
  clear hb1 ho hx1 hx2 hx3 hb2 ho2 hw2 hbw hN2 hrow
  go_upto_region 4 with (go_at_call 40; (with_reducible refine h40.mono ?_); clear h40; rintro e w3 ⟨rfl, hr3, hb3⟩; have HR3 := Lib.hid hr3; have HB3 := Lib.hid hb3; obtain ⟨⟨d0, d1, d2, d3⟩, _⟩ := four_cells (hb3.box HX3.out (by omega)); have d4 := cell_of_heap (hb3.box HN2.out.blk hpg) 4; have g4 := frozen_of_heap (hb3.box HN2.out.blk hpg) 4; simp only [List.getElem?_toArray, List.getElem?_cons_zero, List.getElem?_cons_succ] at d4; clear hr3 hb3 hc4)
  obtain ⟨w4, hw4⟩ : ∃ V, w3.setCell ⟨p, 4, none⟩ (.slice (some ⟨g, 0, none⟩) (i + m) cap) = V := ⟨_, rfl⟩
  rw [hw4]
  obtain ⟨hN4, hP4⟩ := NAt.cut HN2.out HL.out HB3.out HR3.out hw4.symm
  have hnot : ∀ q, w.heap.size ≤ q → ¬ PMay p (.slice (some ⟨g, 0, none⟩) L.length cap) q := fun q e e2 => by
    rcases e2 with e2 | e2
    · omega
    · have e3 : g = q := Option.some.inj e2
      omega
  have hx4 := hP4.box HX1.out (hnot _ (Nat.le_refl _))
  obtain ⟨⟨k0, k1, k2, k3⟩, ⟨f0, f1, f2, f3⟩⟩ := four_cells hx4
  obtain ⟨⟨j0, j1, j2, j3⟩, _⟩ := four_cells (hP4.box HX3.out (hnot _ (by omega)))
  have HX4 := Lib.hid hx4
  have HN4 := Lib.hid hN4
  have HP4 := Lib.hid hP4
  have hlow := hN4.lt
  clear d0 d1 d2 d3 d4 g4 hN4 hP4 hx4 hw4
  go_wp2
  have h4 := put4 HX4.out (.int .i64 a) (.int .i64 b) (.int .i64 c) (.slice A n cp)
  have h5 := put4_but w4 w.heap.size (.int .i64 a) (.int .i64 b) (.int .i64 c) (.slice A n cp)
  unfold put4W at h4 h5
  obtain ⟨⟨z0, z1, z2, z3⟩, _⟩ := four_cells h4
  have hPw : But (PMay p (.slice (some ⟨g, 0, none⟩) L.length cap)) w w4 := (But.of_all HB1.out _).trans HP4.out (fun b _ e => e)
  have ho6 := (HO.out.but HP4.out (fun q e => by
      rcases e with e | e
      · omega
      · have e3 : g = q := Option.some.inj e
        omega) (Nat.le_refl _)).but h5 (fun b e => by omega) (Nat.le_of_lt hl0)
  have hN6 := HN4.out.but h5 (fun e => by omega) (fun e => by have := HN.out.lt.2.1; omega) (fun q e e2 => by have := HN.out.lt.2.2.1 q e; omega) (fun m' hm' q e e2 => by have := HN.out.lt.2.2.2 m' (List.mem_of_mem_eraseIdx hm') q e; omega)
  exact bodyPost_ret (v := .tuple #[.agg #[.int .i64 a, .int .i64 b, .int .i64 c, .slice A n cp], .int .i64 0]) (by simp [results, Try.results14, go_sem, z0, z1, z2, z3]) rfl ⟨A, cp, rfl, ho6, hN6, hPw.trans h5 (fun b hb e => by omega)⟩
end Go.Proofs
namespace Go.Proofs
open Go Go.RowKit Sm Go.Lib Go.Maps Go.WideMaps
attribute [local go_sem] Oper.semAt_some
set_option maxRecDepth 100000 in
set_option maxHeartbeats 1000000 in
theorem Sm.drop_bad (v : Value) (x y pick E : Int) (w : World) (hE : E ≠ 0) (hf : Calls Try.prog 41 #[v, .int .i64 x, .int .i64 y, .int .i64 pick] w fun e w' => e = .returned (.tuple #[.int .i64 0, .int .i64 E]) ∧ Below w.heap.size w w') :
    Calls Try.prog 15 #[v, .int .i64 x, .int .i64 y, .int .i64 pick] w fun e w' => e = .returned (.tuple #[.int .i64 0, .int .i64 E]) ∧ Below w.heap.size w w' := by
  have hE2 : (E != 0) = true := by simpa using hE
  clear hE
  go_enter Try.func15, Try.ntmps15
  go_wp2_with (go_at_call 41; (with_reducible refine hf.mono ?_); clear hf; rintro e w1 ⟨rfl, hb1⟩)
  go_ret2
  exact ⟨rfl, hb1⟩
set_option maxRecDepth 100000 in
set_option maxHeartbeats 1000000 in
theorem Sm.drop_yes {p Mb base g cap : Nat} {s : NSt} {D : List (Int × Int)} {L : List MsgM} (x y pick : Int) (i m : Nat) (M : MsgM) (w : World) (h : NAt w p Mb base s D (some ⟨g, 0, none⟩) cap L) (hn : L.length = i + 1 + m) (hM : L[i]? = some M)
    (hf : Calls Try.prog 41 #[.pointer (some ⟨p, 0, none⟩), .int .i64 x, .int .i64 y, .int .i64 pick] w fun e w' => e = .returned (.tuple #[.int .i64 (i : Int), .int .i64 0]) ∧ Below w.heap.size w w') :
    Calls Try.prog 15 #[.pointer (some ⟨p, 0, none⟩), .int .i64 x, .int .i64 y, .int .i64 pick] w fun e w' => e = .returned (.tuple #[.int .i64 M.num, .int .i64 0]) ∧ NAt w' p Mb base s D (some ⟨g, 0, none⟩) cap (L.eraseIdx i) ∧ But (PMay p (.slice (some ⟨g, 0, none⟩) L.length cap)) w w' := by
  have HN := Lib.hid h
  have hpg : p ≠ g := fun e => by have h1 := (h.row.lt g rfl).1; have := h.low; omega
  have hlim := h.lim
  have hn4 : i + 1 + m ≤ 4096 := by omega
  have HL := Lib.hid hn
  have HM := Lib.hid hM
  obtain ⟨q, hq⟩ : ∃ q, M.num = q := ⟨_, rfl⟩
  rw [hq]
  have HQ := Lib.hid hq
  have hiI : (i : Int) < (i : Int) + 1 + (m : Int) := by omega
  clear hlim h hn hM hq
  go_enter Try.func15, Try.ntmps15
  go_upto_region 2 with (go_at_call 41; (with_reducible refine hf.mono ?_); clear hf; rintro e w1 ⟨rfl, hb1⟩)
  have hN1 := HN.out.keep hb1
  have hrow := hN1.row
  have hc4 := cell_of_heap hN1.blk 4
  simp only [List.getElem?_toArray, List.getElem?_cons_zero, List.getElem?_cons_succ] at hc4
  have hl4 : (cellsM L).length = L.length * 4 := hN1.row.1
  have hll := HL.out
  have ck0 := (hN1.row.cellAt (i * 4) (by omega)).trans (cellsM_at L i M HM.out).1
  rw [HQ.out] at ck0
  rw [HL.out] at hrow hc4
  have h40 := without_any g i m cap base (cellsM L) w1 hrow hn4 (cellsM_one L)
  have HB1 := Lib.hid hb1
  have HN1 := Lib.hid hN1
  clear hb1 hN1 hrow hl4 hll
  go_upto_region 6 with (go_at_call 40; (with_reducible refine h40.mono ?_); clear h40; rintro e w3 ⟨rfl, hr3, hb3⟩; have HR3 := Lib.hid hr3; have HB3 := Lib.hid hb3; have d4 := cell_of_heap (hb3.box HN1.out.blk hpg) 4; have g4 := frozen_of_heap (hb3.box HN1.out.blk hpg) 4; simp only [List.getElem?_toArray, List.getElem?_cons_zero, List.getElem?_cons_succ] at d4; clear hr3 hb3 hc4)
  obtain ⟨w4, hw4⟩ : ∃ V, w3.setCell ⟨p, 4, none⟩ (.slice (some ⟨g, 0, none⟩) (i + m) cap) = V := ⟨_, rfl⟩
  rw [hw4]
  obtain ⟨hN4, hP4⟩ := NAt.cut HN1.out HL.out HB3.out HR3.out hw4.symm
  have HN4 := Lib.hid hN4
  have HP4 := Lib.hid hP4
  clear d4 g4 hN4 hP4 hw4
  go_wp2
  go_ret2
  exact ⟨rfl, HN4.out, (But.of_all HB1.out _).trans HP4.out (fun b _ e => e)⟩
end Go.Proofs
namespace Go.Proofs
open Go Go.RowKit Sm Go.Lib Go.Maps Go.WideMaps
theorem Sm.parts {B : Nat → Prop} {W : World} {p : Nat} {N : NM} (h : Nt B W p N) (k : Nat) (hk : k < N.P.length) : ∃ Mb base g cap L m, NAt W p Mb base N.s N.D (some ⟨g, 0, none⟩) cap L ∧ L.map MsgM.d = N.P ∧ B p ∧ B Mb ∧ B g ∧ (∀ m ∈ L, ∀ b, m.sl.ownBlock = some b → B b) ∧ L.length = k + 1 + m := by
  obtain ⟨Mb, base, A, cap, L, h1, h2, h3, h4, h5, h6⟩ := h
  have hl : L.length = N.P.length := by rw [← h2, List.length_map]
  obtain ⟨g, cap', hv, _, _⟩ := h1.row.form (by omega)
  injection hv with hv1 hv2 hv3
  subst hv1
  exact ⟨Mb, base, g, cap, L, L.length - (k + 1), h1, h2, h3, h4, h5 g rfl, h6, by omega⟩
theorem Sm.erase_map (L : List MsgM) (i : Nat) : (L.eraseIdx i).map MsgM.d = (L.map MsgM.d).eraseIdx i := by
  rw [List.eraseIdx_eq_take_drop_succ, List.eraseIdx_eq_take_drop_succ, List.map_append, List.map_take, List.map_drop]
/-- what a call does that adds nothing to a net -/
def Sm.StepK (B : Nat → Prop) (W W' : World) (p : Nat) (N : NM) : Prop := Nt B W' p N ∧ But B W W'
theorem Sm.stepK_same {B : Nat → Prop} {W W' : World} {p : Nat} {N : NM} (h : Nt B W p N) (hb : Below W.heap.size W W') : StepK B W W' p N := ⟨h.keep hb, But.of_all hb _⟩
section
variable {B : Nat → Prop} {p : Nat} {N : NM}
theorem Sm.len_N (x y : Int) (w : World) (h : Nt B w p N) : Calls Try.prog 20 #[.pointer (some ⟨p, 0, none⟩), .int .i64 x, .int .i64 y] w fun e w' => e = .returned (.int .i64 ((onP x y N.P).length : Int)) ∧ Below w.heap.size w w' := by
  obtain ⟨Mb, base, A, cap, L, h1, h2, _⟩ := h
  rw [← h2]
  exact len_any x y w h1
theorem Sm.isDown_N (x y : Int) (w : World) (h : Nt B w p N) (hx : I64 x) (hy : I64 y) : Calls Try.prog 19 #[.pointer (some ⟨p, 0, none⟩), .int .i64 x, .int .i64 y] w fun e w' => e = .returned (.bool (decide ((x, y) ∈ N.D))) ∧ Below w.heap.size w w' := by
  obtain ⟨Mb, base, A, cap, L, h1, h2, _⟩ := h
  exact isDown_any x y w h1 hx hy
theorem Sm.came_N (w : World) (h : Nt B w p N) : Calls Try.prog 21 #[.pointer (some ⟨p, 0, none⟩)] w fun e w' => e = .returned (.int .i64 N.s.came) ∧ w = w' := by
  obtain ⟨Mb, base, A, cap, L, h1, h2, _⟩ := h
  exact came_any w h1
theorem Sm.down_N (x y : Int) (is : Bool) (w : World) (h : Nt B w p N) : Calls Try.prog 18 #[.pointer (some ⟨p, 0, none⟩), .int .i64 x, .int .i64 y, .bool is] w fun e w' => e = .returned (.int .i64 (downN N x y is).2) ∧ StepK B w w' p (downN N x y is).1 := by
  have h0 := h
  obtain ⟨Mb, base, A, cap, L, h1, h2, h3, h4, h5, h6⟩ := h
  unfold downN
  cases hl : lnkB N.s x y with
  | true =>
    rw [if_pos rfl]
    refine (down_yes x y is w h1 hl).mono ?_
    rintro e w' ⟨rfl, k1, k2⟩
    exact ⟨rfl, ⟨Mb, base, A, cap, L, k1, h2, h3, h4, fun b e => h5 b e, fun m hm b e => h6 m hm b e⟩, k2.mono (fun b _ e => by
      rcases e with e | e
      · exact e ▸ h3
      · exact e ▸ h4)⟩
  | false =>
    rw [if_neg (by decide)]
    refine (down_bad x y is w h1 hl).mono ?_
    rintro e w' ⟨rfl, k1⟩
    exact ⟨rfl, stepK_same h0 k1⟩
theorem Sm.put_N (x y : Int) (A : Option Addr) (n c : Nat) (l : List (BitVec 8)) (w : World) (h : Nt B w p N) (hc : N.s.came < 1000000000) (hln : l.length = n) (hn : n ≤ 1000000000) (hrd : Rd w w.heap.size A l) :
    Calls Try.prog 12 #[.pointer (some ⟨p, 0, none⟩), .int .i64 x, .int .i64 y, .slice A n c] w fun e w' => e = .returned (.tuple #[.int .i64 (putN N x y l).2.1, .int .i64 (putN N x y l).2.2]) ∧ StepN B w w' p (putN N x y l).1 := by
  have h0 := h
  obtain ⟨Mb, base, A0, cap, L, h1, h2, h3, h4, h5, h6⟩ := h
  have hl : L.length = N.P.length := by rw [← h2, List.length_map]
  subst hln
  unfold putN
  by_cases hE : putE N.s N.D N.P.length x y l.length = 0
  · rw [if_neg (by simp [hE])]
    have hE2 := hE
    unfold putE at hE2
    split at hE2
    · cases hE2
    · rename_i e1
      split at hE2
      · cases hE2
      · rename_i e2
        split at hE2
        · cases hE2
        · rename_i e3
          split at hE2
          · cases hE2
          · rename_i e4
            refine (put_ok x y A l.length c w.heap.size l w h1 (by cases hh : lnkB N.s x y <;> simp_all) (by omega) e3 (by rw [hl]; exact e4) hc rfl hrd (Nat.le_refl _)).mono ?_
            rintro e w' ⟨A', cap', m, rfl, k1, k2, k3, k4, k5, k6, k7, k8⟩
            refine ⟨rfl, ⟨Mb, base, A', cap', L ++ [m], k1, ?_, .inl h3, .inl h4, fun b e => ?_, fun m' hm b e => ?_⟩, k6.mono (fun b _ e => ?_)⟩
            · rw [List.map_append, h2]
              simp only [List.map_cons, List.map_nil]
              unfold MsgM.d
              rw [k2, k3, k4, k5]
            · rw [List.length_append] at e
              rcases k7 with k7 | k7
              · exact .inl (h5 b (by rw [← k7]; exact e))
              · exact .inr (k7 b e)
            · rcases List.mem_append.1 hm with hm | hm
              · exact .inl (h6 m' hm b e)
              · rw [List.mem_singleton] at hm
                subst hm
                exact .inr (k8 b e)
            · rcases e with e | e
              · exact e ▸ h3
              · exact h5 b e
  · rw [if_pos hE]
    have hb := put_bad x y A l.length c w h1 hn (by rw [hl]; exact hE)
    rw [hl] at hb
    refine hb.mono ?_
    rintro e w' ⟨rfl, k1⟩
    exact ⟨rfl, stepN_same h0 k1⟩
theorem Sm.peek_N (x y pick : Int) (w : World) (h : Nt B w p N) : Calls Try.prog 13 #[.pointer (some ⟨p, 0, none⟩), .int .i64 x, .int .i64 y, .int .i64 pick] w fun e w' => ∃ A c, e = .returned (.tuple #[parVal (peekN N x y pick).1 A c, .int .i64 (peekN N x y pick).2]) ∧ ParV w' w.heap.size (peekN N x y pick).1 A c ∧ Below w.heap.size w w' := by
  obtain ⟨Mb, base, A, cap, L, h1, h2, _⟩ := h
  exact peek_of _ x y pick _ _ _ w (fun W hb => reach_N x y pick W (h1.keep hb) h2)
theorem Sm.take_N (x y pick : Int) (w : World) (h : Nt B w p N) : Calls Try.prog 14 #[.pointer (some ⟨p, 0, none⟩), .int .i64 x, .int .i64 y, .int .i64 pick] w fun e w' => ∃ A c, e = .returned (.tuple #[parVal (takeN N x y pick).2.1 A c, .int .i64 (takeN N x y pick).2.2]) ∧ ParV w' w.heap.size (takeN N x y pick).2.1 A c ∧ StepK B w w' p (takeN N x y pick).1 := by
  by_cases hE : reachE N x y pick = 0
  · have hf : findE N x y = 0 := by
      unfold reachE at hE
      by_cases e : findE N x y = 0
      · exact e
      · rw [if_pos e] at hE
        exact hE
    have hlt := (find_ok pick hf).2.1
    have ht : takeN N x y pick = (N.less (findA N x y pick), findP N x y pick, 0) := by
      unfold takeN
      rw [if_neg (by simp [hE])]
    have hp : peekN N x y pick = (findP N x y pick, 0) := by
      unfold peekN
      rw [if_neg (by simp [hE])]
    obtain ⟨Mb, base, g, cap, L, m, h1, h2, h3, h4, h5, h6, h7⟩ := parts h (findA N x y pick) hlt
    rw [ht]
    refine (take_yes x y pick (findA N x y pick) m (findP N x y pick) w h1 h7 (fun W hb => ?_)).mono ?_
    · have := reach_N x y pick W (h1.keep hb) h2
      rw [hp, if_pos hE] at this
      exact this
    · rintro e w' ⟨A, c, rfl, k1, k2, k3⟩
      refine ⟨A, c, rfl, k1, ⟨Mb, base, _, cap, _, k2, ?_, h3, h4, fun b e => ?_, fun m' hm b e => h6 m' (List.mem_of_mem_eraseIdx hm) b e⟩, k3.mono (fun b _ e => ?_)⟩
      · rw [erase_map, h2]
        rfl
      · have e3 : g = b := Option.some.inj e
        exact e3 ▸ h5
      · rcases e with e | e
        · exact e ▸ h3
        · have e3 : g = b := Option.some.inj e
          exact e3 ▸ h5
  · have ht : takeN N x y pick = (N, zeroP, reachE N x y pick) := by
      unfold takeN
      rw [if_pos hE]
    have hp : peekN N x y pick = (zeroP, reachE N x y pick) := by
      unfold peekN
      rw [if_pos hE]
    rw [ht]
    have h0 := h
    obtain ⟨Mb, base, A, cap, L, h1, h2, _⟩ := h
    refine (take_bad (.pointer (some ⟨p, 0, none⟩)) x y pick 0 (reachE N x y pick) zeroP w hE (fun W hb => ?_)).mono ?_
    · have := reach_N x y pick W (h1.keep hb) h2
      rw [hp, if_neg hE] at this
      exact this
    · rintro e w' ⟨A, c, rfl, k1, k2⟩
      exact ⟨A, c, rfl, k1, stepK_same h0 k2⟩
theorem Sm.drop_N (x y pick : Int) (w : World) (h : Nt B w p N) : Calls Try.prog 15 #[.pointer (some ⟨p, 0, none⟩), .int .i64 x, .int .i64 y, .int .i64 pick] w fun e w' => e = .returned (.tuple #[.int .i64 (dropN N x y pick).2.1, .int .i64 (dropN N x y pick).2.2]) ∧ StepK B w w' p (dropN N x y pick).1 := by
  have hNe : ∀ L : List MsgM, L.map MsgM.d = N.P → (⟨N.s, N.D, L.map MsgM.d⟩ : NM) = N := fun L hL => by rw [hL]
  by_cases hE : findE N x y = 0
  · have hlt := (find_ok pick hE).2.1
    have ht : dropN N x y pick = (N.less (findA N x y pick), (findP N x y pick).1, 0) := by
      unfold dropN
      rw [if_neg (by simp [hE])]
    obtain ⟨Mb, base, g, cap, L, m, h1, h2, h3, h4, h5, h6, h7⟩ := parts h (findA N x y pick) hlt
    obtain ⟨M, hM, hfp, _⟩ := find_msg h2 pick hE
    rw [ht, hfp]
    have hfy := find_yes x y pick w h1 (by rw [hNe L h2]; exact hE)
    rw [hNe L h2] at hfy
    refine (drop_yes x y pick (findA N x y pick) m M w h1 h7 hM hfy).mono ?_
    rintro e w' ⟨rfl, k2, k3⟩
    refine ⟨rfl, ⟨Mb, base, _, cap, _, k2, ?_, h3, h4, fun b e => ?_, fun m' hm b e => h6 m' (List.mem_of_mem_eraseIdx hm) b e⟩, k3.mono (fun b _ e => ?_)⟩
    · rw [erase_map, h2]
      rfl
    · have e3 : g = b := Option.some.inj e
      exact e3 ▸ h5
    · rcases e with e | e
      · exact e ▸ h3
      · have e3 : g = b := Option.some.inj e
        exact e3 ▸ h5
  · have ht : dropN N x y pick = (N, 0, findE N x y) := by
      unfold dropN
      rw [if_pos hE]
    rw [ht]
    have h0 := h
    obtain ⟨Mb, base, A, cap, L, h1, h2, _⟩ := h
    have hfe := find_err x y pick w h1 (by rw [hNe L h2]; exact hE)
    rw [hNe L h2] at hfe
    refine (drop_bad (.pointer (some ⟨p, 0, none⟩)) x y pick _ w hE hfe).mono ?_
    rintro e w' ⟨rfl, k2⟩
    exact ⟨rfl, stepK_same h0 k2⟩
end
/-- a new net -/
theorem Sm.new_N (ends most : Int) (w : World) (hb : newB ends most = true) : Calls Try.prog 26 #[.int .i64 ends, .int .i64 most] w fun e w' => ∃ p, e = .returned (.tuple #[.pointer (some ⟨p, 0, none⟩), .int .i64 0]) ∧ Nt (fun b => w.heap.size ≤ b) w' p ⟨⟨ends, most, 0⟩, [], []⟩ ∧ Below w.heap.size w w' := by
  refine (new_yes ends most w hb).mono ?_
  rintro e w' ⟨p, Mb, base, rfl, k1, k2, k3, k4⟩
  exact ⟨p, rfl, ⟨Mb, base, none, 0, [], k1, rfl, k2, k3, fun b e => (by cases e), fun m hm => (by cases hm)⟩, k4⟩
end Go.Proofs
namespace Go.Proofs
open Go Go.RowKit Sm Go.Lib Go.Maps Go.WideMaps
attribute [local go_sem] Oper.semAt_some
theorem Sm.num_any (x : Int) (w : World) (_h : 0 ≤ x) (_h2 : x ≤ 1000) : Calls Try.prog 17 #[.int .i64 x] w fun e w' => e = .returned (.int .i64 x) ∧ w = w' := by
  go_enter Try.func17, Try.ntmps17
  go_wp2
  go_ret
  exact ⟨rfl, rfl⟩
/-- a net whose blocks lie between two bounds -/
def Sm.NW (n0 hi : Nat) (W : World) (p : Nat) (N : NM) : Prop := Nt (fun b => n0 ≤ b ∧ b < hi) W p N ∧ n0 ≤ hi ∧ hi ≤ W.heap.size
theorem Sm.NW.keep {n0 hi p : Nat} {W W' : World} {N : NM} (h : NW n0 hi W p N) (hb : Below W.heap.size W W') : NW n0 hi W' p N := ⟨h.1.keep hb, h.2.1, Nat.le_trans h.2.2 hb.size⟩
theorem Sm.NW.low {n0 hi p : Nat} {W W' : World} {N : NM} (h : NW n0 hi W p N) (hb : But (fun b => n0 ≤ b ∧ b < hi) W W') : Below n0 W W' := hb.to_below (Nat.le_trans h.2.1 h.2.2) (fun _ e => e.1)
/-- a parcel that was handed out -/
structure Sm.PK (hi : Nat) (W : World) (b : Nat) (P : PD) (A : Option Addr) (c : Nat) : Prop where
  blk : W.heap[b]? = some (.cells #[.int .i64 P.1, .int .i64 P.2.1, .int .i64 P.2.2.1, .slice A P.2.2.2.length c] 41 (0, 0))
  par : ParV W hi P A c
  hi : hi ≤ b
theorem Sm.PK.but {n0 hi b : Nat} {W W' : World} {P : PD} {A : Option Addr} {c : Nat} (h : PK hi W b P A c) (hb : But (fun b => n0 ≤ b ∧ b < hi) W W') : PK hi W' b P A c :=
  ⟨hb.box h.blk (fun e => by have := h.hi; omega), h.par.but hb (fun _ e => e.2) (Nat.le_refl _), h.hi⟩
theorem Sm.PK.keep {hi b : Nat} {W W' : World} {P : PD} {A : Option Addr} {c : Nat} (h : PK hi W b P A c) (hb : Below W.heap.size W W') : PK hi W' b P A c :=
  ⟨(hb.block _ (Array.getElem?_eq_some_iff.1 h.blk).1).trans h.blk, h.par.but (But.of_all hb (fun _ => False)) (fun _ e => e.elim) (Nat.le_refl _), h.hi⟩
theorem Sm.PK.new {hi : Nat} {w W : World} {P : PD} {A : Option Addr} {c : Nat} (h : ParV W w.heap.size P A c) (hh : hi ≤ w.heap.size) (hw : w.heap.size ≤ W.heap.size) :
    PK hi (W.alloc (.cells #[.int .i64 P.1, .int .i64 P.2.1, .int .i64 P.2.2.1, .slice A P.2.2.2.length c] 41)) W.heap.size P A c :=
  ⟨World.alloc_heap_new W _, h.but (But.of_all ((Below.refl _ W).alloc (Nat.le_refl _) _) (fun _ => False)) (fun _ e => e.elim) hh, Nat.le_trans hh hw⟩
theorem Sm.PK.str {hi b : Nat} {W : World} {P : PD} {A : Option Addr} {c : Nat} (h : PK hi W b P A c) : (convert 39 9 (.slice A P.2.2.2.length c)).run Try.prog W = .ok (.string (strB P.2.2.2)) W :=
  run_str (P := Try.prog) W 39 5 Try.underlying39 Try.underlying5 P.2.2.2 P.2.2.2.length c W.heap.size A rfl (own_rd h.par) 9 Try.underlying9
theorem Sm.put_lit {n0 hi p : Nat} {N : NM} (x y : Int) (l : List (BitVec 8)) (n : Nat) (W : World) (h : NW n0 hi W p N) (hc : N.s.came < 1000000000) (hl : l.length = n) (hn : n ≤ 1000000) (t : TypeId) (k : Nat) (r : NM × Int × Int) (hr : putN N x y l = r) :
    Calls Try.prog 12 #[.pointer (some ⟨p, 0, none⟩), .int .i64 x, .int .i64 y, .slice (some ⟨W.heap.size, 0, none⟩) n n] (W.alloc (.cells (l.map byteCell).toArray t (k, k + 1))) fun e w' => e = .returned (.tuple #[.int .i64 r.2.1, .int .i64 r.2.2]) ∧ NW n0 w'.heap.size w' p r.1 ∧ Below n0 W w' := by
  have hb : Below W.heap.size W (W.alloc (.cells (l.map byteCell).toArray t (k, k + 1))) := (Below.refl _ _).alloc (Nat.le_refl _) _
  have hk := h.keep hb
  refine (put_N x y _ n n l _ hk.1 hc hl (by omega) (fun hl0 => ⟨W.heap.size, 0, rfl, by simp, fun j c hj => ?_⟩)).mono ?_
  · rw [cell_of_heap (World.alloc_heap_new W _)]
    simp [hj, byteCell]
  · rintro e w' ⟨rfl, h1, h2⟩
    rw [hr] at h1 ⊢
    have hlow := hk.low h2
    have hs := h2.size
    refine ⟨rfl, ⟨h1.mono (fun b hb e => ?_), by have := h.2; have := hlow.size; have := hk.2.2; omega, Nat.le_refl _⟩, (hb.mono (Nat.le_trans h.2.1 h.2.2)).trans hlow⟩
    have h3 := hk.2
    rcases e with e | e
    · exact ⟨e.1, hb⟩
    · exact ⟨by omega, hb⟩
theorem Sm.put_litE {B : Nat → Prop} {p : Nat} {N : NM} (x y : Int) (A : Option Addr) (n c : Nat) (l : List (BitVec 8)) (W : World) (h : Nt B W p N) (hl : l.length = n) (hn : n ≤ 1000000) (E : Int) (hr : putE N.s N.D N.P.length x y n = E) (hE : E ≠ 0) :
    Calls Try.prog 12 #[.pointer (some ⟨p, 0, none⟩), .int .i64 x, .int .i64 y, .slice A n c] W fun e w' => e = .returned (.tuple #[.int .i64 0, .int .i64 E]) ∧ StepK B W w' p N := by
  have h0 := h
  obtain ⟨Mb, base, A0, cap, L, h1, h2, _⟩ := h
  have hll : L.length = N.P.length := by rw [← h2, List.length_map]
  have hb := put_bad x y A n c W h1 (by omega) (by rw [hll, hr]; exact hE)
  rw [hll, hr] at hb
  refine hb.mono ?_
  rintro e w' ⟨rfl, k1⟩
  exact ⟨rfl, stepK_same h0 k1⟩
section
variable {n0 hi p : Nat} {N : NM}
theorem Sm.take_lit (x y pick : Int) (W : World) (h : NW n0 hi W p N) (r : NM × PD × Int) (hr : takeN N x y pick = r) (n : Nat) (hn : r.2.1.2.2.2.length = n) :
    Calls Try.prog 14 #[.pointer (some ⟨p, 0, none⟩), .int .i64 x, .int .i64 y, .int .i64 pick] W fun e w' => ∃ A c, e = .returned (.tuple #[.agg #[.int .i64 r.2.1.1, .int .i64 r.2.1.2.1, .int .i64 r.2.1.2.2.1, .slice A n c], .int .i64 r.2.2]) ∧ NW n0 hi (w'.alloc (.cells #[.int .i64 r.2.1.1, .int .i64 r.2.1.2.1, .int .i64 r.2.1.2.2.1, .slice A n c] 41)) p r.1 ∧ PK hi (w'.alloc (.cells #[.int .i64 r.2.1.1, .int .i64 r.2.1.2.1, .int .i64 r.2.1.2.2.1, .slice A n c] 41)) w'.heap.size r.2.1 A c ∧ But (fun b => n0 ≤ b ∧ b < hi) W (w'.alloc (.cells #[.int .i64 r.2.1.1, .int .i64 r.2.1.2.1, .int .i64 r.2.1.2.2.1, .slice A n c] 41)) := by
  subst hn
  refine (take_N x y pick W h.1).mono ?_
  rintro e w' ⟨A, c, rfl, h1, h2, h3⟩
  rw [hr] at h1 h2 ⊢
  refine ⟨A, c, rfl, NW.keep ⟨h2, h.2.1, Nat.le_trans h.2.2 h3.size⟩ ((Below.refl _ w').alloc (Nat.le_refl _) _), PK.new h1 h.2.2 h3.size, h3.alloc _⟩
theorem Sm.drop_lit (x y pick : Int) (W : World) (h : NW n0 hi W p N) (r : NM × Int × Int) (hr : dropN N x y pick = r) :
    Calls Try.prog 15 #[.pointer (some ⟨p, 0, none⟩), .int .i64 x, .int .i64 y, .int .i64 pick] W fun e w' => e = .returned (.tuple #[.int .i64 r.2.1, .int .i64 r.2.2]) ∧ NW n0 hi w' p r.1 ∧ But (fun b => n0 ≤ b ∧ b < hi) W w' := by
  refine (drop_N x y pick W h.1).mono ?_
  rintro e w' ⟨rfl, h2, h3⟩
  rw [hr] at h2 ⊢
  exact ⟨rfl, ⟨h2, h.2.1, Nat.le_trans h.2.2 h3.size⟩, h3⟩
theorem Sm.down_lit (x y : Int) (is : Bool) (W : World) (h : NW n0 hi W p N) (r : NM × Int) (hr : downN N x y is = r) :
    Calls Try.prog 18 #[.pointer (some ⟨p, 0, none⟩), .int .i64 x, .int .i64 y, .bool is] W fun e w' => e = .returned (.int .i64 r.2) ∧ NW n0 hi w' p r.1 ∧ But (fun b => n0 ≤ b ∧ b < hi) W w' := by
  refine (down_N x y is W h.1).mono ?_
  rintro e w' ⟨rfl, h2, h3⟩
  rw [hr] at h2 ⊢
  exact ⟨rfl, ⟨h2, h.2.1, Nat.le_trans h.2.2 h3.size⟩, h3⟩
theorem Sm.putE_lit (x y : Int) (A : Option Addr) (n c : Nat) (l : List (BitVec 8)) (W : World) (h : NW n0 hi W p N) (hl : l.length = n) (hn : n ≤ 1000000) (E : Int) (hr : putE N.s N.D N.P.length x y n = E) (hE : E ≠ 0) :
    Calls Try.prog 12 #[.pointer (some ⟨p, 0, none⟩), .int .i64 x, .int .i64 y, .slice A n c] W fun e w' => e = .returned (.tuple #[.int .i64 0, .int .i64 E]) ∧ NW n0 hi w' p N ∧ But (fun b => n0 ≤ b ∧ b < hi) W w' := by
  refine (put_litE x y A n c l W h.1 hl hn E hr hE).mono ?_
  rintro e w' ⟨rfl, h2, h3⟩
  exact ⟨rfl, ⟨h2, h.2.1, Nat.le_trans h.2.2 h3.size⟩, h3⟩
end
set_option maxRecDepth 100000 in
set_option maxHeartbeats 4000000 in
theorem Sm.works_any (w : World) : Calls Try.prog 10 #[] w fun e w' => e = .returned (.bool true) ∧ Below w.heap.size w w' := by
  obtain ⟨n0, hn0⟩ : ∃ n0, w.heap.size = n0 := ⟨_, rfl⟩
  have hnew := new_N 3 10 w (by decide)
  rw [hn0] at hnew ⊢
  have HN0 := Lib.hid hn0
  clear hn0
  have P0 : ∀ (p hi : Nat) W, NW n0 hi W p (⟨⟨3, 10, 0⟩, [], []⟩ : NM) → Calls Try.prog 12 #[.pointer (some ⟨p, 0, none⟩), .int .i64 0, .int .i64 1, .slice (some ⟨W.heap.size, 0, none⟩) 1 1] (W.alloc (.cells #[.int .u8 97] 5 (1, 2))) fun e w' => e = .returned (.tuple #[.int .i64 0, .int .i64 0]) ∧ NW n0 w'.heap.size w' p (⟨⟨3, 10, 1⟩, [], [(0, 0, 1, [97#8])]⟩ : NM) ∧ Below n0 W w' :=
    fun p hi W h => put_lit 0 1 [97#8] 1 W h (by decide) rfl (by decide) 5 1 ((⟨⟨3, 10, 1⟩, [], [(0, 0, 1, [97#8])]⟩ : NM), 0, 0) (by kernel_rfl)
  have P1 : ∀ (p hi : Nat) W, NW n0 hi W p (⟨⟨3, 10, 1⟩, [], [(0, 0, 1, [97#8])]⟩ : NM) → Calls Try.prog 12 #[.pointer (some ⟨p, 0, none⟩), .int .i64 1, .int .i64 2, .slice (some ⟨W.heap.size, 0, none⟩) 1 1] (W.alloc (.cells #[.int .u8 98] 5 (1, 2))) fun e w' => e = .returned (.tuple #[.int .i64 1, .int .i64 0]) ∧ NW n0 w'.heap.size w' p (⟨⟨3, 10, 2⟩, [], [(0, 0, 1, [97#8]), (1, 1, 2, [98#8])]⟩ : NM) ∧ Below n0 W w' :=
    fun p hi W h => put_lit 1 2 [98#8] 1 W h (by decide) rfl (by decide) 5 1 ((⟨⟨3, 10, 2⟩, [], [(0, 0, 1, [97#8]), (1, 1, 2, [98#8])]⟩ : NM), 1, 0) (by kernel_rfl)
  have P2 : ∀ (p hi : Nat) W, NW n0 hi W p (⟨⟨3, 10, 2⟩, [], [(0, 0, 1, [97#8]), (1, 1, 2, [98#8])]⟩ : NM) → Calls Try.prog 12 #[.pointer (some ⟨p, 0, none⟩), .int .i64 0, .int .i64 1, .slice (some ⟨W.heap.size, 0, none⟩) 1 1] (W.alloc (.cells #[.int .u8 99] 5 (1, 2))) fun e w' => e = .returned (.tuple #[.int .i64 2, .int .i64 0]) ∧ NW n0 w'.heap.size w' p (⟨⟨3, 10, 3⟩, [], [(0, 0, 1, [97#8]), (1, 1, 2, [98#8]), (2, 0, 1, [99#8])]⟩ : NM) ∧ Below n0 W w' :=
    fun p hi W h => put_lit 0 1 [99#8] 1 W h (by decide) rfl (by decide) 5 1 ((⟨⟨3, 10, 3⟩, [], [(0, 0, 1, [97#8]), (1, 1, 2, [98#8]), (2, 0, 1, [99#8])]⟩ : NM), 2, 0) (by kernel_rfl)
  have T1 : ∀ (p hi : Nat) W, NW n0 hi W p (⟨⟨3, 10, 3⟩, [], [(0, 0, 1, [97#8]), (1, 1, 2, [98#8]), (2, 0, 1, [99#8])]⟩ : NM) → Calls Try.prog 14 #[.pointer (some ⟨p, 0, none⟩), .int .i64 0, .int .i64 1, .int .i64 1] W fun e w' => ∃ A c, e = .returned (.tuple #[.agg #[.int .i64 2, .int .i64 0, .int .i64 1, .slice A 1 c], .int .i64 0]) ∧ NW n0 hi (w'.alloc (.cells #[.int .i64 2, .int .i64 0, .int .i64 1, .slice A 1 c] 41)) p (⟨⟨3, 10, 3⟩, [], [(0, 0, 1, [97#8]), (1, 1, 2, [98#8])]⟩ : NM) ∧ PK hi (w'.alloc (.cells #[.int .i64 2, .int .i64 0, .int .i64 1, .slice A 1 c] 41)) w'.heap.size (2, 0, 1, [99#8]) A c ∧ But (fun b => n0 ≤ b ∧ b < hi) W (w'.alloc (.cells #[.int .i64 2, .int .i64 0, .int .i64 1, .slice A 1 c] 41)) :=
    fun p hi W h => take_lit (0) (1) (1) W h ((⟨⟨3, 10, 3⟩, [], [(0, 0, 1, [97#8]), (1, 1, 2, [98#8])]⟩ : NM), (2, 0, 1, [99#8]), 0) (by kernel_rfl) 1 rfl
  have T2 : ∀ (p hi : Nat) W, NW n0 hi W p (⟨⟨3, 10, 3⟩, [], [(0, 0, 1, [97#8]), (1, 1, 2, [98#8])]⟩ : NM) → Calls Try.prog 14 #[.pointer (some ⟨p, 0, none⟩), .int .i64 (-1), .int .i64 (-1), .int .i64 1] W fun e w' => ∃ A c, e = .returned (.tuple #[.agg #[.int .i64 1, .int .i64 1, .int .i64 2, .slice A 1 c], .int .i64 0]) ∧ NW n0 hi (w'.alloc (.cells #[.int .i64 1, .int .i64 1, .int .i64 2, .slice A 1 c] 41)) p (⟨⟨3, 10, 3⟩, [], [(0, 0, 1, [97#8])]⟩ : NM) ∧ PK hi (w'.alloc (.cells #[.int .i64 1, .int .i64 1, .int .i64 2, .slice A 1 c] 41)) w'.heap.size (1, 1, 2, [98#8]) A c ∧ But (fun b => n0 ≤ b ∧ b < hi) W (w'.alloc (.cells #[.int .i64 1, .int .i64 1, .int .i64 2, .slice A 1 c] 41)) :=
    fun p hi W h => take_lit ((-1)) ((-1)) (1) W h ((⟨⟨3, 10, 3⟩, [], [(0, 0, 1, [97#8])]⟩ : NM), (1, 1, 2, [98#8]), 0) (by kernel_rfl) 1 rfl
  have T3 : ∀ (p hi : Nat) W, NW n0 hi W p (⟨⟨3, 10, 3⟩, [(0, 1)], [(0, 0, 1, [97#8])]⟩ : NM) → Calls Try.prog 14 #[.pointer (some ⟨p, 0, none⟩), .int .i64 0, .int .i64 1, .int .i64 0] W fun e w' => ∃ A c, e = .returned (.tuple #[.agg #[.int .i64 0, .int .i64 0, .int .i64 0, .slice A 0 c], .int .i64 210]) ∧ NW n0 hi (w'.alloc (.cells #[.int .i64 0, .int .i64 0, .int .i64 0, .slice A 0 c] 41)) p (⟨⟨3, 10, 3⟩, [(0, 1)], [(0, 0, 1, [97#8])]⟩ : NM) ∧ PK hi (w'.alloc (.cells #[.int .i64 0, .int .i64 0, .int .i64 0, .slice A 0 c] 41)) w'.heap.size (0, 0, 0, []) A c ∧ But (fun b => n0 ≤ b ∧ b < hi) W (w'.alloc (.cells #[.int .i64 0, .int .i64 0, .int .i64 0, .slice A 0 c] 41)) :=
    fun p hi W h => take_lit (0) (1) (0) W h ((⟨⟨3, 10, 3⟩, [(0, 1)], [(0, 0, 1, [97#8])]⟩ : NM), (0, 0, 0, []), 210) (by kernel_rfl) 0 rfl
  have T4 : ∀ (p hi : Nat) W, NW n0 hi W p (⟨⟨3, 10, 3⟩, [(0, 1)], []⟩ : NM) → Calls Try.prog 14 #[.pointer (some ⟨p, 0, none⟩), .int .i64 0, .int .i64 1, .int .i64 0] W fun e w' => ∃ A c, e = .returned (.tuple #[.agg #[.int .i64 0, .int .i64 0, .int .i64 0, .slice A 0 c], .int .i64 5]) ∧ NW n0 hi (w'.alloc (.cells #[.int .i64 0, .int .i64 0, .int .i64 0, .slice A 0 c] 41)) p (⟨⟨3, 10, 3⟩, [(0, 1)], []⟩ : NM) ∧ PK hi (w'.alloc (.cells #[.int .i64 0, .int .i64 0, .int .i64 0, .slice A 0 c] 41)) w'.heap.size (0, 0, 0, []) A c ∧ But (fun b => n0 ≤ b ∧ b < hi) W (w'.alloc (.cells #[.int .i64 0, .int .i64 0, .int .i64 0, .slice A 0 c] 41)) :=
    fun p hi W h => take_lit (0) (1) (0) W h ((⟨⟨3, 10, 3⟩, [(0, 1)], []⟩ : NM), (0, 0, 0, []), 5) (by kernel_rfl) 0 rfl
  have T5 : ∀ (p hi : Nat) W, NW n0 hi W p (⟨⟨3, 10, 3⟩, [(0, 1)], []⟩ : NM) → Calls Try.prog 14 #[.pointer (some ⟨p, 0, none⟩), .int .i64 0, .int .i64 (-1), .int .i64 0] W fun e w' => ∃ A c, e = .returned (.tuple #[.agg #[.int .i64 0, .int .i64 0, .int .i64 0, .slice A 0 c], .int .i64 2]) ∧ NW n0 hi (w'.alloc (.cells #[.int .i64 0, .int .i64 0, .int .i64 0, .slice A 0 c] 41)) p (⟨⟨3, 10, 3⟩, [(0, 1)], []⟩ : NM) ∧ PK hi (w'.alloc (.cells #[.int .i64 0, .int .i64 0, .int .i64 0, .slice A 0 c] 41)) w'.heap.size (0, 0, 0, []) A c ∧ But (fun b => n0 ≤ b ∧ b < hi) W (w'.alloc (.cells #[.int .i64 0, .int .i64 0, .int .i64 0, .slice A 0 c] 41)) :=
    fun p hi W h => take_lit (0) ((-1)) (0) W h ((⟨⟨3, 10, 3⟩, [(0, 1)], []⟩ : NM), (0, 0, 0, []), 2) (by kernel_rfl) 0 rfl
  have W1 : ∀ (p hi : Nat) W, NW n0 hi W p (⟨⟨3, 10, 3⟩, [], [(0, 0, 1, [97#8])]⟩ : NM) → Calls Try.prog 18 #[.pointer (some ⟨p, 0, none⟩), .int .i64 0, .int .i64 1, .bool true] W fun e w' => e = .returned (.int .i64 0) ∧ NW n0 hi w' p (⟨⟨3, 10, 3⟩, [(0, 1)], [(0, 0, 1, [97#8])]⟩ : NM) ∧ But (fun b => n0 ≤ b ∧ b < hi) W w' := fun p hi W h => down_lit 0 1 true W h ((⟨⟨3, 10, 3⟩, [(0, 1)], [(0, 0, 1, [97#8])]⟩ : NM), 0) (by kernel_rfl)
  have E1 : ∀ (p hi : Nat) W, NW n0 hi W p (⟨⟨3, 10, 3⟩, [(0, 1)], [(0, 0, 1, [97#8])]⟩ : NM) → Calls Try.prog 12 #[.pointer (some ⟨p, 0, none⟩), .int .i64 0, .int .i64 1, .slice (some ⟨W.heap.size, 0, none⟩) 1 1] (W.alloc (.cells #[.int .u8 100] 5 (1, 2))) fun e w' => e = .returned (.tuple #[.int .i64 0, .int .i64 210]) ∧ NW n0 hi w' p (⟨⟨3, 10, 3⟩, [(0, 1)], [(0, 0, 1, [97#8])]⟩ : NM) ∧ But (fun b => n0 ≤ b ∧ b < hi) W w' := fun p hi W h => (putE_lit 0 1 _ 1 1 [100#8] (W.alloc (.cells #[.int .u8 100] 5 (1, 2))) (h.keep ((Below.refl _ W).alloc (Nat.le_refl _) _)) rfl (by decide) 210 (by kernel_rfl) (by decide)).mono fun e w' ⟨h1, h2, h3⟩ => ⟨h1, h2, (But.of_all ((Below.refl _ W).alloc (Nat.le_refl _) _) _).trans h3 (fun _ _ e => e)⟩
  have D1 : ∀ (p hi : Nat) W, NW n0 hi W p (⟨⟨3, 10, 3⟩, [(0, 1)], [(0, 0, 1, [97#8])]⟩ : NM) → Calls Try.prog 15 #[.pointer (some ⟨p, 0, none⟩), .int .i64 0, .int .i64 1, .int .i64 7] W fun e w' => e = .returned (.tuple #[.int .i64 0, .int .i64 0]) ∧ NW n0 hi w' p (⟨⟨3, 10, 3⟩, [(0, 1)], []⟩ : NM) ∧ But (fun b => n0 ≤ b ∧ b < hi) W w' := fun p hi W h => drop_lit 0 1 7 W h ((⟨⟨3, 10, 3⟩, [(0, 1)], []⟩ : NM), 0, 0) (by kernel_rfl)
  have E2 : ∀ (p hi : Nat) W, NW n0 hi W p (⟨⟨3, 10, 3⟩, [(0, 1)], []⟩ : NM) → Calls Try.prog 12 #[.pointer (some ⟨p, 0, none⟩), .int .i64 3, .int .i64 0, .slice none 0 0] W fun e w' => e = .returned (.tuple #[.int .i64 0, .int .i64 2]) ∧ NW n0 hi w' p (⟨⟨3, 10, 3⟩, [(0, 1)], []⟩ : NM) ∧ But (fun b => n0 ≤ b ∧ b < hi) W w' := fun p hi W h => putE_lit 3 0 none 0 0 [] W h rfl (by decide) 2 (by kernel_rfl) (by decide)
  have L1 : ∀ (p hi : Nat) W, NW n0 hi W p (⟨⟨3, 10, 3⟩, [(0, 1)], []⟩ : NM) → Calls Try.prog 20 #[.pointer (some ⟨p, 0, none⟩), .int .i64 (-1), .int .i64 (-1)] W fun e w' => e = .returned (.int .i64 0) ∧ Below W.heap.size W w' := fun p hi W h => len_N (-1) (-1) W h.1
  have C1 : ∀ (p hi : Nat) W, NW n0 hi W p (⟨⟨3, 10, 3⟩, [(0, 1)], []⟩ : NM) → Calls Try.prog 21 #[.pointer (some ⟨p, 0, none⟩)] W fun e w' => e = .returned (.int .i64 3) ∧ W = w' := fun p hi W h => came_N W h.1
  have kc := fun (w : World) (C : Array Value) (n c : Nat) => Lib.run_convert_bytes_const (P := Try.prog) w 39 5 C n c Try.underlying39 Try.underlying5
  go_enter Try.func10, Try.ntmps10
  go_upto_region 9 with (first
    | (go_at_call 26; (with_reducible refine hnew.mono ?_); clear hnew; rintro e w1 ⟨p, rfl, hD, hb⟩; have HB1 := Lib.hid hb; have HD1 : Hid (NW n0 w1.heap.size w1 p (⟨⟨3, 10, 0⟩, [], []⟩ : NM)) := Lib.hid ⟨hD.mono (fun b hb e => ⟨e, hb⟩), by have h1 := hb.size; have h2 := HN0.out; omega, Nat.le_refl _⟩; clear hD hb)
    | (go_at_call 12; (with_reducible refine (P0 _ _ _ HD1.out).mono ?_); rintro e w2 ⟨rfl, hD, hb⟩; have HB2 := Lib.hid (HB1.out.trans hb); have HD2 := Lib.hid hD; clear hD hb HD1 HB1)
    | (go_at_call 12; (with_reducible refine (P1 _ _ _ HD2.out).mono ?_); rintro e w3 ⟨rfl, hD, hb⟩; have HB3 := Lib.hid (HB2.out.trans hb); have HD3 := Lib.hid hD; clear hD hb HD2 HB2)
    | (go_at_call 12; (with_reducible refine (P2 _ _ _ HD3.out).mono ?_); rintro e w4 ⟨rfl, hD, hb⟩; have HB4 := Lib.hid (HB3.out.trans hb); have HD4 := Lib.hid hD; clear hD hb HD3 HB3)
    | (go_at_call 14; (with_reducible refine (T1 _ _ _ HD4.out).mono ?_); rintro e w5 ⟨A1, c1, rfl, hD, hp, hb⟩; have HB5 := Lib.hid (HB4.out.trans (HD4.out.low hb)); have HD5 := Lib.hid hD; have HX5 := Lib.hid hp; clear hD hb hp HD4 HB4)
    | (go_at_call 14; (with_reducible refine (T2 _ _ _ HD5.out).mono ?_); rintro e w6 ⟨A2, c2, rfl, hD, hp, hb⟩; have HB6 := Lib.hid (HB5.out.trans (HD5.out.low hb)); have HD6 := Lib.hid hD; have HX6 := Lib.hid (HX5.out.but hb); have HY6 := Lib.hid hp; clear hD hb hp HD5 HB5 HX5)
    | (go_at_call 18; (with_reducible refine (W1 _ _ _ HD6.out).mono ?_); rintro e w7 ⟨rfl, hD, hb⟩; have HB7 := Lib.hid (HB6.out.trans (HD6.out.low hb)); have HD7 := Lib.hid hD; have HX7 := Lib.hid (HX6.out.but hb); have HY7 := Lib.hid (HY6.out.but hb); clear hD hb HD6 HB6 HX6 HY6)
    | (go_at_call 14; (with_reducible refine (T3 _ _ _ HD7.out).mono ?_); rintro e w8 ⟨A3, c3, rfl, hD, _, hb⟩; have HB8 := Lib.hid (HB7.out.trans (HD7.out.low hb)); have HD8 := Lib.hid hD; have HX8 := Lib.hid (HX7.out.but hb); have HY8 := Lib.hid (HY7.out.but hb); clear hD hb HD7 HB7 HX7 HY7))
  obtain ⟨w8b, hw8b⟩ : ∃ V, w8.alloc (.cells #[.int .i64 0, .int .i64 0, .int .i64 0, .slice A3 0 c3] 41) = V := ⟨_, rfl⟩
  rw [hw8b] at HD8 HB8 HX8 HY8 ⊢
  clear hw8b
  go_upto_region 14 with (first
    | (go_at_call 12; (with_reducible refine (E1 _ _ _ HD8.out).mono ?_); rintro e w9 ⟨rfl, hD, hb⟩; have HB9 := Lib.hid (HB8.out.trans (HD8.out.low hb)); have HD9 := Lib.hid hD; have HX9 := Lib.hid (HX8.out.but hb); have HY9 := Lib.hid (HY8.out.but hb); clear hD hb HD8 HB8 HX8 HY8)
    | (go_at_call 15; (with_reducible refine (D1 _ _ _ HD9.out).mono ?_); rintro e w10 ⟨rfl, hD, hb⟩; have HB10 := Lib.hid (HB9.out.trans (HD9.out.low hb)); have HD10 := Lib.hid hD; have HX10 := Lib.hid (HX9.out.but hb); have HY10 := Lib.hid (HY9.out.but hb); clear hD hb HD9 HB9 HX9 HY9)
    | (go_at_call 12; (with_reducible refine (E2 _ _ _ HD10.out).mono ?_); rintro e w11 ⟨rfl, hD, hb⟩; have HB11 := Lib.hid (HB10.out.trans (HD10.out.low hb)); have HD11 := Lib.hid hD; have HX11 := Lib.hid (HX10.out.but hb); have HY11 := Lib.hid (HY10.out.but hb); clear hD hb HD10 HB10 HX10 HY10)
    | (go_at_call 14; (with_reducible refine (T4 _ _ _ HD11.out).mono ?_); rintro e w12 ⟨A4, c4, rfl, hD, _, hb⟩; have HB12 := Lib.hid (HB11.out.trans (HD11.out.low hb)); have HD12 := Lib.hid hD; have HX12 := Lib.hid (HX11.out.but hb); have HY12 := Lib.hid (HY11.out.but hb); clear hD hb HD11 HB11 HX11 HY11)
    | (go_at_call 14; (with_reducible refine (T5 _ _ _ HD12.out).mono ?_); rintro e w13 ⟨A5, c5, rfl, hD, _, hb⟩; have HB13 := Lib.hid (HB12.out.trans (HD12.out.low hb)); have HD13 := Lib.hid hD; have HX13 := Lib.hid (HX12.out.but hb); have HY13 := Lib.hid (HY12.out.but hb); clear hD hb HD12 HB12 HX12 HY12))
  have sx := HX13.out.str
  have sy := HY13.out.str
  have kx := cell_of_heap HX13.out.blk 3
  have ky := cell_of_heap HY13.out.blk 3
  simp only [List.getElem?_toArray, List.getElem?_cons_zero, List.getElem?_cons_succ, List.length_cons, List.length_nil] at kx ky sx sy
  clear HX13 HY13
  have ec : strB [99#8] = ⟨#[99]⟩ := by decide +kernel
  have eb : strB [98#8] = ⟨#[98]⟩ := by decide +kernel
  rw [ec] at sx
  rw [eb] at sy
  go_wp2_with (first
    | (go_at_call 17; (with_reducible refine (num_any _ _ (by decide) (by decide)).mono ?_); rintro e w' ⟨rfl, rfl⟩)
    | (go_at_call 20; (with_reducible refine (L1 _ _ _ HD13.out).mono ?_); rintro e w14 ⟨rfl, hb⟩; have HB14 := Lib.hid (HB13.out.trans (hb.mono (Nat.le_trans HD13.out.2.1 HD13.out.2.2))); have HD14 := Lib.hid (HD13.out.keep hb); clear hb)
    | (go_at_call 21; (with_reducible refine (C1 _ _ _ HD14.out).mono ?_); rintro e w' ⟨rfl, rfl⟩))
  go_ret
  exact ⟨rfl, HB14.out⟩
end Go.Proofs
