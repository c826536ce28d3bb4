/-
  Len. Conditions: as each theorem names them.
-/
import Derived.Test.YtkipjlcbmiagcaaNtQ
namespace Go.Proofs
open Go Go.RowKit Sm Go.Lib Go.Maps Go.WideMaps
attribute [local go_sem] Oper.semAt_some
theorem Sm.NAt.lt {W : World} {p Mb base : Nat} {s : NSt} {D : List (Int × Int)} {A : Option Addr} {cap : Nat} {L : List MsgM} (h : NAt W p Mb base s D A cap L) : p < W.heap.size ∧ Mb < W.heap.size ∧ (∀ b, (Value.slice A L.length cap).ownBlock = some b → b < W.heap.size) ∧ ∀ m ∈ L, ∀ b, m.sl.ownBlock = some b → b < W.heap.size :=
  ⟨(Array.getElem?_eq_some_iff.1 h.blk).1, by have := h.low; omega, fun b e => (h.row.lt b e).2, fun m hm b e => ((h.byt m hm).lt b e).2⟩
/-- blocks that are new are none of the net's -/
theorem Sm.NAt.apart {W : World} {p Mb base : Nat} {s : NSt} {D : List (Int × Int)} {A : Option Addr} {cap : Nat} {L : List MsgM} (h : NAt W p Mb base s D A cap L) {X : Nat → Prop} (hX : ∀ b, X b → W.heap.size ≤ b) : Apart X p Mb (.slice A L.length cap) L := by
  obtain ⟨h1, h2, h3, h4⟩ := h.lt
  exact ⟨fun e => by have := hX _ e; omega, fun e => by have := hX _ e; omega, fun b e e2 => by have := hX _ e2; have := h3 b e; omega, fun m hm b e e2 => by have := hX _ e2; have := h4 m hm b e; omega⟩
set_option maxRecDepth 100000 in
set_option maxHeartbeats 4000000 in
theorem Sm.len_any {p Mb base : Nat} {s : NSt} {D : List (Int × Int)} {A : Option Addr} {cap : Nat} {L : List MsgM} (x y : Int) (w : World) (h : NAt w p Mb base s D A cap L) :
    Calls Try.prog 20 #[.pointer (some ⟨p, 0, none⟩), .int .i64 x, .int .i64 y] w fun e w' => e = .returned (.int .i64 ((onP x y (L.map MsgM.d)).length : Int)) ∧ Below w.heap.size w w' := by
  have ht := there_yes w h
  obtain ⟨wA, hwA⟩ : ∃ wA, w.alloc (.cells #[.int .i64 0] 3) = wA := ⟨_, rfl⟩
  have hbA : Below w.heap.size w wA := by rw [← hwA]; exact (Below.refl _ w).alloc (Nat.le_refl _) _
  have hm0 : wA.heap[w.heap.size]? = some (.cells #[.int .i64 0] 3 (0, 0)) := by rw [← hwA]; exact World.alloc_heap_new w _
  have hP := on_any p x y wA
  have hl := (Array.getElem?_eq_some_iff.1 hm0).1
  have h9 : (onP x y (L.map MsgM.d)).length ≤ 4096 := by
    have h1 := onN_len x y (L.map MsgM.d) (L.map MsgM.d).length
    rw [List.length_map] at h1
    have h2 : (onP x y (L.map MsgM.d)).length ≤ L.length := by unfold onP; rw [List.length_map]; exact h1
    have := h.lim
    omega
  have HN := Lib.hid h
  have hap := h.apart (X := fun q => q = w.heap.size) (fun b e => by omega)
  refine (callsIn_wide (n := 3)).1 (callsIn_of_wp_marks Try.func20 rfl trivial ?_ rfl)
  refine wpIn_wide.2 ?_
  simp only [Try.ntmps20, List.size_toArray, List.length_cons, List.length_nil, Nat.reduceAdd, Nat.reduceSub, Array.replicate_succ, Array.replicate_zero, List.push_toArray, List.append_toArray, List.nil_append, List.cons_append]
  subst hwA
  clear h
  go_wp2_with (first
    | (go_at_call 42; (with_reducible refine ht.mono ?_); clear ht; rintro e w' ⟨rfl, rfl⟩)
    | (go_at_call 47; (with_reducible refine hP.mono ?_); clear hP; rintro e w1 ⟨bn, bf, g1, g2, rfl, hO, z1, z2, z3, z4, hb1⟩))
  rename_i K hK
  simp only [World.size_alloc] at z1 z2 z3 z4 hl
  have hbw := hbA.trans (hb1.mono hbA.size)
  have hm1 := (hb1.block _ (by simp)).trans hm0
  have hs1 := hb1.size
  simp only [World.size_alloc] at hs1
  clear hbA hm0 hb1
  have hN1 := HN.out.keep hbw
  refine (wpIn_wide (n := 3)).1 ?_
  refine wpIn_range (gf := 67) (lb := #[.pointer (some ⟨bn, 0, none⟩), .pointer (some ⟨bf, 0, none⟩)]) rfl (enters_of Try.func67 (by kernel_rfl) rfl)
    (on_seq x y w1 hN1 hO (fun q => q = w.heap.size) hap (fun b e => by omega) (fun b e => by omega)) (fun q e => by omega) ?hH ?hrow ?hps
    (fun k W => k ≤ (onP x y (L.map MsgM.d)).length ∧ W.heap[w.heap.size]? = some (.cells #[.int .i64 (k : Int)] 3 (0, 0)) ∧ But (fun q => q = w.heap.size) w1 W) (fun _ _ _ => False) ?hI (fun _ _ _ _ h _ => h) ⟨by omega, hm1, But.refl _ _⟩
    (fun args a' _ => ∃ u v, a' = { tmps := #[.pointer (some ⟨p, 0, none⟩), .int .i64 x, .int .i64 y, undef, undef, undef, .int .i64 0, .pointer (some ⟨w.heap.size, 0, none⟩), .pointer (some ⟨p, 0, none⟩), .bool true, .bool false, .pointer (some ⟨p, 0, none⟩), .int .i64 x, .int .i64 y, .func (.func 67) #[] #[.pointer (some ⟨bn, 0, none⟩), .pointer (some ⟨bf, 0, none⟩)], u, v, undef, undef, undef], defers := [] }) (fun _ _ _ _ h _ => h) ?assign ?body ?done (fun _ _ _ _ h _ => h.elim)
  case hH => exact fun k args W W' hh _ => hh
  case hrow => exact fun k args W b _ e => e.elim
  case hps =>
    rintro k args W ⟨i, m, _, _, _, rfl⟩
    rfl
  case hI => exact fun k W W' ⟨i0, i1, i2⟩ hb => ⟨i0, (hb.block _ (by omega)).trans i1, i2.trans (But.of_below hb) (fun b hb' e => absurd hb' (Nat.not_lt.2 e))⟩
  case assign =>
    rintro l0 k args W K2 hsz hi ⟨i, m, _, _, _, rfl⟩ hK2
    gi_wp2
    exact hK2 _ _ (Below.refl _ _) ⟨.int .i64 (i : Int), m.val, by simp⟩
  case body =>
    rintro l0 k args a' W hsz ⟨i0, i1, i2⟩ ⟨i, m, hm, hp, hk, rfl⟩ ⟨u, v, rfl⟩
    have k1 := cell_of_heap i1 0
    have k2 := frozen_of_heap i1 0
    simp only [List.getElem?_toArray, List.getElem?_cons_zero] at k1
    have hk9 : k + 1 ≤ (onP x y (L.map MsgM.d)).length := by
      have hmd : (L.map MsgM.d)[i]? = some m.d := by rw [List.getElem?_map, hm]; rfl
      have := (List.getElem?_eq_some_iff.1 (onP_at hmd hp)).1
      omega
    have hbx := heap_setCells (i := 0) (u := .int .i64 ((k : Int) + 1)) i1
    have hbq : But (fun q => q = w.heap.size) W (W.setCell ⟨w.heap.size, 0, none⟩ (.int .i64 ((k : Int) + 1))) := (But.refl _ _).set ⟨w.heap.size, 0, none⟩ _ (.inl rfl)
    have HB := Lib.hid hbx
    have HQ := Lib.hid hbq
    have HI := Lib.hid (i2.trans hbq (fun _ _ e => e))
    have hkI : (k : Int) + 1 ≤ 4096 := by omega
    clear hbx hbq i1 i2 hk hp hm
    gi_wp2
    exact ⟨trivial, HQ.out.mono (fun b _ e => .inl e), hk9, by rw [show ((k + 1 : Nat) : Int) = (k : Int) + 1 by omega]; exact HB.out, HI.out⟩
  case done =>
    rintro k W rfl ⟨_, i1, i2⟩ hD
    have k1 := cell_of_heap i1 0
    simp only [List.getElem?_toArray, List.getElem?_cons_zero] at k1
    have HI := Lib.hid i2
    have HD := Lib.hid hD
    obtain ⟨n, hn⟩ : ∃ n, ((onP x y (L.map MsgM.d)).length : Int) = n := ⟨_, rfl⟩
    rw [hn] at k1
    have HNN := Lib.hid hn
    clear i1 i2 hD hn
    refine hK _ _ ?_
    clear hK
    go_wp2
    refine retM1 (D := w1.heap.size) (v := .int .i64 n) rfl HD.out ?_ ⟨by rw [HNN.out], ?_⟩
    · simp [results, Try.results20, go_sem]
    · exact But.below (hbw.trans (HI.out.to_below (by omega) (fun b e => by omega))) (put_but _ _ _) (fun b e => by omega)
end Go.Proofs
