/-
  The walk of SlotsAll. Conditions: as the theorem names them.
-/
import Derived.LoopN
import Derived.Deep.LoopGhost
import Derived.Deep.OwnRows
import Derived.Test.YtdiidiaipfkmlaaSlT
import Derived.Test.YtdiidiaipfkmlaaSlS
namespace Go.Proofs
open Go Go.RowKit Sm Go.Lib
attribute [local go_sem] Oper.semAt_some
theorem Sm.own_made (w : World) (z : Value) (n : Nat) (e : TypeId) (hn : n ≤ maxLen) : (w.alloc (.cells (madeCells #[z] n) e)).ownsRow w.heap.size e 1 (.slice (some ⟨w.heap.size, 0, none⟩) n n) n (List.replicate n z) := by
  refine ⟨by simp, .inr ⟨w.heap.size, n, madeCells #[z] n, rfl, Nat.le_refl _, World.alloc_heap_new w _, Nat.le_refl _, hn, by rw [size_madeCells]; simp, ?_⟩⟩
  rw [toList_madeCells_one]
  simp
/-- how all stands between two places -/
structure Sm.AllI (c f t : Int) (N cp g Bs Bn : Nat) (w : World) (p k : Nat) (W : World) : Prop where
  cc : W.heap[w.heap.size]? = some (.cells #[.int .i64 c] 3 (0, 0))
  cf : W.heap[w.heap.size + 1]? = some (.cells #[.int .i64 f] 3 (0, 0))
  ct : W.heap[w.heap.size + 1 + 1]? = some (.cells #[.int .i64 t] 3 (0, 0))
  res : W.heap[w.heap.size + 1 + 1 + 1]? = some (.cells #[.bool false] 4 (0, 0))
  sb : W.heap[Bs]? = some (.cells #[.slice (some ⟨g, 0, none⟩) N cp] 38 (0, 0))
  row : W.ownsRow g 3 1 (.slice (some ⟨g, 0, none⟩) N cp) N (rowS c p f k N)
  nb : W.heap[Bn]? = some (.cells #[.int .i64 (nV c f t p + k)] 3 (0, 0))
  below : Below w.heap.size w W
  lay : w.heap.size + 4 ≤ g ∧ g < Bs ∧ Bs < Bn
theorem Sm.AllI.onL {c f t : Int} {N cp g Bs Bn L : Nat} {w W W' : World} {p k : Nat} (h : AllI c f t N cp g Bs Bn w p k W) (hb : Below L W W') (hL : Bn < L) : AllI c f t N cp g Bs Bn w p k W' := by
  obtain ⟨l1, l2, l3⟩ := h.lay
  exact ⟨(hb.block _ (by omega)).trans h.cc, (hb.block _ (by omega)).trans h.cf, (hb.block _ (by omega)).trans h.ct, (hb.block _ (by omega)).trans h.res, (hb.block _ (by omega)).trans h.sb, (But.of_below hb).row h.row (fun b e e2 => by cases e; have e3 : L ≤ g := e2; omega), (hb.block _ (by omega)).trans h.nb, h.below.trans (hb.mono (by omega)), h.lay⟩
theorem Sm.AllI.on {c f t : Int} {N cp g Bs Bn : Nat} {w W W' : World} {p k : Nat} (h : AllI c f t N cp g Bs Bn w p k W) (hb : Below W.heap.size W W') : AllI c f t N cp g Bs Bn w p k W' :=
  have hk : ∀ {b : Nat} {o : Obj}, W.heap[b]? = some o → W'.heap[b]? = some o := fun h => (hb.block _ (Array.getElem?_eq_some_iff.1 h).1).trans h
  ⟨hk h.cc, hk h.cf, hk h.ct, hk h.res, hk h.sb, own_below h.row hb, hk h.nb, h.below.trans (hb.mono h.below.size), h.lay⟩
/-- one slot more was seen -/
theorem Sm.AllI.hit {c f t : Int} {N cp g Bs Bn : Nat} {w W : World} {p k i0 : Nat} (h : AllI c f t N cp g Bs Bn w p k W) (hc : chB c = true) (hp2 : (p : Int) < c) (hi : f + i0 = atV c p f k) (hN : i0 < N) :
    AllI c f t N cp g Bs Bn w p (k + 1) ((W.setCell ⟨g, i0, none⟩ (.int .i64 1)).setCell ⟨Bn, 0, none⟩ (.int .i64 (nV c f t p + k + 1))) := by
  obtain ⟨l1, l2, l3⟩ := h.lay
  have hg := (h.row.lt g rfl).2
  have hBn := (Array.getElem?_eq_some_iff.1 h.nb).1
  obtain ⟨hr, _⟩ := h.row.stored i0 (.int .i64 1)
  rw [rowS_next hc (by omega) hp2 hi hN] at hr
  have h1 : But (fun b => b = g) W (W.setCell ⟨g, i0, none⟩ (.int .i64 1)) := (But.refl _ W).set ⟨g, i0, none⟩ _ (.inl rfl)
  have h2 : But (fun b => b = Bn) (W.setCell ⟨g, i0, none⟩ (.int .i64 1)) ((W.setCell ⟨g, i0, none⟩ (.int .i64 1)).setCell ⟨Bn, 0, none⟩ (.int .i64 (nV c f t p + k + 1))) := (But.refl _ _).set ⟨Bn, 0, none⟩ _ (.inl rfl)
  have hk : ∀ {b : Nat} {o : Obj}, W.heap[b]? = some o → b ≠ g → b ≠ Bn → ((W.setCell ⟨g, i0, none⟩ (.int .i64 1)).setCell ⟨Bn, 0, none⟩ (.int .i64 (nV c f t p + k + 1))).heap[b]? = some o := fun hb e1 e2 => h2.box (h1.box hb e1) e2
  refine ⟨hk h.cc (by omega) (by omega), hk h.cf (by omega) (by omega), hk h.ct (by omega) (by omega), hk h.res (by omega) (by omega), hk h.sb (by omega) (by omega), h2.row hr (fun b e e2 => by cases e; have e3 : g = Bn := e2; omega), ?_, ?_, h.lay⟩
  · have h3 := heap_setCells (i := 0) (u := .int .i64 (nV c f t p + k + 1)) (h1.box h.nb (by omega))
    rw [show nV c f t p + ((k + 1 : Nat) : Int) = nV c f t p + k + 1 by omega]
    exact h3
  · exact (h.below.setCell (p := ⟨g, i0, none⟩) (by simp; omega) _).setCell (p := ⟨Bn, 0, none⟩) (by simp; omega) _
/-- the next place -/
theorem Sm.AllI.turn {c f t : Int} {N cp g Bs Bn : Nat} {w W : World} {p m : Nat} (h : AllI c f t N cp g Bs Bn w p m W) (hc : chB c = true) (hp2 : (p : Int) < c) (hm : (m : Int) = ahV c p t - ahV c p f) (hf : 0 ≤ f) (hN : f + N = t) : AllI c f t N cp g Bs Bn w (p + 1) 0 W := by
  refine ⟨h.cc, h.cf, h.ct, h.res, h.sb, ?_, ?_, h.below, h.lay⟩
  · have := rowS_turn hc (p := (p : Int)) (by omega) hp2 hm hf hN
    rw [show (((p + 1 : Nat) : Int)) = (p : Int) + 1 by omega, this]
    exact h.row
  · have e : nV c f t (p + 1) + ((0 : Nat) : Int) = nV c f t p + m := by
      show nV c f t p + (ahV c p t - ahV c p f) + _ = _
      omega
    rw [e]
    exact h.nb
theorem Sm.Marks.but {S : Nat → Prop} {Ds : List Nat} {lo : Nat} {w w' : World} (h : Marks Ds lo w) (hb : But S w w') (hS : ∀ b, S b → b < lo) (hl : lo ≤ w.heap.size) (hd : w'.heap[w.heap.size]? = some (.deferred (some []))) : Marks (w.heap.size :: Ds) lo w' := by
  refine ⟨List.nodup_cons.2 ⟨fun hm => ?_, h.1⟩, fun E hE => ?_⟩
  · have := (Array.getElem?_eq_some_iff.1 (h.2 _ hm).2).1; omega
  · rcases List.mem_cons.1 hE with rfl | hE
    · exact ⟨hl, hd⟩
    · exact ⟨(h.2 E hE).1, hb.box (h.2 E hE).2 (fun e => by have := hS _ e; have := (h.2 E hE).1; omega)⟩
/-- what is told of a slot that was gone over -/
theorem Sm.at_parts {c p f t : Int} {m k : Nat} (h : chB c = true) (hp : 0 ≤ p) (hp2 : p < c) (hf : 0 ≤ f) (_hft : f ≤ t) (ht : t ≤ 4096) (hm : (m : Int) = ahV c p t - ahV c p f) (hk : k < m) :
    ∃ i0 : Nat, f + i0 = atV c p f k ∧ atV c p f k < t ∧ slotV c (atV c p f k) (atV c p f k % c) = (p, 0) ∧ ∃ tv, slotV c (atV c p f k) (atV c p f k / c) = (tv, 0) ∧ sxV c p tv = 0 ∧ slV c p tv = atV c p f k := by
  have h0 := ahV_nn h hp hp2 hf (by omega)
  have h9 : 0 ≤ c ∧ c ≤ 9 := by rcases chB_iff.1 h with e | e | e | e <;> omega
  obtain ⟨x, hx⟩ : ∃ x, ahV c p f + (k : Int) = x := ⟨_, rfl⟩
  have hs : atV c p f k = x * c + p := by unfold atV; rw [hx]
  rw [hs]
  have hxt : x < ahV c p t := by omega
  have hx0 : 0 ≤ x := by omega
  have e1 : f ≤ x * c + p ∧ x * c + p < t ∧ (x * c + p) % c = p ∧ (x * c + p) / c = x := by
    have hxf : ahV c p f ≤ x := by omega
    revert hxf hxt
    unfold ahV
    rcases chB_iff.1 h with rfl | rfl | rfl | rfl <;> omega
  obtain ⟨e1, e2, e3, e4⟩ := e1
  have hsl : slB (x * c + p) = true := slB_iff.2 ⟨by omega, by omega⟩
  refine ⟨(x * c + p - f).toNat, by omega, e2, ?_, x, ?_, ?_, slV_eq hx0 (by have := ahV_nn h hp hp2 (s := t) (by omega) ht; omega) h9.1 h9.2 hp hp2⟩
  · unfold slotV
    rw [h, hsl, e3]
    rfl
  · unfold slotV
    rw [h, hsl, e4]
    rfl
  · have h4 : ahV c p t ≤ ahV c p 4096 := by
      unfold ahV
      rcases chB_iff.1 h with rfl | rfl | rfl | rfl <;> omega
    rw [sx_yes h hp hp2, if_pos ⟨hx0, by omega⟩]
set_option maxRecDepth 100000 in
set_option maxHeartbeats 8000000 in
theorem Sm.all_law (c f t : Int) (w : World) : Calls Try.prog 9 #[.int .i64 c, .int .i64 f, .int .i64 t] w fun e w' => e = .returned (.bool true) ∧ Below w.heap.size w w' := by
  obtain ⟨wA, hwA⟩ : ∃ wA, (((w.alloc (.cells #[.int .i64 c] 3)).alloc (.cells #[.int .i64 f] 3)).alloc (.cells #[.int .i64 t] 3)).alloc (.cells #[.bool false] 4) = wA := ⟨_, rfl⟩
  have hbA : Below w.heap.size w wA := by rw [← hwA]; exact (((((Below.refl _ w).alloc (Nat.le_refl _) _).alloc (by simp) _).alloc (by simp; omega) _).alloc (by simp; omega) _)
  have hsA : wA.heap.size = w.heap.size + 4 := by rw [← hwA]; simp
  have a0 : wA.heap[w.heap.size]? = some (.cells #[.int .i64 c] 3 (0, 0)) := by
    rw [← hwA]; exact (Below.heap_alloc _ _ _ (by simp <;> omega)).trans ((Below.heap_alloc _ _ _ (by simp <;> omega)).trans ((Below.heap_alloc _ _ _ (by simp <;> omega)).trans (World.alloc_heap_new w _)))
  have a1 : wA.heap[w.heap.size + 1]? = some (.cells #[.int .i64 f] 3 (0, 0)) := by
    have h := World.alloc_heap_new (w.alloc (.cells #[.int .i64 c] 3)) (.cells #[.int .i64 f] 3)
    rw [World.size_alloc] at h
    rw [← hwA]; exact (Below.heap_alloc _ _ _ (by simp <;> omega)).trans ((Below.heap_alloc _ _ _ (by simp <;> omega)).trans h)
  have a2 : wA.heap[w.heap.size + 1 + 1]? = some (.cells #[.int .i64 t] 3 (0, 0)) := by
    have h := World.alloc_heap_new ((w.alloc (.cells #[.int .i64 c] 3)).alloc (.cells #[.int .i64 f] 3)) (.cells #[.int .i64 t] 3)
    simp only [World.size_alloc] at h
    rw [← hwA]; exact (Below.heap_alloc _ _ _ (by simp <;> omega)).trans h
  have a3 : wA.heap[w.heap.size + 1 + 1 + 1]? = some (.cells #[.bool false] 4 (0, 0)) := by
    have h := World.alloc_heap_new (((w.alloc (.cells #[.int .i64 c] 3)).alloc (.cells #[.int .i64 f] 3)).alloc (.cells #[.int .i64 t] 3)) (.cells #[.bool false] 4)
    simp only [World.size_alloc] at h
    rw [← hwA]; exact h
  refine (callsIn_wide (n := 3)).1 (callsIn_of_wp_marks Try.func9 rfl trivial ?_ rfl)
  refine wpIn_wide.2 ?_
  simp only [Try.ntmps9, List.size_toArray, List.length_cons, List.length_nil, Nat.reduceAdd, Nat.reduceSub, Array.replicate_succ, Array.replicate_zero, List.push_toArray, List.append_toArray, List.nil_append, List.cons_append]
  have hck := fun W => Check_any c W
  have hnm := fun x W => num_any x W
  have hwo := fun W => works_any W
  have HKP : Hid (∀ W, Below wA.heap.size wA W → W.cell? ⟨w.heap.size, 0, none⟩ = some (.int .i64 c) ∧ W.cell? ⟨w.heap.size + 1, 0, none⟩ = some (.int .i64 f) ∧ W.cell? ⟨w.heap.size + 1 + 1, 0, none⟩ = some (.int .i64 t) ∧ W.heap[w.heap.size + 1 + 1 + 1]? = some (.cells #[.bool false] 4 (0, 0))) := Lib.hid fun W hb =>
    ⟨cell_of_heap ((hb.block _ (by omega)).trans a0) 0, cell_of_heap ((hb.block _ (by omega)).trans a1) 0, cell_of_heap ((hb.block _ (by omega)).trans a2) 0, (hb.block _ (by omega)).trans a3⟩
  have HKH : Hid (∀ W, Below wA.heap.size wA W → W.heap[w.heap.size]? = some (.cells #[.int .i64 c] 3 (0, 0)) ∧ W.heap[w.heap.size + 1]? = some (.cells #[.int .i64 f] 3 (0, 0)) ∧ W.heap[w.heap.size + 1 + 1]? = some (.cells #[.int .i64 t] 3 (0, 0)) ∧ W.heap[w.heap.size + 1 + 1 + 1]? = some (.cells #[.bool false] 4 (0, 0))) := Lib.hid fun W hb =>
    ⟨(hb.block _ (by omega)).trans a0, (hb.block _ (by omega)).trans a1, (hb.block _ (by omega)).trans a2, (hb.block _ (by omega)).trans a3⟩
  obtain ⟨q0, q1, q2, q3⟩ := HKP.out wA (Below.refl _ _)
  have HBA := Lib.hid hbA
  have HSA := Lib.hid hsA
  clear hbA hsA
  by_cases hbad : chB c = true ∧ 0 ≤ f ∧ f ≤ t ∧ t ≤ 4096
  · obtain ⟨hc, hf0, hft, ht4⟩ := hbad
    rw [hc] at hck
    simp only [if_true] at hck
    obtain ⟨N, hN⟩ : ∃ N : Nat, t - f = (N : Int) := ⟨(t - f).toNat, by omega⟩
    have hNl : N ≤ 4096 := by omega
    have hmk := fun W => run_make_row' (P := Try.prog) 38 3 (.int .i64 0) 8 Try.underlying38 refInfo3 rfl .i64 .i64 N (by omega) (by omega) W
    have n0 : decide (f < 0) = false := decide_eq_false (by omega)
    have n1 : decide (t < f) = false := decide_eq_false (by omega)
    have n2 : decide (4096 < t) = false := decide_eq_false (by omega)
    clear a0 a1 a2 a3
    go_wp2_with (first
      | (go_at_call 13; (with_reducible refine (hck _).mono ?_); clear hck; rintro e w2 ⟨rfl, hb2⟩; obtain ⟨r0, r1, r2, r3⟩ := HKP.out w2 hb2; have HK2 := Lib.hid (HKH.out w2 hb2))
      | (go_at_call 12; (with_reducible refine (hnm _ _).mono ?_); rintro e w' ⟨rfl, rfl⟩))
    obtain ⟨w5, hw5⟩ : ∃ v, ((w2.alloc (.cells (madeCells #[.int .i64 0] N) 3)).alloc (.cells #[.slice (some ⟨w2.heap.size, 0, none⟩) N N] 38)).alloc (.cells #[.int .i64 0] 3) = v := ⟨_, rfl⟩
    have hs5 : w5.heap.size = w2.heap.size + 1 + 1 + 1 := by rw [← hw5]; simp
    have hb25 : Below w2.heap.size w2 w5 := by rw [← hw5]; exact (((Below.refl _ _).alloc (Nat.le_refl _) _).alloc (by simp) _).alloc (by simp <;> omega) _
    have hz2 := hb2.size
    have hbw2 := HBA.out.trans (hb2.mono HBA.out.size)
    have hS5 : AllI c f t N N w2.heap.size (w2.heap.size + 1) (w2.heap.size + 1 + 1) w 0 0 w5 := by
      have hk : ∀ {b : Nat} {o : Obj}, w2.heap[b]? = some o → w5.heap[b]? = some o := fun h => (hb25.block _ (Array.getElem?_eq_some_iff.1 h).1).trans h
      have hsz := HSA.out
      have b1 := (((Below.refl _ (w2.alloc (.cells (madeCells #[.int .i64 0] N) 3))).alloc (Nat.le_refl _) (.cells #[.slice (some ⟨w2.heap.size, 0, none⟩) N N] 38)).alloc (by simp) (.cells #[.int .i64 0] 3))
      rw [hw5] at b1
      refine ⟨hk (HK2.out.1), hk HK2.out.2.1, hk HK2.out.2.2.1, hk HK2.out.2.2.2, ?_, ?_, ?_, hbw2.trans (hb25.mono hbw2.size), by omega⟩
      · have h := World.alloc_heap_new (w2.alloc (.cells (madeCells #[.int .i64 0] N) 3)) (.cells #[.slice (some ⟨w2.heap.size, 0, none⟩) N N] 38)
        rw [World.size_alloc] at h
        rw [← hw5]
        exact (Below.heap_alloc _ _ _ (by simp)).trans h
      · have h := own_below (own_made w2 (.int .i64 0) N 3 (by unfold maxLen; omega)) b1
        rw [show rowS c ((0 : Nat) : Int) f 0 N = List.replicate N (.int .i64 0) from rowS_start N hc hf0]
        exact h
      · have h := World.alloc_heap_new ((w2.alloc (.cells (madeCells #[.int .i64 0] N) 3)).alloc (.cells #[.slice (some ⟨w2.heap.size, 0, none⟩) N N] 38)) (.cells #[.int .i64 0] 3)
        simp only [World.size_alloc] at h
        rw [← hw5, show nV c f t 0 + ((0 : Nat) : Int) = 0 from rfl]
        exact h
    obtain ⟨w6, hw6⟩ : ∃ v, w5.alloc (.cells #[.int .i64 0] 3) = v := ⟨_, rfl⟩
    have hb56 : Below w5.heap.size w5 w6 := by rw [← hw6]; exact (Below.refl _ _).alloc (Nat.le_refl _) _
    have HS6 : Hid (AllI c f t N N w2.heap.size (w2.heap.size + 1) (w2.heap.size + 1 + 1) w 0 0 w6) := Lib.hid (hS5.on hb56)
    have HP6 : Hid (w6.heap[w2.heap.size + 1 + 1 + 1]? = some (.cells #[.int .i64 ((0 : Nat) : Int)] 3 (0, 0)) ∧ w5.heap.size ≤ w2.heap.size + 1 + 1 + 1) := Lib.hid ⟨by rw [← hw6, ← hs5]; exact World.alloc_heap_new _ _, by omega⟩
    have HB56 := Lib.hid hb56
    have HS5 : Hid (w5.heap.size = w2.heap.size + 1 + 1 + 1) := Lib.hid hs5
    have HZ2 : Hid (w.heap.size + 4 ≤ w2.heap.size) := Lib.hid (by have := HSA.out; omega)
    obtain ⟨cn, rfl⟩ : ∃ cn : Nat, c = (cn : Int) := ⟨c.toNat, by rcases chB_iff.1 hc with e | e | e | e <;> omega⟩
    have hcn9 : cn ≤ 9 := by rcases chB_iff.1 hc with e | e | e | e <;> omega
    have hown := fun (q : Nat) (W : World) => Own_any (cn : Int) q f t W
    have HOWN := Lib.hid hown
    have hfn : ∀ (bm bc bp bf : Nat) (wx : World), (binOp .eql 43 (ownF bm bc bp bf) .nilFunc).run Try.prog wx = .ok (.bool false) wx := fun _ _ _ _ _ => by kernel_rfl
    have HFN := Lib.hid hfn
    have HCH := Lib.hid hc
    have HFT : Hid (0 ≤ f ∧ f ≤ t ∧ t ≤ 4096 ∧ f + N = t) := Lib.hid ⟨hf0, hft, ht4, by omega⟩
    rw [hw5, hw6]
    clear hw5 hw6 hs5 hb25 hS5 hb56 hmk hz2 hbw2 hb2 hown hfn hc HK2 r0 r1 r2 r3 q0 q1 q2 q3 HKP
    refine wp_loop_ghost_k (fun m a wr => ∃ (p B9 : Nat) (Ds : List Nat) (u10 u11 u12 u13 u14 u15 u16 u40 u41 u42 u43 u44 u45 u46 u47 u48 u49 u50 u51 u52 u53 u54 u55 u56 u57 u58 u59 u60 u61 u62 u63 u64 u65 u66 u67 u68 u69 u70 u71 u72 u73 u74 u75 u76 u77 u78 u79 u80 u81 u82 u83 u84 u85 u86 u87 u88 u89 u90 u91 u92 u93 u94 u95 u96 u97 u98 u99 u100 u101 u102 u103 u104 u105 u106 u107 u108 u109 u110 u111 u112 u113 : Value), m = cn - p ∧ p ≤ cn ∧ Ds.length = p ∧ Hid (AllI (cn : Int) f t N N w2.heap.size (w2.heap.size + 1) (w2.heap.size + 1 + 1) w p 0 wr) ∧ Hid (wr.heap[B9]? = some (.cells #[.int .i64 (p : Int)] 3 (0, 0)) ∧ w5.heap.size ≤ B9) ∧ Hid (Marks Ds w5.heap.size wr) ∧
      a = { tmps := #[.int .i64 (cn : Int), .int .i64 f, .int .i64 t, .pointer (some ⟨w.heap.size, 0, none⟩), .pointer (some ⟨w.heap.size + 1, 0, none⟩), .pointer (some ⟨w.heap.size + 1 + 1, 0, none⟩), .pointer (some ⟨w.heap.size + 1 + 1 + 1, 0, none⟩), .pointer (some ⟨w2.heap.size + 1, 0, none⟩), .pointer (some ⟨w2.heap.size + 1 + 1, 0, none⟩), .pointer (some ⟨B9, 0, none⟩), u10, u11, u12, u13, u14, u15, u16, undef, .int .i64 (cn : Int), .int .i64 0, .int .i64 0, .bool false, .bool false, .int .i64 f, .bool false, .bool false, .bool false, .int .i64 t, .int .i64 f, .bool false, .bool false, .bool false, .int .i64 t, .bool false, .bool false, undef, .int .i64 t, .int .i64 f, .int .i64 (N : Int), .slice (some ⟨w2.heap.size, 0, none⟩) N N, u40, u41, u42, u43, u44, u45, u46, u47, u48, u49, u50, u51, u52, u53, u54, u55, u56, u57, u58, u59, u60, u61, u62, u63, u64, u65, u66, u67, u68, u69, u70, u71, u72, u73, u74, u75, u76, u77, u78, u79, u80, u81, u82, u83, u84, u85, u86, u87, u88, u89, u90, u91, u92, u93, u94, u95, u96, u97, u98, u99, u100, u101, u102, u103, u104, u105, u106, u107, u108, u109, u110, u111, u112, u113, undef, undef, undef, undef, undef, undef, undef, undef, undef, undef, undef, undef, undef, undef, undef, undef, undef, undef, undef], defers := Ds.map markOf }) cn ?_ ?_
    · refine ⟨0, w2.heap.size + 1 + 1 + 1, [], ?_⟩
      repeat apply Exists.intro
      exact ⟨rfl, by omega, rfl, HS6, HP6, Lib.hid ⟨List.nodup_nil, fun D hD => by cases hD⟩, rfl⟩
    · intro m a wo hI J K hJ hK
      obtain ⟨p, B9, Ds, hI⟩ := hI
      obtain ⟨u10, hI⟩ := hI
      obtain ⟨u11, hI⟩ := hI
      obtain ⟨u12, hI⟩ := hI
      obtain ⟨u13, hI⟩ := hI
      obtain ⟨u14, hI⟩ := hI
      obtain ⟨u15, hI⟩ := hI
      obtain ⟨u16, hI⟩ := hI
      obtain ⟨u40, hI⟩ := hI
      obtain ⟨u41, hI⟩ := hI
      obtain ⟨u42, hI⟩ := hI
      obtain ⟨u43, hI⟩ := hI
      obtain ⟨u44, hI⟩ := hI
      obtain ⟨u45, hI⟩ := hI
      obtain ⟨u46, hI⟩ := hI
      obtain ⟨u47, hI⟩ := hI
      obtain ⟨u48, hI⟩ := hI
      obtain ⟨u49, hI⟩ := hI
      obtain ⟨u50, hI⟩ := hI
      obtain ⟨u51, hI⟩ := hI
      obtain ⟨u52, hI⟩ := hI
      obtain ⟨u53, hI⟩ := hI
      obtain ⟨u54, hI⟩ := hI
      obtain ⟨u55, hI⟩ := hI
      obtain ⟨u56, hI⟩ := hI
      obtain ⟨u57, hI⟩ := hI
      obtain ⟨u58, hI⟩ := hI
      obtain ⟨u59, hI⟩ := hI
      obtain ⟨u60, hI⟩ := hI
      obtain ⟨u61, hI⟩ := hI
      obtain ⟨u62, hI⟩ := hI
      obtain ⟨u63, hI⟩ := hI
      obtain ⟨u64, hI⟩ := hI
      obtain ⟨u65, hI⟩ := hI
      obtain ⟨u66, hI⟩ := hI
      obtain ⟨u67, hI⟩ := hI
      obtain ⟨u68, hI⟩ := hI
      obtain ⟨u69, hI⟩ := hI
      obtain ⟨u70, hI⟩ := hI
      obtain ⟨u71, hI⟩ := hI
      obtain ⟨u72, hI⟩ := hI
      obtain ⟨u73, hI⟩ := hI
      obtain ⟨u74, hI⟩ := hI
      obtain ⟨u75, hI⟩ := hI
      obtain ⟨u76, hI⟩ := hI
      obtain ⟨u77, hI⟩ := hI
      obtain ⟨u78, hI⟩ := hI
      obtain ⟨u79, hI⟩ := hI
      obtain ⟨u80, hI⟩ := hI
      obtain ⟨u81, hI⟩ := hI
      obtain ⟨u82, hI⟩ := hI
      obtain ⟨u83, hI⟩ := hI
      obtain ⟨u84, hI⟩ := hI
      obtain ⟨u85, hI⟩ := hI
      obtain ⟨u86, hI⟩ := hI
      obtain ⟨u87, hI⟩ := hI
      obtain ⟨u88, hI⟩ := hI
      obtain ⟨u89, hI⟩ := hI
      obtain ⟨u90, hI⟩ := hI
      obtain ⟨u91, hI⟩ := hI
      obtain ⟨u92, hI⟩ := hI
      obtain ⟨u93, hI⟩ := hI
      obtain ⟨u94, hI⟩ := hI
      obtain ⟨u95, hI⟩ := hI
      obtain ⟨u96, hI⟩ := hI
      obtain ⟨u97, hI⟩ := hI
      obtain ⟨u98, hI⟩ := hI
      obtain ⟨u99, hI⟩ := hI
      obtain ⟨u100, hI⟩ := hI
      obtain ⟨u101, hI⟩ := hI
      obtain ⟨u102, hI⟩ := hI
      obtain ⟨u103, hI⟩ := hI
      obtain ⟨u104, hI⟩ := hI
      obtain ⟨u105, hI⟩ := hI
      obtain ⟨u106, hI⟩ := hI
      obtain ⟨u107, hI⟩ := hI
      obtain ⟨u108, hI⟩ := hI
      obtain ⟨u109, hI⟩ := hI
      obtain ⟨u110, hI⟩ := hI
      obtain ⟨u111, hI⟩ := hI
      obtain ⟨u112, hI⟩ := hI
      obtain ⟨u113, hI⟩ := hI
      obtain ⟨rfl, hp, hDs, HS, HP, HM, rfl⟩ := hI
      have hsz := HS5.out
      have hcc := cell_of_heap HS.out.cc 0
      have hcf := cell_of_heap HS.out.cf 0
      have hct := cell_of_heap HS.out.ct 0
      have hpc := cell_of_heap HP.out.1 0
      simp only [List.getElem?_toArray, List.getElem?_cons_zero] at hcc hcf hct hpc
      by_cases hlt : p < cn
      · obtain ⟨mm, hmm, hmo⟩ : ∃ mm : Nat, (mm : Int) = ahV (cn : Int) p t - ahV (cn : Int) p f ∧ manyV (cn : Int) p f t = (mm : Int) := by
          have h1 := mxV_iff (p := (p : Int)) HCH.out (by omega) (by omega) HFT.out.1 HFT.out.2.1 HFT.out.2.2.1
          have h2 := many_nn (cn : Int) p f t
          have h3 : manyV (cn : Int) p f t = ahV (cn : Int) p t - ahV (cn : Int) p f := by
            unfold manyV
            rw [if_pos h1]
            rfl
          exact ⟨(manyV (cn : Int) p f t).toNat, by omega, by omega⟩
        have hOC := fun h => (manyV_own (c := (cn : Int)) (p := (p : Int)) (b := f) (t := t) h).1
        have hml := manyV_le (cn : Int) p f t
        have hop := HOWN.out p
        rw [hmo] at hOC hop hml
        have HMM := Lib.hid hmm
        have HOC := Lib.hid hOC
        have HSo : Hid (∀ W, Below wo.heap.size wo W → W.cell? ⟨w.heap.size, 0, none⟩ = some (.int .i64 (cn : Int)) ∧ W.cell? ⟨w.heap.size + 1, 0, none⟩ = some (.int .i64 f) ∧ W.cell? ⟨w.heap.size + 1 + 1, 0, none⟩ = some (.int .i64 t) ∧ W.cell? ⟨B9, 0, none⟩ = some (.int .i64 (p : Int))) := Lib.hid fun W hb => by
          have h := HS.out.on hb
          exact ⟨cell_of_heap h.cc 0, cell_of_heap h.cf 0, cell_of_heap h.ct 0, cell_of_heap ((hb.block _ (Array.getElem?_eq_some_iff.1 HP.out.1).1).trans HP.out.1) 0⟩
        have hcp : (p : Int) < (cn : Int) := by omega
        unfold ownF at hop
        have hfn7 := HFN.out
        unfold ownF at hfn7
        clear hmm hmo hOC
        go_wp2_with (first
          | (go_at_call 26; (with_reducible refine (hop wo).mono ?_); rintro e w7 ⟨bm1, bc1, bp1, bf1, rfl, z1, z2, z3, z4, z5, hb7⟩; clear z1 z2 z3 z4 z5; obtain ⟨g0, g1, g2, g3⟩ := HSo.out w7 hb7; have HB7 := Lib.hid hb7; clear hb7)
          | (go_at_call 26; (with_reducible refine (hop w7).mono ?_); rintro e w8 ⟨bm, bc, bp, bf, rfl, hOw, hbm, hbc, hbp, hbf, hb8⟩; have HB8 : Hid (Below wo.heap.size wo w8) := Lib.hid (HB7.out.trans (hb8.mono HB7.out.size)); clear hb8))
        rename_i K4 hK4
        have hbn : Below wo.heap.size wo w8 := HB8.out
        have hz8 := hbn.size
        have hwo : w2.heap.size + 1 + 1 < wo.heap.size := (Array.getElem?_eq_some_iff.1 HS.out.nb).1
        have hB9 : B9 < wo.heap.size := (Array.getElem?_eq_some_iff.1 HP.out.1).1
        have hB9x := HP.out.2
        have HS8 : Hid (AllI (cn : Int) f t N N w2.heap.size (w2.heap.size + 1) (w2.heap.size + 1 + 1) w p 0 w8) := Lib.hid (HS.out.on hbn)
        have HP8 : Hid (w8.heap[B9]? = some (.cells #[.int .i64 (p : Int)] 3 (0, 0))) := Lib.hid ((hbn.block _ hB9).trans HP.out.1)
        have hz7 := HB7.out.size
        have hXo : ∀ q, (q = w2.heap.size ∨ q = w2.heap.size + 1 + 1) → q ≠ bm ∧ q ≠ bc ∧ q ≠ bp ∧ q ≠ bf := fun q e => by omega
        have HM8 : Hid (Marks Ds w5.heap.size w8) := Lib.hid (HM.out.on hbn)
        have HSEQ := Lib.hid (own_seq w8 hOw HOC.out (fun b => b = w2.heap.size ∨ b = w2.heap.size + 1 + 1) hXo hml)
        clear hOw hbm hbc hbp hbf hbn hXo hop hfn7 g0 g1 g2 g3 hcc hcf hct hpc
        refine (wpIn_wide (n := 3)).1 ?_
        refine wpIn_range1 (gf := 44) (lb := #[.pointer (some ⟨bm, 0, none⟩), .pointer (some ⟨bc, 0, none⟩), .pointer (some ⟨bp, 0, none⟩), .pointer (some ⟨bf, 0, none⟩)]) rfl (enters_of Try.func44 (by kernel_rfl) rfl)
          HSEQ.out (fun b e => by omega) ?hH ?hrow 56 10 rfl ?hargs
          (fun q W => q ≤ mm ∧ AllI (cn : Int) f t N N w2.heap.size (w2.heap.size + 1) (w2.heap.size + 1 + 1) w p q W ∧ But (fun b => b = w2.heap.size ∨ b = w2.heap.size + 1 + 1) w8 W) (fun _ _ _ => False) ?hI (fun _ _ _ _ h _ => h) ⟨Nat.zero_le _, HS8.out, But.refl _ _⟩ ?assign ?body ?done (fun _ _ _ _ h _ => h.elim)
        case hH => exact fun k args W W' hh _ => hh
        case hrow => exact fun k args W b _ e => e.elim
        case hargs =>
          rintro k args W ⟨_, rfl⟩
          exact ⟨_, rfl⟩
        case hI => exact fun q W W' ⟨i1, i2, i3⟩ hb => ⟨i1, i2.onL hb (by omega), i3.trans (But.of_below hb) (fun b hb' e => absurd hb' (Nat.not_lt.2 e))⟩
        case assign =>
          intro l0 x W1 K9 hK9
          simp only [List.setIfInBounds_toArray, List.set_cons_zero, List.set_cons_succ] at hK9 ⊢
          gi_wp2
          exact hK9
        case body =>
          rintro l0 q x W1 hsz1 ⟨hq, hA, hB⟩ ⟨hk, e⟩
          simp only [Array.mk.injEq, List.cons.injEq, and_true] at e
          obtain rfl := e
          simp only [List.setIfInBounds_toArray, List.set_cons_zero, List.set_cons_succ]
          obtain ⟨i0, hi0, hst, ho, tv, htu, hsx, hsl⟩ := at_parts HCH.out (by omega) hcp HFT.out.1 HFT.out.2.1 HFT.out.2.2.1 HMM.out (k := q) (by omega)
          have hOw1 := fun W => Owner_any (cn : Int) (atV (cn : Int) p f q) W
          have hTu1 := fun W => Turn_any (cn : Int) (atV (cn : Int) p f q) W
          have hSl1 := fun W => Slot_any (cn : Int) p tv W
          rw [ho] at hOw1
          rw [htu] at hTu1
          rw [hsx, hsl] at hSl1
          simp only [if_true] at hSl1
          have hhit := hA.hit HCH.out hcp hi0 (by have := HFT.out.2.2.2; omega)
          have hse := se_hit HCH.out (by omega) hcp HFT.out.1 hi0
          have hnn := nV_nn HCH.out HFT.out.1 HFT.out.2.1 HFT.out.2.2.1 p (by omega)
          have hiN : i0 < N := by have := HFT.out.2.2.2; omega
          have cg : W1.cell? ⟨w2.heap.size, i0, none⟩ = some (.int .i64 0) := by
            rw [hA.row.cellAt i0 (by omega), rowS_get (cn : Int) p f q hiN, hse]
          have fg := hA.row.frozenAt i0
          obtain ⟨sv, hsv⟩ : ∃ sv, atV (cn : Int) p f q = sv := ⟨_, rfl⟩
          obtain ⟨nn, hnv⟩ : ∃ nn, nV (cn : Int) f t p + (q : Int) = nn := ⟨_, rfl⟩
          rw [hsv] at hi0 hst hOw1 hTu1 hSl1 ⊢
          rw [hnv] at hhit
          have hnbk := hA.nb
          rw [hnv] at hnbk
          have hsf : sv - f = (i0 : Int) := by omega
          have hfs : f ≤ sv := by omega
          have hnl : 0 ≤ nn ∧ nn ≤ 80000 := by omega
          obtain ⟨W2, hW2⟩ : ∃ W2, W1.setCell ⟨w2.heap.size, i0, none⟩ (.int .i64 1) = W2 := ⟨_, rfl⟩
          obtain ⟨W3, hW3⟩ : ∃ W3, W2.setCell ⟨w2.heap.size + 1 + 1, 0, none⟩ (.int .i64 (nn + 1)) = W3 := ⟨_, rfl⟩
          have hb12 : But (fun b => b = w2.heap.size ∨ b = w2.heap.size + 1 + 1) W1 W2 := by rw [← hW2]; exact (But.refl _ _).set ⟨w2.heap.size, i0, none⟩ _ (.inl (.inl rfl))
          have hb23 : But (fun b => b = w2.heap.size ∨ b = w2.heap.size + 1 + 1) W2 W3 := by rw [← hW3]; exact (But.refl _ _).set ⟨w2.heap.size + 1 + 1, 0, none⟩ _ (.inl (.inr rfl))
          have hnb2 : W2.heap[w2.heap.size + 1 + 1]? = some (.cells #[.int .i64 nn] 3 (0, 0)) := by
            have h1 : But (fun b => b = w2.heap.size) W1 W2 := by rw [← hW2]; exact (But.refl _ _).set ⟨w2.heap.size, i0, none⟩ _ (.inl rfl)
            exact h1.box hnbk (by omega)
          rw [hW2, hW3] at hhit
          have HP1 : Hid (W1.heap[B9]? = some (.cells #[.int .i64 (p : Int)] 3 (0, 0))) := Lib.hid (hB.box HP8.out (by omega))
          have HS3 : Hid (∀ W, Below W3.heap.size W3 W → W.cell? ⟨w.heap.size, 0, none⟩ = some (.int .i64 (cn : Int)) ∧ W.cell? ⟨B9, 0, none⟩ = some (.int .i64 (p : Int))) := Lib.hid fun W hb => by
            have h := hhit.on hb
            have h3 : W3.heap[B9]? = some (.cells #[.int .i64 (p : Int)] 3 (0, 0)) := (hb12.trans hb23 (fun _ _ e => e)).box HP1.out (by omega)
            exact ⟨cell_of_heap h.cc 0, cell_of_heap ((hb.block _ (Array.getElem?_eq_some_iff.1 h3).1).trans h3) 0⟩
          have ks := cell_of_heap hA.sb 0
          have kf := cell_of_heap hA.cf 0
          have kt := cell_of_heap hA.ct 0
          have kn := cell_of_heap hnb2 0
          have fn := frozen_of_heap hnb2 0
          simp only [List.getElem?_toArray, List.getElem?_cons_zero] at ks kf kt kn
          obtain ⟨m0, m1⟩ := HS3.out W3 (Below.refl _ _)
          have HH := Lib.hid hhit
          have HBX : Hid (But (fun b => b = w2.heap.size ∨ b = w2.heap.size + 1 + 1) W1 W3) := Lib.hid (hb12.trans hb23 (fun _ _ e => e))
          have HBB := Lib.hid hB
          have HQ : Hid (q + 1 ≤ mm) := Lib.hid (by omega)
          have hiN2 : (i0 : Int) < (N : Int) := by omega
          have HB3 : Hid (Below W3.heap.size W3 W3) := Lib.hid (Below.refl _ _)
          clear hhit hse hnn hA hB hsv hnv hi0 hnbk hnb2 hb12 hb23 ho htu hsx hsl hq hk
          gi_wp2_with (first
            | ((try refine ⟨trivial, ?_⟩); gi_at_call 12; refine (callsIn_wide.2 (hnm _ _)).mono ?_; rintro e w' ⟨rfl, rfl⟩)
            | ((try refine ⟨trivial, ?_⟩); gi_at_call 16; refine (callsIn_wide.2 (hOw1 _)).mono ?_; rintro e W4 ⟨rfl, hb4⟩; replace HB3 := Lib.hid (HB3.out.trans (hb4.mono HB3.out.size)); clear hb4; obtain ⟨m2, m3⟩ := HS3.out W4 HB3.out)
            | ((try refine ⟨trivial, ?_⟩); gi_at_call 17; refine (callsIn_wide.2 (hTu1 _)).mono ?_; rintro e W5 ⟨rfl, hb5⟩; replace HB3 := Lib.hid (HB3.out.trans (hb5.mono HB3.out.size)); clear hb5; obtain ⟨m4, m5⟩ := HS3.out W5 HB3.out)
            | ((try refine ⟨trivial, ?_⟩); gi_at_call 20; refine (callsIn_wide.2 (hSl1 _)).mono ?_; rintro e W6 ⟨rfl, hb6⟩; replace HB3 := Lib.hid (HB3.out.trans (hb6.mono HB3.out.size)); clear hb6; obtain ⟨m6, m7⟩ := HS3.out W6 HB3.out))
          have hfin := HBX.out.trans (But.of_below HB3.out) (fun b hb' e => absurd (Nat.lt_of_lt_of_le hb' HBX.out.size) (Nat.not_lt.2 e))
          exact ⟨trivial, hfin.mono (fun b _ e => .inl e), HQ.out, HH.out.on HB3.out, HBB.out.trans hfin (fun b _ e => e)⟩
        case done =>
          rintro k W hkm ⟨_, i2, i3⟩ hD
          obtain rfl : k = mm := by omega
          show K4 _ _
          dsimp only
          refine hK4 _ _ ?_
          clear hK4
          have HS9 : Hid (AllI (cn : Int) f t N N w2.heap.size (w2.heap.size + 1) (w2.heap.size + 1 + 1) w (p + 1) 0 W) := Lib.hid (i2.turn HCH.out hcp HMM.out HFT.out.1 HFT.out.2.2.2)
          have HP9 := i3.box HP8.out (by omega)
          have HM9 : Hid (Marks (w8.heap.size :: Ds) w5.heap.size W) := Lib.hid (HM8.out.but i3 (fun b e => by omega) (by omega) hD)
          have hpc := cell_of_heap HP9 0
          simp only [List.getElem?_toArray, List.getElem?_cons_zero] at hpc
          have hz9 := i3.size
          obtain ⟨W9, hW9⟩ : ∃ v, W.alloc (.cells #[.int .i64 ((p : Int) + 1)] 3) = v := ⟨_, rfl⟩
          have hb9 : Below W.heap.size W W9 := by rw [← hW9]; exact (Below.refl _ _).alloc (Nat.le_refl _) _
          have HSZ : Hid (AllI (cn : Int) f t N N w2.heap.size (w2.heap.size + 1) (w2.heap.size + 1 + 1) w (p + 1) 0 W9) := Lib.hid (HS9.out.on hb9)
          have HPZ : Hid (W9.heap[W.heap.size]? = some (.cells #[.int .i64 ((p + 1 : Nat) : Int)] 3 (0, 0)) ∧ w5.heap.size ≤ W.heap.size) := Lib.hid ⟨by rw [← hW9]; exact World.alloc_heap_new _ _, by omega⟩
          have HMZ : Hid (Marks (w8.heap.size :: Ds) w5.heap.size W9) := Lib.hid (HM9.out.on hb9)
          have HLZ : Hid ((w8.heap.size :: Ds).length = p + 1) := Lib.hid (by rw [List.length_cons, hDs])
          have HWZ := Lib.hid hW9
          clear HP9 i2 i3 hD hb9 hW9 hz9
          go_wp2
          rw [HWZ.out]
          refine ⟨cn - (p + 1), by omega, hJ _ _ _ ?_⟩
          refine ⟨p + 1, W.heap.size, w8.heap.size :: Ds, ?_⟩
          repeat apply Exists.intro
          exact ⟨rfl, by omega, HLZ.out, HSZ, HPZ, HMZ, rfl⟩
      · obtain rfl : p = cn := by omega
        have hNe := nV_end (f := f) (t := t) HCH.out
        have HROW : Hid (∀ i, i < N → (rowS (p : Int) (p : Int) f 0 N)[i]? = some (.int .i64 1)) := Lib.hid fun i hi => by
          rw [rowS_get _ _ _ _ hi, se_end i HCH.out HFT.out.1]
        have hnb := HS.out.nb
        rw [hNe] at hnb
        have hksb := cell_of_heap HS.out.sb 0
        have hkn := cell_of_heap hnb 0
        simp only [List.getElem?_toArray, List.getElem?_cons_zero, Int.natCast_zero, Int.add_zero] at hksb hkn
        have HNB : Hid (wo.cell? ⟨w2.heap.size + 1 + 1, 0, none⟩ = some (.int .i64 (t - f))) := Lib.hid (by simpa using hkn)
        clear hnb hkn hNe hK
        go_wp2
        go_loopw [17] (fun v17 wr => ∃ k : Nat, k ≤ N ∧ v17 = .int .i64 (k : Int) ∧ wr = wo) (fun v17 _ => N - (RowKit.intOf v17).toNat)
        case atStart => exact ⟨0, Nat.zero_le _, rfl, rfl⟩
        case round =>
          obtain ⟨k, hk, rfl, rfl⟩ := hrel
          by_cases hkN : k < N
          · have ck : wr.cell? ⟨w2.heap.size, k, none⟩ = some (.int .i64 1) := by
              rw [HS.out.row.cellAt k (by omega)]
              exact HROW.out k hkN
            go_wp2
            go_roundw
            case rel => exact ⟨k + 1, by omega, by go_num, trivial⟩
            case measure => simp [RowKit.intOf]; omega
          · obtain rfl : k = N := by omega
            have hkn := HNB.out
            have hw14 := works_any wr
            have hbw := HS.out.below
            have HBW := Lib.hid hbw
            have HRR := Lib.hid HS.out.res
            clear hbw
            go_wp2_with (go_at_call 14; (with_reducible refine hw14.mono ?_); clear hw14; rintro e w9 ⟨rfl, hb9⟩; have hr9 := (hb9.block _ (Array.getElem?_eq_some_iff.1 HRR.out).1).trans HRR.out; have HM9 := Lib.hid (HM.out.on hb9); have HB9 := Lib.hid (HBW.out.trans (hb9.mono HBW.out.size)); have f9 := frozen_of_heap hr9 0; have c9 := cell_of_heap hr9 0; simp only [List.getElem?_toArray, List.getElem?_cons_zero] at c9)
            have hset := heap_setCells (i := 0) (u := .bool true) hr9
            obtain ⟨hnd, hmd⟩ := HM9.out
            have hc2 := HZ2.out
            obtain ⟨wc, hwc⟩ : ∃ wc, w9.setCell ⟨w.heap.size + 1 + 1 + 1, 0, none⟩ (.bool true) = wc := ⟨_, rfl⟩
            have hbc : Below w.heap.size w wc := by rw [← hwc]; exact HB9.out.setCell (p := ⟨w.heap.size + 1 + 1 + 1, 0, none⟩) (by simp <;> omega) _
            have hmk : ∀ D ∈ Ds, wc.heap[D]? = some (.deferred (some [])) := fun D hD => by
              have h1 := (hmd D hD).1
              rw [← hwc]
              exact (Below.heap_setCell w9 ⟨w.heap.size + 1 + 1 + 1, 0, none⟩ (.bool true) D (by simp; omega)).trans (hmd D hD).2
            rw [hwc] at hset ⊢
            have hun := unmark_but w5.heap.size Ds wc (fun D hD => (hmd D hD).1)
            have h4 : (unmark Ds wc).cell? ⟨w.heap.size + 1 + 1 + 1, 0, none⟩ = some (.bool true) := cell_of_heap (hun.box hset (by omega)) 0
            exact retMs (v := .bool true) Ds wc hnd hmk (by simp [results, Try.results9, go_sem, h4]) ⟨rfl, hbc.trans (hun.to_below hbc.size (fun b e => by omega))⟩
  · cases hch : chB c with
    | false =>
      rw [hch] at hck
      simp only [Bool.false_eq_true, if_false] at hck
      clear a0 a1 a2 a3 HKH q3 hbad
      go_wp2_with (first
        | (go_at_call 13; (with_reducible refine (hck _).mono ?_); clear hck; rintro e w2 ⟨rfl, hb2⟩; obtain ⟨r0, r1, r2, r3⟩ := HKP.out w2 hb2; have HB2 := Lib.hid (HBA.out.trans (hb2.mono HBA.out.size)))
        | (go_at_call 12; (with_reducible refine (hnm _ _).mono ?_); rintro e w' ⟨rfl, rfl⟩)
        | (go_at_call 14; (with_reducible refine (hwo _).mono ?_); rintro e w9 ⟨rfl, hb9⟩; have hr9 := (hb9.block _ (Array.getElem?_eq_some_iff.1 r3).1).trans r3; have HB9 := Lib.hid (HB2.out.trans (hb9.mono HB2.out.size)); have f9 := frozen_of_heap hr9 0; have c9 := cell_of_heap hr9 0; simp only [List.getElem?_toArray, List.getElem?_cons_zero] at c9))
      have h4 := cell_of_heap (heap_setCells (i := 0) (u := .bool true) hr9) 0
      exact retM (v := .bool true) (by simp [results, Try.results9, go_sem, h4]) rfl ⟨rfl, HB9.out.setCell (p := ⟨w.heap.size + 1 + 1 + 1, 0, none⟩) (by simp <;> omega) _⟩
    | true =>
      rw [hch] at hck hbad
      simp only [if_true] at hck
      by_cases h1 : f < 0
      · clear a0 a1 a2 a3 HKH q3 hbad
        go_wp2_with (first
          | (go_at_call 13; (with_reducible refine (hck _).mono ?_); clear hck; rintro e w2 ⟨rfl, hb2⟩; obtain ⟨r0, r1, r2, r3⟩ := HKP.out w2 hb2; have HB2 := Lib.hid (HBA.out.trans (hb2.mono HBA.out.size)))
          | (go_at_call 12; (with_reducible refine (hnm _ _).mono ?_); rintro e w' ⟨rfl, rfl⟩)
          | (go_at_call 14; (with_reducible refine (hwo _).mono ?_); rintro e w9 ⟨rfl, hb9⟩; have hr9 := (hb9.block _ (Array.getElem?_eq_some_iff.1 r3).1).trans r3; have HB9 := Lib.hid (HB2.out.trans (hb9.mono HB2.out.size)); have f9 := frozen_of_heap hr9 0; have c9 := cell_of_heap hr9 0; simp only [List.getElem?_toArray, List.getElem?_cons_zero] at c9))
        have h4 := cell_of_heap (heap_setCells (i := 0) (u := .bool true) hr9) 0
        exact retM (v := .bool true) (by simp [results, Try.results9, go_sem, h4]) rfl ⟨rfl, HB9.out.setCell (p := ⟨w.heap.size + 1 + 1 + 1, 0, none⟩) (by simp <;> omega) _⟩
      · by_cases h2 : t < f
        · clear a0 a1 a2 a3 HKH q3 hbad
          go_wp2_with (first
            | (go_at_call 13; (with_reducible refine (hck _).mono ?_); clear hck; rintro e w2 ⟨rfl, hb2⟩; obtain ⟨r0, r1, r2, r3⟩ := HKP.out w2 hb2; have HB2 := Lib.hid (HBA.out.trans (hb2.mono HBA.out.size)))
            | (go_at_call 12; (with_reducible refine (hnm _ _).mono ?_); rintro e w' ⟨rfl, rfl⟩)
            | (go_at_call 14; (with_reducible refine (hwo _).mono ?_); rintro e w9 ⟨rfl, hb9⟩; have hr9 := (hb9.block _ (Array.getElem?_eq_some_iff.1 r3).1).trans r3; have HB9 := Lib.hid (HB2.out.trans (hb9.mono HB2.out.size)); have f9 := frozen_of_heap hr9 0; have c9 := cell_of_heap hr9 0; simp only [List.getElem?_toArray, List.getElem?_cons_zero] at c9))
          have h4 := cell_of_heap (heap_setCells (i := 0) (u := .bool true) hr9) 0
          exact retM (v := .bool true) (by simp [results, Try.results9, go_sem, h4]) rfl ⟨rfl, HB9.out.setCell (p := ⟨w.heap.size + 1 + 1 + 1, 0, none⟩) (by simp <;> omega) _⟩
        · have h3 : 4096 < t := by
            apply Classical.byContradiction
            intro h3
            exact hbad ⟨rfl, by omega, by omega, by omega⟩
          clear a0 a1 a2 a3 HKH q3 hbad
          go_wp2_with (first
            | (go_at_call 13; (with_reducible refine (hck _).mono ?_); clear hck; rintro e w2 ⟨rfl, hb2⟩; obtain ⟨r0, r1, r2, r3⟩ := HKP.out w2 hb2; have HB2 := Lib.hid (HBA.out.trans (hb2.mono HBA.out.size)))
            | (go_at_call 12; (with_reducible refine (hnm _ _).mono ?_); rintro e w' ⟨rfl, rfl⟩)
            | (go_at_call 14; (with_reducible refine (hwo _).mono ?_); rintro e w9 ⟨rfl, hb9⟩; have hr9 := (hb9.block _ (Array.getElem?_eq_some_iff.1 r3).1).trans r3; have HB9 := Lib.hid (HB2.out.trans (hb9.mono HB2.out.size)); have f9 := frozen_of_heap hr9 0; have c9 := cell_of_heap hr9 0; simp only [List.getElem?_toArray, List.getElem?_cons_zero] at c9))
          have h4 := cell_of_heap (heap_setCells (i := 0) (u := .bool true) hr9) 0
          exact retM (v := .bool true) (by simp [results, Try.results9, go_sem, h4]) rfl ⟨rfl, HB9.out.setCell (p := ⟨w.heap.size + 1 + 1 + 1, 0, none⟩) (by simp <;> omega) _⟩
end Go.Proofs
