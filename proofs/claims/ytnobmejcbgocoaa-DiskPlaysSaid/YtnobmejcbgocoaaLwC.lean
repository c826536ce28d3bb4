/-
  Copy: another disk with the same, in memory of its own. Conditions: as each theorem names them.
-/
import Derived.Test.YtnobmejcbgocoaaDkX
namespace Go.Proofs
open Go Go.RowKit Sm Go.Lib Go.Maps Go.WideMaps
attribute [local go_sem] Oper.semAt_some
structure Sm.CoI (w5 : World) (q Mq bq : Nat) (s : DSt) (G : List FileM) (M : Nat → Prop) (k : Nat) (W : World) : Prop where
  le : k ≤ G.length
  d : ∃ Gk, DAt W q Mq bq s Gk ∧ Gk.map datF = (G.map datF).take k ∧ ∀ f ∈ Gk, ∀ b, f.sl.ownBlock = some b → M b
  but : But (fun b => (b = Mq ∨ b = q) ∨ w5.heap.size ≤ b) w5 W
theorem Sm.CoI.low {w5 : World} {q Mq bq : Nat} {s : DSt} {G : List FileM} (hlt : q < w5.heap.size ∧ Mq < w5.heap.size) : LowM w5.heap.size (CoI w5 q Mq bq s G) := by
  intro M k W W' h hM hb
  obtain ⟨Gk, hD, hd, hin⟩ := h.d
  refine ⟨h.le, ⟨Gk, hD.but hb (fun b e => ⟨fun e2 => e (.inl (by omega)), fun e2 => e (.inl (by omega)), fun f hf e2 => e (.inr (hin f hf b e2))⟩), hd, hin⟩, h.but.trans hb (fun b hb e => absurd (Or.inl hb) e)⟩
def Sm.CoA (T : Array Value) (N : Nat) (args : Array Value) (a' : Act) (W : World) : Prop := ∃ (x v : Value) (A : Option Addr) (n c : Nat) (sv : Int) (bf : Nat), args = #[x, v] ∧ v = .agg #[.slice A n c, .int .i64 sv] ∧ N ≤ bf ∧ W.heap[bf]? = some (.cells #[.slice A n c, .int .i64 sv] 79 (0, 0)) ∧
  a' = { tmps := (((T.setIfInBounds 23 x).setIfInBounds 24 v).setIfInBounds 4 x).setIfInBounds 5 (.pointer (some ⟨bf, 0, none⟩)), defers := [] }
/-- one file more -/
theorem Sm.copy_step {G Gk : List FileM} {k : Nat} {f f2 : FileM} (hs : SortG G) (hk : Gk.map datF = (G.map datF).take k) (hf : G[k]? = some f) (h2 : datF f2 = datF f) :
    (∀ g ∈ Gk, nmU g.name < nmU f2.name) ∧ (putG f2 Gk).map datF = (G.map datF).take (k + 1) := by
  have hn2 : f2.name = f.name := by
    unfold datF at h2
    injection h2
  have hlt : ∀ g ∈ Gk, nmU g.name < nmU f2.name := fun g hg => by
    have h1 : datF g ∈ Gk.map datF := List.mem_map.2 ⟨g, hg, rfl⟩
    rw [hk] at h1
    obtain ⟨j, hj, e⟩ := List.mem_iff_getElem.1 h1
    rw [List.getElem_take, List.getElem_map] at e
    have hjk : j < k := by
      rw [List.length_take] at hj
      omega
    have hkl := (List.getElem?_eq_some_iff.1 hf).1
    have hfk := (List.getElem?_eq_some_iff.1 hf).2
    have := List.pairwise_iff_getElem.1 hs j k (by omega) hkl hjk
    have e2 : G[j].name = g.name := by
      unfold datF at e
      injection e
    rw [hn2, ← e2, ← hfk]
    exact this
  refine ⟨hlt, ?_⟩
  rw [put_last hlt, List.map_append, hk, List.take_add_one, List.getElem?_map, hf]
  show _ ++ [datF f2] = _
  rw [h2]
  rfl
theorem Sm.used_copy : ∀ (G : List FileM) (k : Nat) (Gk : List FileM) (f : FileM), Gk.map datF = (G.map datF).take k → G[k]? = some f → usedG Gk + f.bytes.length ≤ usedG G
  | [], k, _, f, _, h => by simp at h
  | g :: r, 0, Gk, f, h1, h2 => by
    simp only [List.take_zero, List.map_eq_nil_iff] at h1
    subst h1
    simp only [List.getElem?_cons_zero, Option.some.injEq] at h2
    subst h2
    unfold usedG
    simp
  | g :: r, k + 1, Gk, f, h1, h2 => by
    rw [List.map_cons, List.take_succ_cons] at h1
    cases Gk with
    | nil => cases h1
    | cons g2 Gr =>
      rw [List.map_cons, List.cons.injEq] at h1
      rw [List.getElem?_cons_succ] at h2
      have ih := used_copy r k Gr f h1.2 h2
      have hl : g2.bytes = g.bytes := by
        have h3 := h1.1
        unfold datF at h3
        simp only [Prod.mk.injEq] at h3
        exact h3.2.1
      unfold usedG at ih ⊢
      simp only [List.map_cons, List.sum_cons]
      rw [hl]
      omega
set_option maxRecDepth 100000 in
set_option maxHeartbeats 2000000 in
theorem Sm.copy_any {p Mb base : Nat} {s : DSt} {G : List FileM} (w : World) (h : DAt w p Mb base s G) (hGl : G.length ≤ 1000000) :
    Calls Try.prog 25 #[.pointer (some ⟨p, 0, none⟩)] w fun e w' => ∃ q Mq bq G2, e = .returned (.pointer (some ⟨q, 0, none⟩)) ∧ DAt w' q Mq bq s G2 ∧ G2.map datF = G.map datF ∧ w.heap.size ≤ q ∧ w.heap.size ≤ Mq ∧ w.heap.size ≤ bq ∧ Below w.heap.size w w' := by
  have hlow := h.low
  have hth := there_yes _ h
  have hem := empty_any s.room w h.room_.1 h.room_.2.1
  have d0 := cell_of_heap h.blk 0
  have d1 := cell_of_heap h.blk 1
  have d2 := cell_of_heap h.blk 2
  have d3 := cell_of_heap h.blk 3
  simp only [List.getElem?_toArray, List.getElem?_cons_succ, List.getElem?_cons_zero] at d0 d1 d2 d3
  have hal := fun W => all_any p W
  have hpl := (Array.getElem?_eq_some_iff.1 h.blk).1
  have H := Lib.hid h
  have HAL := Lib.hid hal
  clear h hal
  refine (callsIn_wide (n := 3)).1 (callsIn_of_wp_marks Try.func25 rfl trivial ?_ rfl)
  refine wpIn_wide.2 ?_
  simp only [Try.ntmps25, List.size_toArray, List.length_cons, List.length_nil, Nat.reduceAdd, Nat.reduceSub, Array.replicate_succ, Array.replicate_zero, List.push_toArray, List.append_toArray, List.nil_append, List.cons_append]
  go_upto_region 4 with (first | (go_at_call 38; (with_reducible refine hth.mono ?_); clear hth; rintro e w1 ⟨rfl, rfl⟩) | (go_at_call 39; (with_reducible refine hem.mono ?_); clear hem; rintro e w2 ⟨rfl, hD2, hb2⟩))
  obtain ⟨w3, hw3⟩ : ∃ w3, w2.alloc (.cells #[.pointer (some ⟨w.heap.size + 1, 0, none⟩)] 25) = w3 := ⟨_, rfl⟩
  have hb23 : Below w2.heap.size w2 w3 := by rw [← hw3]; exact (Below.refl _ w2).alloc (Nat.le_refl _) _
  have hx3 : w3.heap[w2.heap.size]? = some (.cells #[.pointer (some ⟨w.heap.size + 1, 0, none⟩)] 25 (0, 0)) := by rw [← hw3]; exact World.alloc_heap_new w2 _
  rw [hw3]
  have hs2 := hb2.size
  have hl2 : w.heap.size + 2 ≤ w2.heap.size := hD2.low.2.2.2
  have hb3 : Below w.heap.size w w3 := hb2.trans (hb23.mono hs2)
  have hD3 := hD2.keep hb23
  have hq := hD3.blk
  have y0 := cell_of_heap hx3 0
  have e0 := (hb3.cell (p := ⟨p, 0, none⟩) hpl).trans d0
  have e1 := (hb3.cell (p := ⟨p, 1, none⟩) hpl).trans d1
  have e2 := (hb3.cell (p := ⟨p, 2, none⟩) hpl).trans d2
  have f0 := frozen_of_heap hq 0
  have f1 := frozen_of_heap hq 1
  have f2 := frozen_of_heap hq 2
  have c0 := cell_of_heap hq 0
  have c1 := cell_of_heap hq 1
  have c2 := cell_of_heap hq 2
  simp only [List.getElem?_toArray, List.getElem?_cons_succ, List.getElem?_cons_zero] at y0 c0 c1 c2
  have HE := Lib.hid (hD3.end3 s.stops s.after s.dead H.out.aft)
  have HBS := Lib.hid (set3_but w3 (w.heap.size + 1) w.heap.size (.bool s.stops) (.int .i64 s.after) (.bool s.dead))
  unfold set3 at HE HBS
  have HB3 := Lib.hid hb3
  have HX3 := Lib.hid hx3
  have hlq := hD3.low
  have hl3 := (Array.getElem?_eq_some_iff.1 hx3).1
  clear hb3 hx3 hD3 hD2 hb2 hb23 hw3 hq d0 d1 d2 d3
  go_region
  obtain ⟨w4, hw4⟩ : ∃ w4, (((w3.setCell ⟨w.heap.size + 1, 0, none⟩ (.bool s.stops)).setCell ⟨w.heap.size + 1, 1, none⟩ (.int .i64 s.after)).setCell ⟨w.heap.size + 1, 2, none⟩ (.bool s.dead)).drew = w4 := ⟨_, rfl⟩
  have hD4 : DAt w4 (w.heap.size + 1) w.heap.size (w.heap.size + 2) s [] := by rw [← hw4]; exact HE.out.keep (Below.refl _ _).drew
  have hb34 : But (DMay (w.heap.size + 1) w.heap.size) w3 w4 := by rw [← hw4]; exact HBS.out.drew
  have hx4 : w4.heap[w2.heap.size]? = some (.cells #[.pointer (some ⟨w.heap.size + 1, 0, none⟩)] 25 (0, 0)) := hb34.box HX3.out (fun e => by rcases e with e | e <;> omega)
  have hb4 : Below w.heap.size w w4 := HB3.out.trans (hb34.to_below HB3.out.size (fun b e => by rcases e with e | e <;> omega))
  have hs34 := hb34.size
  rw [hw4]
  have HD4 := Lib.hid hD4
  have HX4 := Lib.hid hx4
  have HB4 := Lib.hid hb4
  clear hD4 hb34 hx4 hb4 hw4 e0 e1 e2 f0 f1 f2 c0 c1 c2 y0 HE HBS HB3 HX3
  go_wp2_with (go_at_call 40; (with_reducible refine (HAL.out _).mono ?_); rintro e w5' ⟨rfl, rfl⟩)
  obtain ⟨w5, hw5⟩ : ∃ w5, w4.alloc (.cells #[.pointer (some ⟨p, 0, none⟩)] 25) = w5 := ⟨_, rfl⟩
  have hb45 : Below w4.heap.size w4 w5 := by rw [← hw5]; exact (Below.refl _ w4).alloc (Nat.le_refl _) _
  have hs5 : w5.heap.size = w4.heap.size + 1 := by rw [← hw5]; simp
  have hbd : w5.heap[w4.heap.size]? = some (.cells #[.pointer (some ⟨p, 0, none⟩)] 25 (0, 0)) := by rw [← hw5]; exact World.alloc_heap_new w4 _
  have hbl := (hb45.block _ (by omega)).trans HX4.out
  have hs4 := HB4.out.size
  have hb15 : Below w.heap.size w w5 := HB4.out.trans (hb45.mono hs4)
  have hD5 := HD4.out.keep hb45
  have hDp := H.out.keep hb15
  rw [hw5]
  have hI0 : CoI w5 (w.heap.size + 1) w.heap.size (w.heap.size + 2) s G (fun _ => False) 0 w5 := ⟨Nat.zero_le _, ⟨[], hD5, rfl, fun f hf => by cases hf⟩, But.refl _ _⟩
  have hseq := all_seqY (bd := w4.heap.size) w5 hDp hGl (fun b => b = w.heap.size ∨ b = w.heap.size + 1) hbd (fun b e => by omega) (fun b e => ⟨by omega, by omega, by omega, fun f hf e2 => by
    have := ((H.out.row f hf).lt b e2).2
    omega⟩)
  have HI0 := Lib.hid hI0
  have HBL := Lib.hid hbl
  have HB15 := Lib.hid hb15
  have HDP := Lib.hid hDp
  have hq5 : w.heap.size + 2 ≤ w5.heap.size := by omega
  have hl5 : w2.heap.size < w5.heap.size := by omega
  have hl6 : w.heap.size + 1 < w2.heap.size := by have := hlq; omega
  have HS5 := Lib.hid hs5
  clear hI0 hbl hbd hb15 hDp hD5 hb45 hw5 hs5
  refine (wpIn_wide (n := 3)).1 ?_
  refine wpIn_rangeY (gf := 62) (lb := #[.pointer (some ⟨w4.heap.size, 0, none⟩)]) rfl (enters_of Try.func62 (by kernel_rfl) rfl) hseq
    (fun b e => by omega) ?hH ?hrow ?hps (CoI w5 (w.heap.size + 1) w.heap.size (w.heap.size + 2) s G) (fun _ _ _ _ => False) ?hI ?hIx HI0.out (CoA #[.pointer (some ⟨p, 0, none⟩), undef, .pointer none, .pointer (some ⟨w2.heap.size, 0, none⟩), undef, undef, .pointer (some ⟨p, 0, none⟩), .bool true, .bool false, .pointer (some ⟨p, 0, none⟩), .pointer (some ⟨p, 0, none⟩), .pointer (some ⟨p, 3, none⟩), .int .i64 s.room, .pointer (some ⟨w.heap.size + 1, 0, none⟩), .pointer (some ⟨w.heap.size + 1, 0, none⟩), .pointer (some ⟨p, 0, none⟩), .pointer (some ⟨p, 0, none⟩), .pointer (some ⟨p, 0, none⟩), .agg #[.bool s.stops, .int .i64 s.after, .bool s.dead], .pointer (some ⟨w.heap.size + 1, 0, none⟩), .pointer (some ⟨w.heap.size + 1, 0, none⟩), .pointer (some ⟨p, 0, none⟩), .func (.func 62) #[] #[.pointer (some ⟨w4.heap.size, 0, none⟩)], undef, undef, undef, undef, undef, undef, undef, undef, undef, undef, undef] (w5.heap.size + 2)) ?hAx ?assign ?body ?done ?stop
  case hH => exact fun k args W W' hh _ => hh
  case hrow => exact fun k args W b _ e => e.elim
  case hps =>
    rintro k args W ⟨f, _, rfl⟩
    rfl
  case hI => exact CoI.low (by omega)
  case hIx => exact fun c M k W W' h _ _ => h
  case hAx =>
    rintro args a' W W' ⟨x, v, A, n, c, sv, bf, e1, e2, e3, e4, e5⟩ hb
    exact ⟨x, v, A, n, c, sv, bf, e1, e2, e3, hb.box e4 (by omega), e5⟩
  case assign =>
    rintro l0 M k args W K hsz hI ⟨f, hf, rfl⟩ hK
    clear hI
    unfold FileM.val FileM.sl at hK ⊢
    gi_wp2
    exact hK _ _ ((Below.refl _ W).alloc (Nat.le_refl _) _) ⟨_, _, _, _, _, _, W.heap.size, rfl, rfl, hsz, World.alloc_heap_new W _, rfl⟩
  case body =>
    rintro l0 M k args a' W hsz hM hI ⟨f, hf, rfl⟩ ⟨x, v, A, n, c, sv, bf, e1, e2, e3, e4, rfl⟩
    simp only [Array.mk.injEq, List.cons.injEq, and_true] at e1
    obtain ⟨rfl, rfl⟩ := e1
    unfold FileM.val FileM.sl at e2
    simp only [Value.agg.injEq, Array.mk.injEq, List.cons.injEq, and_true, Value.slice.injEq, Value.int.injEq, true_and] at e2
    obtain ⟨⟨rfl, rfl, rfl⟩, rfl⟩ := e2
    have x0 := cell_of_heap e4 0
    have x1 := cell_of_heap e4 1
    have hbx := hI.but.box HBL.out (fun e => by omega)
    have cl := cell_of_heap hbx 0
    simp only [List.getElem?_toArray, List.getElem?_cons_zero, List.getElem?_cons_succ] at x0 x1 cl
    have hfm : f ∈ G := List.mem_of_getElem? hf
    have hfr := (H.out.ok f hfm).2
    have hfl : f.bytes.length ≤ 16777216 := by
      have h1 := used_le hfm
      have h2 := H.out.room_
      omega
    have HI := Lib.hid hI
    have HE4 := Lib.hid e4
    have HBX := Lib.hid hbx
    clear hI e4 hbx
    simp only [List.setIfInBounds_toArray, List.set_cons_zero, List.set_cons_succ]
    unfold FileM.val FileM.sl
    obtain ⟨Gk, hDk, hdk, hink⟩ := HI.out.d
    have hkl : Gk.length = k := by
      have h1 := congrArg List.length hdk
      rw [List.length_map, List.length_take, List.length_map] at h1
      have := HI.out.le
      omega
    have huk := used_copy G k Gk f hdk hf
    have hrm := H.out.room_
    have hrowf : W.ownsRow base 5 1 (.slice f.A f.bytes.length f.c) f.bytes.length (f.bytes.map byteCell) := HI.out.but.row (own_below (H.out.row f hfm) HB15.out) (fun b e1 e2 => by
      have := ((H.out.row f hfm).lt b e1).2
      omega)
    have hxz : (strB f.name).size ≤ 1000000 := by
      have h1 := (H.out.ok f hfm).1
      have h3 := strL_length (strB f.name)
      rw [strL_strB] at h3
      unfold nameOK at h1
      simp only [Bool.and_eq_true, decide_eq_true_eq] at h1
      omega
    have hset : ∀ V (A' : Option Addr) (c' : Nat), Below W.heap.size W V → V.ownsRow W.heap.size 5 1 (.slice A' f.bytes.length c') f.bytes.length ((f.bytes.take f.bytes.length).map byteCell) →
        Calls Try.prog 41 #[.pointer (some ⟨w.heap.size + 1, 0, none⟩), .string (strB f.name), .agg #[.slice A' f.bytes.length c', .int .i64 (f.sure : Int)]] V fun e V' => e = .returned (.tuple #[]) ∧
          ∃ f2 : FileM, datF f2 = datF f ∧ DAt V' (w.heap.size + 1) w.heap.size (w.heap.size + 2) s (putG f2 Gk) ∧ (∀ b, f2.sl.ownBlock = some b → W.heap.size ≤ b ∧ b < V.heap.size) ∧ But (DMay (w.heap.size + 1) w.heap.size) V V' := fun V A' c' hb hr => by
      obtain ⟨f2, hf2⟩ : ∃ f2 : FileM, ⟨f.name, f.bytes, f.sure, A', c'⟩ = f2 := ⟨_, rfl⟩
      have hby : f2.bytes = f.bytes := by rw [← hf2]
      have hnm : f2.name = f.name := by rw [← hf2]
      have hsu : f2.sure = f.sure := by rw [← hf2]
      have hsl : f2.sl = .slice A' f.bytes.length c' := by unfold FileM.sl; rw [hby, ← hf2]
      have hv : f2.val = .agg #[.slice A' f.bytes.length c', .int .i64 (f.sure : Int)] := by unfold FileM.val; rw [hsl, hsu]
      have hdat : datF f2 = datF f := by rw [← hf2]; rfl
      have hst := copy_step H.out.sort hdk hf hdat
      have hDV : DAt V (w.heap.size + 1) w.heap.size (w.heap.size + 2) s Gk := hDk.keep hb
      have hdel : delG f2.name Gk = Gk := del_none (fun g hg e => by
        have h1 := hst.1 g hg
        rw [e] at h1
        exact List.lt_irrefl _ h1)
      rw [List.take_of_length_le (Nat.le_refl _)] at hr
      rw [← hv]
      refine (set_any (strB f.name) f2 V hDV hxz (by rw [hnm, strL_strB]) ?_ (fun g hg hne b e1 e2 => ?_) ?_ ⟨by rw [hnm]; exact (H.out.ok f hfm).1, by rw [hby, hsu]; exact hfr⟩ (by rw [hkl]; have := HI.out.le; omega)).mono ?_
      · rw [hsl, hby]
        exact hr.mono (by omega)
      · rw [hsl] at e1
        have h1 := (hr.lt b e1).1
        have h2 := (hM b (hink g hg b e2)).2
        omega
      · rw [hdel, hby]
        omega
      · rintro e V' ⟨rfl, h1, h2⟩
        exact ⟨rfl, f2, hdat, h1, fun b e => hr.lt b (by rw [← hsl]; exact e), h2⟩
    have hfin : ∀ (V4 : World) (f2 : FileM), datF f2 = datF f → DAt V4 (w.heap.size + 1) w.heap.size (w.heap.size + 2) s (putG f2 Gk) → (∀ b, f2.sl.ownBlock = some b → W.heap.size ≤ b ∧ b < V4.heap.size) →
        But (fun b => b = w.heap.size ∨ b = w.heap.size + 1) W V4 →
        (True ∧ But (fun b => ((b = w.heap.size ∨ b = w.heap.size + 1) ∨ rowD #[.string (strB f.name), f.val] b) ∨ M b) W V4 ∧ ∃ M', Sub M M' W V4 ∧ CoI w5 (w.heap.size + 1) w.heap.size (w.heap.size + 2) s G M' (k + 1) V4) := fun V4 f2 hdat hD4 hnb hbt => by
      refine ⟨trivial, hbt.mono (fun b _ e => .inl (.inl e)), fun b => M b ∨ (W.heap.size ≤ b ∧ b < V4.heap.size), fun b e => e, ?_⟩
      have hst := copy_step H.out.sort hdk hf hdat
      refine ⟨(List.getElem?_eq_some_iff.1 hf).1, ⟨putG f2 Gk, hD4, hst.2, fun g hg b e => ?_⟩, HI.out.but.trans hbt (fun b _ e => .inl e)⟩
      rcases mem_put.1 hg with rfl | ⟨hg2, _⟩
      · exact .inr (hnb b e)
      · exact .inl (hink g hg2 b e)
    have hbxl : w2.heap.size < W.heap.size := (Array.getElem?_eq_some_iff.1 HBX.out).1
    have hbfl : bf < W.heap.size := (Array.getElem?_eq_some_iff.1 HE4.out).1
    have HFIN := Lib.hid hfin
    clear hfin
    gi_wp2
    refine wpIn_round_held (S := fun V => V.cell? ⟨w2.heap.size, 0, none⟩ = some (.pointer (some ⟨w.heap.size + 1, 0, none⟩)) ∧ V.cell? ⟨bf, 0, none⟩ = some (.slice f.A f.bytes.length f.c) ∧ V.cell? ⟨bf, 1, none⟩ = some (.int .i64 (f.sure : Int))) rfl (by kernel_rfl) (by rintro ⟨_, _, h⟩; exact h) ⟨cl, x0, x1⟩ (fun hHeld => ?_)
    simp only [List.size_toArray, List.length_cons, List.length_nil, Nat.reduceAdd] at hHeld ⊢
    obtain ⟨V0, hV0⟩ : ∃ V, W.drew = V := ⟨_, rfl⟩
    have hbV : Below W.heap.size W V0 := by rw [← hV0]; exact (Below.refl _ W).drew
    rw [hV0] at hHeld ⊢
    clear hV0
    refine wpAnyH_take (i := 0) (v := (.pointer (some ⟨w.heap.size + 1, 0, none⟩))) rfl (by kernel_rfl) (by kernel_rfl) (by kernel_rfl) (fun _ _ _ h => h) (Or.inl ⟨by rfl, ?_⟩) (by assumption) ?_
    · rintro wx ⟨s1, s2, s3⟩; go_simp
    try simp only [Act.put, List.setIfInBounds_toArray]
    refine wpAnyH_take (i := 1) (v := .string (strB f.name)) rfl (by kernel_rfl) (by kernel_rfl) (by kernel_rfl) (fun _ _ _ h => h) (Or.inl ⟨by rfl, ?_⟩) (by assumption) ?_
    · rintro wx ⟨s1, s2, s3⟩; go_simp
    try simp only [Act.put]
    refine wpAnyH_take (i := 2) (v := .agg #[.slice f.A f.bytes.length f.c, .int .i64 (f.sure : Int)]) rfl (by kernel_rfl) (by kernel_rfl) (by kernel_rfl) (fun _ _ _ h => h) (Or.inl ⟨by rfl, ?_⟩) (by assumption) ?_
    · rintro wx ⟨s1, s2, s3⟩; go_simp
    try simp only [Act.put]
    refine wpAnyH_take (i := 3) (v := .pointer (some ⟨bf, 0, none⟩)) rfl (by kernel_rfl) (by kernel_rfl) (by kernel_rfl) (fun _ _ _ h => h) (Or.inl ⟨by rfl, ?_⟩) (by assumption) ?_
    · rintro wx ⟨s1, s2, s3⟩; go_simp
    try simp only [Act.put]
    refine wpAnyH_take (i := 4) (v := .slice f.A f.bytes.length f.c) rfl (by kernel_rfl) (by kernel_rfl) (by kernel_rfl) (fun _ _ _ h => h) (Or.inl ⟨by rfl, ?_⟩) (by assumption) ?_
    · rintro wx ⟨s1, s2, s3⟩; go_simp
    try simp only [Act.put]
    refine wpAnyH_take (i := 5) (v := .int .i64 (f.bytes.length : Int)) rfl (by kernel_rfl) (by kernel_rfl) (by kernel_rfl) (fun _ _ _ h => h) (Or.inl ⟨by rfl, ?_⟩) (by assumption) ?_
    · rintro wx ⟨s1, s2, s3⟩; go_simp
    try simp only [Act.put]
    refine wpAnyH_ready (rs := [6]) (by kernel_rfl) (by simp) (AllReadyH.cons rfl (fun K hK => ?_) AllReadyH.nil)
    go_simp
    go_at_call 42
    (with_reducible refine (cut_any f.A f.bytes f.sure f.bytes.length V0 (own_below hrowf hbV) (Nat.le_refl _) (by omega)).mono ?_)
    rintro e V2 ⟨A2, c2, rfl, hown2, hb2⟩
    have hmn : min f.sure f.bytes.length = f.sure := by omega
    rw [hmn]
    have hb02 : Below W.heap.size W V2 := hbV.trans (hb2.mono hbV.size)
    have hS2 : V2.cell? ⟨w2.heap.size, 0, none⟩ = some (.pointer (some ⟨w.heap.size + 1, 0, none⟩)) ∧ V2.cell? ⟨bf, 0, none⟩ = some (.slice f.A f.bytes.length f.c) ∧ V2.cell? ⟨bf, 1, none⟩ = some (.int .i64 (f.sure : Int)) := ⟨(hb02.cell (p := ⟨w2.heap.size, 0, none⟩) hbxl).trans cl, (hb02.cell (p := ⟨bf, 0, none⟩) hbfl).trans x0, (hb02.cell (p := ⟨bf, 1, none⟩) hbfl).trans x1⟩
    refine hK.out _ _ hS2 (fun _ => ?_)
    clear hK K
    try simp only [Act.put, List.setIfInBounds_toArray, List.set_cons_zero, List.set_cons_succ]
    refine wpAnyH_ready (rs := [7]) (by kernel_rfl) (by simp) (AllReadyH.cons rfl (fun K hK => ?_) AllReadyH.nil)
    go_simp
    go_at_call 41
    (with_reducible refine (hset V2 A2 c2 hb02 (hown2.mono hbV.size)).mono ?_)
    rintro e V4 ⟨rfl, f2, hdat, hD4, hnb, hb4⟩
    have hb04 : But (fun b => b = w.heap.size + 1 ∨ b = w.heap.size) W V4 := (But.of_all hb02 _).trans hb4 (fun b _ e => e)
    refine hK.out _ _ ⟨(hb04.cell (p := ⟨w2.heap.size, 0, none⟩) hbxl (fun e => by rcases e with e | e <;> (simp at e; omega))).trans cl, (hb04.cell (p := ⟨bf, 0, none⟩) hbfl (fun e => by rcases e with e | e <;> (simp at e; omega))).trans x0, (hb04.cell (p := ⟨bf, 1, none⟩) hbfl (fun e => by rcases e with e | e <;> (simp at e; omega))).trans x1⟩ (fun _ => ?_)
    clear hK K
    refine wpAnyH_done (by kernel_rfl) ?_ _
    exact HFIN.out V4 f2 hdat hD4 (fun b e => ⟨(hnb b e).1, Nat.lt_of_lt_of_le (hnb b e).2 hb4.size⟩) (hb04.mono (fun b _ e => by omega))
  case done =>
    rintro M k W rfl hM hI hdf
    have hbx := hI.but.box HBL.out (fun e => by omega)
    have cl := cell_of_heap hbx 0
    simp only [List.getElem?_toArray, List.getElem?_cons_zero] at cl
    obtain ⟨G2, hD2, hd2, hin2⟩ := hI.d
    have hbt := hI.but
    have HD2 := Lib.hid hD2
    have HBT := Lib.hid hbt
    clear hI hD2 hbx hbt
    gi_wp2
    go_wp2
    have hput := put_but W w5.heap.size (.deferred none)
    have hDf : DAt (W.putObj w5.heap.size (.deferred none)) (w.heap.size + 1) w.heap.size (w.heap.size + 2) s G2 := HD2.out.but hput (fun b e => ⟨by omega, by omega, fun f hf e2 => by
      have := (hM b (hin2 f hf b e2)).1
      omega⟩)
    have hbf : Below w.heap.size w (W.putObj w5.heap.size (.deferred none)) := HB15.out.trans ((HBT.out.trans hput (fun b _ e => Or.inr (by omega))).to_below HB15.out.size (fun b e => by have := HB15.out.size; omega))
    have hcr : G2.map datF = G.map datF := by rw [hd2, List.take_of_length_le (by rw [List.length_map]; exact Nat.le_refl _)]
    exact retM1 (v := .pointer (some ⟨w.heap.size + 1, 0, none⟩)) rfl hdf (by simp [results, Try.results25, go_sem]) ⟨_, _, _, G2, rfl, hDf, hcr, by omega, by omega, by omega, hbf⟩
  case stop =>
    rintro c M k W _ _ h
    exact h.elim
end Go.Proofs
