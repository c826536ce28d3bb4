/-
  Crash. Conditions: as each theorem names them.
-/
import Derived.Test.YtnobmejcbgocoaaRnd
import Derived.Test.YtnobmejcbgocoaaDkT
import Derived.Test.YtnobmejcbgocoaaDkS
namespace Go.Proofs
open Go Go.RowKit Sm Go.Lib Go.Maps Go.WideMaps
attribute [local go_sem] Oper.semAt_some
theorem Sm.retM1 {n : Nat} {P : Program} {fn : Func} {R : Ending → World → Prop} {a : Act} {w : World} {v : Value} {D : Nat} (hd : a.defers = [{ target := .collected D, args := #[] }]) (hD : w.heap[D]? = some (.deferred (some []))) (hr : (results fn a.tmps).run P (w.putObj D (.deferred none)) = .ok v (w.putObj D (.deferred none))) (hR : R (.returned v) (w.putObj D (.deferred none))) : bodyPostM Fence.wide n P fn R .ret a w := by
  show LeavesInM Fence.wide n P fn a.tmps R a.defers .returning w
  rw [hd]
  exact ⟨by simp, .inl ⟨_, _, rfl, run_takeDeferred hD, v, hr, hR⟩⟩
/-- the picks that are left behind k of them: a slice that lies in the caller's memory -/
def Sm.PkV (w : World) (picks : List Int) (lim k : Nat) (v : Value) : Prop := ∃ A c, v = .slice A (picks.length - k) c ∧ picks.length - k ≤ c ∧ c ≤ 9223372036854775807 ∧
  (picks.length - k = 0 ∨ ∃ g o, A = some ⟨g, o, none⟩ ∧ g < lim ∧ ∀ j (h : j < picks.length), k ≤ j → w.cell? ⟨g, o + (j - k), none⟩ = some (.int .i64 picks[j]))
structure Sm.CrI (w w5 : World) (q Mq bp bq : Nat) (room : Int) (picks : List Int) (G : List FileM) (M : Nat → Prop) (k : Nat) (W : World) : Prop where
  le : k ≤ G.length
  d : ∃ Gk, DAt W q Mq bq ⟨false, 0, false, room⟩ Gk ∧ Gk.map datF = (crL picks 0 G).take k ∧ ∀ f ∈ Gk, ∀ b, f.sl.ownBlock = some b → M b
  pk : ∃ v, W.heap[bp]? = some (.cells #[v] 62 (0, 0)) ∧ PkV w picks w.heap.size k v
  but : But (fun b => (b = bp ∨ b = Mq ∨ b = q) ∨ w5.heap.size ≤ b) w5 W
theorem Sm.CrI.low {w w5 : World} {q Mq bp bq : Nat} {room : Int} {picks : List Int} {G : List FileM} (hlt : q < w5.heap.size ∧ Mq < w5.heap.size ∧ bp < w5.heap.size) : LowM w5.heap.size (CrI w w5 q Mq bp bq room picks G) := by
  intro M k W W' h hM hb
  obtain ⟨Gk, hD, hd, hin⟩ := h.d
  obtain ⟨v, hv, hp⟩ := h.pk
  refine ⟨h.le, ⟨Gk, hD.but hb (fun b e => ⟨fun e2 => e (.inl (by omega)), fun e2 => e (.inl (by omega)), fun f hf e2 => e (.inr (hin f hf b e2))⟩), hd, hin⟩, ⟨v, hb.box hv (fun e => e (.inl hlt.2.2)), hp⟩, h.but.trans hb (fun b hb e => absurd (Or.inl hb) e)⟩
def Sm.CrA (T : Array Value) (N : Nat) (args : Array Value) (a' : Act) (W : World) : Prop := ∃ (x v : Value) (A : Option Addr) (n c : Nat) (sv : Int) (bf : Nat), args = #[x, v] ∧ v = .agg #[.slice A n c, .int .i64 sv] ∧ N ≤ bf ∧ W.heap[bf]? = some (.cells #[.slice A n c, .int .i64 sv] 79 (0, 0)) ∧
  a' = { tmps := (((T.setIfInBounds 21 x).setIfInBounds 22 v).setIfInBounds 7 x).setIfInBounds 8 (.pointer (some ⟨bf, 0, none⟩)), defers := [] }
theorem Sm.used_crash (picks : List Int) : ∀ (G : List FileM) (j k : Nat) (Gk : List FileM) (f : FileM), Gk.map datF = (crL picks j G).take k → G[k]? = some f → usedG Gk + f.bytes.length ≤ usedG G
  | [], _, k, _, f, _, h => by simp at h
  | g :: r, j, 0, Gk, f, h1, h2 => by
    simp only [List.take_zero, List.map_eq_nil_iff] at h1
    subst h1
    simp only [List.getElem?_cons_zero, Option.some.injEq] at h2
    subst h2
    unfold usedG
    simp
  | g :: r, j, k + 1, Gk, f, h1, h2 => by
    unfold crL at h1
    rw [List.take_succ_cons] at h1
    cases Gk with
    | nil => cases h1
    | cons g2 Gr =>
      rw [List.map_cons, List.cons.injEq] at h1
      rw [List.getElem?_cons_succ] at h2
      have ih := used_crash picks r (j + 1) k Gr f h1.2 h2
      have hl : g2.bytes.length ≤ g.bytes.length := by
        have h3 := h1.1
        unfold datF at h3
        simp only [Prod.mk.injEq] at h3
        rw [h3.2.1, List.length_take]
        omega
      unfold usedG at ih ⊢
      simp only [List.map_cons, List.sum_cons]
      omega
set_option maxRecDepth 100000 in
set_option maxHeartbeats 2000000 in
theorem Sm.crash_any {p Mb base : Nat} {s : DSt} {G : List FileM} (Ap : Option Addr) (np cp : Nat) (picks : List Int) (w : World) (h : DAt w p Mb base s G) (hGl : G.length ≤ 1000000) (hpk : PkV w picks w.heap.size 0 (.slice Ap np cp)) :
    Calls Try.prog 14 #[.pointer (some ⟨p, 0, none⟩), .slice Ap np cp] w fun e w' => ∃ q Mq bq G2, e = .returned (.tuple #[.pointer (some ⟨q, 0, none⟩), .int .i64 0]) ∧ DAt w' q Mq bq ⟨false, 0, false, s.room⟩ G2 ∧ G2.map datF = crL picks 0 G ∧ w.heap.size ≤ q ∧ w.heap.size ≤ Mq ∧ w.heap.size ≤ bq ∧ Below w.heap.size w w' := by
  have hlow := h.low
  obtain ⟨wA, hwA⟩ : ∃ wA, w.alloc (.cells #[.slice Ap np cp] 62) = wA := ⟨_, rfl⟩
  have hsA : wA.heap.size = w.heap.size + 1 := by rw [← hwA]; simp
  have hxA : wA.heap[w.heap.size]? = some (.cells #[.slice Ap np cp] 62 (0, 0)) := by rw [← hwA]; exact World.alloc_heap_new w _
  have hb1 : Below w.heap.size w wA := by rw [← hwA]; exact (Below.refl _ w).alloc (Nat.le_refl _) _
  have hth := there_yes _ (h.keep hb1)
  have hem := empty_any s.room wA h.room_.1 h.room_.2.1
  have d0 := cell_of_heap (h.keep hb1).blk 3
  simp only [List.getElem?_toArray, List.getElem?_cons_succ, List.getElem?_cons_zero] at d0
  have hal := fun W => all_any p W
  have H := Lib.hid h
  have HAL := Lib.hid hal
  have HB1 := Lib.hid hb1
  have HSA := Lib.hid hsA
  have HXA := Lib.hid hxA
  have HPK := Lib.hid hpk
  clear h hb1 hal hsA hxA hpk
  refine (callsIn_wide (n := 3)).1 (callsIn_of_wp_marks Try.func14 rfl trivial ?_ rfl)
  refine wpIn_wide.2 ?_
  simp only [Try.ntmps14, List.size_toArray, List.length_cons, List.length_nil, Nat.reduceAdd, Nat.reduceSub, Array.replicate_succ, Array.replicate_zero, List.push_toArray, List.append_toArray, List.nil_append, List.cons_append]
  go_wp2_with (first | (go_at_call 38; (with_reducible refine hth.mono ?_); clear hth; rintro e w1 ⟨rfl, rfl⟩) | (go_at_call 39; (with_reducible refine hem.mono ?_); clear hem; rintro e w2 ⟨rfl, hD2, hb2⟩) | (go_at_call 40; (with_reducible refine (HAL.out _).mono ?_); rintro e w3 ⟨rfl, rfl⟩))
  have hsA := HSA.out
  have hs2 := hb2.size
  obtain ⟨w5, hw5⟩ : ∃ w5, (w2.alloc (.cells #[.pointer (some ⟨wA.heap.size + 1, 0, none⟩)] 25)).alloc (.cells #[.pointer (some ⟨p, 0, none⟩)] 25) = w5 := ⟨_, rfl⟩
  have hb25 : Below w2.heap.size w2 w5 := by rw [← hw5]; exact ((Below.refl _ w2).alloc (Nat.le_refl _) _).alloc (by simp) _
  have hs5 : w5.heap.size = w2.heap.size + 2 := by rw [← hw5]; simp
  have hbl : w5.heap[w2.heap.size]? = some (.cells #[.pointer (some ⟨wA.heap.size + 1, 0, none⟩)] 25 (0, 0)) := by rw [← hw5]; exact (Below.heap_alloc _ _ _ (by simp)).trans (World.alloc_heap_new w2 _)
  have hbd : w5.heap[w2.heap.size + 1]? = some (.cells #[.pointer (some ⟨p, 0, none⟩)] 25 (0, 0)) := by
    rw [← hw5]
    have := World.alloc_heap_new (w2.alloc (.cells #[.pointer (some ⟨wA.heap.size + 1, 0, none⟩)] 25)) (.cells #[.pointer (some ⟨p, 0, none⟩)] 25)
    rwa [World.size_alloc] at this
  have hb15 : Below w.heap.size w w5 := HB1.out.trans ((hb2.trans (hb25.mono hs2)).mono HB1.out.size)
  have hxp := (hb25.block _ (by omega)).trans ((hb2.block _ (by omega)).trans HXA.out)
  have hD5 := hD2.keep hb25
  have hDp := H.out.keep hb15
  have hlq := hD2.low
  rw [hw5]
  have hI0 : CrI w w5 (wA.heap.size + 1) wA.heap.size w.heap.size (wA.heap.size + 2) s.room picks G (fun _ => False) 0 w5 := ⟨Nat.zero_le _, ⟨[], hD5, rfl, fun f hf => by cases hf⟩, ⟨_, hxp, HPK.out⟩, But.refl _ _⟩
  have hseq := all_seqY (bd := w2.heap.size + 1) w5 hDp hGl (fun b => b = w.heap.size ∨ b = wA.heap.size ∨ b = wA.heap.size + 1) hbd (fun b e => by omega) (fun b e => ⟨by omega, by omega, by omega, fun f hf e2 => by
    have := ((H.out.row f hf).lt b e2).2
    omega⟩)
  have HI0 := Lib.hid hI0
  have HBL := Lib.hid hbl
  have HS5 := Lib.hid hs5
  have HB15 := Lib.hid hb15
  have HDP := Lib.hid hDp
  have hq5 : wA.heap.size + 2 ≤ w5.heap.size := by omega
  have hp5 : w.heap.size < wA.heap.size := by omega
  have hl5 : w2.heap.size < w5.heap.size := by omega
  have hl6 : wA.heap.size + 1 < w2.heap.size := by omega
  clear hI0 hbl hbd hb15 hDp hD5 hxp hb25 hw5 hD2 hb2 hsA hs5 hs2 hlq
  refine (wpIn_wide (n := 3)).1 ?_
  refine wpIn_rangeY (gf := 62) (lb := #[.pointer (some ⟨w2.heap.size + 1, 0, none⟩)]) rfl (enters_of Try.func62 (by kernel_rfl) rfl) hseq
    (fun b e => by omega) ?hH ?hrow ?hps (CrI w w5 (wA.heap.size + 1) wA.heap.size w.heap.size (wA.heap.size + 2) s.room picks G) (fun _ _ _ _ => False) ?hI ?hIx HI0.out (CrA #[.pointer (some ⟨p, 0, none⟩), .slice Ap np cp, undef, .pointer (some ⟨w.heap.size, 0, none⟩), .pointer none, .int .i64 0, .pointer (some ⟨w2.heap.size, 0, none⟩), undef, undef, undef, undef, .pointer (some ⟨p, 0, none⟩), .bool true, .bool false, .pointer (some ⟨p, 0, none⟩), .pointer (some ⟨p, 0, none⟩), .pointer (some ⟨p, 3, none⟩), .int .i64 s.room, .pointer (some ⟨wA.heap.size + 1, 0, none⟩), .pointer (some ⟨p, 0, none⟩), .func (.func 62) #[] #[.pointer (some ⟨w2.heap.size + 1, 0, none⟩)], undef, undef, undef, undef, undef, undef, undef, undef, undef, undef, undef, undef, undef, undef, undef, undef, undef, undef, undef, undef, undef, undef, undef, undef, undef, undef, undef, undef, undef, undef] (w5.heap.size + 2)) ?hAx ?assign ?body ?done ?stop
  case hH => exact fun k args W W' hh _ => hh
  case hrow => exact fun k args W b _ e => e.elim
  case hps =>
    rintro k args W ⟨f, _, rfl⟩
    rfl
  case hI => exact CrI.low (by omega)
  case hIx => exact fun c M k W W' h _ _ => h
  case hAx =>
    rintro args a' W W' ⟨x, v, A, n, c, sv, bf, e1, e2, e3, e4, e5⟩ hb
    exact ⟨x, v, A, n, c, sv, bf, e1, e2, e3, hb.box e4 (by omega), e5⟩
  case assign =>
    rintro l0 M k args W K hsz hI ⟨f, hf, rfl⟩ hK
    clear hI
    unfold FileM.val FileM.sl at hK ⊢
    gi_wp2
    exact hK _ _ ((Below.refl _ W).alloc (Nat.le_refl _) _) ⟨_, _, _, _, _, _, W.heap.size, rfl, rfl, hsz, World.alloc_heap_new W _, rfl⟩
  case body =>
    rintro l0 M k args a' W hsz hM hI ⟨f, hf, rfl⟩ ⟨x, v, A, n, c, sv, bf, e1, e2, e3, e4, rfl⟩
    simp only [Array.mk.injEq, List.cons.injEq, and_true] at e1
    obtain ⟨rfl, rfl⟩ := e1
    unfold FileM.val FileM.sl at e2
    simp only [Value.agg.injEq, Array.mk.injEq, List.cons.injEq, and_true, Value.slice.injEq, Value.int.injEq, true_and] at e2
    obtain ⟨⟨rfl, rfl, rfl⟩, rfl⟩ := e2
    obtain ⟨vp, hvp, Ap2, cp2, rfl, hcp1, hcp2, hpc⟩ := hI.pk
    have p0 := cell_of_heap hvp 0
    have fp0 := frozen_of_heap hvp 0
    have x0 := cell_of_heap e4 0
    have x1 := cell_of_heap e4 1
    have hbx := hI.but.box HBL.out (fun e => by omega)
    have cl := cell_of_heap hbx 0
    simp only [List.getElem?_toArray, List.getElem?_cons_zero, List.getElem?_cons_succ] at p0 x0 x1 cl
    have hfm : f ∈ G := List.mem_of_getElem? hf
    have hfr := (H.out.ok f hfm).2
    have hfl : f.bytes.length ≤ 16777216 := by
      have h1 := used_le hfm
      have h2 := H.out.room_
      omega
    have HI := Lib.hid hI
    have HVP := Lib.hid hvp
    have HE4 := Lib.hid e4
    have HBX := Lib.hid hbx
    clear hI hvp e4 hbx
    have i1 : (0 : Int) ≤ (f.bytes.length : Int) - (f.sure : Int) := by omega
    have i2 : (f.bytes.length : Int) - (f.sure : Int) ≤ 16777216 := by omega
    simp only [List.setIfInBounds_toArray, List.set_cons_zero, List.set_cons_succ]
    unfold FileM.val FileM.sl
    obtain ⟨Gk, hDk, hdk, hink⟩ := HI.out.d
    have hkl : Gk.length = k := by
      have h1 := congrArg List.length hdk
      rw [List.length_map, List.length_take, crL_length] at h1
      have := HI.out.le
      omega
    have huk := used_crash picks G 0 k Gk f hdk hf
    have hrm := H.out.room_
    have hrowf : W.ownsRow base 5 1 (.slice f.A f.bytes.length f.c) f.bytes.length (f.bytes.map byteCell) := HI.out.but.row (own_below (H.out.row f hfm) HB15.out) (fun b e1 e2 => by
      have := ((H.out.row f hfm).lt b e1).2
      omega)
    obtain ⟨pk, hpk⟩ : ∃ pk, picks.getD k 0 = pk := ⟨_, rfl⟩
    have hcr := crN_rng pk hfr
    obtain ⟨hcr1, hcr2, hcr3⟩ := hcr
    have hxz : (strB f.name).size ≤ 1000000 := by
      have h1 := (H.out.ok f hfm).1
      have h3 := strL_length (strB f.name)
      rw [strL_strB] at h3
      unfold nameOK at h1
      simp only [Bool.and_eq_true, decide_eq_true_eq] at h1
      omega
    have hset : ∀ V (A' : Option Addr) (c' : Nat), But (fun b => b = w.heap.size) W V → V.ownsRow W.heap.size 5 1 (.slice A' (crN pk f) c') (crN pk f) ((f.bytes.take (crN pk f)).map byteCell) →
        Calls Try.prog 41 #[.pointer (some ⟨wA.heap.size + 1, 0, none⟩), .string (strB f.name), .agg #[.slice A' (crN pk f) c', .int .i64 ((crN pk f : Nat) : Int)]] V fun e V' => e = .returned (.tuple #[]) ∧
          ∃ f2 : FileM, datF f2 = (f.name, f.bytes.take (crN pk f), crN pk f) ∧ DAt V' (wA.heap.size + 1) wA.heap.size (wA.heap.size + 2) ⟨false, 0, false, s.room⟩ (putG f2 Gk) ∧ (∀ b, f2.sl.ownBlock = some b → W.heap.size ≤ b ∧ b < V.heap.size) ∧ But (DMay (wA.heap.size + 1) wA.heap.size) V V' := fun V A' c' hb hr => by
      obtain ⟨f2, hf2⟩ : ∃ f2 : FileM, ⟨f.name, f.bytes.take (crN pk f), crN pk f, A', c'⟩ = f2 := ⟨_, rfl⟩
      have hlen : f2.bytes.length = crN pk f := by rw [← hf2]; show (f.bytes.take (crN pk f)).length = _; rw [List.length_take]; omega
      have hnm : f2.name = f.name := by rw [← hf2]
      have hsl : f2.sl = .slice A' (crN pk f) c' := by unfold FileM.sl; rw [hlen, ← hf2]
      have hv : f2.val = .agg #[.slice A' (crN pk f) c', .int .i64 ((crN pk f : Nat) : Int)] := by unfold FileM.val; rw [hsl, ← hf2]
      have hdat : datF f2 = (f.name, f.bytes.take (crN pk f), crN pk f) := by rw [← hf2]; rfl
      have hst := crash_step H.out.sort hdk hf (by rw [hpk]; exact hdat)
      have hDV : DAt V (wA.heap.size + 1) wA.heap.size (wA.heap.size + 2) ⟨false, 0, false, s.room⟩ Gk := hDk.but hb (fun b e => ⟨by omega, by omega, fun f hf e2 => by
        have := (hM b (hink f hf b e2)).1
        omega⟩)
      have hdel : delG f2.name Gk = Gk := del_none (fun g hg e => by
        have h1 := hst.1 g hg
        rw [e] at h1
        exact List.lt_irrefl _ h1)
      rw [← hv]
      refine (set_any (strB f.name) f2 V hDV hxz (by rw [hnm, strL_strB]) ?_ (fun g hg hne b e1 e2 => ?_) ?_ ⟨by rw [hnm]; exact (H.out.ok f hfm).1, by rw [hlen, ← hf2]; exact Nat.le_refl _⟩ (by rw [hkl]; have := HI.out.le; omega)).mono ?_
      · rw [hsl, hlen]
        have : f2.bytes = f.bytes.take (crN pk f) := by rw [← hf2]
        rw [this]
        exact hr.mono (by omega)
      · rw [hsl] at e1
        have h1 := (hr.lt b e1).1
        have h2 := (hM b (hink g hg b e2)).2
        omega
      · rw [hdel, hlen]
        show (usedG Gk : Int) + (crN pk f : Int) ≤ s.room
        omega
      · rintro e V' ⟨rfl, h1, h2⟩
        exact ⟨rfl, f2, hdat, h1, fun b e => hr.lt b (by rw [← hsl]; exact e), h2⟩
    have hfin : ∀ (V4 : World) (f2 : FileM), datF f2 = (f.name, f.bytes.take (crN pk f), crN pk f) → DAt V4 (wA.heap.size + 1) wA.heap.size (wA.heap.size + 2) ⟨false, 0, false, s.room⟩ (putG f2 Gk) → (∀ b, f2.sl.ownBlock = some b → W.heap.size ≤ b ∧ b < V4.heap.size) →
        But (fun b => b = w.heap.size ∨ b = wA.heap.size ∨ b = wA.heap.size + 1) W V4 → (∃ v, V4.heap[w.heap.size]? = some (.cells #[v] 62 (0, 0)) ∧ PkV w picks w.heap.size (k + 1) v) →
        (True ∧ But (fun b => ((b = w.heap.size ∨ b = wA.heap.size ∨ b = wA.heap.size + 1) ∨ rowD #[.string (strB f.name), f.val] b) ∨ M b) W V4 ∧ ∃ M', Sub M M' W V4 ∧ CrI w w5 (wA.heap.size + 1) wA.heap.size w.heap.size (wA.heap.size + 2) s.room picks G M' (k + 1) V4) := fun V4 f2 hdat hD4 hnb hbt hpk4 => by
      refine ⟨trivial, hbt.mono (fun b _ e => .inl (.inl e)), fun b => M b ∨ (W.heap.size ≤ b ∧ b < V4.heap.size), fun b e => e, ?_⟩
      have hst := crash_step H.out.sort hdk hf (by rw [hpk]; exact hdat)
      refine ⟨(List.getElem?_eq_some_iff.1 hf).1, ⟨putG f2 Gk, hD4, hst.2, fun g hg b e => ?_⟩, hpk4, HI.out.but.trans hbt (fun b _ e => .inl (by omega))⟩
      rcases mem_put.1 hg with rfl | ⟨hg2, _⟩
      · exact .inr (hnb b e)
      · exact .inl (hink g hg2 b e)
    by_cases hm : picks.length - k = 0
    · rw [hm] at p0
      have hbxl : w2.heap.size < W.heap.size := (Array.getElem?_eq_some_iff.1 HBX.out).1
      have hbfl : bf < W.heap.size := (Array.getElem?_eq_some_iff.1 HE4.out).1
      have hpk0 : pk = 0 := by rw [← hpk, List.getD_eq_getElem?_getD, List.getElem?_eq_none (by omega)]; rfl
      gi_wp2
      have hc0 : crN pk f = f.sure := by rw [hpk0]; unfold crN; simp
      rw [hc0] at hset hcr1 hcr2 hfin
      have HFIN := Lib.hid hfin
      clear hfin
      refine wpIn_round_held (S := fun V => V.cell? ⟨w2.heap.size, 0, none⟩ = some (.pointer (some ⟨wA.heap.size + 1, 0, none⟩)) ∧ V.cell? ⟨bf, 0, none⟩ = some (.slice f.A f.bytes.length f.c) ∧ V.cell? ⟨bf, 1, none⟩ = some (.int .i64 (f.sure : Int))) rfl (by kernel_rfl) (by rintro ⟨_, _, h⟩; exact h) ⟨cl, x0, x1⟩ (fun hHeld => ?_)
      simp only [List.size_toArray, List.length_cons, List.length_nil, Nat.reduceAdd] at hHeld ⊢
      obtain ⟨V0, hV0⟩ : ∃ V, W.drew = V := ⟨_, rfl⟩
      have hbV : Below W.heap.size W V0 := by rw [← hV0]; exact (Below.refl _ W).drew
      rw [hV0] at hHeld ⊢
      clear hV0
      refine wpAnyH_take (i := 0) (v := (.pointer (some ⟨wA.heap.size + 1, 0, none⟩))) rfl (by kernel_rfl) (by kernel_rfl) (by kernel_rfl) (fun _ _ _ h => h) (Or.inl ⟨by rfl, ?_⟩) (by assumption) ?_
      · rintro wx ⟨s1, s2, s3⟩; go_simp
      try simp only [Act.put, List.setIfInBounds_toArray]
      refine wpAnyH_take (i := 1) (v := .string (strB f.name)) rfl (by kernel_rfl) (by kernel_rfl) (by kernel_rfl) (fun _ _ _ h => h) (Or.inl ⟨by rfl, ?_⟩) (by assumption) ?_
      · rintro wx ⟨s1, s2, s3⟩; go_simp
      try simp only [Act.put]
      refine wpAnyH_take (i := 2) (v := .agg #[.slice f.A f.bytes.length f.c, .int .i64 (f.sure : Int)]) rfl (by kernel_rfl) (by kernel_rfl) (by kernel_rfl) (fun _ _ _ h => h) (Or.inl ⟨by rfl, ?_⟩) (by assumption) ?_
      · rintro wx ⟨s1, s2, s3⟩; go_simp
      try simp only [Act.put]
      refine wpAnyH_take (i := 3) (v := .pointer (some ⟨bf, 1, none⟩)) rfl (by kernel_rfl) (by kernel_rfl) (by kernel_rfl) (fun _ _ _ h => h) (Or.inl ⟨by rfl, ?_⟩) (by assumption) ?_
      · rintro wx ⟨s1, s2, s3⟩; go_simp
      try simp only [Act.put]
      refine wpAnyH_take (i := 4) (v := .int .i64 (f.sure : Int)) rfl (by kernel_rfl) (by kernel_rfl) (by kernel_rfl) (fun _ _ _ h => h) (Or.inl ⟨by rfl, ?_⟩) (by assumption) ?_
      · rintro wx ⟨s1, s2, s3⟩; go_simp
      try simp only [Act.put]
      refine wpAnyH_take (i := 5) (v := .int .i64 0) rfl (by kernel_rfl) (by kernel_rfl) (by kernel_rfl) (fun _ _ _ h => h) (Or.inl ⟨by rfl, ?_⟩) (by assumption) ?_
      · rintro wx ⟨s1, s2, s3⟩; go_simp
      try simp only [Act.put]
      refine wpAnyH_take (i := 6) (v := .int .i64 ((f.bytes.length : Int) - (f.sure : Int))) rfl (by kernel_rfl) (by kernel_rfl) (by kernel_rfl) (fun _ _ _ h => h) (Or.inl ⟨by rfl, ?_⟩) (by assumption) ?_
      · rintro wx ⟨s1, s2, s3⟩; go_simp
      try simp only [Act.put]
      refine wpAnyH_take (i := 7) (v := .int .i64 ((f.bytes.length : Int) - (f.sure : Int) + 1)) rfl (by kernel_rfl) (by kernel_rfl) (by kernel_rfl) (fun _ _ _ h => h) (Or.inl ⟨by rfl, ?_⟩) (by assumption) ?_
      · rintro wx ⟨s1, s2, s3⟩; go_simp; rw [wrap_small _ (by omega) (by omega)]
      try simp only [Act.put]
      refine wpAnyH_ready (rs := [8]) (by kernel_rfl) (by simp) (AllReadyH.cons rfl (fun K hK => ?_) AllReadyH.nil)
      go_simp
      go_at_call 43
      (with_reducible refine (picked_any 0 ((f.bytes.length : Int) - (f.sure : Int) + 1) V0 (by omega) (by omega)).mono ?_)
      rintro e V1 ⟨rfl, rfl⟩
      refine hK.out _ _ hHeld (fun _ => ?_)
      clear hK K
      try simp only [Act.put, List.setIfInBounds_toArray, List.set_cons_zero, List.set_cons_succ]
      refine wpAnyH_take (i := 9) (v := .int .i64 ((f.sure : Nat) : Int)) rfl (by kernel_rfl) (by kernel_rfl) (by kernel_rfl) (fun _ _ _ h => h) (Or.inl ⟨by rfl, ?_⟩) (by assumption) ?_
      · rintro wx ⟨s1, s2, s3⟩; go_simp; rw [wrap_small _ (by omega) (by omega)]
      try simp only [Act.put, List.setIfInBounds_toArray]
      refine wpAnyH_ready (rs := [10]) (by kernel_rfl) (by simp) (AllReadyH.cons rfl (fun K hK => ?_) AllReadyH.nil)
      go_simp
      go_at_call 42
      (with_reducible refine (cut_any f.A f.bytes f.sure (f.sure) V0 (own_below hrowf hbV) hcr2 (by omega)).mono ?_)
      rintro e V2 ⟨A2, c2, rfl, hown2, hb2⟩
      have hmn : min f.sure (f.sure) = f.sure := by omega
      rw [hmn]
      have hb02 : Below W.heap.size W V2 := hbV.trans (hb2.mono hbV.size)
      have hS2 : V2.cell? ⟨w2.heap.size, 0, none⟩ = some (.pointer (some ⟨wA.heap.size + 1, 0, none⟩)) ∧ V2.cell? ⟨bf, 0, none⟩ = some (.slice f.A f.bytes.length f.c) ∧ V2.cell? ⟨bf, 1, none⟩ = some (.int .i64 (f.sure : Int)) := ⟨(hb02.cell (p := ⟨w2.heap.size, 0, none⟩) hbxl).trans cl, (hb02.cell (p := ⟨bf, 0, none⟩) hbfl).trans x0, (hb02.cell (p := ⟨bf, 1, none⟩) hbfl).trans x1⟩
      refine hK.out _ _ hS2 (fun _ => ?_)
      clear hK K
      try simp only [Act.put, List.setIfInBounds_toArray, List.set_cons_zero, List.set_cons_succ]
      refine wpAnyH_ready (rs := [11]) (by kernel_rfl) (by simp) (AllReadyH.cons rfl (fun K hK => ?_) AllReadyH.nil)
      go_simp
      go_at_call 44
      (with_reducible refine (synced_any A2 (f.sure : Int) V2).mono ?_)
      rintro e V3 ⟨rfl, hb3⟩
      have hb03 : Below W.heap.size W V3 := hb02.trans (hb3.mono hb02.size)
      have hS3 : V3.cell? ⟨w2.heap.size, 0, none⟩ = some (.pointer (some ⟨wA.heap.size + 1, 0, none⟩)) ∧ V3.cell? ⟨bf, 0, none⟩ = some (.slice f.A f.bytes.length f.c) ∧ V3.cell? ⟨bf, 1, none⟩ = some (.int .i64 (f.sure : Int)) := ⟨(hb03.cell (p := ⟨w2.heap.size, 0, none⟩) hbxl).trans cl, (hb03.cell (p := ⟨bf, 0, none⟩) hbfl).trans x0, (hb03.cell (p := ⟨bf, 1, none⟩) hbfl).trans x1⟩
      refine hK.out _ _ hS3 (fun _ => ?_)
      clear hK K
      try simp only [Act.put, List.setIfInBounds_toArray, List.set_cons_zero, List.set_cons_succ]
      refine wpAnyH_ready (rs := [12]) (by kernel_rfl) (by simp) (AllReadyH.cons rfl (fun K hK => ?_) AllReadyH.nil)
      go_simp
      go_at_call 41
      (with_reducible refine (hset V3 A2 c2 (But.of_all hb03 _) ((own_below hown2 hb3).mono hbV.size)).mono ?_)
      rintro e V4 ⟨rfl, f2, hdat, hD4, hnb, hb4⟩
      have hb04 : But (fun b => b = wA.heap.size + 1 ∨ b = wA.heap.size) W V4 := (But.of_all hb03 _).trans hb4 (fun b _ e => e)
      refine hK.out _ _ ⟨(hb04.cell (p := ⟨w2.heap.size, 0, none⟩) hbxl (fun e => by rcases e with e | e <;> (simp at e; omega))).trans cl, (hb04.cell (p := ⟨bf, 0, none⟩) hbfl (fun e => by rcases e with e | e <;> (simp at e; omega))).trans x0, (hb04.cell (p := ⟨bf, 1, none⟩) hbfl (fun e => by rcases e with e | e <;> (simp at e; omega))).trans x1⟩ (fun _ => ?_)
      clear hK K
      refine wpAnyH_done (by kernel_rfl) ?_ _
      exact HFIN.out V4 f2 hdat hD4 (fun b e => ⟨(hnb b e).1, Nat.lt_of_lt_of_le (hnb b e).2 hb4.size⟩) (hb04.mono (fun b _ e => by omega)) ⟨_, hb04.box HVP.out (fun e => by omega), Ap2, cp2, by rw [show picks.length - k = 0 from hm, show picks.length - (k + 1) = 0 by omega], by omega, hcp2, .inl (by omega)⟩
    · gi_wp2
      obtain ⟨g, o, rfl, hgw, hpcell⟩ : ∃ g o, Ap2 = some ⟨g, o, none⟩ ∧ g < w.heap.size ∧ ∀ j (h : j < picks.length), k ≤ j → w.cell? ⟨g, o + (j - k), none⟩ = some (.int .i64 picks[j]) := by
        rcases hpc with e | e
        · exact absurd e hm
        · exact e
      have hkp : k < picks.length := by omega
      have hbW : But (fun b => b = w.heap.size ∨ b = wA.heap.size ∨ b = wA.heap.size + 1 ∨ w5.heap.size ≤ b) w W := (But.of_all HB15.out _).trans HI.out.but (fun b _ e => by omega)
      have pc : W.cell? ⟨g, o, none⟩ = some (.int .i64 pk) := by
        have h1 := hpcell k hkp (Nat.le_refl _)
        rw [Nat.sub_self, Nat.add_zero] at h1
        have h2 : pk = picks[k] := by rw [← hpk, List.getD_eq_getElem?_getD, List.getElem?_eq_getElem hkp]; rfl
        rw [h2]
        exact (hbW.cell (p := ⟨g, o, none⟩) hgw (fun e => by have := HB15.out.size; simp at e; omega)).trans h1
      have hn1 : ¬ picks.length - k = 0 := hm
      refine wpIn_round_held (S := fun V => V.cell? ⟨g, o, none⟩ = some (.int .i64 pk)) rfl (by kernel_rfl) (by rintro ⟨_, _, h⟩; exact h) pc (fun hHeld => ?_)
      simp only [List.size_toArray, List.length_cons, List.length_nil, Nat.reduceAdd] at hHeld ⊢
      have p1 : W.drew.cell? ⟨w.heap.size, 0, none⟩ = some (.slice (some ⟨g, o, none⟩) (picks.length - k) cp2) := p0
      have fp1 : W.drew.frozen? ⟨w.heap.size, 0, none⟩ = false := fp0
      have hbV : Below W.heap.size W W.drew := (Below.refl _ W).drew
      obtain ⟨V0, hV0⟩ : ∃ V, W.drew = V := ⟨_, rfl⟩
      rw [hV0] at hHeld p1 fp1 hbV ⊢
      clear hV0
      refine wpAnyH_ready (rs := [0, 3]) (by kernel_rfl) (by simp) (AllReadyH.cons rfl (fun K hK => ?_) (AllReadyH.cons rfl (fun K hK => ?_) AllReadyH.nil))
      · go_simp
        refine hK.out _ _ hHeld (fun _ => ?_)
        clear hK K
        try simp only [Act.put, List.setIfInBounds_toArray, List.set_cons_zero, List.set_cons_succ]
        refine wpAnyH_take (i := 1) (v := .pointer (some ⟨g, o, none⟩)) rfl (by kernel_rfl) (by kernel_rfl) (by kernel_rfl) (fun _ _ _ h => h) (Or.inl ⟨by rfl, ?_⟩) (by assumption) ?_
        · intro wx s1; go_simp
        try simp only [Act.put, List.setIfInBounds_toArray]
        refine wpAnyH_take (i := 2) (v := .int .i64 pk) rfl (by kernel_rfl) (by kernel_rfl) (by kernel_rfl) (fun _ _ _ h => h) (Or.inl ⟨by rfl, ?_⟩) (by assumption) ?_
        · intro wx s1; go_simp
        try simp only [Act.put]
        refine wpAnyH_take (i := 5) (v := .int .i64 pk) rfl (by kernel_rfl) (by kernel_rfl) (by kernel_rfl) (fun _ _ _ h => h) (Or.inl ⟨by rfl, ?_⟩) (by assumption) ?_
        · intro wx s1; go_simp
        try simp only [Act.put]
        refine wpAnyH_ready (rs := [3]) (by kernel_rfl) (by simp) (AllReadyH.cons rfl (fun K hK => ?_) AllReadyH.nil)
        go_simp
        refine hK.out _ _ hHeld (fun _ => ?_)
        clear hK K
        try simp only [Act.put, List.setIfInBounds_toArray, List.set_cons_zero, List.set_cons_succ]
        refine wpAnyH_take (i := 4) (v := (.slice (if cp2 = 1 then some ⟨g, o, none⟩ else some ⟨g, o + 1, none⟩) (picks.length - k - 1) (cp2 - 1))) rfl (by kernel_rfl) (by kernel_rfl) (by kernel_rfl) (fun _ _ _ h => h) (Or.inl ⟨by rfl, ?_⟩) (by assumption) ?_
        · intro wx s1; go_simp; intro hc; omega
        try simp only [Act.put, List.setIfInBounds_toArray]
        refine wpAnyH_ready (rs := [6]) (by kernel_rfl) (by simp) (AllReadyH.cons rfl (fun K hK => ?_) AllReadyH.nil)
        go_simp
        refine hK.out _ _ ((World.cell?_of_block (Below.heap_setCell V0 ⟨w.heap.size, 0, none⟩ _ g (by simp; omega))).trans hHeld) (fun _ => ?_)
        clear hK K
        refine wpAnyH_done (by kernel_rfl) ?_ _
        obtain ⟨v9, hv9⟩ : ∃ v9, (Value.slice (if cp2 = 1 then some ⟨g, o, none⟩ else some ⟨g, o + 1, none⟩) (picks.length - k - 1) (cp2 - 1)) = v9 := ⟨_, rfl⟩
        rw [hv9]
        obtain ⟨W9, hW9⟩ : ∃ W9, V0.setCell ⟨w.heap.size, 0, none⟩ v9 = W9 := ⟨_, rfl⟩
        have hb9 : But (fun b => b = w.heap.size) W W9 := by rw [← hW9]; exact (But.of_all hbV _).set ⟨w.heap.size, 0, none⟩ _ (.inl rfl)
        have hx9 : W9.heap[w.heap.size]? = some (.cells #[v9] 62 (0, 0)) := by rw [← hW9]; exact heap_setCells (i := 0) ((hbV.block _ (Array.getElem?_eq_some_iff.1 HVP.out).1).trans HVP.out)
        have hpk9 : PkV w picks w.heap.size (k + 1) v9 := by
          rw [← hv9]
          refine ⟨_, cp2 - 1, by rw [show picks.length - k - 1 = picks.length - (k + 1) by omega], by omega, by omega, ?_⟩
          by_cases hl : picks.length - (k + 1) = 0
          · exact .inl hl
          · refine .inr ⟨g, o + 1, by rw [if_neg (by omega)], hgw, fun j hj hkj => ?_⟩
            have := hpcell j hj (by omega)
            rw [show o + 1 + (j - (k + 1)) = o + (j - k) by omega]
            exact this
        have hne1 : w2.heap.size ≠ w.heap.size := by omega
        have hne2 : bf ≠ w.heap.size := by omega
        have hbxl : w2.heap.size < W9.heap.size := Nat.lt_of_lt_of_le (Array.getElem?_eq_some_iff.1 HBX.out).1 hb9.size
        have hbfl : bf < W9.heap.size := Nat.lt_of_lt_of_le (Array.getElem?_eq_some_iff.1 HE4.out).1 hb9.size
        have cl9 := (hb9.cell (p := ⟨w2.heap.size, 0, none⟩) (Array.getElem?_eq_some_iff.1 HBX.out).1 hne1).trans cl
        have x09 := (hb9.cell (p := ⟨bf, 0, none⟩) (Array.getElem?_eq_some_iff.1 HE4.out).1 hne2).trans x0
        have x19 := (hb9.cell (p := ⟨bf, 1, none⟩) (Array.getElem?_eq_some_iff.1 HE4.out).1 hne2).trans x1
        have hrow9 := hb9.row hrowf (fun b e1 e2 => by
          have := ((H.out.row f hfm).lt b e1).2
          omega)
        have hset9 := fun V A' c' (hb : But (fun _ => False) W9 V) (hr : V.ownsRow W9.heap.size 5 1 (.slice A' (crN pk f) c') (crN pk f) ((f.bytes.take (crN pk f)).map byteCell)) => hset V A' c' (hb9.trans hb (fun b _ e => e.elim)) (hr.mono hb9.size)
        rw [hW9]
        have HX9 := Lib.hid hx9
        have HB9 := Lib.hid hb9
        have HPK9 := Lib.hid hpk9
        have HFIN := Lib.hid hfin
        have HC3 := Lib.hid hcr3
        clear hcr3
        clear cl x0 x1 hrowf hset hW9 hbV p0 fp0 p1 fp1 pc hHeld hx9 hb9 hpk9 hfin hv9
        have cl := cl9
        have x0 := x09
        have x1 := x19
        have hrowf := hrow9
        have hset := hset9
        clear cl9 x09 x19 hrow9 hset9
        gi_wp2
        refine wpIn_round_held (S := fun V => V.cell? ⟨w2.heap.size, 0, none⟩ = some (.pointer (some ⟨wA.heap.size + 1, 0, none⟩)) ∧ V.cell? ⟨bf, 0, none⟩ = some (.slice f.A f.bytes.length f.c) ∧ V.cell? ⟨bf, 1, none⟩ = some (.int .i64 (f.sure : Int))) rfl (by kernel_rfl) (by rintro ⟨_, _, h⟩; exact h) ⟨cl, x0, x1⟩ (fun hHeld => ?_)
        simp only [List.size_toArray, List.length_cons, List.length_nil, Nat.reduceAdd] at hHeld ⊢
        obtain ⟨Va, hVa⟩ : ∃ V, W9.drew = V := ⟨_, rfl⟩
        have hbV : Below W9.heap.size W9 Va := by rw [← hVa]; exact (Below.refl _ W9).drew
        rw [hVa] at hHeld ⊢
        clear hVa
        refine wpAnyH_take (i := 0) (v := (.pointer (some ⟨wA.heap.size + 1, 0, none⟩))) rfl (by kernel_rfl) (by kernel_rfl) (by kernel_rfl) (fun _ _ _ h => h) (Or.inl ⟨by rfl, ?_⟩) (by assumption) ?_
        · rintro wx ⟨s1, s2, s3⟩; go_simp
        try simp only [Act.put, List.setIfInBounds_toArray]
        refine wpAnyH_take (i := 1) (v := .string (strB f.name)) rfl (by kernel_rfl) (by kernel_rfl) (by kernel_rfl) (fun _ _ _ h => h) (Or.inl ⟨by rfl, ?_⟩) (by assumption) ?_
        · rintro wx ⟨s1, s2, s3⟩; go_simp
        try simp only [Act.put]
        refine wpAnyH_take (i := 2) (v := .agg #[.slice f.A f.bytes.length f.c, .int .i64 (f.sure : Int)]) rfl (by kernel_rfl) (by kernel_rfl) (by kernel_rfl) (fun _ _ _ h => h) (Or.inl ⟨by rfl, ?_⟩) (by assumption) ?_
        · rintro wx ⟨s1, s2, s3⟩; go_simp
        try simp only [Act.put]
        refine wpAnyH_take (i := 3) (v := .pointer (some ⟨bf, 1, none⟩)) rfl (by kernel_rfl) (by kernel_rfl) (by kernel_rfl) (fun _ _ _ h => h) (Or.inl ⟨by rfl, ?_⟩) (by assumption) ?_
        · rintro wx ⟨s1, s2, s3⟩; go_simp
        try simp only [Act.put]
        refine wpAnyH_take (i := 4) (v := .int .i64 (f.sure : Int)) rfl (by kernel_rfl) (by kernel_rfl) (by kernel_rfl) (fun _ _ _ h => h) (Or.inl ⟨by rfl, ?_⟩) (by assumption) ?_
        · rintro wx ⟨s1, s2, s3⟩; go_simp
        try simp only [Act.put]
        refine wpAnyH_take (i := 5) (v := .int .i64 pk) rfl (by kernel_rfl) (by kernel_rfl) (by kernel_rfl) (fun _ _ _ h => h) (Or.inl ⟨by rfl, ?_⟩) (by assumption) ?_
        · rintro wx ⟨s1, s2, s3⟩; go_simp
        try simp only [Act.put]
        refine wpAnyH_take (i := 6) (v := .int .i64 ((f.bytes.length : Int) - (f.sure : Int))) rfl (by kernel_rfl) (by kernel_rfl) (by kernel_rfl) (fun _ _ _ h => h) (Or.inl ⟨by rfl, ?_⟩) (by assumption) ?_
        · rintro wx ⟨s1, s2, s3⟩; go_simp
        try simp only [Act.put]
        refine wpAnyH_take (i := 7) (v := .int .i64 ((f.bytes.length : Int) - (f.sure : Int) + 1)) rfl (by kernel_rfl) (by kernel_rfl) (by kernel_rfl) (fun _ _ _ h => h) (Or.inl ⟨by rfl, ?_⟩) (by assumption) ?_
        · rintro wx ⟨s1, s2, s3⟩; go_simp; rw [wrap_small _ (by omega) (by omega)]
        try simp only [Act.put]
        refine wpAnyH_ready (rs := [8]) (by kernel_rfl) (by simp) (AllReadyH.cons rfl (fun K hK => ?_) AllReadyH.nil)
        go_simp
        go_at_call 43
        (with_reducible refine (picked_any pk ((f.bytes.length : Int) - (f.sure : Int) + 1) Va (by omega) (by omega)).mono ?_)
        rintro e V1 ⟨rfl, rfl⟩
        refine hK.out _ _ hHeld (fun _ => ?_)
        clear hK K
        try simp only [Act.put, List.setIfInBounds_toArray, List.set_cons_zero, List.set_cons_succ]
        refine wpAnyH_take (i := 9) (v := .int .i64 ((crN pk f : Nat) : Int)) rfl (by kernel_rfl) (by kernel_rfl) (by kernel_rfl) (fun _ _ _ h => h) (Or.inl ⟨by rfl, ?_⟩) (by assumption) ?_
        · rintro wx ⟨s1, s2, s3⟩; go_simp; rw [HC3.out]; rw [wrap_small _ (by have := HC3.out; omega) (by have := HC3.out; omega)]
        try simp only [Act.put, List.setIfInBounds_toArray]
        refine wpAnyH_ready (rs := [10]) (by kernel_rfl) (by simp) (AllReadyH.cons rfl (fun K hK => ?_) AllReadyH.nil)
        go_simp
        go_at_call 42
        (with_reducible refine (cut_any f.A f.bytes f.sure (crN pk f) Va (own_below hrowf hbV) hcr2 (by omega)).mono ?_)
        rintro e V2 ⟨A2, c2, rfl, hown2, hb2⟩
        have hmn : min f.sure (crN pk f) = f.sure := by omega
        rw [hmn]
        have hb02 : Below W9.heap.size W9 V2 := hbV.trans (hb2.mono hbV.size)
        have hS2 : V2.cell? ⟨w2.heap.size, 0, none⟩ = some (.pointer (some ⟨wA.heap.size + 1, 0, none⟩)) ∧ V2.cell? ⟨bf, 0, none⟩ = some (.slice f.A f.bytes.length f.c) ∧ V2.cell? ⟨bf, 1, none⟩ = some (.int .i64 (f.sure : Int)) := ⟨(hb02.cell (p := ⟨w2.heap.size, 0, none⟩) hbxl).trans cl, (hb02.cell (p := ⟨bf, 0, none⟩) hbfl).trans x0, (hb02.cell (p := ⟨bf, 1, none⟩) hbfl).trans x1⟩
        refine hK.out _ _ hS2 (fun _ => ?_)
        clear hK K
        try simp only [Act.put, List.setIfInBounds_toArray, List.set_cons_zero, List.set_cons_succ]
        refine wpAnyH_ready (rs := [11]) (by kernel_rfl) (by simp) (AllReadyH.cons rfl (fun K hK => ?_) AllReadyH.nil)
        go_simp
        go_at_call 44
        (with_reducible refine (synced_any A2 (f.sure : Int) V2).mono ?_)
        rintro e V3 ⟨rfl, hb3⟩
        have hb03 : Below W9.heap.size W9 V3 := hb02.trans (hb3.mono hb02.size)
        have hS3 : V3.cell? ⟨w2.heap.size, 0, none⟩ = some (.pointer (some ⟨wA.heap.size + 1, 0, none⟩)) ∧ V3.cell? ⟨bf, 0, none⟩ = some (.slice f.A f.bytes.length f.c) ∧ V3.cell? ⟨bf, 1, none⟩ = some (.int .i64 (f.sure : Int)) := ⟨(hb03.cell (p := ⟨w2.heap.size, 0, none⟩) hbxl).trans cl, (hb03.cell (p := ⟨bf, 0, none⟩) hbfl).trans x0, (hb03.cell (p := ⟨bf, 1, none⟩) hbfl).trans x1⟩
        refine hK.out _ _ hS3 (fun _ => ?_)
        clear hK K
        try simp only [Act.put, List.setIfInBounds_toArray, List.set_cons_zero, List.set_cons_succ]
        refine wpAnyH_ready (rs := [12]) (by kernel_rfl) (by simp) (AllReadyH.cons rfl (fun K hK => ?_) AllReadyH.nil)
        go_simp
        go_at_call 41
        (with_reducible refine (hset V3 A2 c2 (But.of_all hb03 _) ((own_below hown2 hb3).mono hbV.size)).mono ?_)
        rintro e V4 ⟨rfl, f2, hdat, hD4, hnb, hb4⟩
        have hb04 : But (fun b => b = wA.heap.size + 1 ∨ b = wA.heap.size) W9 V4 := (But.of_all hb03 _).trans hb4 (fun b _ e => e)
        refine hK.out _ _ ⟨(hb04.cell (p := ⟨w2.heap.size, 0, none⟩) hbxl (fun e => by rcases e with e | e <;> (simp at e; omega))).trans cl, (hb04.cell (p := ⟨bf, 0, none⟩) hbfl (fun e => by rcases e with e | e <;> (simp at e; omega))).trans x0, (hb04.cell (p := ⟨bf, 1, none⟩) hbfl (fun e => by rcases e with e | e <;> (simp at e; omega))).trans x1⟩ (fun _ => ?_)
        clear hK K
        refine wpAnyH_done (by kernel_rfl) ?_ _
        exact HFIN.out V4 f2 hdat hD4 (fun b e => ⟨(hnb b e).1, Nat.lt_of_lt_of_le (hnb b e).2 hb4.size⟩) ((HB9.out.mono (fun b _ e => by omega)).trans hb04 (fun b _ e => by omega)) ⟨v9, hb04.box HX9.out (fun e => by omega), HPK9.out⟩
      · go_simp
        refine hK.out _ _ hHeld (fun _ => ?_)
        clear hK K
        try simp only [Act.put, List.setIfInBounds_toArray, List.set_cons_zero, List.set_cons_succ]
        refine wpAnyH_take (i := 4) (v := (.slice (if cp2 = 1 then some ⟨g, o, none⟩ else some ⟨g, o + 1, none⟩) (picks.length - k - 1) (cp2 - 1))) rfl (by kernel_rfl) (by kernel_rfl) (by kernel_rfl) (fun _ _ _ h => h) (Or.inl ⟨by rfl, ?_⟩) (by assumption) ?_
        · intro wx s1; go_simp; intro hc; omega
        try simp only [Act.put, List.setIfInBounds_toArray]
        refine wpAnyH_ready (rs := [0]) (by kernel_rfl) (by simp) (AllReadyH.cons rfl (fun K hK => ?_) AllReadyH.nil)
        go_simp
        refine hK.out _ _ hHeld (fun _ => ?_)
        clear hK K
        try simp only [Act.put, List.setIfInBounds_toArray, List.set_cons_zero, List.set_cons_succ]
        refine wpAnyH_take (i := 1) (v := .pointer (some ⟨g, o, none⟩)) rfl (by kernel_rfl) (by kernel_rfl) (by kernel_rfl) (fun _ _ _ h => h) (Or.inl ⟨by rfl, ?_⟩) (by assumption) ?_
        · intro wx s1; go_simp
        try simp only [Act.put, List.setIfInBounds_toArray]
        refine wpAnyH_take (i := 2) (v := .int .i64 pk) rfl (by kernel_rfl) (by kernel_rfl) (by kernel_rfl) (fun _ _ _ h => h) (Or.inl ⟨by rfl, ?_⟩) (by assumption) ?_
        · intro wx s1; go_simp
        try simp only [Act.put]
        refine wpAnyH_take (i := 5) (v := .int .i64 pk) rfl (by kernel_rfl) (by kernel_rfl) (by kernel_rfl) (fun _ _ _ h => h) (Or.inl ⟨by rfl, ?_⟩) (by assumption) ?_
        · intro wx s1; go_simp
        try simp only [Act.put]
        refine wpAnyH_ready (rs := [6]) (by kernel_rfl) (by simp) (AllReadyH.cons rfl (fun K hK => ?_) AllReadyH.nil)
        go_simp
        refine hK.out _ _ ((World.cell?_of_block (Below.heap_setCell V0 ⟨w.heap.size, 0, none⟩ _ g (by simp; omega))).trans hHeld) (fun _ => ?_)
        clear hK K
        refine wpAnyH_done (by kernel_rfl) ?_ _
        obtain ⟨v9, hv9⟩ : ∃ v9, (Value.slice (if cp2 = 1 then some ⟨g, o, none⟩ else some ⟨g, o + 1, none⟩) (picks.length - k - 1) (cp2 - 1)) = v9 := ⟨_, rfl⟩
        rw [hv9]
        obtain ⟨W9, hW9⟩ : ∃ W9, V0.setCell ⟨w.heap.size, 0, none⟩ v9 = W9 := ⟨_, rfl⟩
        have hb9 : But (fun b => b = w.heap.size) W W9 := by rw [← hW9]; exact (But.of_all hbV _).set ⟨w.heap.size, 0, none⟩ _ (.inl rfl)
        have hx9 : W9.heap[w.heap.size]? = some (.cells #[v9] 62 (0, 0)) := by rw [← hW9]; exact heap_setCells (i := 0) ((hbV.block _ (Array.getElem?_eq_some_iff.1 HVP.out).1).trans HVP.out)
        have hpk9 : PkV w picks w.heap.size (k + 1) v9 := by
          rw [← hv9]
          refine ⟨_, cp2 - 1, by rw [show picks.length - k - 1 = picks.length - (k + 1) by omega], by omega, by omega, ?_⟩
          by_cases hl : picks.length - (k + 1) = 0
          · exact .inl hl
          · refine .inr ⟨g, o + 1, by rw [if_neg (by omega)], hgw, fun j hj hkj => ?_⟩
            have := hpcell j hj (by omega)
            rw [show o + 1 + (j - (k + 1)) = o + (j - k) by omega]
            exact this
        have hne1 : w2.heap.size ≠ w.heap.size := by omega
        have hne2 : bf ≠ w.heap.size := by omega
        have hbxl : w2.heap.size < W9.heap.size := Nat.lt_of_lt_of_le (Array.getElem?_eq_some_iff.1 HBX.out).1 hb9.size
        have hbfl : bf < W9.heap.size := Nat.lt_of_lt_of_le (Array.getElem?_eq_some_iff.1 HE4.out).1 hb9.size
        have cl9 := (hb9.cell (p := ⟨w2.heap.size, 0, none⟩) (Array.getElem?_eq_some_iff.1 HBX.out).1 hne1).trans cl
        have x09 := (hb9.cell (p := ⟨bf, 0, none⟩) (Array.getElem?_eq_some_iff.1 HE4.out).1 hne2).trans x0
        have x19 := (hb9.cell (p := ⟨bf, 1, none⟩) (Array.getElem?_eq_some_iff.1 HE4.out).1 hne2).trans x1
        have hrow9 := hb9.row hrowf (fun b e1 e2 => by
          have := ((H.out.row f hfm).lt b e1).2
          omega)
        have hset9 := fun V A' c' (hb : But (fun _ => False) W9 V) (hr : V.ownsRow W9.heap.size 5 1 (.slice A' (crN pk f) c') (crN pk f) ((f.bytes.take (crN pk f)).map byteCell)) => hset V A' c' (hb9.trans hb (fun b _ e => e.elim)) (hr.mono hb9.size)
        rw [hW9]
        have HX9 := Lib.hid hx9
        have HB9 := Lib.hid hb9
        have HPK9 := Lib.hid hpk9
        have HFIN := Lib.hid hfin
        have HC3 := Lib.hid hcr3
        clear hcr3
        clear cl x0 x1 hrowf hset hW9 hbV p0 fp0 p1 fp1 pc hHeld hx9 hb9 hpk9 hfin hv9
        have cl := cl9
        have x0 := x09
        have x1 := x19
        have hrowf := hrow9
        have hset := hset9
        clear cl9 x09 x19 hrow9 hset9
        gi_wp2
        refine wpIn_round_held (S := fun V => V.cell? ⟨w2.heap.size, 0, none⟩ = some (.pointer (some ⟨wA.heap.size + 1, 0, none⟩)) ∧ V.cell? ⟨bf, 0, none⟩ = some (.slice f.A f.bytes.length f.c) ∧ V.cell? ⟨bf, 1, none⟩ = some (.int .i64 (f.sure : Int))) rfl (by kernel_rfl) (by rintro ⟨_, _, h⟩; exact h) ⟨cl, x0, x1⟩ (fun hHeld => ?_)
        simp only [List.size_toArray, List.length_cons, List.length_nil, Nat.reduceAdd] at hHeld ⊢
        obtain ⟨Va, hVa⟩ : ∃ V, W9.drew = V := ⟨_, rfl⟩
        have hbV : Below W9.heap.size W9 Va := by rw [← hVa]; exact (Below.refl _ W9).drew
        rw [hVa] at hHeld ⊢
        clear hVa
        refine wpAnyH_take (i := 0) (v := (.pointer (some ⟨wA.heap.size + 1, 0, none⟩))) rfl (by kernel_rfl) (by kernel_rfl) (by kernel_rfl) (fun _ _ _ h => h) (Or.inl ⟨by rfl, ?_⟩) (by assumption) ?_
        · rintro wx ⟨s1, s2, s3⟩; go_simp
        try simp only [Act.put, List.setIfInBounds_toArray]
        refine wpAnyH_take (i := 1) (v := .string (strB f.name)) rfl (by kernel_rfl) (by kernel_rfl) (by kernel_rfl) (fun _ _ _ h => h) (Or.inl ⟨by rfl, ?_⟩) (by assumption) ?_
        · rintro wx ⟨s1, s2, s3⟩; go_simp
        try simp only [Act.put]
        refine wpAnyH_take (i := 2) (v := .agg #[.slice f.A f.bytes.length f.c, .int .i64 (f.sure : Int)]) rfl (by kernel_rfl) (by kernel_rfl) (by kernel_rfl) (fun _ _ _ h => h) (Or.inl ⟨by rfl, ?_⟩) (by assumption) ?_
        · rintro wx ⟨s1, s2, s3⟩; go_simp
        try simp only [Act.put]
        refine wpAnyH_take (i := 3) (v := .pointer (some ⟨bf, 1, none⟩)) rfl (by kernel_rfl) (by kernel_rfl) (by kernel_rfl) (fun _ _ _ h => h) (Or.inl ⟨by rfl, ?_⟩) (by assumption) ?_
        · rintro wx ⟨s1, s2, s3⟩; go_simp
        try simp only [Act.put]
        refine wpAnyH_take (i := 4) (v := .int .i64 (f.sure : Int)) rfl (by kernel_rfl) (by kernel_rfl) (by kernel_rfl) (fun _ _ _ h => h) (Or.inl ⟨by rfl, ?_⟩) (by assumption) ?_
        · rintro wx ⟨s1, s2, s3⟩; go_simp
        try simp only [Act.put]
        refine wpAnyH_take (i := 5) (v := .int .i64 pk) rfl (by kernel_rfl) (by kernel_rfl) (by kernel_rfl) (fun _ _ _ h => h) (Or.inl ⟨by rfl, ?_⟩) (by assumption) ?_
        · rintro wx ⟨s1, s2, s3⟩; go_simp
        try simp only [Act.put]
        refine wpAnyH_take (i := 6) (v := .int .i64 ((f.bytes.length : Int) - (f.sure : Int))) rfl (by kernel_rfl) (by kernel_rfl) (by kernel_rfl) (fun _ _ _ h => h) (Or.inl ⟨by rfl, ?_⟩) (by assumption) ?_
        · rintro wx ⟨s1, s2, s3⟩; go_simp
        try simp only [Act.put]
        refine wpAnyH_take (i := 7) (v := .int .i64 ((f.bytes.length : Int) - (f.sure : Int) + 1)) rfl (by kernel_rfl) (by kernel_rfl) (by kernel_rfl) (fun _ _ _ h => h) (Or.inl ⟨by rfl, ?_⟩) (by assumption) ?_
        · rintro wx ⟨s1, s2, s3⟩; go_simp; rw [wrap_small _ (by omega) (by omega)]
        try simp only [Act.put]
        refine wpAnyH_ready (rs := [8]) (by kernel_rfl) (by simp) (AllReadyH.cons rfl (fun K hK => ?_) AllReadyH.nil)
        go_simp
        go_at_call 43
        (with_reducible refine (picked_any pk ((f.bytes.length : Int) - (f.sure : Int) + 1) Va (by omega) (by omega)).mono ?_)
        rintro e V1 ⟨rfl, rfl⟩
        refine hK.out _ _ hHeld (fun _ => ?_)
        clear hK K
        try simp only [Act.put, List.setIfInBounds_toArray, List.set_cons_zero, List.set_cons_succ]
        refine wpAnyH_take (i := 9) (v := .int .i64 ((crN pk f : Nat) : Int)) rfl (by kernel_rfl) (by kernel_rfl) (by kernel_rfl) (fun _ _ _ h => h) (Or.inl ⟨by rfl, ?_⟩) (by assumption) ?_
        · rintro wx ⟨s1, s2, s3⟩; go_simp; rw [HC3.out]; rw [wrap_small _ (by have := HC3.out; omega) (by have := HC3.out; omega)]
        try simp only [Act.put, List.setIfInBounds_toArray]
        refine wpAnyH_ready (rs := [10]) (by kernel_rfl) (by simp) (AllReadyH.cons rfl (fun K hK => ?_) AllReadyH.nil)
        go_simp
        go_at_call 42
        (with_reducible refine (cut_any f.A f.bytes f.sure (crN pk f) Va (own_below hrowf hbV) hcr2 (by omega)).mono ?_)
        rintro e V2 ⟨A2, c2, rfl, hown2, hb2⟩
        have hmn : min f.sure (crN pk f) = f.sure := by omega
        rw [hmn]
        have hb02 : Below W9.heap.size W9 V2 := hbV.trans (hb2.mono hbV.size)
        have hS2 : V2.cell? ⟨w2.heap.size, 0, none⟩ = some (.pointer (some ⟨wA.heap.size + 1, 0, none⟩)) ∧ V2.cell? ⟨bf, 0, none⟩ = some (.slice f.A f.bytes.length f.c) ∧ V2.cell? ⟨bf, 1, none⟩ = some (.int .i64 (f.sure : Int)) := ⟨(hb02.cell (p := ⟨w2.heap.size, 0, none⟩) hbxl).trans cl, (hb02.cell (p := ⟨bf, 0, none⟩) hbfl).trans x0, (hb02.cell (p := ⟨bf, 1, none⟩) hbfl).trans x1⟩
        refine hK.out _ _ hS2 (fun _ => ?_)
        clear hK K
        try simp only [Act.put, List.setIfInBounds_toArray, List.set_cons_zero, List.set_cons_succ]
        refine wpAnyH_ready (rs := [11]) (by kernel_rfl) (by simp) (AllReadyH.cons rfl (fun K hK => ?_) AllReadyH.nil)
        go_simp
        go_at_call 44
        (with_reducible refine (synced_any A2 (f.sure : Int) V2).mono ?_)
        rintro e V3 ⟨rfl, hb3⟩
        have hb03 : Below W9.heap.size W9 V3 := hb02.trans (hb3.mono hb02.size)
        have hS3 : V3.cell? ⟨w2.heap.size, 0, none⟩ = some (.pointer (some ⟨wA.heap.size + 1, 0, none⟩)) ∧ V3.cell? ⟨bf, 0, none⟩ = some (.slice f.A f.bytes.length f.c) ∧ V3.cell? ⟨bf, 1, none⟩ = some (.int .i64 (f.sure : Int)) := ⟨(hb03.cell (p := ⟨w2.heap.size, 0, none⟩) hbxl).trans cl, (hb03.cell (p := ⟨bf, 0, none⟩) hbfl).trans x0, (hb03.cell (p := ⟨bf, 1, none⟩) hbfl).trans x1⟩
        refine hK.out _ _ hS3 (fun _ => ?_)
        clear hK K
        try simp only [Act.put, List.setIfInBounds_toArray, List.set_cons_zero, List.set_cons_succ]
        refine wpAnyH_ready (rs := [12]) (by kernel_rfl) (by simp) (AllReadyH.cons rfl (fun K hK => ?_) AllReadyH.nil)
        go_simp
        go_at_call 41
        (with_reducible refine (hset V3 A2 c2 (But.of_all hb03 _) ((own_below hown2 hb3).mono hbV.size)).mono ?_)
        rintro e V4 ⟨rfl, f2, hdat, hD4, hnb, hb4⟩
        have hb04 : But (fun b => b = wA.heap.size + 1 ∨ b = wA.heap.size) W9 V4 := (But.of_all hb03 _).trans hb4 (fun b _ e => e)
        refine hK.out _ _ ⟨(hb04.cell (p := ⟨w2.heap.size, 0, none⟩) hbxl (fun e => by rcases e with e | e <;> (simp at e; omega))).trans cl, (hb04.cell (p := ⟨bf, 0, none⟩) hbfl (fun e => by rcases e with e | e <;> (simp at e; omega))).trans x0, (hb04.cell (p := ⟨bf, 1, none⟩) hbfl (fun e => by rcases e with e | e <;> (simp at e; omega))).trans x1⟩ (fun _ => ?_)
        clear hK K
        refine wpAnyH_done (by kernel_rfl) ?_ _
        exact HFIN.out V4 f2 hdat hD4 (fun b e => ⟨(hnb b e).1, Nat.lt_of_lt_of_le (hnb b e).2 hb4.size⟩) ((HB9.out.mono (fun b _ e => by omega)).trans hb04 (fun b _ e => by omega)) ⟨v9, hb04.box HX9.out (fun e => by omega), HPK9.out⟩
  case done =>
    rintro M k W rfl hM hI hdf
    have hbx := hI.but.box HBL.out (fun e => by omega)
    have cl := cell_of_heap hbx 0
    simp only [List.getElem?_toArray, List.getElem?_cons_zero] at cl
    obtain ⟨G2, hD2, hd2, hin2⟩ := hI.d
    have hbt := hI.but
    have HD2 := Lib.hid hD2
    have HBT := Lib.hid hbt
    clear hI hD2 hbx hbt
    gi_wp2
    go_wp2
    have hput := put_but W w5.heap.size (.deferred none)
    have hDf : DAt (W.putObj w5.heap.size (.deferred none)) (wA.heap.size + 1) wA.heap.size (wA.heap.size + 2) ⟨false, 0, false, s.room⟩ G2 := HD2.out.but hput (fun b e => ⟨by omega, by omega, fun f hf e2 => by
      have := (hM b (hin2 f hf b e2)).1
      omega⟩)
    have hbf : Below w.heap.size w (W.putObj w5.heap.size (.deferred none)) := HB15.out.trans ((HBT.out.trans hput (fun b _ e => Or.inr (by omega))).to_below HB15.out.size (fun b e => by have := HB15.out.size; omega))
    have hcr : G2.map datF = crL picks 0 G := by rw [hd2, List.take_of_length_le (by rw [crL_length]; exact Nat.le_refl _)]
    exact retM1 (v := .tuple #[.pointer (some ⟨wA.heap.size + 1, 0, none⟩), .int .i64 0]) rfl hdf (by simp [results, Try.results14, go_sem]) ⟨_, _, _, G2, rfl, hDf, hcr, by omega, by omega, by omega, hbf⟩
  case stop =>
    rintro c M k W _ _ h
    exact h.elim
end Go.Proofs
