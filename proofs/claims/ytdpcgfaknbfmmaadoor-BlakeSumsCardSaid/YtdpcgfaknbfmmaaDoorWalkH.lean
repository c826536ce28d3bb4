/-
  The contract of the state's take.
-/
import Derived.Test.YtdpcgfaknbfmmaaDoorItrB
import Derived.Test.YtdpcgfaknbfmmaaDoorWalkG
namespace Go.Proofs
open Go.RowKit Sm
attribute [local go_sem] Oper.semAt_some
/-- a state in memory, told by its words and the bytes that wait -/
def Sm.StH (w : World) (g : Nat) (t : TypeId) (s : HS) (tail : List Value) : Prop := St w g t s.ws s.p (pad s.cur) s.cur.length tail
/-- what the loop over blocks keeps -/
structure Sm.TkI (w : World) (g : Nat) (t : TypeId) (ws : List (BitVec 32)) (p : Nat) (cur all : List (BitVec 8)) (tail : List Value) (Sb k : Nat) (W : World) : Prop where
  le : k ≤ cnt all
  st : St W g t (pressK ws p all k) (p + 64 * k) (pad cur) cur.length tail
  box : Blk W Sb 0x6a #[.pointer (some ⟨g, 0, none⟩)]
  keep : But (fun b => b = g) w W
def Sm.TkX (w : World) (g : Nat) (t : TypeId) (ws : List (BitVec 32)) (p : Nat) (all : List (BitVec 8)) (tail : List Value) (c : Code) (_k : Nat) (W : World) : Prop :=
  c = .exit 0 ∧ St W g t (pressK ws p all (cnt all)) (p + 64 * cnt all) (pad (chunk all (cnt all))) (chunk all (cnt all)).length tail ∧ But (fun b => b = g) w W
/-- how the loop's two variables stand -/
def Sm.TkA (g Sb lo : Nat) (v1 v9 v11 : Value) (args : Array Value) (a' : Act) (W : World) : Prop :=
  ∃ (Bv : Array Value) (bb : Bool) (Pb : Nat), args = #[.agg Bv, .bool bb] ∧ lo ≤ Pb ∧ Blk W Pb 0x2f Bv ∧
    a' = { tmps := #[.pointer (some ⟨g, 0, none⟩), v1, .pointer (some ⟨Sb, 0, none⟩), undef, .pointer (some ⟨Pb, 0, none⟩), .bool bb, .pointer (some ⟨g, 0, none⟩), .pointer (some ⟨g, 0, none⟩), .pointer (some ⟨g, 9, none⟩), v9, v1, v11, .agg Bv, .bool bb, undef, undef, undef, undef, undef, undef, undef, undef, undef], defers := [] }
set_option maxRecDepth 100000 in
set_option maxHeartbeats 4000000 in
theorem Sm.take_any (g : Nat) (t : TypeId) (ws : List (BitVec 32)) (p : Nat) (cur : List (BitVec 8)) (tail : List Value) (A : Option Addr) (n c : Nat) (ps : List Pt) (w : World)
    (h : St w g t ws p (pad cur) cur.length tail) (hcur : cur.length ≤ 64) (hps : PsOK w g A n ps) (hr : n ≤ c) (hg : 3 ≤ g) (ht : Tabs w) (hp : p + (cur ++ joinP ps).length ≤ 1000000000) :
    Calls Tryd.prog 49 #[.pointer (some ⟨g, 0, none⟩), .slice A n c] w fun e w' => (∃ v, e = .returned v) ∧ StH w' g t (takeS ⟨ws, p, cur⟩ (joinP ps)) tail ∧ But (fun b => b = g) w w' := by
  have hglt := h.blk.lt
  have hpl : (pad cur).length = 64 := pad_length cur hcur
  have hz50 := (zero_of_info z50).1
  obtain ⟨W1, hW1⟩ : ∃ W1, w.alloc (.cells #[.pointer (some ⟨g, 0, none⟩)] 0x6a) = W1 := ⟨_, rfl⟩
  have hb1 : Below w.heap.size w W1 := by rw [← hW1]; exact (Below.refl _ w).alloc (Nat.le_refl _) _
  have hs1 : Blk W1 w.heap.size 0x6a #[.pointer (some ⟨g, 0, none⟩)] := by rw [← hW1]; exact Blk.new w 0x6a _
  have hst1 := h.keep hb1
  have HST1 := Lib.hid hst1
  have HPL := Lib.hid hpl
  have c1 := hs1.cell 0
  simp only [List.getElem?_toArray, List.getElem?_cons_zero] at c1
  have H1 := Lib.hid hs1
  clear hst1 hpl hs1
  refine (callsIn_wide (n := 3)).1 ?_
  refine callsIn_of_wp_marks Tryd.func49 rfl trivial ?_ rfl
  simp only [Tryd.ntmps49, List.size_toArray, List.length_cons, List.length_nil, Nat.reduceAdd, Nat.reduceSub, Array.replicate_succ, Array.replicate_zero, List.push_toArray, List.append_toArray, List.nil_append, List.cons_append]
  gi_wp2
  refine wpIn_wide.2 (wp_scope_straight ((wpIn_wide (n := 3)).1 ?_))
  gi_wp2
  refine wpIn_label ?_
  gi_wp2_with (first
    | (refine wpListIn_load_mid rfl 0x2f _ rfl g 9 rfl (blc (pad cur) cur.length) _ HST1.out.rangeB Tryd.underlying47 rfl (i50 _ _ HPL.out) ?_)
    | ((try refine ⟨trivial, ?_⟩); gi_at_call 62; refine (callsIn_wide.2 (blocks_any _ _ _ _ _)).mono ?_; rintro e w' ⟨rfl, rfl⟩))
  have hc0 : cnt cur = 0 := by unfold cnt; omega
  have hcb : curB cur = cur := by unfold curB; rw [chunk_last, hc0]; rfl
  obtain ⟨all, hall⟩ : ∃ all, cur ++ joinP ps = all := ⟨_, rfl⟩
  obtain ⟨W2, hW2⟩ : ∃ W2, (W1.alloc (.cells (blc (pad cur) cur.length).toArray 0x2f)).alloc (.cells #[.slice A n c] 0x1d) = W2 := ⟨_, rfl⟩
  have hb2 : Below W1.heap.size W1 W2 := by rw [← hW2]; exact ((Below.refl _ W1).alloc (Nat.le_refl _) _).alloc (by simp) _
  have hbw : Below w.heap.size w W2 := hb1.trans (hb2.mono hb1.size)
  have hcap : CapB W2 g W1.heap.size (W1.heap.size + 1) cur A n c ps := by
    refine ⟨?_, ?_, hps.keep hbw, hr⟩
    · unfold blkV
      rw [hcb, ← hW2]
      exact (Blk.new W1 0x2f _).alloc _
    · rw [← hW2]
      exact Blk.newAt (X := W1.alloc (.cells (blc (pad cur) cur.length).toArray 0x2f)) (by simp) 0x1d _
  have hs2 := H1.out.keep hb2
  have hst2 := h.keep hbw
  have hlt2 := hs2.lt
  have hsz2 := hb2.size
  have hsz1 := hb1.size
  have hgW2 : g < W2.heap.size := hst2.blk.lt
  have hgS : g ≠ w.heap.size := by omega
  have hI0 : TkI w g t ws p cur all tail w.heap.size 0 W2 := ⟨Nat.zero_le _, hst2, hs2, But.of_all hbw _⟩
  rw [hW2]
  have HCAP := Lib.hid hcap
  have HALL := Lib.hid hall
  have hpb : p + all.length ≤ 1000000000 := by rw [← hall]; exact hp
  clear hW2 hcap hc0 hcb hs2 hst2 hall hW1 c1
  refine wpIn_range (gf := 71) (lb := #[.pointer (some ⟨W1.heap.size, 0, none⟩), .pointer (some ⟨W1.heap.size + 1, 0, none⟩)]) rfl (enters_of Tryd.func71 (by kernel_rfl) rfl)
    (blocks_seq g W1.heap.size (W1.heap.size + 1) cur A n c ps all W2 hcur HALL.out HCAP.out (by omega) hgW2)
    (fun b e => by omega) ?hH ?hrow ?hps (fun k W => TkI w g t ws p cur all tail w.heap.size k W) (fun c k W => TkX w g t ws p all tail c k W) ?hI ?hIx hI0
    (TkA g w.heap.size (W2.heap.size + 2) (.slice A n c) (.agg (blc (pad cur) cur.length).toArray) (.func (.func 71) #[] #[.pointer (some ⟨W1.heap.size, 0, none⟩), .pointer (some ⟨W1.heap.size + 1, 0, none⟩)])) ?hAx ?assign ?body ?done ?stop
  case hH => exact fun k args W W' hh _ => hh
  case hrow => exact fun k args W b _ e => e.elim
  case hps =>
    rintro k args W ⟨_, rfl⟩
    rfl
  case hI =>
    rintro k W W' ⟨i1, i2, i3, i4⟩ hb
    exact ⟨i1, i2.but (But.of_below hb) (by omega), i3.below hb (by omega), i4.trans (But.of_below hb) (fun b hb' e => by omega)⟩
  case hIx =>
    rintro c k W W' ⟨rfl, i2, i4⟩ hb
    exact ⟨rfl, i2.but (But.of_below hb) (by omega), i4.trans (But.of_below hb) (fun b hb' e => by omega)⟩
  case hAx =>
    rintro args a' W W' ⟨Bv, bb, Pb, e1, e2, e3, e4⟩ hb
    exact ⟨Bv, bb, Pb, e1, e2, e3.but hb (by omega), e4⟩
  case assign =>
    rintro l0 k args W K hsz hI ⟨hk, rfl⟩ hK
    have hpl := pad_length _ (chunk_le all k)
    obtain ⟨bl, hbl⟩ : ∃ bl, pad (chunk all k) = bl := ⟨_, rfl⟩
    obtain ⟨sz, hsz'⟩ : ∃ sz, (chunk all k).length = sz := ⟨_, rfl⟩
    rw [hbl] at hpl hK ⊢
    rw [hsz'] at hK ⊢
    obtain ⟨bb, hbb⟩ : ∃ bb, decide (k = cnt all) = bb := ⟨_, rfl⟩
    rw [hbb] at hK ⊢
    have HP2 := Lib.hid hpl
    clear hbl hsz' hbb hpl hI
    gi_wp2_with (refine wpListIn_store_row rfl 0x2f _ _ rfl W.heap.size (blc bl sz).toArray rfl rfl 0x2f _ (World.alloc_heap_new W _) (by rw [List.size_toArray]; exact i50 _ _ HP2.out) (z50_size HP2.out) (all_oneCell_toArray (blc_one _ _)) ?_)
    exact hK _ _ (below_setRow ((Below.refl _ W).alloc (Nat.le_refl _) _) (Nat.le_refl _) _) ⟨_, bb, W.heap.size, rfl, hsz, setRow_heap _ _ _ _ _ _ (World.alloc_heap_new W _), rfl⟩
  case body =>
    rintro l0 k args a' W hsz ⟨i1, i2, i3, i4⟩ ⟨hk, rfl⟩ ⟨Bv, bb, Pb, e1, e2, e3, rfl⟩
    simp only [Array.mk.injEq, List.cons.injEq, Value.agg.injEq, Value.bool.injEq, and_true] at e1
    obtain ⟨rfl, rfl⟩ := e1
    have hpl := pad_length _ (chunk_le all k)
    have c1 := i3.cell 0
    simp only [List.getElem?_toArray, List.getElem?_cons_zero] at c1
    have HP2 := Lib.hid hpl
    have H2 := Lib.hid i2
    have H3 := Lib.hid e3
    have H4 := Lib.hid i4
    have HS3 := Lib.hid i3
    clear hpl i2 e3 i4 i3
    by_cases hl : k = cnt all
    · have hbb : decide (k = cnt all) = true := decide_eq_true hl
      rw [hbb]
      have HLl := Lib.hid hl
      clear hl hbb
      gi_wp2_with (first
        | (refine wpListIn_load_mid rfl 0x2f _ rfl Pb 0 rfl (blc (pad (chunk all k)) (chunk all k).length) _ H3.out.range Tryd.underlying47 rfl (i50 _ _ HP2.out) ?_)
        | (refine wpListIn_store_mid rfl 0x2f _ _ rfl g 9 (blc (pad (chunk all k)) (chunk all k).length).toArray rfl rfl (H2.out.thereN 9 _ (by rw [List.size_toArray, blc_length, HP2.out]; decide)) (by rw [List.size_toArray]; exact i50 _ _ HP2.out) (all_oneCell_toArray (blc_one _ _)) ?_))
      have hbs := but_setCells g (blc (pad (chunk all k)) (chunk all k).length) 9 W
      refine ⟨hbs.mono (fun b _ e => .inl e), rfl, ?_, H4.out.trans hbs (fun _ _ e => e)⟩
      rw [← HLl.out]
      exact H2.out.setB (pad (chunk all k)) (chunk all k).length HP2.out
    · have hbb : decide (k = cnt all) = false := decide_eq_false hl
      rw [hbb]
      have hlt : k < cnt all := by omega
      have hfull := chunk_full' all k hlt
      have htW : Tabs W := by
        have : Below (min g w.heap.size) w W := ⟨H4.out.os, H4.out.tape, H4.out.output, H4.out.size, fun b hb => H4.out.block b (by omega) (by omega)⟩
        exact ht.below this (by have := ht.size; omega)
      have hcl := pressM_any g t (pressK ws p all k) (p + 64 * k) (pad cur) cur.length tail (pad (chunk all k)) (chunk all k).length false W H2.out HP2.out (by omega) (by unfold cnt at hlt; omega) hg htW
      have HCL := Lib.hid hcl
      have HF := Lib.hid hfull
      clear hl hbb hfull hcl htW
      gi_wp2_with (first
        | (refine wpListIn_load_mid rfl 0x2f _ rfl Pb 0 rfl (blc (pad (chunk all k)) (chunk all k).length) _ H3.out.range Tryd.underlying47 rfl (i50 _ _ HP2.out) ?_)
        | ((try refine ⟨trivial, ?_⟩); gi_at_call 63; refine (CallsIn.inRound l0 (callsIn_wide.2 HCL.out)).mono ?_; rintro e w5 ⟨⟨v5, rfl⟩, hst5, hb5⟩))
      refine ⟨trivial, hb5.mono (fun b _ e => .inl e), hlt, ?_, HS3.out.but hb5 (by omega), H4.out.trans hb5 (fun _ _ e => e)⟩
      rw [pressK]
      rw [HF.out] at hst5
      have e6 : p + 64 * k + 64 = p + 64 * (k + 1) := by omega
      rw [e6] at hst5
      exact hst5
  case done =>
    rintro k W rfl ⟨i1, _, _, _⟩ _
    omega
  case stop =>
    rintro c k W _ ⟨rfl, hst, hk⟩ hD
    gi_wp2
    refine ⟨by simp, .inl ⟨_, _, rfl, run_takeDeferred hD, ?_⟩⟩
    have hput := put_but W W2.heap.size (.deferred none)
    refine ⟨_, results_none rfl _ _ _, ⟨_, rfl⟩, ?_, hk.trans hput (fun b hb e => by omega)⟩
    unfold StH takeS
    simp only [HALL.out, ← chunk_last]
    exact hst.but hput (by omega)
end Go.Proofs
