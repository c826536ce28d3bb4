/-
  The walk of the law WireBent: at every readable texts, places and bytes it returns true and nothing that lay has turned, where the table lies in memory.
-/
import Derived.Deep.RegionHeldLaw
import Derived.Deep.RegionWith
import Derived.Deep.DrawnRows
import Derived.Deep.DeepCutAuto
import Derived.Deep.CutRange
import Derived.Deep.QuietTactic
import Derived.BigQuiet
import Derived.Test.YteeponciegmlcaaDoorLawF
import Derived.Test.YteeponciegmlcaaDoorLawU
import Derived.Test.YteeponciegmlcaaDoorQrd
namespace Go.Proofs
open Go.RowKit Go.Shelf Sm
attribute [local go_sem ↓] Go.wp_at_zero Go.wp_at_succ
attribute [local go_sem] Oper.semAt_some
/-- texts that came in -/
def Sm.RdStrs (w : World) (A : Option Addr) (ss : List ByteArray) : Prop :=
  0 < ss.length → ∃ b off, A = some ⟨b, off, none⟩ ∧ b < w.heap.size ∧ ∀ j s, ss[j]? = some s → w.cell? ⟨b, off + j, none⟩ = some (.string s)
theorem Sm.RdStrs.at {w : World} {A : Option Addr} {ss : List ByteArray} (h : RdStrs w A ss) {k : Nat} (hk : k < ss.length) : ∃ b off, A = some ⟨b, off, none⟩ ∧ b < w.heap.size ∧ w.cell? ⟨b, off + k, none⟩ = some (.string ss[k]) := by
  obtain ⟨b, off, rfl, hb, hc⟩ := h (by omega)
  exact ⟨b, off, rfl, hb, hc k _ (List.getElem?_eq_getElem hk)⟩
/-- the frames of texts, one behind the other -/
def Sm.framesB (ss : List ByteArray) : List (BitVec 8) := ss.flatMap fun s => frameB (strL s)
theorem Sm.framesB_snoc {ss : List ByteArray} {k : Nat} (hk : k < ss.length) : framesB (ss.take (k + 1)) = framesB (ss.take k) ++ frameB (strL ss[k]) := by
  unfold framesB
  rw [List.take_succ_eq_append_getElem hk, List.flatMap_append]
  simp
theorem Sm.framesB_len : ∀ (ss : List ByteArray), (∀ s ∈ ss, s.size ≤ 100) → (framesB ss).length ≤ 113 * ss.length
  | [], _ => by simp [framesB]
  | s :: r, h => by
    have h1 := h s (by simp)
    have h2 := framesB_len r (fun y hy => h y (by simp [hy]))
    have h3 := frameB_len (strL s) (by rw [strL_length]; omega)
    rw [strL_length] at h3
    unfold framesB at *
    rw [List.flatMap_cons, List.length_append, List.length_cons]
    omega
/-- how all stands while frames are put together -/
structure Sm.BentAt (w wr : World) (v : Value) (B : List (BitVec 8)) : Prop where
  own : wr.ownsRow (w.heap.size + 1) 5 1 v B.length (B.map byteCell)
  res : wr.heap[w.heap.size]? = some (.cells #[.bool false] 4 (0, 0))
  below : Below w.heap.size w wr
theorem Sm.retM {n : Nat} {P : Program} {fn : Func} {R : Ending → World → Prop} {a : Act} {w : World} {v : Value} (hr : (results fn a.tmps).run P w = .ok v w) (hd : a.defers = []) (hR : R (.returned v) w) : bodyPostM Fence.wide n P fn R .ret a w := by
  show LeavesInM Fence.wide n P fn a.tmps R a.defers .returning w
  rw [hd]
  exact ⟨v, hr, hR⟩
theorem Sm.retM1 {n : Nat} {P : Program} {fn : Func} {R : Ending → World → Prop} {a : Act} {w : World} {v : Value} {D : Nat} (hd : a.defers = [{ target := .collected D, args := #[] }]) (hD : w.heap[D]? = some (.deferred (some []))) (hr : (results fn a.tmps).run P (w.putObj D (.deferred none)) = .ok v (w.putObj D (.deferred none))) (hR : R (.returned v) (w.putObj D (.deferred none))) : bodyPostM Fence.wide n P fn R .ret a w := by
  show LeavesInM Fence.wide n P fn a.tmps R a.defers .returning w
  rw [hd]
  exact ⟨by simp, .inl ⟨_, _, rfl, run_takeDeferred hD, v, hr, hR⟩⟩
theorem Sm.BentAt.on {w wr w' : World} {v : Value} {B : List (BitVec 8)} (h : BentAt w wr v B) (hb : Below wr.heap.size wr w') : BentAt w w' v B :=
  ⟨own_below h.own hb, (hb.block _ (Array.getElem?_eq_some_iff.1 h.res).1).trans h.res, h.below.trans (hb.mono h.below.size)⟩
/-- one frame more -/
theorem Sm.BentAt.push {w w2 w3 : World} {v v3 : Value} {B F BB : List (BitVec 8)} (h : BentAt w w2 v B) (hBB : B ++ F = BB) (h3 : w3.ownsRow (w.heap.size + 1) 5 1 v3 BB.length (B.map byteCell ++ F.map byteCell)) (hg : w2.grownBy w3 v.ownBlock) : BentAt w w3 v3 BB := by
  subst hBB
  refine ⟨by rw [List.map_append]; exact h3, (But.grown hg).box h.res (fun e => ?_), h.below.trans ((But.grown hg).to_below (n := w.heap.size) h.below.size (fun b e => ?_))⟩
  · have := (h.own.lt _ e).1; omega
  · have := (h.own.lt _ e).1; omega
/-- the bytes whose frames are told -/
structure Sm.FinB (w wr : World) (A : Option Addr) (m c : Nat) (B : List (BitVec 8)) : Prop where
  len : B.length = m
  rd : Rd wr wr.heap.size A B
  none_ : A = none → c = 0
  res : wr.heap[w.heap.size]? = some (.cells #[.bool false] 4 (0, 0))
  below : Below w.heap.size w wr
theorem Sm.BentAt.fin {w wr : World} {A : Option Addr} {m c f : Nat} {B : List (BitVec 8)} (h : BentAt w wr (.slice A m c) B) (hm : B.length = m) (hf : f ≤ m) : f ≤ c ∧ FinB w wr A f c (B.take f) := by
  have hform : m ≤ c ∧ (A = none → c = 0) := by
    rcases h.own.2 with ⟨e1, _⟩ | ⟨g, cap, cur, e1, h0, h4, h3, _⟩
    · injection e1 with e2 e3 e4
      subst e2 e3 e4
      exact ⟨Nat.le_refl _, fun _ => rfl⟩
    · injection e1 with e2 e3 e4
      subst e2 e4
      exact ⟨by omega, fun e => by cases e⟩
  refine ⟨by omega, ⟨by rw [List.length_take]; omega, (Rd.of_own (hm ▸ h.own) (Nat.le_refl _)).take f, hform.2, h.res, h.below⟩⟩
theorem Sm.FinB.on {w wr w' : World} {A : Option Addr} {m c : Nat} {B : List (BitVec 8)} (h : FinB w wr A m c B) (hb : Below wr.heap.size wr w') : FinB w w' A m c B :=
  ⟨h.len, (h.rd.below hb).more hb.size, h.none_, (hb.block _ (Array.getElem?_eq_some_iff.1 h.res).1).trans h.res, h.below.trans (hb.mono h.below.size)⟩
set_option maxRecDepth 100000 in
set_option maxHeartbeats 8000000 in
theorem Sm.bent_walk (ss : List ByteArray) (n c : Nat) (A : Option Addr) (at_ fewer : Int) (to_ : BitVec 8) (w : World) (hn : ss.length = n) (hm : n ≤ 9223372036854775807) (hr : RdStrs w A ss) (ha0 : -9223372036854775808 ≤ at_) (ha1 : at_ ≤ 9223372036854775807) (hf0 : -9223372036854775808 ≤ fewer) (hf1 : fewer ≤ 9223372036854775807) (ht : Tab w) :
    Calls Tryd.prog 8 #[.slice A n c, .int .i64 at_, .int .u8 (ib to_), .int .i64 fewer] w fun e w' => e = .returned (.bool true) ∧ Below w.heap.size w w' := by
  obtain ⟨i0, hi, hz0, hz1, hz2⟩ := info_parts info5
  have hb0 : Below w.heap.size w (w.alloc (.cells #[.bool false] 4)) := (Below.refl _ _).alloc (Nat.le_refl _) _
  have hres0 : (w.alloc (.cells #[.bool false] 4)).heap[w.heap.size]? = some (.cells #[.bool false] 4 (0, 0)) := World.alloc_heap_new w _
  refine (callsIn_wide (n := 3)).1 (callsIn_of_wp_marks Tryd.func8 rfl trivial ?_ rfl)
  refine wpIn_wide.2 ?_
  simp only [Tryd.ntmps8, List.size_toArray, List.length_cons, List.length_nil, Nat.reduceAdd, Nat.reduceSub, Array.replicate_succ, Array.replicate_zero, List.push_toArray, List.append_toArray, List.nil_append, List.cons_append]
  have hwk : ∀ wr, Below w.heap.size w wr → wr.heap[w.heap.size]? = some (.cells #[.bool false] 4 (0, 0)) → Calls Tryd.prog 12 #[] wr fun e w' => e = .returned (.bool true) ∧ w'.heap[w.heap.size]? = some (.cells #[.bool false] 4 (0, 0)) ∧ w'.cell? ⟨w.heap.size, 0, none⟩ = some (.bool false) ∧ w'.frozen? ⟨w.heap.size, 0, none⟩ = false ∧ Below w.heap.size w w' := fun wr hb h => by
    refine (works_any wr (ht.belowTo hb ht.1)).mono ?_
    rintro e w' ⟨h1, h2⟩
    have h3 := (h2.block _ (Array.getElem?_eq_some_iff.1 h).1).trans h
    exact ⟨h1, h3, cell_of_heap h3 0, frozen_of_heap h3 0, hb.trans (h2.mono hb.size)⟩
  by_cases h8 : 8 < n
  · go_wp2_with (go_at_call 12; (with_reducible refine (hwk _ hb0 hres0).mono ?_); rintro e w1 ⟨rfl, h1, h2, h3, hb1⟩)
    have h4 := cell_of_heap (heap_setCells (i := 0) (u := .bool true) h1) 0
    exact retM (v := .bool true) (by simp [results, Tryd.results8, go_sem, h4]) rfl ⟨rfl, hb1.setCell (p := ⟨w.heap.size, 0, none⟩) (Nat.le_refl _) _⟩
  · have HN := Lib.hid hn
    have hA0 : BentAt w (w.alloc (.cells #[.bool false] 4)) (.slice none 0 0) (framesB (ss.take 0)) := ⟨World.ownsRow_nil _ _ _ _, hres0, hb0⟩
    have HA0 := Lib.hid hA0
    clear hn hA0 hb0 hres0
    go_wp2
    go_loopw [9, 10] (fun vb vi wr => ∃ k : Nat, k ≤ n ∧ vi = .int .i64 (k : Int) ∧ Hid (∀ s ∈ ss.take k, s.size ≤ 100) ∧ Hid (BentAt w wr vb (framesB (ss.take k))))
      (fun _ vi _ => n - (intOf vi).toNat)
    case atStart => exact ⟨0, Nat.zero_le _, rfl, Lib.hid (by simp), HA0⟩
    case round =>
      obtain ⟨k, hk, rfl, HS, HA⟩ := hrel
      clear HA0
      by_cases hlt : k < n
      · have hkx : k < ss.length := by have := HN.out; omega
        obtain ⟨b, off, rfl, hbw, c0⟩ := hr.at hkx
        have hsn := framesB_snoc hkx
        have htk : ss.take (k + 1) = ss.take k ++ [ss[k]] := List.take_succ_eq_append_getElem hkx
        obtain ⟨s, hs⟩ : ∃ s, s = ss[k] := ⟨_, rfl⟩
        rw [← hs] at c0 hsn htk
        have HSN := Lib.hid hsn
        have HTK := Lib.hid htk
        clear hsn htk hs
        have c1 := (HA.out.below.cell (p := ⟨b, off + k, none⟩) hbw).trans c0
        clear c0
        by_cases h100 : 100 < s.size
        · have h12 := hwk _ HA.out.below HA.out.res
          go_wp2_with (go_at_call 12; (with_reducible refine h12.mono ?_); clear h12; rintro e w1 ⟨rfl, h1, h2, h3, hb1⟩)
          have h4 := cell_of_heap (heap_setCells (i := 0) (u := .bool true) h1) 0
          exact retM (v := .bool true) (by simp [results, Tryd.results8, go_sem, h4]) rfl ⟨rfl, hb1.setCell (p := ⟨w.heap.size, 0, none⟩) (Nat.le_refl _) _⟩
        · obtain ⟨c2, w2, hcv, hrd2, hb2, hc2, hs2⟩ := conv_str s wr
          obtain ⟨B, hB⟩ : ∃ B, framesB (ss.take k) = B := ⟨_, rfl⟩
          obtain ⟨F, hF⟩ : ∃ F, frameB (strL s) = F := ⟨_, rfl⟩
          obtain ⟨BB, hBB⟩ : ∃ BB, B ++ F = BB := ⟨_, rfl⟩
          have hk8 : k ≤ 8 := by omega
          have hBl : B.length ≤ 904 := by
            have h1 := framesB_len (ss.take k) HS.out
            have h2 : (ss.take k).length ≤ 8 := by rw [List.length_take]; omega
            rw [hB] at h1
            omega
          have hFl : F.length ≤ 113 := by
            have := frameB_len (strL s) (by rw [strL_length]; omega)
            rw [strL_length, hF] at this
            omega
          have hMM : Hid (B.length + F.length = BB.length) := Lib.hid (by rw [← hBB, List.length_append])
          have hrf := refFrame_any (strL s) s.size c2 _ w2 (strL_length s) (by omega) hrd2
          have HE : Hid (framesB (ss.take (k + 1)) = BB) := Lib.hid (by rw [HSN.out, hB, hF]; exact hBB)
          rw [hB] at HA
          rw [hF] at hrf
          have HBB := Lib.hid hBB
          have HS1 : Hid (∀ q ∈ ss.take (k + 1), q.size ≤ 100) := Lib.hid (by
            rw [HTK.out]
            intro q hq
            rcases List.mem_append.1 hq with h | h
            · exact HS.out q h
            · simp at h; subst h; omega)
          have hA2 := Lib.hid (HA.out.on hb2)
          clear hB hF hBB hrd2 HTK HSN hb2
          go_wp2_with (first
            | (go_at_call 32; (with_reducible refine hrf.mono ?_); clear hrf; rintro e w3 ⟨v3, rfl, hown3, hb3⟩; obtain ⟨A3, c3, rfl⟩ := own_slice hown3; have hA3 := hA2.out.on hb3; have hrd3 : Rd w3 w3.heap.size A3 F := Rd.of_own hown3 (Nat.le_refl _); have hlt3 : w.heap.size + 1 ≤ w3.heap.size := (Array.getElem?_eq_some_iff.1 hA3.res).1; clear hown3)
            | (at_builtin; refine wpList_append_rd _ rfl (.tmp 38) (.tmp 44) 27 rfl (w.heap.size + 1) 5 i0 _ Tryd.underlying27 hi hz0 hz1 hz2 rfl _ B.length (B.map byteCell) rfl hA3.own w3.heap.size A3 F.length c3 F rfl rfl hrd3 ?_ hlt3 ?_; omega; intro v4 w4 h4 hg4 ha4; rw [hMM.out] at h4; have hA4 := Lib.hid (hA3.push HBB.out h4 hg4); clear h4 hg4 ha4 hA3 hrd3))
          go_roundw
          case rel => exact ⟨k + 1, by omega, by go_num, HS1, by rw [HE.out]; exact hA4⟩
          case measure => simp [intOf]; omega
      · obtain rfl : k = n := by omega
        obtain ⟨B, hB⟩ : ∃ B, framesB (ss.take k) = B := ⟨_, rfl⟩
        have hBl : B.length ≤ 904 := by
          have h1 := framesB_len (ss.take k) HS.out
          have h2 : (ss.take k).length ≤ 8 := by rw [List.length_take]; omega
          rw [hB] at h1
          omega
        rw [hB] at HA
        obtain ⟨Ab, cb, rfl⟩ := own_slice HA.out.own
        clear hB HS HN hr
        go_upto_region 10 with fail
        go_cut [53] from 46 to 53 (fun s53 wx => s53 = .bool (decide (0 ≤ at_ ∧ at_ < (B.length : Int))) ∧ wx = wr)
        case first =>
          by_cases h1 : 0 ≤ at_
          · by_cases h2 : at_ < (B.length : Int)
            · go_wp2
              go_meet
              exact ⟨by simp [h1, h2], rfl⟩
            · go_wp2
              go_meet
              exact ⟨by simp [h1, h2], rfl⟩
          · go_wp2
            go_meet
            have h4 : ¬ (0 ≤ at_ ∧ at_ < (B.length : Int)) := fun h => by omega
            exact ⟨by rw [decide_eq_false h4] <;> (first | rfl | (simp; omega)), rfl⟩
        case rest =>
          obtain ⟨rfl, rfl⟩ := hcut
          go_upto_if 53 with fail
          go_cut [9] from 46 to 57 (fun s9 wx => s9 = .slice Ab B.length cb ∧ ∃ B', Hid (B'.length = B.length ∧ BentAt w wx (.slice Ab B.length cb) B'))
          case first =>
            by_cases h1 : 0 ≤ at_ ∧ at_ < (B.length : Int)
            · have h3 : decide (0 ≤ at_ ∧ at_ < (B.length : Int)) = true := by simp [h1]
              obtain ⟨h1, h2⟩ := h1
              obtain ⟨j, rfl⟩ : ∃ j : Nat, at_ = (j : Int) := ⟨at_.toNat, by omega⟩
              have hj : j < B.length := by omega
              obtain ⟨g, cap, e, hgb, hgl, hcap⟩ := own_form HA.out.own (by omega)
              injection e with e1 e2 e3
              subst e1 e3
              have hst := own_set HA.out.own j to_
              have hfz := HA.out.own.frozenAt j
              obtain ⟨u0, hcl⟩ : ∃ u, wc.cell? ⟨g, j, none⟩ = some (.int .u8 u) := ⟨ib B[j], by
                rw [HA.out.own.cellAt j (by omega), List.getElem?_map, List.getElem?_eq_getElem hj]
                rfl⟩
              have HA2 : Hid ((B.set j to_).length = B.length ∧ BentAt w (wc.setCell ⟨g, j, none⟩ (.int .u8 (ib to_))) (.slice (some ⟨g, 0, none⟩) B.length cb) (B.set j to_)) := Lib.hid ⟨by simp, by rw [List.length_set]; exact hst.1, (Below.heap_setCell _ ⟨g, j, none⟩ _ _ (by simp; omega)).trans HA.out.res, HA.out.below.setCell (p := ⟨g, j, none⟩) (by simp; omega) _⟩
              go_wp2
              go_meet
              exact ⟨rfl, _, HA2⟩
            · have h3 : decide (0 ≤ at_ ∧ at_ < (B.length : Int)) = false := by simp only [h1, decide_false]
              go_wp2
              go_meet
              exact ⟨rfl, B, Lib.hid ⟨rfl, HA.out⟩⟩
          case rest =>
            obtain ⟨rfl, B', HB'⟩ := hcut
            go_upto_region 12 with fail
            go_cut [65] from 58 to 65 (fun s65 wx => s65 = .bool (decide (0 < fewer ∧ fewer ≤ (B.length : Int))) ∧ Hid (BentAt w wx (.slice Ab B.length cb) B'))
            case first =>
              by_cases h1 : 0 < fewer
              · by_cases h2 : fewer ≤ (B.length : Int)
                · go_wp2
                  go_meet
                  exact ⟨by simp [h1, h2], Lib.hid HB'.out.2⟩
                · go_wp2
                  go_meet
                  exact ⟨by simp [h1, h2], Lib.hid HB'.out.2⟩
              · go_wp2
                go_meet
                have h4 : ¬ (0 < fewer ∧ fewer ≤ (B.length : Int)) := fun h => by omega
                exact ⟨by rw [decide_eq_false h4] <;> (first | rfl | (simp; omega)), Lib.hid HB'.out.2⟩
            case rest =>
              obtain ⟨rfl, HB2⟩ := hcut
              go_upto_if 65 with fail
              go_cut [9] from 58 to 71 (fun s9 wx => ∃ (A' : Option Addr) (m' c' : Nat) (B3 : List (BitVec 8)), s9 = .slice A' m' c' ∧ m' ≤ 904 ∧ m' ≤ c' ∧ Hid (FinB w wx A' m' c' B3))
              case first =>
                by_cases h1 : 0 < fewer ∧ fewer ≤ (B.length : Int)
                · have h3 : decide (0 < fewer ∧ fewer ≤ (B.length : Int)) = true := by simp [h1]
                  obtain ⟨h1, h2⟩ := h1
                  obtain ⟨j, rfl⟩ : ∃ j : Nat, fewer = (j : Int) := ⟨fewer.toNat, by omega⟩
                  obtain ⟨g1, g2⟩ := HB2.out.fin (f := B.length - j) HB'.out.1 (by omega)
                  have hcast : (B.length : Int) - (j : Int) = ((B.length - j : Nat) : Int) := by omega
                  have G2 := Lib.hid g2
                  obtain ⟨M, hM⟩ : ∃ M, B.length - j = M := ⟨_, rfl⟩
                  rw [hM] at hcast G2 g1
                  have hM1 : M ≤ 904 := by omega
                  have hM2 : (0 : Int) ≤ (M : Int) := by omega
                  have hM3 : (M : Int) ≤ (cb : Int) := by omega
                  clear g2
                  go_wp2
                  go_meet
                  exact ⟨_, _, _, _, rfl, hM1, g1, G2⟩
                · have h3 : decide (0 < fewer ∧ fewer ≤ (B.length : Int)) = false := by simp only [h1, decide_false]
                  obtain ⟨g1, g2⟩ := HB2.out.fin (f := B.length) HB'.out.1 (Nat.le_refl _)
                  have G2 := Lib.hid g2
                  clear g2
                  go_wp2
                  go_meet
                  exact ⟨_, _, _, _, rfl, hBl, g1, G2⟩
              case rest =>
                obtain ⟨A', m', c', B3, rfl, hm9, hmc, HF⟩ := hcut
                clear HB2 HB' HA
                have h33 := refFrames_any B3 m' c' A' wc HF.out.len hmc (by omega) HF.out.rd
                have h34 : ∀ wx, FinB w wx A' m' c' B3 → Calls Tryd.prog 34 #[.slice A' m' c'] wx fun e w' => ∃ Bx A4 c4, e = .returned (.func (.func 63) #[] #[.pointer (some ⟨Bx, 0, none⟩)]) ∧ Cap w' w'.heap.size Bx A4 m' c4 B3 ∧ wx.heap.size ≤ Bx ∧ (∀ b off, A4 = some ⟨b, off, none⟩ → wx.heap.size ≤ b) ∧ Below wx.heap.size wx w' := fun wx h => Frames_any B3 m' c' A' wx (Lib.hid h.len) (by omega) h.rd (ht.belowTo h.below ht.1)
                have H34 := Lib.hid h34
                clear h34
                have hfn : ∀ (wx : World) (a : Addr), (binOp .eql 77 (.func (.func 63) #[] #[.pointer (some a)]) .nilFunc).run Tryd.prog wx = .ok (.bool false) wx := fun wx a => by kernel_rfl
                go_wp2_with (first
                  | (go_at_call 33; (with_reducible refine h33.mono ?_); clear h33; rintro e w2 ⟨⟨Aw, cw, sl, rfl, hparts⟩, hb2⟩; have HF2 := Lib.hid (HF.out.on hb2); have hbw : Below w2.heap.size w2 ((w2.alloc (.cells #[.slice Aw (cntK B3) cw] 74)).alloc (.cells #[.int .i64 0] 3)) := ((Below.refl _ w2).alloc (Nat.le_refl _) _).alloc (by simp) _; have h34a := H34.out _ (HF2.out.on hbw))
                  | (go_at_call 34; (with_reducible refine h34a.mono ?_); clear h34a; rintro e w5 ⟨Bx, A4, c4, rfl, hcap1, hBx1, hA1, hb5⟩; have hbw5 : Below w2.heap.size w2 w5 := hbw.trans (hb5.mono hbw.size); have h34b := H34.out _ (HF2.out.on hbw5))
                  | (go_at_call 34; (with_reducible refine h34b.mono ?_); clear h34b; rintro e w6 ⟨By, A5, c5, rfl, hcap, hBy, hA5, hb6⟩))
                have hs2 : w5.heap.size ≤ w6.heap.size := hb6.size
                have hs5 : w2.heap.size + 2 ≤ w5.heap.size := by have := hb5.size; simp at this; omega
                have hsw : w.heap.size < w2.heap.size := (Array.getElem?_eq_some_iff.1 HF2.out.res).1
                have hbw6 : Below w2.heap.size w2 w6 := hbw5.trans (hb6.mono hbw5.size)
                have hbox11 : w6.heap[w2.heap.size]? = some (.cells #[.slice Aw (cntK B3) cw] 74 (0, 0)) := by
                  refine (hb6.block _ (by omega)).trans ((hb5.block _ (by simp; omega)).trans ?_)
                  exact (Below.heap_alloc _ _ _ (by simp)).trans (World.alloc_heap_new w2 _)
                have hbox12 : w6.heap[w2.heap.size + 1]? = some (.cells #[.int .i64 0] 3 (0, 0)) := by
                  refine (hb6.block _ (by omega)).trans ((hb5.block _ (by simp)).trans ?_)
                  have := World.alloc_heap_new (w2.alloc (.cells #[.slice Aw (cntK B3) cw] 74)) (.cells #[.int .i64 0] 3)
                  rwa [World.size_alloc] at this
                have hp6 := Lib.hid (hparts.below hbw6)
                have hpl : Hid (∀ q, (Value.slice Aw (cntK B3) cw).ownBlock = some q → q < w2.heap.size) := Lib.hid fun q e => (hparts.own.lt q e).2
                have hpr : Hid (∀ j, j < cntK B3 → ∀ q, (Value.slice (sl j).1 (bodyK B3 j).length (sl j).2).ownBlock = some q → q < w2.heap.size) := Lib.hid fun j hj q e => ((hparts.rd j hj).lt q e).2
                have HF6 := Lib.hid (HF2.out.on hbw6)
                have hcnt : cntK B3 ≤ 904 := by have := cntK_le B3; rw [HF.out.len] at this; omega
                refine (wpIn_wide (n := 3)).1 ?_
                refine wpIn_range2 (gf := 63) (lb := #[.pointer (some ⟨By, 0, none⟩)]) rfl (enters_of Tryd.func63 (by kernel_rfl) rfl)
                  (frames_seq B3 A5 m' c5 By w6 (fun b => b = w2.heap.size + 1) hcap (by omega) (fun b e => by omega) (fun b off e h => by have := hA5 b off e; omega) (fun h => by omega))
                  (fun b e => by omega) ?hH ?hrow 79 80 13 14 rfl ?hargs
                  (fun k W => But (fun b => b = w2.heap.size + 1) w6 W ∧ W.heap[w2.heap.size + 1]? = some (.cells #[.int .i64 (k : Int)] 3 (0, 0)) ∧ k ≤ cntK B3)
                  (fun _ _ _ => False) ?hI ?hIx ⟨But.refl _ _, hbox12, Nat.zero_le _⟩ ?assign ?body ?done ?stop
                case hH =>
                  rintro k args W1 W' ⟨h1, Av, cv, rfl, ho⟩ hb
                  exact ⟨h1, Av, cv, rfl, hb.row ho (fun g e h => by have := (ho.lt g e).1; omega)⟩
                case hrow =>
                  rintro k args W1 b ⟨h1, Av, cv, rfl, ho⟩ ⟨x, v, e, e2⟩
                  simp only [Array.mk.injEq, List.cons.injEq, and_true] at e
                  obtain ⟨_, e3⟩ := e
                  rw [← e3] at e2
                  exact (ho.lt b e2).1
                case hargs =>
                  rintro k args W1 ⟨h1, Av, cv, rfl, ho⟩
                  exact ⟨_, _, rfl⟩
                case hI =>
                  rintro k W1 W' ⟨i1, i2, i3⟩ hb
                  exact ⟨i1.trans (But.of_below hb) (fun b h1 h2 => by omega), (hb.block _ (by omega)).trans i2, i3⟩
                case hIx =>
                  rintro cd k W1 W' h hb
                  exact h
                case assign =>
                  intro l0 x v W1 K hK
                  simp only [List.setIfInBounds_toArray, List.set_cons_zero, List.set_cons_succ] at hK ⊢
                  gi_wp2
                  exact hK
                case body =>
                  rintro l0 q x v W1 hsz ⟨i1, i2, i3⟩ ⟨hq, Av, cv, e, ho⟩
                  simp only [Array.mk.injEq, List.cons.injEq, and_true] at e
                  obtain ⟨rfl, rfl⟩ := e
                  simp only [List.setIfInBounds_toArray, List.set_cons_zero, List.set_cons_succ]
                  have w0 : W1.heap[w2.heap.size]? = some (.cells #[.slice Aw (cntK B3) cw] 74 (0, 0)) := i1.box hbox11 (by omega)
                  have hown := i1.row hp6.out.own (fun g e h => by have := hpl.out g e; omega)
                  have hrq := i1.row (hp6.out.rd q hq) (fun g e h => by have := hpr.out q hq g e; omega)
                  obtain ⟨g, cap, eg, hgb, hgl⟩ := hown.form (by omega)
                  injection eg with e1 e2 e3
                  subst e1
                  obtain ⟨hg1, hg2⟩ := partsC_get B3 sl hq
                  have c1 : W1.cell? ⟨g, q * 2, none⟩ = some (.int .i64 (offK B3 (q + 1) : Int)) := (hown.cellAt (q * 2) (by omega)).trans hg1
                  have c2 : W1.cell? ⟨g, q * 2 + 1, none⟩ = some (.slice (sl q).1 (bodyK B3 q).length (sl q).2) := (hown.cellAt (q * 2 + 1) (by omega)).trans hg2
                  have k1 := cell_of_heap i2 0
                  have k2 := frozen_of_heap i2 0
                  have k3 := cell_of_heap w0 0
                  simp only [List.getElem?_toArray, List.getElem?_cons_zero] at k1 k3
                  have d1 : ∀ m : Nat, (convert 27 9 (.slice Av (bodyK B3 q).length cv)).run Tryd.prog (W1.drewN m) = .ok (.string (strB (bodyK B3 q))) (W1.drewN m) := fun m => run_str (W1.drewN m) 27 5 Tryd.underlying27 Tryd.underlying5 (bodyK B3 q) (bodyK B3 q).length cv W1.heap.size Av rfl (Rd.of_own ho (Nat.le_refl _)) 9 Tryd.underlying9
                  have d2 : ∀ m : Nat, (convert 27 9 (.slice (sl q).1 (bodyK B3 q).length (sl q).2)).run Tryd.prog (W1.drewN m) = .ok (.string (strB (bodyK B3 q))) (W1.drewN m) := fun m => run_str (W1.drewN m) 27 5 Tryd.underlying27 Tryd.underlying5 (bodyK B3 q) (bodyK B3 q).length (sl q).2 W1.heap.size (sl q).1 rfl (Rd.of_own hrq (Nat.le_refl _)) 9 Tryd.underlying9
                  have hq1 : (q : Int) < (cntK B3 : Int) := by omega
                  have hq2 : decide (cntK B3 ≤ q) = false := by simp; omega
                  clear hown hrq hg1 hg2 w0
                  gi_wp2
                  refine wpIn_round_quiet (by kernel_rfl) (by kernel_rfl) (by kernel_rfl) ?_
                  repeat (go_big_quiet_step (fail))
                  refine wpQuiet_nil ?_
                  intro _ hw'
                  obtain ⟨nq, hw''⟩ := hw'
                  subst hw''
                  have hbq : But (fun b => b = w2.heap.size + 1) W1 ((W1.drewN nq).setCell ⟨w2.heap.size + 1, 0, none⟩ (.int .i64 ((q + 1 : Nat) : Int))) := by
                    have h0 : But (fun b => b = w2.heap.size + 1) W1 (W1.drewN nq) := But.of_all (⟨rfl, rfl, rfl, Nat.le_refl _, fun _ _ => rfl⟩ : Below W1.heap.size W1 (W1.drewN nq)) _
                    exact h0.set ⟨w2.heap.size + 1, 0, none⟩ _ (.inl rfl)
                  have hbx : ((W1.drewN nq).setCell ⟨w2.heap.size + 1, 0, none⟩ (.int .i64 ((q + 1 : Nat) : Int))).heap[w2.heap.size + 1]? = some (.cells #[.int .i64 ((q + 1 : Nat) : Int)] 3 (0, 0)) := heap_setCells (w := W1.drewN nq) (i := 0) (u := .int .i64 ((q + 1 : Nat) : Int)) i2
                  have hbi := i1.trans hbq (fun b _ e => e)
                  have hsc : ((q + 1 : Nat) : Int) = (q : Int) + 1 := by omega
                  have HBQ := Lib.hid hbq
                  have HBX := Lib.hid hbx
                  have HBI := Lib.hid hbi
                  rw [hsc] at HBQ HBX HBI
                  clear hbq hbx hbi hsc d1 d2
                  have kq : q ≤ 904 := by omega
                  gi_wp2
                  exact ⟨trivial, HBQ.out.mono (fun b _ e => .inl e), HBI.out, by rw [show ((q + 1 : Nat) : Int) = (q : Int) + 1 by omega]; exact HBX.out, hq⟩
                case done =>
                  rintro q W1 rfl ⟨i1, i2, i3⟩ hD
                  have HF9 : FinB w W1 A' m' c' B3 := ⟨HF6.out.len, fun hl => by
                      obtain ⟨b, off, e, hb, hc⟩ := HF2.out.rd hl
                      exact ⟨b, off, e, by have := hbw6.size; have := i1.size; omega, fun j y hj => (i1.cell (p := ⟨b, off + j, none⟩) (show b < w6.heap.size by have := hbw6.size; omega) (show ¬ b = w2.heap.size + 1 by omega)).trans ((hbw6.cell (p := ⟨b, off + j, none⟩) hb).trans (hc j y hj))⟩,
                    HF6.out.none_, i1.box HF6.out.res (by omega), HF6.out.below.trans (i1.to_below (n := w.heap.size) HF6.out.below.size (fun b e => by omega))⟩
                  have hsp := Split_any B3 m' c' A' W1 HF9.len hmc HF9.none_ HF9.rd (ht.belowTo HF9.below ht.1) (by omega)
                  obtain ⟨Sx, Sn, Se, hS⟩ : ∃ Sx Sn Se, splitS B3 = (Sx, Sn, Se) := ⟨_, _, _, rfl⟩
                  have c11 := (cell_of_heap (i1.box hbox11 (by omega)) 0)
                  have c12 := cell_of_heap i2 0
                  simp only [List.getElem?_toArray, List.getElem?_cons_zero] at c11 c12
                  have l11 : w2.heap.size < W1.heap.size := by have := i1.size; have := hbw6.size; omega
                  have l12 : w2.heap.size + 1 < W1.heap.size := by have := i1.size; omega
                  have hsp1 : Calls Tryd.prog 30 #[.slice A' m' c'] W1 fun e w7 => ∃ Ax cx, e = .returned (.tuple #[.slice Ax Sx.length cx, .int .i64 (Sn : Int), .int .i64 Se]) ∧ w7.ownsRow W1.heap.size 5 1 (.slice Ax Sx.length cx) Sx.length (Sx.map byteCell) ∧ Below W1.heap.size W1 w7 := by
                    refine hsp.mono ?_
                    rintro e w7 ⟨⟨v, rfl, ho⟩, hb⟩
                    rw [hS] at ho ⊢
                    obtain ⟨Ax, cx, rfl⟩ := own_slice ho
                    exact ⟨Ax, cx, rfl, ho, hb⟩
                  have hsp2 : ∀ w7, Below W1.heap.size W1 w7 → Calls Tryd.prog 31 #[.slice A' m' c'] w7 fun e w8 => ∃ Ay cy, e = .returned (.tuple #[.slice Ay Sx.length cy, .int .i64 (Sn : Int), .int .i64 Se]) ∧ w8.ownsRow w7.heap.size 5 1 (.slice Ay Sx.length cy) Sx.length (Sx.map byteCell) ∧ Below w7.heap.size w7 w8 := fun w7 hb7 => by
                    refine (refSplit_any B3 m' c' A' w7 HF9.len hmc (HF9.on hb7).rd (by omega)).mono ?_
                    rintro e w8 ⟨⟨v, rfl, ho⟩, hb⟩
                    rw [hS] at ho ⊢
                    obtain ⟨Ay, cy, rfl⟩ := own_slice ho
                    exact ⟨Ay, cy, rfl, ho, hb⟩
                  have hw12 : ∀ w8, Below W1.heap.size W1 w8 → Calls Tryd.prog 12 #[] w8 fun e w9 => e = .returned (.bool true) ∧ w9.heap[w.heap.size]? = some (.cells #[.bool false] 4 (0, 0)) ∧ w9.cell? ⟨w.heap.size, 0, none⟩ = some (.bool false) ∧ w9.frozen? ⟨w.heap.size, 0, none⟩ = false ∧ Below w.heap.size w w9 ∧ w9.heap[w6.heap.size]? = some (.deferred (some [])) := fun w8 hb8 => by
                    have hF8 := HF9.on hb8
                    have hd8 := (hb8.block _ (Array.getElem?_eq_some_iff.1 hD).1).trans hD
                    refine (works_any w8 (ht.belowTo hF8.below ht.1)).mono ?_
                    rintro e w9 ⟨h1, h2⟩
                    have h3 := (h2.block _ (Array.getElem?_eq_some_iff.1 hF8.res).1).trans hF8.res
                    exact ⟨h1, h3, cell_of_heap h3 0, frozen_of_heap h3 0, hF8.below.trans (h2.mono hF8.below.size), (h2.block _ (Array.getElem?_eq_some_iff.1 hd8).1).trans hd8⟩
                  clear hsp hS HF9 hD i1 i2 HF6 HF2 hbw6 hbox11 hbox12 hp6 hpl hpr hcap hwk hbw hbw5
                  go_wp2_with (first
                    | (go_at_call 30; (with_reducible refine hsp1.mono ?_); clear hsp1; rintro e w7 ⟨Ax, cx, rfl, ho7, hb7⟩; have hsq := hsp2 w7 hb7)
                    | (go_at_call 31; (with_reducible refine hsq.mono ?_); clear hsq; rintro e w8 ⟨Ay, cy, rfl, ho8, hb78⟩; have hb8 := hb7.trans (hb78.mono hb7.size); have e11 := (hb8.cell (p := ⟨w2.heap.size, 0, none⟩) l11).trans c11; have e12 := (hb8.cell (p := ⟨w2.heap.size + 1, 0, none⟩) l12).trans c12; have s7 := run_str (P := Tryd.prog) w8 27 5 Tryd.underlying27 Tryd.underlying5 Sx Sx.length cx w8.heap.size Ax rfl (Rd.of_own (own_below ho7 hb78) (Nat.le_refl _)) 9 Tryd.underlying9; have s8 := run_str (P := Tryd.prog) w8 27 5 Tryd.underlying27 Tryd.underlying5 Sx Sx.length cy w8.heap.size Ay rfl (Rd.of_own ho8 (Nat.le_refl _)) 9 Tryd.underlying9)
                    | (go_at_call 15; (with_reducible refine (num_any _ _).mono ?_); rintro e w' ⟨rfl, rfl⟩)
                    | (go_at_call 12; (with_reducible refine (hw12 _ hb8).mono ?_); rintro e w9 ⟨rfl, r1, r2, r3, r4, r5⟩))
                  have hw26 : w.heap.size < w6.heap.size := by omega
                  have hD9 : (w9.setCell ⟨w.heap.size, 0, none⟩ (.bool true)).heap[w6.heap.size]? = some (.deferred (some [])) := (Below.heap_setCell _ ⟨w.heap.size, 0, none⟩ _ _ (by simp; omega)).trans r5
                  have h4 : ((w9.setCell ⟨w.heap.size, 0, none⟩ (.bool true)).putObj w6.heap.size (.deferred none)).cell? ⟨w.heap.size, 0, none⟩ = some (.bool true) :=
                    cell_of_heap ((World.putObj_heap_other (by omega)).trans (heap_setCells (i := 0) (u := .bool true) r1)) 0
                  have hbz : Below w.heap.size w ((w9.setCell ⟨w.heap.size, 0, none⟩ (.bool true)).putObj w6.heap.size (.deferred none)) := by
                    have h5 := r4.setCell (p := ⟨w.heap.size, 0, none⟩) (Nat.le_refl _) (.bool true)
                    exact h5.trans ((put_but _ _ _).to_below h5.size (fun b e => by omega))
                  exact retM1 (v := .bool true) rfl hD9 (by simp [results, Tryd.results8, go_sem, h4]) ⟨rfl, hbz⟩
                case stop =>
                  rintro cd q W1 _ h
                  exact h.elim
end Go.Proofs
