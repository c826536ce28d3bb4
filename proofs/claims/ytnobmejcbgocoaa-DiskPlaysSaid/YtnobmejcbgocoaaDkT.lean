/-
  all's iterator, where the rounds keep memory that they made. Conditions: as the theorem names them.
-/
import Derived.Laws.RangeAny
import Derived.LoopTactic
import Derived.LoopIn
import Derived.Deep.CutRange
import Derived.Deep.DeepCutAuto
import Derived.OwnWalkIn
import Derived.TacticsInMore
import Derived.Test.YtnobmejcbgocoaaItrY
import Derived.Test.YtnobmejcbgocoaaDkQ
namespace Go.Proofs
open Go Go.RowKit Sm Go.Lib Go.Maps Go.WideMaps
attribute [local go_sem] Oper.semAt_some
structure Sm.AlAtY (X : Nat → Prop) (J : (Nat → Prop) → Nat → World → Prop) (w wr : World) (G : List FileM) (v : Value) (L : Nat) (M : Nat → Prop) (k : Nat) : Prop where
  j : J M k wr
  keep : But (MayD X w.heap.size) w wr
  row : wr.ownsRow L 9 1 v G.length (G.map fun f => .string (strB f.name))
  m : ∀ b, M b → L ≤ b ∧ b < wr.heap.size
  out : ∀ b, v.ownBlock = some b → ¬ M b
set_option maxRecDepth 100000 in
set_option maxHeartbeats 4000000 in
theorem Sm.all_seqY {p Mb base bd : Nat} {s : DSt} {G : List FileM} (w : World) (h : DAt w p Mb base s G) (hGl : G.length ≤ 1000000) (X : Nat → Prop) (hbd : w.heap[bd]? = some (.cells #[.pointer (some ⟨p, 0, none⟩)] 25 (0, 0))) (hX : ∀ b, X b → b < w.heap.size) (hXd : ∀ b, X b → b ≠ bd ∧ b ≠ p ∧ b ≠ Mb ∧ ∀ f ∈ G, f.sl.ownBlock ≠ some b) :
    SeqY Try.prog 62 #[.pointer (some ⟨bd, 0, none⟩)] X (HDk G) rowD (fun _ => True) (fun k => k = G.length) (fun _ => True) w := by
  intro L0 J Jx W hW hJ hJx hY hJ0
  have hlow := h.low
  have hbdl := (Array.getElem?_eq_some_iff.1 hbd).1
  have hDA : ∀ W', But (MayD X w.heap.size) w W' → DAt W' p Mb base s G ∧ W'.cell? ⟨bd, 0, none⟩ = some (.pointer (some ⟨p, 0, none⟩)) := fun W' hb => by
    refine ⟨h.rows hb (fun e => ?_) (fun e => ?_) (fun f hf => ?_), cell_of_heap (hb.box hbd (fun e => ?_)) 0⟩
    · rcases e with e | e
      · exact (hXd _ e).2.1 rfl
      · omega
    · rcases e with e | e
      · exact (hXd _ e).2.2.1 rfl
      · omega
    · refine hb.row (h.row f hf) (fun g e1 e2 => ?_)
      rcases e2 with e2 | e2
      · exact (hXd _ e2).2.2.2 f hf e1
      · have := ((h.row f hf).lt g e1).2
        omega
    · rcases e with e | e
      · exact (hXd _ e).1 rfl
      · omega
  have hbW : But (MayD X w.heap.size) w W := (But.of_below hW).mono (fun b _ e => .inr e)
  obtain ⟨hDW, c1⟩ := hDA W hbW
  have hnm := names_any W hDW hGl
  have hsort := h.sort
  have HDA := Lib.hid hDA
  have HBW := Lib.hid hbW
  have HJ0 := Lib.hid hJ0
  obtain ⟨L, hL⟩ : ∃ L, W.heap.size = L := ⟨_, rfl⟩
  have hwL : w.heap.size ≤ L := by rw [← hL]; exact hW.size
  show Calls Try.prog 62 #[.func (.yield L0) #[] #[], .pointer (some ⟨bd, 0, none⟩)] W _
  rw [hL] at hJ hJx hY hnm
  have HL := Lib.hid hL
  clear hJ0 hDA hbW hDW h hbd
  have hGI : (G.length : Int) ≤ 1000000 := by omega
  go_enter Try.func62, Try.ntmps62
  go_wp2_with (go_at_call 22; (with_reducible refine hnm.mono ?_); clear hnm; rintro e w1 ⟨v, rfl, hrow, hb1⟩; obtain ⟨A, c, rfl⟩ := own_slice hrow)
  have hE0 : AlAtY X J w w1 G (.slice A G.length c) L (fun _ => False) 0 := ⟨hJ _ 0 _ _ HJ0.out (fun b e => e.elim) ((But.of_below hb1).mono (fun b _ e => by rintro (e2 | e2); omega; exact e2)), HBW.out.trans (But.of_below hb1) (fun b _ e => .inr (by omega)), hrow, fun b e => e.elim, fun b _ e => e⟩
  have HE0 := Lib.hid hE0
  clear hE0 hb1 hrow c1
  go_loopw [8] (fun v8 wr => ∃ (M : Nat → Prop) (k : Nat), k ≤ G.length ∧ v8 = .int .i64 (k : Int) ∧ Hid (AlAtY X J w wr G (.slice A G.length c) L M k)) (fun v8 _ => G.length - (RowKit.intOf v8).toNat)
  case atStart => exact ⟨fun _ => False, 0, Nat.zero_le _, rfl, HE0⟩
  case round =>
    obtain ⟨wo, rfl⟩ : ∃ wo : World, wo = wr := ⟨_, rfl⟩
    obtain ⟨M, k, hk, rfl, HE⟩ := hrel
    clear HE0
    by_cases hlt : k < G.length
    · obtain ⟨g, cap, hv, _, hgl⟩ := HE.out.row.form (by omega)
      injection hv with hv1 hv2 hv3
      subst hv1
      obtain ⟨f, hf⟩ : ∃ f, G[k]? = some f := ⟨_, List.getElem?_eq_getElem hlt⟩
      have hfm : f ∈ G := List.mem_of_getElem? hf
      have ck : wo.cell? ⟨g, k, none⟩ = some (.string (strB f.name)) := by
        have := HE.out.row.cellAt k (by omega)
        rw [List.getElem?_map, hf] at this
        simpa using this
      obtain ⟨hDo, cbd⟩ := HDA.out wo HE.out.keep
      have c5 := cell_of_heap hDo.blk 5
      simp only [List.getElem?_toArray, List.getElem?_cons_zero, List.getElem?_cons_succ] at c5
      obtain ⟨D, hD1, hD2⟩ := hDo.map
      have hxz : (strB f.name).size ≤ 1000000 := by
        have h1 := (hDo.ok f hfm).1
        have h3 := strL_length (strB f.name)
        rw [strL_strB] at h3
        unfold nameOK at h1
        simp only [Bool.and_eq_true, decide_eq_true_eq] at h1
        omega
      have hlk := look_some hD1 hD2 hfm (x := strB f.name) (strL_strB f.name) hxz false
      obtain ⟨fn, tmps, assign, body, hy, hR⟩ := hY M k _ wo HE.out.m HE.out.j ⟨f, hf, rfl⟩
      clear hDo hD1 hD2 hv3 hgl
      go_upto_region 3 with fail
      refine (wpIn_wide (n := 3)).1 ?_
      gi_wp2
      refine (roundIn_any hR).mono ?_
      clear hR hy hlk c5 cbd ck
      rintro e W3 (⟨rfl, _, ⟨M', hsub, hJ3⟩, hbut⟩ | ⟨rfl, ⟨M', hsub, hJx3⟩, hbut⟩)
      · have hgs := (HE.out.row.lt g rfl).2
        have hE3 : AlAtY X J w W3 G (.slice (some ⟨g, 0, none⟩) G.length c) L M' (k + 1) := by
          refine ⟨hJ3, HE.out.keep.trans hbut (fun b _ e => ?_), hbut.row HE.out.row (fun b e1 e2 => ?_), fun b e => ?_, fun b e1 e2 => ?_⟩
          · rcases e with (e | e | e) | e
            · exact .inl e
            · exact .inr e.1
            · exact e.elim
            · exact .inr (by have := HE.out.m b e; omega)
          · have h1 := (HE.out.row.lt b e1).1
            rcases e2 with (e2 | e2 | e2) | e2
            · have := hX _ e2; omega
            · omega
            · exact e2.elim
            · exact HE.out.out b e1 e2
          · have h1 := hbut.size
            have h2 := HE.out.row.lt g rfl
            rcases hsub b e with e | e
            · have := HE.out.m b e; omega
            · omega
          · rcases hsub b e2 with e | e
            · exact HE.out.out b e1 e
            · have := (HE.out.row.lt b e1).2
              omega
        have HE3 := Lib.hid hE3
        clear hE3 hbut hJ3
        gi_wp2
        go_wp2_with fail
        go_roundw
        case rel => exact ⟨M', k + 1, by omega, by go_num, HE3⟩
        case measure => simp [RowKit.intOf]; omega
      · gi_wp2
        go_wp2_with fail
        refine bodyPost_ret (results_none rfl _ _ _) rfl ?_
        refine ⟨⟨_, rfl⟩, .inr ⟨M', k + 1, trivial, fun b e => ?_, hJx3⟩⟩
        have h1 := hbut.size
        have h2 := HE.out.row.lt g rfl
        have h3 := HL.out
        rcases hsub b e with e | e
        · have := HE.out.m b e; omega
        · omega
    · obtain rfl : k = G.length := by omega
      go_wp2_with fail
      go_end0
      exact ⟨⟨_, rfl⟩, .inl ⟨M, _, rfl, fun b e => by have := HE.out.m b e; have := HL.out; omega, HE.out.j⟩⟩
end Go.Proofs
