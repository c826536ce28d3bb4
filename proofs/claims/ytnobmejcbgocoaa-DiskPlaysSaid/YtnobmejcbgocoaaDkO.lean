/-
  all: what it answers, and what its iterator promises: the files, in order of their names. Conditions: as each theorem names them.
-/
import Derived.Laws.RangeAny
import Derived.LoopTactic
import Derived.LoopIn
import Derived.Deep.CutRange
import Derived.Deep.DeepCutAuto
import Derived.OwnWalkIn
import Derived.TacticsInMore
import Derived.Test.YtnobmejcbgocoaaItr1
import Derived.Test.YtnobmejcbgocoaaDkL
namespace Go.Proofs
open Go Go.RowKit Sm Go.Lib Go.Maps Go.WideMaps
attribute [local go_sem] Oper.semAt_some
theorem Sm.all_any (p : Nat) (w : World) : Calls Try.prog 40 #[.pointer (some ⟨p, 0, none⟩)] w fun e w' => e = .returned (.func (.func 62) #[] #[.pointer (some ⟨w.heap.size, 0, none⟩)]) ∧ w.alloc (.cells #[.pointer (some ⟨p, 0, none⟩)] 25) = w' := by
  have hmf : ∀ (fn : Fn) (first cap : Array Value) (w : World), (Instr.makeFunc fn first cap).run Try.prog w = .ok (.func fn first cap) w := fun _ _ _ _ => rfl
  go_enter Try.func40, Try.ntmps40
  go_wp2
  go_ret
  exact ⟨rfl, rfl⟩
def Sm.MayD (X : Nat → Prop) (N : Nat) : Nat → Prop := fun b => X b ∨ N ≤ b
/-- with what file k is told -/
def Sm.HDk (G : List FileM) (_L k : Nat) (args : Array Value) (_W : World) : Prop := ∃ f, G[k]? = some f ∧ args = #[.string (strB f.name), f.val]
def Sm.rowD : Array Value → Nat → Prop := fun _ _ => False
structure Sm.AlAt (X : Nat → Prop) (J : Nat → World → Prop) (w wr : World) (G : List FileM) (v : Value) (L k : Nat) : Prop where
  j : J k wr
  keep : But (MayD X w.heap.size) w wr
  row : wr.ownsRow L 9 1 v G.length (G.map fun f => .string (strB f.name))
set_option maxRecDepth 100000 in
set_option maxHeartbeats 4000000 in
theorem Sm.all_seq {p Mb base bd : Nat} {s : DSt} {G : List FileM} (w : World) (h : DAt w p Mb base s G) (hGl : G.length ≤ 1000000) (X : Nat → Prop) (hbd : w.heap[bd]? = some (.cells #[.pointer (some ⟨p, 0, none⟩)] 25 (0, 0))) (hX : ∀ b, X b → b < w.heap.size) (hXd : ∀ b, X b → b ≠ bd ∧ b ≠ p ∧ b ≠ Mb ∧ ∀ f ∈ G, f.sl.ownBlock ≠ some b) :
    SeqX Try.prog 62 #[.pointer (some ⟨bd, 0, none⟩)] X (HDk G) rowD (fun _ => True) (fun k => k = G.length) (fun _ => True) w := by
  intro L0 J Jx W hW hJ hJx hY hJ0
  have hlow := h.low
  have hbdl := (Array.getElem?_eq_some_iff.1 hbd).1
  have hDA : ∀ W', But (MayD X w.heap.size) w W' → DAt W' p Mb base s G ∧ W'.cell? ⟨bd, 0, none⟩ = some (.pointer (some ⟨p, 0, none⟩)) := fun W' hb => by
    refine ⟨h.rows hb (fun e => ?_) (fun e => ?_) (fun f hf => ?_), cell_of_heap (hb.box hbd (fun e => ?_)) 0⟩
    · rcases e with e | e
      · exact (hXd _ e).2.1 rfl
      · omega
    · rcases e with e | e
      · exact (hXd _ e).2.2.1 rfl
      · omega
    · refine hb.row (h.row f hf) (fun g e1 e2 => ?_)
      rcases e2 with e2 | e2
      · exact (hXd _ e2).2.2.2 f hf e1
      · have := ((h.row f hf).lt g e1).2
        omega
    · rcases e with e | e
      · exact (hXd _ e).1 rfl
      · omega
  have hbW : But (MayD X w.heap.size) w W := (But.of_below hW).mono (fun b _ e => .inr e)
  obtain ⟨hDW, c1⟩ := hDA W hbW
  have hnm := names_any W hDW hGl
  have hsort := h.sort
  have HDA := Lib.hid hDA
  have HBW := Lib.hid hbW
  have HJ0 := Lib.hid hJ0
  obtain ⟨L, hL⟩ : ∃ L, W.heap.size = L := ⟨_, rfl⟩
  have hwL : w.heap.size ≤ L := by rw [← hL]; exact hW.size
  show Calls Try.prog 62 #[.func (.yield L0) #[] #[], .pointer (some ⟨bd, 0, none⟩)] W _
  rw [hL] at hJ hJx hY hnm
  have HL := Lib.hid hL
  clear hJ0 hDA hbW hDW h hbd
  have hGI : (G.length : Int) ≤ 1000000 := by omega
  go_enter Try.func62, Try.ntmps62
  go_wp2_with (go_at_call 22; (with_reducible refine hnm.mono ?_); clear hnm; rintro e w1 ⟨v, rfl, hrow, hb1⟩; obtain ⟨A, c, rfl⟩ := own_slice hrow)
  have hE0 : AlAt X J w w1 G (.slice A G.length c) L 0 := ⟨hJ 0 _ _ HJ0.out hb1, HBW.out.trans (But.of_below hb1) (fun b _ e => .inr (by omega)), hrow⟩
  have HE0 := Lib.hid hE0
  clear hE0 hb1 hrow c1
  go_loopw [8] (fun v8 wr => ∃ k : Nat, k ≤ G.length ∧ v8 = .int .i64 (k : Int) ∧ Hid (AlAt X J w wr G (.slice A G.length c) L k)) (fun v8 _ => G.length - (RowKit.intOf v8).toNat)
  case atStart => exact ⟨0, Nat.zero_le _, rfl, HE0⟩
  case round =>
    obtain ⟨wo, rfl⟩ : ∃ wo : World, wo = wr := ⟨_, rfl⟩
    obtain ⟨k, hk, rfl, HE⟩ := hrel
    clear HE0
    by_cases hlt : k < G.length
    · obtain ⟨g, cap, hv, _, hgl⟩ := HE.out.row.form (by omega)
      injection hv with hv1 hv2 hv3
      subst hv1
      obtain ⟨f, hf⟩ : ∃ f, G[k]? = some f := ⟨_, List.getElem?_eq_getElem hlt⟩
      have hfm : f ∈ G := List.mem_of_getElem? hf
      have ck : wo.cell? ⟨g, k, none⟩ = some (.string (strB f.name)) := by
        have := HE.out.row.cellAt k (by omega)
        rw [List.getElem?_map, hf] at this
        simpa using this
      obtain ⟨hDo, cbd⟩ := HDA.out wo HE.out.keep
      have c5 := cell_of_heap hDo.blk 5
      simp only [List.getElem?_toArray, List.getElem?_cons_zero, List.getElem?_cons_succ] at c5
      obtain ⟨D, hD1, hD2⟩ := hDo.map
      have hxz : (strB f.name).size ≤ 1000000 := by
        have h1 := (hDo.ok f hfm).1
        have h3 := strL_length (strB f.name)
        rw [strL_strB] at h3
        unfold nameOK at h1
        simp only [Bool.and_eq_true, decide_eq_true_eq] at h1
        omega
      have hlk := look_some hD1 hD2 hfm (x := strB f.name) (strL_strB f.name) hxz false
      obtain ⟨fn, tmps, assign, body, hy, hR⟩ := hY k _ wo HE.out.j ⟨f, hf, rfl⟩
      clear hDo hD1 hD2 hv3 hgl
      go_upto_region 3 with fail
      refine (wpIn_wide (n := 3)).1 ?_
      gi_wp2
      refine (roundIn_any hR).mono ?_
      clear hR hy hlk c5 cbd ck
      rintro e W3 (⟨rfl, _, hJ3, hbut⟩ | ⟨rfl, hJx3, _⟩)
      · have hE3 : AlAt X J w W3 G (.slice (some ⟨g, 0, none⟩) G.length c) L (k + 1) := by
          refine ⟨hJ3, HE.out.keep.trans hbut (fun b _ e => ?_), hbut.row HE.out.row (fun b e1 e2 => ?_)⟩
          · rcases e with e | e | e
            · exact .inl e
            · exact .inr e.1
            · exact e.elim
          · have h1 := (HE.out.row.lt b e1).1
            rcases e2 with e2 | e2 | e2
            · have := hX _ e2; omega
            · omega
            · exact e2.elim
        have HE3 := Lib.hid hE3
        clear hE3 hbut hJ3
        gi_wp2
        go_wp2_with fail
        go_roundw
        case rel => exact ⟨k + 1, by omega, by go_num, HE3⟩
        case measure => simp [RowKit.intOf]; omega
      · gi_wp2
        go_wp2_with fail
        refine bodyPost_ret (results_none rfl _ _ _) rfl ?_
        exact ⟨⟨_, rfl⟩, .inr ⟨k + 1, trivial, hJx3⟩⟩
    · obtain rfl : k = G.length := by omega
      go_wp2_with fail
      go_end0
      exact ⟨⟨_, rfl⟩, .inl ⟨_, rfl, HE.out.j⟩⟩
end Go.Proofs
