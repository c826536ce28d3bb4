/-
  Each: what it answers, and what its iterator promises: the signs of the text, one behind the other. No condition.
-/
import Derived.Laws.RangeString
import Derived.Laws.RangeAny
import Derived.LoopTactic
import Derived.LoopIn
import Derived.Deep.CutRange
import Derived.Deep.DeepCutAuto
import Derived.OwnWalkIn
import Derived.TacticsInMore
import Derived.Test.YtneaenplbccpmaaGreatDoorItr1
import Derived.Test.YtneaenplbccpmaaGreatDoorTxB
namespace Go.Proofs
open Go Go.RowKit Sm Go.Lib
attribute [local go_sem] Oper.semAt_some
theorem Sm.run_next_at {P : Program} (W : World) (it : Nat) (s : ByteArray) (pos : Nat) (ty : TypeId) (hb : W.heap[it]? = some (.stringIter s pos)) (h : pos < s.size) :
    (Instr.next (.pointer (some ⟨it, 0, none⟩)) true ty).run P W = .ok (.tuple #[.bool true, .int .i64 pos, .int .i32 (Utf8.decode s pos).1]) (W.putObj it (.stringIter s (pos + (Utf8.decode s pos).2))) := by
  simp only [Instr.next, getObj, setObj, Sem.run_bind, Sem.run, hb, Result.andThen, h, if_true]
  simp [goInt, World.putObj]
theorem Sm.run_next_stop {P : Program} (W : World) (it : Nat) (s : ByteArray) (pos : Nat) (ty : TypeId) (hb : W.heap[it]? = some (.stringIter s pos)) (h : ¬ pos < s.size) :
    (Instr.next (.pointer (some ⟨it, 0, none⟩)) true ty).run P W = .ok (.tuple #[.bool false]) W := by
  simp [Instr.next, getObj, Sem.run, hb, h]
set_option maxHeartbeats 400000 in
theorem Sm.Each_any (s : ByteArray) (w : World) : Calls Tryz.prog 14 #[.string s] w fun e w' => e = .returned (.func (.func 33) #[] #[.pointer (some ⟨w.heap.size, 0, none⟩)]) ∧ w.alloc (.cells #[.string s] 9) = w' := by
  have hmf : ∀ (fn : Fn) (first cap : Array Value) (w : World), (Instr.makeFunc fn first cap).run Tryz.prog w = .ok (.func fn first cap) w := fun _ _ _ _ => rfl
  go_enter Tryz.func14, Tryz.ntmps14
  go_wp2
  go_ret
  exact ⟨rfl, rfl⟩
def Sm.MayE (X : Nat → Prop) (N : Nat) : Nat → Prop := fun b => X b ∨ N ≤ b
/-- with what sign k is told -/
def Sm.HEa (s : ByteArray) (_L k : Nat) (args : Array Value) (_W : World) : Prop := k < cntS s ∧ args = #[.int .i64 (posK s k : Int), .int .i32 (runeK s k : Int)]
def Sm.rowE : Array Value → Nat → Prop := fun _ _ => False
structure Sm.EaAt (X : Nat → Prop) (J : Nat → World → Prop) (w wr : World) (s : ByteArray) (L k : Nat) : Prop where
  j : J k wr
  keep : But (MayE X w.heap.size) w wr
  it : wr.heap[L]? = some (.stringIter s (posK s k))
theorem Sm.iterPos_at {W : World} {it p : Nat} {s : ByteArray} (h : W.heap[it]? = some (.stringIter s p)) : W.iterPos it = p := by simp [World.iterPos, h]
set_option maxRecDepth 100000 in
set_option maxHeartbeats 4000000 in
theorem Sm.each_seq (s : ByteArray) (Bx : Nat) (w : World) (X : Nat → Prop) (hbx : w.heap[Bx]? = some (.cells #[.string s] 9 (0, 0))) (hX : ∀ b, X b → b < w.heap.size) :
    SeqX Tryz.prog 33 #[.pointer (some ⟨Bx, 0, none⟩)] X (HEa s) rowE (fun _ => True) (fun k => k = cntS s) (fun _ => True) w := by
  intro L0 J Jx W hW hJ hJx hY hJ0
  have hBl : Bx < w.heap.size := (Array.getElem?_eq_some_iff.1 hbx).1
  have hbW : W.heap[Bx]? = some (.cells #[.string s] 9 (0, 0)) := (hW.block Bx hBl).trans hbx
  have c1 : W.cell? ⟨Bx, 0, none⟩ = some (.string s) := cell_of_heap hbW 0
  have hI0 : (W.alloc (.stringIter s 0)).heap[W.heap.size]? = some (.stringIter s 0) := World.alloc_heap_new W _
  obtain ⟨L, hL⟩ : ∃ L, W.heap.size = L := ⟨_, rfl⟩
  have hwL : w.heap.size ≤ L := by rw [← hL]; exact hW.size
  have hE0 : EaAt X J w (W.alloc (.stringIter s 0)) s L 0 := ⟨hJ 0 _ _ hJ0 ((Below.refl _ W).alloc (Nat.le_refl _) _), ((But.of_below hW).alloc _).mono (fun b _ e => .inr e), by rw [← hL]; exact hI0⟩
  have HE0 := Lib.hid hE0
  show Calls Tryz.prog 33 #[.func (.yield L0) #[] #[], .pointer (some ⟨Bx, 0, none⟩)] W _
  clear hE0 hI0 hbx hbW hJ0
  rw [hL] at hJ hJx hY
  have HL := Lib.hid hL
  go_enter Tryz.func33, Tryz.ntmps33
  go_wp2_with fail
  clear c1
  clear hL
  go_loopw [3] (fun _ wr => ∃ k : Nat, k ≤ cntS s ∧ Hid (EaAt X J w wr s L k)) (fun _ wr => s.size - wr.iterPos L)
  case atStart => exact ⟨0, Nat.zero_le _, HE0⟩
  case round =>
    obtain ⟨wo, rfl⟩ : ∃ wo : World, wo = wr := ⟨_, rfl⟩
    obtain ⟨k, hk, HE⟩ := hrel
    clear HE0
    by_cases hlt : posK s k < s.size
    · have hnx : ∀ ty, (Instr.next (.pointer (some ⟨L, 0, none⟩)) true ty).run Tryz.prog wo = _ := fun ty => run_next_at wo L s (posK s k) ty HE.out.it hlt
      have hLo : L < wo.heap.size := (Array.getElem?_eq_some_iff.1 HE.out.it).1
      obtain ⟨w1, hw1⟩ : ∃ w1, wo.putObj L (.stringIter s (posK s k + (Utf8.decode s (posK s k)).2)) = w1 := ⟨_, rfl⟩
      have hbp : But (fun b => b = L) wo w1 := by rw [← hw1]; exact put_but _ _ _
      have hit1 : w1.heap[L]? = some (.stringIter s (posK s (k + 1))) := by rw [← hw1, posK_succ hlt]; simp [World.putObj, hLo]
      have hj1 : J k w1 := hJ k _ _ HE.out.j (hbp.to_below (n := L) (by omega) (fun b e => by omega))
      have hk1 : k < cntS s := posK_cnt hlt
      have hH : HEa s L k #[.int .i64 (posK s k : Int), .int .i32 ((Utf8.decode s (posK s k)).1 : Int)] w1 := ⟨hk1, rfl⟩
      obtain ⟨fn, tmps, assign, body, hy, hR⟩ := hY k _ w1 hj1 hH
      have hstep := posK_step hlt
      have hkp : But (MayE X w.heap.size) w w1 := HE.out.keep.trans hbp (fun b _ e => .inr (by omega))
      have HKP := Lib.hid hkp
      have HI1 := Lib.hid hit1
      have hle := posK_le s (k + 1)
      have hpo := iterPos_at HE.out.it
      rw [hw1] at hnx
      clear hw1 hbp hit1 hj1 hH hkp
      go_upto_region 3 with fail
      refine (wpIn_wide (n := 3)).1 ?_
      gi_wp2
      refine (roundIn_any hR).mono ?_
      clear hR hy hnx
      rintro e W3 (⟨rfl, _, hJ3, hbut⟩ | ⟨rfl, hJx3, _⟩)
      · have hno : ¬ RoundMay X w.heap.size L rowE #[.int .i64 (posK s k : Int), .int .i32 ((Utf8.decode s (posK s k)).1 : Int)] L := by
          rintro (e | e | e)
          · have := hX _ e; omega
          · omega
          · exact e
        have hit3 := hbut.box HI1.out hno
        have hkp3 : But (MayE X w.heap.size) w W3 := HKP.out.trans hbut (fun b _ e => by
          rcases e with e | e | e
          · exact .inl e
          · exact .inr e.1
          · exact e.elim)
        have HE3 : Hid (EaAt X J w W3 s L (k + 1)) := Lib.hid ⟨hJ3, hkp3, hit3⟩
        have hp3 := iterPos_at hit3
        clear hbut hno hit3 hkp3 hJ3
        gi_wp2
        go_wp2_with fail
        refine ⟨⟨k + 1, hk1, HE3⟩, ?_⟩
        rw [hp3, hpo]
        omega
      · gi_wp2
        go_wp2_with fail
        refine bodyPost_ret (results_none rfl _ _ _) rfl ?_
        exact ⟨⟨_, rfl⟩, .inr ⟨k + 1, trivial, hJx3⟩⟩
    · have hnx : ∀ ty, (Instr.next (.pointer (some ⟨L, 0, none⟩)) true ty).run Tryz.prog wo = _ := fun ty => run_next_stop wo L s (posK s k) ty HE.out.it hlt
      have hke : k = cntS s := by
        by_cases h : k < cntS s
        · exact absurd (cntS_lt h) hlt
        · omega
      have HKE := Lib.hid hke
      clear hke
      go_wp2_with fail
      go_end0
      exact ⟨⟨_, rfl⟩, .inl ⟨k, HKE.out, HE.out.j⟩⟩
end Go.Proofs
