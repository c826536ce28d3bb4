/-
  Each's iterator, where rounds keep what they made. No condition.
-/
import Derived.Test.YtneaenplbccpmaaGreatDoorItrY
import Derived.Test.YtneaenplbccpmaaGreatDoorTxC
namespace Go.Proofs
open Go Go.RowKit Sm Go.Lib
attribute [local go_sem] Oper.semAt_some
structure Sm.EaY (J : Nat → World → Prop) (M : Nat → Prop) (wr : World) (s : ByteArray) (L k : Nat) : Prop where
  j : J k wr
  own : ∀ b, M b → L < b ∧ b < wr.heap.size
  it : wr.heap[L]? = some (.stringIter s (posK s k))
set_option maxRecDepth 100000 in
set_option maxHeartbeats 4000000 in
theorem Sm.each_seqY (s : ByteArray) (Bx : Nat) (w : World) (X : Nat → Prop) (hbx : w.heap[Bx]? = some (.cells #[.string s] 9 (0, 0))) (hX : ∀ b, X b → b < w.heap.size) :
    SeqY Tryz.prog 33 #[.pointer (some ⟨Bx, 0, none⟩)] X (HEa s) rowE (fun _ => True) (fun k => k = cntS s) (fun _ => True) w := by
  intro L0 J Jx W hW hJ hJx hY hJ0
  have hBl : Bx < w.heap.size := (Array.getElem?_eq_some_iff.1 hbx).1
  have hbW : W.heap[Bx]? = some (.cells #[.string s] 9 (0, 0)) := (hW.block Bx hBl).trans hbx
  have c1 : W.cell? ⟨Bx, 0, none⟩ = some (.string s) := cell_of_heap hbW 0
  have hI0 : (W.alloc (.stringIter s 0)).heap[W.heap.size]? = some (.stringIter s 0) := World.alloc_heap_new W _
  obtain ⟨L, hL⟩ : ∃ L, W.heap.size = L := ⟨_, rfl⟩
  have hwL : w.heap.size ≤ L := by rw [← hL]; exact hW.size
  have hE0 : EaY (J fun _ => False) (fun _ => False) (W.alloc (.stringIter s 0)) s L 0 := ⟨hJ.below hJ0 (fun b e => e.elim) ((Below.refl _ W).alloc (Nat.le_refl _) _), (fun b e => e.elim), by rw [← hL]; exact hI0⟩
  have HE0 := Lib.hid hE0
  show Calls Tryz.prog 33 #[.func (.yield L0) #[] #[], .pointer (some ⟨Bx, 0, none⟩)] W _
  clear hE0 hI0 hbx hbW hJ0
  rw [hL] at hJ hJx hY
  have HL := Lib.hid hL
  go_enter Tryz.func33, Tryz.ntmps33
  go_wp2_with fail
  clear c1
  clear hL
  go_loopw [3] (fun _ wr => ∃ (k : Nat) (M : Nat → Prop), k ≤ cntS s ∧ Hid (EaY (J M) M wr s L k)) (fun _ wr => s.size - wr.iterPos L)
  case atStart => exact ⟨0, _, Nat.zero_le _, HE0⟩
  case round =>
    obtain ⟨wo, rfl⟩ : ∃ wo : World, wo = wr := ⟨_, rfl⟩
    obtain ⟨k, M, hk, HE⟩ := hrel
    clear HE0
    by_cases hlt : posK s k < s.size
    · have hnx : ∀ ty, (Instr.next (.pointer (some ⟨L, 0, none⟩)) true ty).run Tryz.prog wo = _ := fun ty => run_next_at wo L s (posK s k) ty HE.out.it hlt
      have hLo : L < wo.heap.size := (Array.getElem?_eq_some_iff.1 HE.out.it).1
      obtain ⟨w1, hw1⟩ : ∃ w1, wo.putObj L (.stringIter s (posK s k + (Utf8.decode s (posK s k)).2)) = w1 := ⟨_, rfl⟩
      have hbp : But (fun b => b = L) wo w1 := by rw [← hw1]; exact put_but _ _ _
      have hit1 : w1.heap[L]? = some (.stringIter s (posK s (k + 1))) := by rw [← hw1, posK_succ hlt]; simp [World.putObj, hLo]
      have hj1 : J M k w1 := by rw [← hw1]; exact hJ.put HE.out.j (fun b e => (HE.out.own b e).2) (Nat.le_refl _) (fun e => by have := (HE.out.own _ e).1; omega) _
      have hs1 : w1.heap.size = wo.heap.size := by rw [← hw1]; simp
      have hk1 : k < cntS s := posK_cnt hlt
      have hH : HEa s L k #[.int .i64 (posK s k : Int), .int .i32 ((Utf8.decode s (posK s k)).1 : Int)] w1 := ⟨hk1, rfl⟩
      obtain ⟨fn, tmps, assign, body, hy, hR⟩ := hY M k _ w1 (fun b e => by have := HE.out.own b e; omega) hj1 hH
      have hstep := posK_step hlt
      have HI1 := Lib.hid hit1
      have hle := posK_le s (k + 1)
      have hpo := iterPos_at HE.out.it
      rw [hw1] at hnx
      have HOW := Lib.hid HE.out.own
      have HS1 := Lib.hid hs1
      clear hw1 hbp hit1 hj1 hH hs1
      go_upto_region 3 with fail
      refine (wpIn_wide (n := 3)).1 ?_
      gi_wp2
      refine (roundIn_any hR).mono ?_
      clear hR hy hnx
      rintro e W3 (⟨rfl, _, ⟨M', hsub, hJ3⟩, hbut⟩ | ⟨rfl, ⟨M', hsub, hJx3⟩, hbut⟩)
      · have hno : ¬ (RoundMay X w.heap.size L rowE #[.int .i64 (posK s k : Int), .int .i32 ((Utf8.decode s (posK s k)).1 : Int)] L ∨ M L) := by
          rintro ((e | e | e) | e)
          · have := hX _ e; omega
          · omega
          · exact e
          · have := (HOW.out L e).1; omega
        have hit3 := hbut.box HI1.out hno
        have hown3 : ∀ b, M' b → L < b ∧ b < W3.heap.size := fun b e => by
          have h1 := HS1.out
          have h2 := hbut.size
          rcases hsub b e with e | e
          · have := HOW.out b e; omega
          · omega
        have HE3 : Hid (EaY (J M') M' W3 s L (k + 1)) := Lib.hid ⟨hJ3, hown3, hit3⟩
        have hp3 := iterPos_at hit3
        clear hbut hno hit3 hown3 hJ3 hsub
        gi_wp2
        go_wp2_with fail
        refine ⟨⟨k + 1, M', hk1, HE3⟩, ?_⟩
        rw [hp3, hpo]
        omega
      · have hown3 : ∀ b, M' b → W.heap.size ≤ b ∧ b < W3.heap.size := fun b e => by
          have h1 := HS1.out
          have h2 := hbut.size
          have h3 := HL.out
          rcases hsub b e with e | e
          · have := HOW.out b e; omega
          · omega
        have HO3 := Lib.hid hown3
        clear hown3 hbut hsub
        gi_wp2
        go_wp2_with fail
        refine bodyPost_ret (results_none rfl _ _ _) rfl ?_
        exact ⟨⟨_, rfl⟩, .inr ⟨M', k + 1, trivial, HO3.out, hJx3⟩⟩
    · have hnx : ∀ ty, (Instr.next (.pointer (some ⟨L, 0, none⟩)) true ty).run Tryz.prog wo = _ := fun ty => run_next_stop wo L s (posK s k) ty HE.out.it hlt
      have hke : k = cntS s := by
        by_cases h : k < cntS s
        · exact absurd (cntS_lt h) hlt
        · omega
      have HKE := Lib.hid hke
      clear hke
      go_wp2_with fail
      go_end0
      exact ⟨⟨_, rfl⟩, .inl ⟨M, k, HKE.out, (fun b e => by have := HE.out.own b e; have := HL.out; omega), HE.out.j⟩⟩
end Go.Proofs
