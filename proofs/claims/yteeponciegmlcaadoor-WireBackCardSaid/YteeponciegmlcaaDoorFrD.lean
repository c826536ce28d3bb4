/-
  The contract of the reference first frame.
-/
import Derived.Test.YteeponciegmlcaaDoorFrC
namespace Go.Proofs
open Go.RowKit Go.Shelf Sm
theorem Sm.split_none {w : World} {l : List (BitVec 8)} {n : Nat} {e : Int} (h : splitS l = ([], n, e)) : SplitPost w l (.returned (.tuple #[.slice none 0 0, .int .i64 (n : Int), .int .i64 e])) w := by
  unfold SplitPost
  rw [h]
  exact ⟨⟨_, rfl, World.ownsRow_nil _ _ _ _⟩, Below.refl _ _⟩
set_option maxRecDepth 100000 in
set_option maxHeartbeats 8000000 in
theorem Sm.refSplit_any (l : List (BitVec 8)) (n c : Nat) (A : Option Addr) (w : World) (hn : l.length = n) (hc : n ≤ c) (hr : Rd w w.heap.size A l) (hbig : n ≤ 1000000) :
    Calls Tryd.prog 31 #[.slice A n c] w (SplitPost w l) := by
  have hct := refTake_any l n c w.heap.size A w (Lib.hid hn) (by omega) hr
  rcases hg : getN l with _ | _ | ⟨m, k⟩
  · have hT : takeV l = (0, 0) := by unfold takeV; rw [hg]
    rw [hT] at hct
    have hsp : splitS l = ([], 0, 0) := by unfold splitS; rw [hg]
    go_enter Tryd.func31, Tryd.ntmps31
    go_wp2_with (go_at_call 48; (with_reducible refine hct.mono ?_); rintro e w2 ⟨rfl, rfl⟩)
    refine bodyPost_ret (v := .tuple #[.slice none 0 0, .int .i64 0, .int .i64 0]) (by simp [results, Tryd.results31, go_sem]) rfl (split_none hsp)
  · have hT : takeV l = (0, -1) := by unfold takeV; rw [hg]
    rw [hT] at hct
    have hsp : splitS l = ([], 0, 121) := by unfold splitS; rw [hg]
    go_enter Tryd.func31, Tryd.ntmps31
    go_wp2_with (go_at_call 48; (with_reducible refine hct.mono ?_); rintro e w2 ⟨rfl, rfl⟩)
    refine bodyPost_ret (v := .tuple #[.slice none 0 0, .int .i64 0, .int .i64 121]) (by simp [results, Tryd.results31, go_sem]) rfl (split_none hsp)
  · have hT : takeV l = ((m : Int), (k : Int)) := by unfold takeV; rw [hg]
    rw [hT] at hct
    obtain ⟨hmt, hk0, hk9, hkl⟩ := getN_form hg
    rw [hn] at hkl
    by_cases h4 : m < 4
    · have hsp : splitS l = ([], 0, 121) := by
        unfold splitS
        rw [hg]
        simp only
        rw [if_pos (.inr h4)]
      go_enter Tryd.func31, Tryd.ntmps31
      go_wp2_with (go_at_call 48; (with_reducible refine hct.mono ?_); rintro e w2 ⟨rfl, rfl⟩)
      all_goals exact bodyPost_ret (v := .tuple #[.slice none 0 0, .int .i64 0, .int .i64 121]) (by simp [results, Tryd.results31, go_sem]) rfl (split_none hsp)
    · by_cases hh : 4100 < m
      · have hsp : splitS l = ([], 0, 121) := by
          unfold splitS
          rw [hg]
          simp only
          rw [if_pos (.inl hh)]
        go_enter Tryd.func31, Tryd.ntmps31
        go_wp2_with (go_at_call 48; (with_reducible refine hct.mono ?_); rintro e w2 ⟨rfl, rfl⟩)
        all_goals exact bodyPost_ret (v := .tuple #[.slice none 0 0, .int .i64 0, .int .i64 121]) (by simp [results, Tryd.results31, go_sem]) rfl (split_none hsp)
      · by_cases hl : n - k < m
        · have hsp : splitS l = ([], 0, 0) := by
            unfold splitS
            rw [hg]
            simp only
            rw [if_neg (by omega), if_pos (by omega)]
          have hl' : (n : Int) - (k : Int) < (m : Int) := by omega
          go_enter Tryd.func31, Tryd.ntmps31
          go_wp2_with (go_at_call 48; (with_reducible refine hct.mono ?_); rintro e w2 ⟨rfl, rfl⟩)
          all_goals exact bodyPost_ret (v := .tuple #[.slice none 0 0, .int .i64 0, .int .i64 0]) (by simp [results, Tryd.results31, go_sem]) rfl (split_none hsp)
        · have hl' : ¬ (n : Int) - (k : Int) < (m : Int) := by omega
          obtain ⟨b, off, rfl, hb, _⟩ := hr (by omega)
          have hsl : ((l.drop k).take m).length = m := by rw [List.length_take, List.length_drop]; omega
          have hop := refOpen_gen ((l.drop k).take m) m (c - k) (some ⟨b, off + k, none⟩) w hsl (by omega) (by omega) ((hr.drop k).take m)
          have x1 : (0 : Int) ≤ (k : Int) := by omega
          have x2 : (k : Int) ≤ (k : Int) + (m : Int) := by omega
          have x3 : (k : Int) + (m : Int) ≤ (c : Int) := by omega
          by_cases ho : openOk ((l.drop k).take m)
          · have he : openE ((l.drop k).take m) = 0 := by unfold openE; rw [if_pos ho]
            have hsp : splitS l = (openL ((l.drop k).take m), k + m, 0) := by
              unfold splitS
              rw [hg]
              simp only
              rw [if_neg (by omega), if_neg (by omega), if_pos ho]
            unfold OpenP at hop
            rw [he] at hop
            go_enter Tryd.func31, Tryd.ntmps31
            go_wp2_with (first
              | (go_at_call 48; (with_reducible refine hct.mono ?_); rintro e w2 ⟨rfl, rfl⟩)
              | (go_at_call 61; (with_reducible refine hop.mono ?_); rintro e w3 ⟨v3, rfl, hown3, hb3⟩))
            refine bodyPost_ret (v := .tuple #[v3, .int .i64 ((k : Int) + (m : Int)), .int .i64 0]) (by simp [results, Tryd.results31, go_sem]) rfl ?_
            unfold SplitPost
            rw [hsp]
            exact ⟨⟨v3, rfl, hown3⟩, hb3⟩
          · have he : openE ((l.drop k).take m) = 110 := by unfold openE; rw [if_neg ho]
            have hsp : splitS l = ([], 0, 110) := by
              unfold splitS
              rw [hg]
              simp only
              rw [if_neg (by omega), if_neg (by omega), if_neg ho]
            unfold OpenP at hop
            rw [he] at hop
            go_enter Tryd.func31, Tryd.ntmps31
            go_wp2_with (first
              | (go_at_call 48; (with_reducible refine hct.mono ?_); rintro e w2 ⟨rfl, rfl⟩)
              | (go_at_call 61; (with_reducible refine hop.mono ?_); rintro e w3 ⟨v3, rfl, hown3, hb3⟩))
            refine bodyPost_ret (v := .tuple #[.slice none 0 0, .int .i64 0, .int .i64 110]) (by simp [results, Tryd.results31, go_sem]) rfl ?_
            unfold SplitPost
            rw [hsp]
            exact ⟨⟨_, rfl, World.ownsRow_nil _ _ _ _⟩, hb3⟩
