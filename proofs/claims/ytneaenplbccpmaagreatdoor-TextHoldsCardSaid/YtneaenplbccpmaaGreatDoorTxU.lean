/-
  The program's ofName and run: the name with which a text begins. Condition: a text that is not too long.
-/
import Derived.WalkLawsBesides
import Derived.Test.YtneaenplbccpmaaGreatDoorNmM
import Derived.Test.YtneaenplbccpmaaGreatDoorTxQ
namespace Go.Proofs
open Go Go.RowKit Sm Go.Lib
set_option maxRecDepth 100000 in
set_option maxHeartbeats 1000000 in
theorem Sm.ofName_any (x : Nat) (w : World) : Calls Tryz.prog 72 #[.int .i32 (x : Int)] w fun e w' => e = .returned (.bool (nameN x)) ∧ w = w' := by
  by_cases h1 : 97 ≤ x
  · by_cases h2 : x ≤ 122
    · have e : nameN x = true := by unfold nameN; exact decide_eq_true (by omega)
      rw [e]
      clear e
      go_enter Tryz.func72, Tryz.ntmps72
      go_wp2
      go_ret
      exact ⟨ret_bool (by simp; try omega), rfl⟩
    · have e : nameN x = false := by unfold nameN; exact decide_eq_false (by omega)
      rw [e]
      have n95 : ((x : Int) == 95) = false := by simp; omega
      clear e
      go_enter Tryz.func72, Tryz.ntmps72
      go_wp2
      go_ret
      exact ⟨ret_bool (by simp; try omega), rfl⟩
  · by_cases h95 : x = 95
    · have e : nameN x = true := by unfold nameN; exact decide_eq_true (by omega)
      rw [e]
      have n95 : ((x : Int) == 95) = true := by simp; omega
      have h57 : 57 < x := by omega
      clear e h95
      go_enter Tryz.func72, Tryz.ntmps72
      go_wp2
      go_ret
      exact ⟨ret_bool (by simp; try omega), rfl⟩
    · have n95 : ((x : Int) == 95) = false := by simp; omega
      by_cases h3 : 48 ≤ x
      · by_cases h4 : x ≤ 57
        · have e : nameN x = true := by unfold nameN; exact decide_eq_true (by omega)
          rw [e]
          clear e h95
          go_enter Tryz.func72, Tryz.ntmps72
          go_wp2
          go_ret
          exact ⟨ret_bool (by simp; try omega), rfl⟩
        · have e : nameN x = false := by unfold nameN; exact decide_eq_false (by omega)
          rw [e]
          clear e h95
          go_enter Tryz.func72, Tryz.ntmps72
          go_wp2
          go_ret
          exact ⟨ret_bool (by simp; try omega), rfl⟩
      · have e : nameN x = false := by unfold nameN; exact decide_eq_false (by omega)
        rw [e]
        clear e h95
        go_enter Tryz.func72, Tryz.ntmps72
        go_wp2
        go_ret
        exact ⟨ret_bool (by simp; try omega), rfl⟩
theorem Sm.tw_get {f : BitVec 8 → Bool} : ∀ (l : List (BitVec 8)) (j : Nat), j < (l.takeWhile f).length → ∃ b, l[j]? = some b ∧ f b = true
  | [], j, h => by simp at h
  | b :: r, j, h => by
    rw [List.takeWhile_cons] at h
    split at h
    · rename_i hb
      cases j with
      | zero => exact ⟨b, rfl, hb⟩
      | succ j =>
        obtain ⟨c, h1, h2⟩ := tw_get r j (by simpa using h)
        exact ⟨c, by simpa using h1, h2⟩
    · simp at h
theorem Sm.tw_end {f : BitVec 8 → Bool} : ∀ (l : List (BitVec 8)), (l.takeWhile f).length < l.length → ∃ b, l[(l.takeWhile f).length]? = some b ∧ f b = false
  | [], h => by simp at h
  | b :: r, h => by
    rw [List.takeWhile_cons] at h ⊢
    split at h
    · rename_i hb
      obtain ⟨c, h1, h2⟩ := tw_end r (by simpa using h)
      rw [if_pos hb]
      exact ⟨c, by simpa using h1, h2⟩
    · rename_i hb
      rw [if_neg hb]
      exact ⟨b, rfl, by simpa using hb⟩
theorem Sm.tw_take {f : BitVec 8 → Bool} (l : List (BitVec 8)) : l.take (l.takeWhile f).length = l.takeWhile f := by
  obtain ⟨r, hr⟩ := List.takeWhile_prefix f (l := l)
  conv => lhs; rw [← hr]
  have : (l.takeWhile f ++ r).takeWhile f = l.takeWhile f := by rw [hr]
  rw [this]
  simp
theorem Sm.byte_get (s : ByteArray) {j : Nat} {b : BitVec 8} (h : (strL s)[j]? = some b) : (s.get! j).toNat = b.toNat := by
  obtain ⟨hl, rfl⟩ := List.getElem?_eq_some_iff.1 h
  rw [strL_at]
  rfl
theorem Sm.idx_name (s : ByteArray) : ∀ n pos f, pos + n = ((strL s).takeWhile nmB).length → s.size ≤ pos + f →
    idxFuncFrom nameN false s f pos = if ((strL s).takeWhile nmB).length = s.size then -1 else (((strL s).takeWhile nmB).length : Int)
  | 0, pos, f, h, hf => by
    have hle : ((strL s).takeWhile nmB).length ≤ s.size := by rw [← strL_length]; exact (List.takeWhile_prefix nmB).length_le
    by_cases he : ((strL s).takeWhile nmB).length = s.size
    · rw [if_pos he, idxFuncFrom_end]
      omega
    · obtain ⟨g, rfl⟩ : ∃ g, f = g + 1 := ⟨f - 1, by omega⟩
      obtain ⟨b, hb1, hb2⟩ := tw_end (f := nmB) (strL s) (by rw [strL_length]; omega)
      have hbt := byte_get s hb1
      rw [if_neg he]
      unfold idxFuncFrom
      have hpe : pos = ((strL s).takeWhile nmB).length := by omega
      rw [if_pos (by omega)]
      have hn : nameN (Utf8.decode s pos).1 = false := by
        rw [hpe]
        by_cases h128 : (s.get! ((strL s).takeWhile nmB).length).toNat < 128
        · rw [dec_low h128, hbt]
          exact hb2
        · have := (dec_high (s := s) (p := ((strL s).takeWhile nmB).length) (by omega)).1
          unfold nameN
          exact decide_eq_false (by omega)
      rw [if_pos hn, hpe]
  | n + 1, pos, f, h, hf => by
    have hle : ((strL s).takeWhile nmB).length ≤ s.size := by rw [← strL_length]; exact (List.takeWhile_prefix nmB).length_le
    obtain ⟨g, rfl⟩ : ∃ g, f = g + 1 := ⟨f - 1, by omega⟩
    obtain ⟨b, hb1, hb2⟩ := tw_get (f := nmB) (strL s) pos (by omega)
    have hbt := byte_get s hb1
    have hb2' : nameN (s.get! pos).toNat = true := by rw [hbt]; exact hb2
    have hlow : (s.get! pos).toNat < 128 := by
      have h := hb2'
      unfold nameN at h
      have := of_decide_eq_true h
      omega
    unfold idxFuncFrom
    rw [if_pos (by omega), dec_low hlow]
    simp only [hb2', Bool.true_eq_false, if_false]
    exact idx_name s n (pos + 1) g (by omega) (by omega)
theorem Sm.trim_name (s : ByteArray) : (trimLeftF nameN s).size = s.size - ((strL s).takeWhile nmB).length := by
  have h : idxFunc nameN false s = _ := idx_name s ((strL s).takeWhile nmB).length 0 s.size (by omega) (by omega)
  have hle : ((strL s).takeWhile nmB).length ≤ s.size := by rw [← strL_length]; exact (List.takeWhile_prefix nmB).length_le
  unfold trimLeftF
  rw [h]
  by_cases he : ((strL s).takeWhile nmB).length = s.size
  · rw [if_pos he, if_pos rfl, he]
    simp
    rfl
  · rw [if_neg he, if_neg (by omega)]
    simp
set_option maxRecDepth 100000 in
set_option maxHeartbeats 1000000 in
theorem Sm.run_any (s : ByteArray) (w : World) (hm : s.size ≤ 1000000000) : Calls Tryz.prog 73 #[.string s] w fun e w' => e = .returned (.string (strB ((strL s).takeWhile nmB))) ∧ Below w.heap.size w w' := by
  have ht := Tryz.strings_TrimLeftFunc_grows 72 #[] (enters_of Tryz.func72 (by kernel_rfl) rfl) nameN s w (fun W x _ _ => (ofName_any x W).mono fun e w' ⟨h1, h2⟩ => ⟨h1, h2 ▸ Below.refl _ _⟩)
  have hsz := trim_name s
  have hle : ((strL s).takeWhile nmB).length ≤ s.size := by rw [← strL_length]; exact (List.takeWhile_prefix nmB).length_le
  have hcut : s.extract 0 ((strL s).takeWhile nmB).length = strB ((strL s).takeWhile nmB) := by
    conv => lhs; rw [← strB_strL s]
    rw [cut_strB, List.drop_zero, strL_strB, tw_take]
  obtain ⟨R, hR⟩ : ∃ R, strB ((strL s).takeWhile nmB) = R := ⟨_, rfl⟩
  obtain ⟨m, hme⟩ : ∃ m, ((strL s).takeWhile nmB).length = m := ⟨_, rfl⟩
  obtain ⟨T, hT⟩ : ∃ T, trimLeftF nameN s = T := ⟨_, rfl⟩
  rw [hR] at hcut ⊢
  rw [hme] at hcut hsz hle
  rw [hT] at hsz ht
  have hsl : ∀ w, (Instr.slice 9 (.string s) none (some (.int .i64 (m : Int))) none).run Tryz.prog w = .ok (.string R) w := fun w => by
    have := run_slice_string_h (P := Tryz.prog) w 9 s Tryz.underlying9 .i64 (m : Int) (by omega) (by omega)
    rw [this, ← hcut]
    rfl
  have hsub : (s.size : Int) - (T.size : Int) = (m : Int) := by omega
  have h0 : (T.size : Int) ≤ (s.size : Int) := by omega
  clear hR hme hT hcut hsz hle
  go_enter Tryz.func73, Tryz.ntmps73
  go_wp2_with (go_at_call 88; (with_reducible refine ht.mono ?_); rintro e w' ⟨rfl, hb⟩)
  go_ret
  exact ⟨rfl, hb⟩
end Go.Proofs
