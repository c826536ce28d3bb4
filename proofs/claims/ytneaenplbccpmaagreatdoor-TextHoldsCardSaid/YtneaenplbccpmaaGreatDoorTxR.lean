/-
  The program's meant: which byte is meant ahead of a quoted text, or that it gives up. Conditions: a text that is not empty nor too long; the package variables lie as they are laid.
-/
import Derived.Test.YtneaenplbccpmaaGreatDoorTxQ
namespace Go.Proofs
open Go Go.RowKit Sm Go.Lib
theorem Sm.valL_two (l : List (BitVec 8)) (hl : l.length = 2) (h : l.all digOK = true) : valL l ≤ 255 := by
  have h0 := valL_le (l := l) (k := 1) (Nat.le_refl _) (by omega) (by
    rw [List.all_eq_true] at h ⊢
    exact fun x hx => h x (List.mem_of_mem_take hx))
  have h1 := valL_succ (l := l) (k := 1) (by omega)
  rw [List.take_of_length_le (by omega : l.length ≤ 1 + 1)] at h1
  have := digV_le (List.all_eq_true.1 h l[1] (List.getElem_mem (by omega)))
  omega
set_option maxRecDepth 100000 in
set_option maxHeartbeats 2000000 in
/-- a byte that is not spelled -/
theorem Sm.meant_one (x : BitVec 8) (r : List (BitVec 8)) (w : World) (h : x ≠ 92#8 ∨ r = []) (_hm : r.length ≤ 1000000000) :
    Calls Tryz.prog 82 #[.string (strB (x :: r))] w fun e w' => e = .returned (.int .u8 (ib x)) ∧ Below w.heap.size w w' := by
  have hix : ∀ w, (Instr.index 9 (.string (strB (x :: r))) (.int .i64 0)).run Tryz.prog w = .ok (.int .u8 (ib x)) w := fun w => ix_strB (x :: r) 0 (by simp) w
  have hp := fun W => hasPre_any (x :: r) [92#8] W
  have hsz := strB_length (x :: r)
  simp only [List.length_cons] at hsz
  have e92 : ({ data := #[92] } : ByteArray) = strB [92#8] := by decide +kernel
  have ebt : ([92#8] : List (BitVec 8)).isPrefixOf (x :: r) = decide (x = 92#8) := by
    rw [List.isPrefixOf_cons_cons]
    simp only [List.isPrefixOf_nil_left, Bool.and_true]
    rw [Bool.eq_iff_iff]
    simp only [beq_iff_eq, decide_eq_true_eq]
    exact ⟨fun e => e.symm, fun e => e.symm⟩
  rw [ebt, ← e92] at hp
  obtain ⟨S, hS⟩ : ∃ S, strB (x :: r) = S := ⟨_, rfl⟩
  rw [hS] at hix hp hsz ⊢
  clear e92 ebt hS
  by_cases hx : x = 92#8
  · have hr : r = [] := h.resolve_left (fun e => e hx)
    rw [decide_eq_true hx] at hp
    have hs1 : S.size = 1 := by rw [hsz, hr]; rfl
    clear hsz hx h hr
    go_enter Tryz.func82, Tryz.ntmps82
    go_wp2_with (go_at_call 95; (with_reducible refine (hp _).mono ?_); rintro e w' ⟨rfl, rfl⟩)
    go_ret
    exact ⟨rfl, Below.refl _ _⟩
  · rw [decide_eq_false hx] at hp
    clear hx h
    go_enter Tryz.func82, Tryz.ntmps82
    go_wp2_with (go_at_call 95; (with_reducible refine (hp _).mono ?_); rintro e w' ⟨rfl, rfl⟩)
    go_ret
    exact ⟨rfl, Below.refl _ _⟩
set_option maxRecDepth 100000 in
set_option maxHeartbeats 2000000 in
/-- a byte behind a backslash -/
theorem Sm.meant_two (y : BitVec 8) (r : List (BitVec 8)) (w : World) (h : ¬ (y = 120#8 ∧ 2 ≤ r.length)) (hm : r.length ≤ 1000000000) :
    Calls Tryz.prog 82 #[.string (strB (92#8 :: y :: r))] w fun e w' => e = .returned (.int .u8 (ib y)) ∧ Below w.heap.size w w' := by
  have hix : ∀ w, (Instr.index 9 (.string (strB (92#8 :: y :: r))) (.int .i64 1)).run Tryz.prog w = .ok (.int .u8 (ib y)) w := fun w => ix_strB (92#8 :: y :: r) 1 (by simp) w
  have hp := fun W => hasPre_any (92#8 :: y :: r) [92#8] W
  have hsz := strB_length (92#8 :: y :: r)
  simp only [List.length_cons] at hsz
  have e92 : ({ data := #[92] } : ByteArray) = strB [92#8] := by decide +kernel
  have ebt : ([92#8] : List (BitVec 8)).isPrefixOf (92#8 :: y :: r) = true := by simp
  rw [ebt, ← e92] at hp
  obtain ⟨S, hS⟩ : ∃ S, strB (92#8 :: y :: r) = S := ⟨_, rfl⟩
  rw [hS] at hix hp hsz ⊢
  obtain ⟨Y, hY⟩ : ∃ Y : Nat, y.toNat = Y := ⟨_, rfl⟩
  have hib : ib y = (Y : Int) := by unfold ib; rw [hY]
  have hYy : y = 120#8 ↔ Y = 120 := by rw [← hY]; constructor; (intro e; rw [e]; rfl); intro e; exact BitVec.eq_of_toNat_eq (by rw [e]; rfl)
  rw [hYy] at h
  rw [hib] at hix ⊢
  have hn1 : ((S.size : Int) == 1) = false := by simp; omega
  clear e92 ebt hS hib hYy hY
  by_cases hx : Y = 120
  · have n120 : ((Y : Int) == 120) = true := by simp; omega
    have hs4 : ¬ (4 : Int) ≤ (S.size : Int) := by have : ¬ 2 ≤ r.length := fun e => h ⟨hx, e⟩; omega
    have hs4' : (S.size : Int) < 4 := by omega
    clear h hx hsz
    go_enter Tryz.func82, Tryz.ntmps82
    go_wp2_with (go_at_call 95; (with_reducible refine (hp _).mono ?_); rintro e w' ⟨rfl, rfl⟩)
    go_ret
    exact ⟨rfl, Below.refl _ _⟩
  · have n120 : ((Y : Int) == 120) = false := by simp; omega
    clear h hx hsz
    go_enter Tryz.func82, Tryz.ntmps82
    go_wp2_with (go_at_call 95; (with_reducible refine (hp _).mono ?_); rintro e w' ⟨rfl, rfl⟩)
    go_ret
    exact ⟨rfl, Below.refl _ _⟩
set_option maxRecDepth 100000 in
set_option maxHeartbeats 2000000 in
/-- digits behind a backslash and an x -/
theorem Sm.meant_hex (q : List (BitVec 8)) (w : World) (hq : 2 ≤ q.length) (hm : q.length ≤ 1000000000) (hd : (q.take 2).all digOK = true) :
    Calls Tryz.prog 82 #[.string (strB (92#8 :: 120#8 :: q))] w fun e w' => e = .returned (.int .u8 (ib (BitVec.ofNat 8 (valL (q.take 2))))) ∧ Below w.heap.size w w' := by
  have hv := valL_two (q.take 2) (by rw [List.length_take]; omega) hd
  have hib : ib (BitVec.ofNat 8 (valL (q.take 2))) = ((valL (q.take 2) : Nat) : Int) := by unfold ib; rw [BitVec.toNat_ofNat, Nat.mod_eq_of_lt (by omega)]
  have hix : ∀ w, (Instr.index 9 (.string (strB (92#8 :: 120#8 :: q))) (.int .i64 1)).run Tryz.prog w = .ok (.int .u8 (ib (120#8))) w := fun w => ix_strB (92#8 :: 120#8 :: q) 1 (by simp) w
  have hp := fun W => hasPre_any (92#8 :: 120#8 :: q) [92#8] W
  have hsz := strB_length (92#8 :: 120#8 :: q)
  simp only [List.length_cons] at hsz
  have e92 : ({ data := #[92] } : ByteArray) = strB [92#8] := by decide +kernel
  have ebt : ([92#8] : List (BitVec 8)).isPrefixOf (92#8 :: 120#8 :: q) = true := by simp
  have hcut : (strB (92#8 :: 120#8 :: q)).extract 2 4 = strB (q.take 2) := by rw [cut_strB]; rfl
  have hpu := fun W => PU_good (strB (q.take 2)) W (by rw [strB_length, List.length_take]; omega) (by rw [strL_strB]; exact hd)
  rw [strL_strB] at hpu
  rw [ebt, ← e92] at hp
  rw [hib]
  have e120 : ib (120#8) = 120 := by decide
  rw [e120] at hix
  obtain ⟨S, hS⟩ : ∃ S, strB (92#8 :: 120#8 :: q) = S := ⟨_, rfl⟩
  obtain ⟨T, hT⟩ : ∃ T, strB (q.take 2) = T := ⟨_, rfl⟩
  obtain ⟨n, hn⟩ : ∃ n, valL (q.take 2) = n := ⟨_, rfl⟩
  rw [hS] at hix hp hsz hcut ⊢
  rw [hT] at hcut hpu
  rw [hn] at hpu hv ⊢
  have hsl : ∀ w, (Instr.slice 9 (.string S) (some (.int .i64 2)) (some (.int .i64 4)) none).run Tryz.prog w = .ok (.string T) w := fun w => by
    rw [run_slice_string w 9 S .i64 .i64 2 4 Tryz.underlying9 (by omega) (by omega) (by omega)]
    show Result.ok (Value.string (S.extract 2 4)) w = _
    rw [hcut]
  have hs4 : (4 : Int) ≤ (S.size : Int) := by omega
  have hn1 : ((S.size : Int) == 1) = false := by simp; omega
  clear hsz hcut e92 ebt hd hib e120 hS hT hn
  go_enter Tryz.func82, Tryz.ntmps82
  go_wp2_with (first
    | (go_at_call 95; (with_reducible refine (hp _).mono ?_); rintro e w' ⟨rfl, rfl⟩)
    | (go_at_call 96; (with_reducible refine (hpu _).mono ?_); rintro e w1 ⟨rfl, hb⟩; have hm1 := must_yes w1.heap.size 1 (w1.alloc (.cells #[.bool true] 4)) (World.cell?_alloc_new (w := w1) #[.bool true] 4 0); have HB := Lib.hid hb; clear hb)
    | (go_at_call 81; (with_reducible refine hm1.mono ?_); rintro e w2 ⟨⟨v, rfl⟩, rfl⟩))
  go_ret
  exact ⟨rfl, HB.out.alloc HB.out.size _⟩
set_option maxRecDepth 100000 in
set_option maxHeartbeats 2000000 in
/-- what are no digits behind a backslash and an x -/
theorem Sm.meant_bad (q : List (BitVec 8)) (w : World) (hq : 2 ≤ q.length) (hm : q.length ≤ 1000000000) (hd : (q.take 2).all digOK = false) (hL : LaysT w) :
    Calls Tryz.prog 82 #[.string (strB (92#8 :: 120#8 :: q))] w fun e w' => e = .panicked [pQ] ∧ Below w.heap.size w w' := by
  have hix : ∀ w, (Instr.index 9 (.string (strB (92#8 :: 120#8 :: q))) (.int .i64 1)).run Tryz.prog w = .ok (.int .u8 (ib (120#8))) w := fun w => ix_strB (92#8 :: 120#8 :: q) 1 (by simp) w
  have hp := fun W => hasPre_any (92#8 :: 120#8 :: q) [92#8] W
  have hsz := strB_length (92#8 :: 120#8 :: q)
  simp only [List.length_cons] at hsz
  have e92 : ({ data := #[92] } : ByteArray) = strB [92#8] := by decide +kernel
  have ebt : ([92#8] : List (BitVec 8)).isPrefixOf (92#8 :: 120#8 :: q) = true := by simp
  have hcut : (strB (92#8 :: 120#8 :: q)).extract 2 4 = strB (q.take 2) := by rw [cut_strB]; rfl
  have hpu := PU_bad (strB (q.take 2)) w (by rw [strB_length, List.length_take]; omega) (by rw [strL_strB]; exact hd) hL
  rw [ebt, ← e92] at hp
  have e120 : ib (120#8) = 120 := by decide
  rw [e120] at hix
  obtain ⟨S, hS⟩ : ∃ S, strB (92#8 :: 120#8 :: q) = S := ⟨_, rfl⟩
  obtain ⟨T, hT⟩ : ∃ T, strB (q.take 2) = T := ⟨_, rfl⟩
  rw [hS] at hix hp hsz hcut ⊢
  rw [hT] at hcut hpu
  have hsl : ∀ w, (Instr.slice 9 (.string S) (some (.int .i64 2)) (some (.int .i64 4)) none).run Tryz.prog w = .ok (.string T) w := fun w => by
    rw [run_slice_string w 9 S .i64 .i64 2 4 Tryz.underlying9 (by omega) (by omega) (by omega)]
    show Result.ok (Value.string (S.extract 2 4)) w = _
    rw [hcut]
  have hs4 : (4 : Int) ≤ (S.size : Int) := by omega
  have hn1 : ((S.size : Int) == 1) = false := by simp; omega
  clear hsz hcut e92 ebt hd e120 hS hT hL
  go_enter Tryz.func82, Tryz.ntmps82
  go_wp2_with (first
    | (go_at_call 95; (with_reducible refine (hp _).mono ?_); rintro e w' ⟨rfl, rfl⟩)
    | (go_at_call 96; (with_reducible refine hpu.mono ?_); rintro e w1 ⟨N, rfl, hb⟩; have hm1 := must_no w1.heap.size 1 (w1.alloc (.cells #[.bool false] 4)) (World.cell?_alloc_new (w := w1) #[.bool false] 4 0); have HB := Lib.hid hb; clear hb)
    | (go_at_call 81; (with_reducible refine hm1.mono ?_); rintro e w2 ⟨rfl, rfl⟩))
  exact ⟨rfl, rfl, HB.out.alloc HB.out.size _⟩
/-- which byte is meant -/
theorem Sm.meant_yes (l : List (BitVec 8)) (c : BitVec 8) (w : World) (h : meantL l = some c) (hm : l.length ≤ 1000000000) :
    Calls Tryz.prog 82 #[.string (strB l)] w fun e w' => e = .returned (.int .u8 (ib c)) ∧ Below w.heap.size w w' := by
  match l, h, hm with
  | [x], h, hm =>
    obtain rfl : x = c := Option.some.inj h
    exact meant_one x [] w (.inr rfl) (by simp)
  | x :: y :: q, h, hm =>
    rw [meant_cc] at h
    simp only [List.length_cons] at hm
    by_cases hx : x ≠ 92#8
    · rw [if_pos hx] at h
      obtain rfl := Option.some.inj h
      exact meant_one x (y :: q) w (.inl hx) (by simp only [List.length_cons]; omega)
    · rw [if_neg hx] at h
      obtain rfl : x = 92#8 := Classical.not_not.1 hx
      by_cases hy : y = 120#8 ∧ 2 ≤ q.length
      · rw [if_pos hy] at h
        obtain ⟨rfl, hq⟩ := hy
        by_cases hd : (q.take 2).all digOK = true
        · rw [if_pos hd] at h
          obtain rfl := Option.some.inj h
          exact meant_hex q w hq (by omega) hd
        · rw [if_neg hd] at h
          cases h
      · rw [if_neg hy] at h
        obtain rfl := Option.some.inj h
        exact meant_two y q w hy (by omega)
theorem Sm.meant_no (l : List (BitVec 8)) (w : World) (hn : l ≠ []) (h : meantL l = none) (hm : l.length ≤ 1000000000) (hL : LaysT w) :
    Calls Tryz.prog 82 #[.string (strB l)] w fun e w' => e = .panicked [pQ] ∧ Below w.heap.size w w' := by
  match l, h, hm with
  | [], _, _ => exact absurd rfl hn
  | [x], h, hm => cases h
  | x :: y :: q, h, hm =>
    rw [meant_cc] at h
    simp only [List.length_cons] at hm
    by_cases hx : x ≠ 92#8
    · rw [if_pos hx] at h
      cases h
    · rw [if_neg hx] at h
      obtain rfl : x = 92#8 := Classical.not_not.1 hx
      by_cases hy : y = 120#8 ∧ 2 ≤ q.length
      · rw [if_pos hy] at h
        obtain ⟨rfl, hq⟩ := hy
        by_cases hd : (q.take 2).all digOK = true
        · rw [if_pos hd] at h
          cases h
        · exact meant_bad q w hq (by omega) (by simpa using hd) hL
      · rw [if_neg hy] at h
        cases h
end Go.Proofs
