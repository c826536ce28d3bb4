/-
  Texts as lists of bytes at the library's calls, ParseUint of two bytes, and which byte is meant ahead of a quoted text. Conditions: a text that is not too long; the package variables lie as they are laid.
-/
import Derived.Test.YtneaenplbccpmaaGreatDoorTxP
import Derived.Test.YtneaenplbccpmaaGreatDoorTxJ
import Derived.Test.YtneaenplbccpmaaGreatDoorSpB
namespace Go.Proofs
open Go Go.RowKit Sm Go.Lib
theorem Sm.ofBV_inj {a b : BitVec 8} (h : UInt8.ofBitVec a = UInt8.ofBitVec b) : a = b := by
  have := congrArg UInt8.toBitVec h
  simpa using this
theorem Sm.pre_map (a : List (BitVec 8)) : ∀ b : List (BitVec 8), (a.map UInt8.ofBitVec).isPrefixOf (b.map UInt8.ofBitVec) = a.isPrefixOf b := by
  induction a with
  | nil => intro b; simp
  | cons x r ih =>
    intro b
    cases b with
    | nil => simp
    | cons y q =>
      simp only [List.map_cons, List.isPrefixOf_cons_cons, ih]
      congr 1
      rw [Bool.eq_iff_iff]
      simp only [beq_iff_eq]
      exact ⟨fun e => ofBV_inj e, fun e => by rw [e]⟩
theorem Sm.suf_map (a b : List (BitVec 8)) : (a.map UInt8.ofBitVec).isSuffixOf (b.map UInt8.ofBitVec) = a.isSuffixOf b := by
  unfold List.isSuffixOf
  rw [← List.map_reverse, ← List.map_reverse, pre_map]
theorem Sm.mk_strB (l : List (BitVec 8)) : (⟨(l.map UInt8.ofBitVec).toArray⟩ : ByteArray) = strB l := by
  refine ba_ext ?_
  rw [strB_data]
theorem Sm.cutPre_any (l p : List (BitVec 8)) (w : World) :
    Calls Tryz.prog 79 #[.string (strB l), .string (strB p)] w fun e w' => e = .returned (.tuple #[.string (strB (if p.isPrefixOf l then l.drop p.length else l)), .bool (p.isPrefixOf l)]) ∧ w = w' := by
  refine (Tryz.strings_CutPrefix (strB l) (strB p) w).mono ?_
  rintro e w' ⟨rfl, rfl⟩
  refine ⟨?_, rfl⟩
  have e1 : hasPrefix (strB l).data.toList (strB p).data.toList = p.isPrefixOf l := by unfold hasPrefix; rw [strB_data, strB_data, pre_map]
  have e2 : (⟨(trimPrefix (strB l).data.toList (strB p).data.toList).toArray⟩ : ByteArray) = strB (if p.isPrefixOf l then l.drop p.length else l) := by
    unfold trimPrefix
    rw [e1, strB_data, strB_data, List.length_map]
    cases p.isPrefixOf l
    · exact mk_strB l
    · simp only [if_true]
      rw [← List.map_drop]
      exact mk_strB _
  rw [e1, e2]
theorem Sm.cutSuf_any (l p : List (BitVec 8)) (w : World) (hm : l.length ≤ 1000000000) :
    Calls Tryz.prog 80 #[.string (strB l), .string (strB p)] w fun e w' => e = .returned (.tuple #[.string (strB (if p.isSuffixOf l then l.take (l.length - p.length) else l)), .bool (p.isSuffixOf l)]) ∧ w = w' := by
  refine (Tryz.strings_CutSuffix (strB l) (strB p) w (by rw [strB_length]; omega)).mono ?_
  rintro e w' ⟨rfl, rfl⟩
  refine ⟨?_, rfl⟩
  have e1 : hasSuffix (strB l).data.toList (strB p).data.toList = p.isSuffixOf l := by unfold hasSuffix; rw [strB_data, strB_data, suf_map]
  have e2 : (⟨(trimSuffix (strB l).data.toList (strB p).data.toList).toArray⟩ : ByteArray) = strB (if p.isSuffixOf l then l.take (l.length - p.length) else l) := by
    unfold trimSuffix
    rw [e1, strB_data, strB_data, List.length_map, List.length_map]
    cases p.isSuffixOf l
    · exact mk_strB l
    · simp only [if_true]
      rw [← List.map_take]
      exact mk_strB _
  rw [e1, e2]
theorem Sm.hasPre_any (l p : List (BitVec 8)) (w : World) : Calls Tryz.prog 95 #[.string (strB l), .string (strB p)] w fun e w' => e = .returned (.bool (p.isPrefixOf l)) ∧ w = w' := by
  refine (Tryz.strings_HasPrefix (strB l) (strB p) w).mono ?_
  rintro e w' ⟨rfl, rfl⟩
  refine ⟨?_, rfl⟩
  unfold hasPrefix
  rw [strB_data, strB_data, pre_map]
theorem Sm.ix_strB (l : List (BitVec 8)) (k : Nat) (h : k < l.length) (w : World) : (Instr.index 9 (.string (strB l)) (.int .i64 (k : Int))).run Tryz.prog w = .ok (.int .u8 (ib l[k])) w := by
  rw [byte_at (strB l) k (by rw [strB_length]; exact h) w, get_strL (strB l) k (by rw [strL_strB]; exact h)]
  congr 3
  simp only [strL_strB]
theorem Sm.cut_strB (l : List (BitVec 8)) (i j : Nat) : (strB l).extract i j = strB ((l.take j).drop i) := by
  refine ba_ext ?_
  rw [ByteArray.data_extract, Array.toList_extract, strB_data, strB_data, List.map_drop, List.map_take]
  simp [List.drop_take]
/-- which byte is meant -/
def Sm.meantL : List (BitVec 8) → Option (BitVec 8)
  | [] => none
  | [x] => some x
  | x :: y :: q => if x ≠ 92#8 then some x else if y = 120#8 ∧ 2 ≤ q.length then (if (q.take 2).all digOK then some (BitVec.ofNat 8 (valL (q.take 2))) else none) else some y
theorem Sm.meant_cc (x y : BitVec 8) (q : List (BitVec 8)) : meantL (x :: y :: q) = if x ≠ 92#8 then some x else if y = 120#8 ∧ 2 ≤ q.length then (if (q.take 2).all digOK then some (BitVec.ofNat 8 (valL (q.take 2))) else none) else some y := rfl
theorem Sm.hexd_ok : ∀ v : Fin 16, digOK (hexd v.val) = true ∧ digV (hexd v.val) = v.val := by decide +kernel
theorem Sm.meant_spell (c : BitVec 8) (r : List (BitVec 8)) : meantL (spellB c ++ r) = some c := by
  have hsp := spellB_eq (b := c) rfl
  by_cases hA : c.toNat = 34 ∨ c.toNat = 92
  · rw [if_pos hA] at hsp
    rw [hsp]
    have hc : ¬ c = 120#8 := by rintro rfl; revert hA; decide
    show meantL (92#8 :: c :: r) = some c
    rw [meant_cc, if_neg (by simp), if_neg (fun e => hc e.1)]
  · rw [if_neg hA] at hsp
    by_cases hB : 32 ≤ c.toNat ∧ c.toNat ≤ 126
    · rw [if_pos hB] at hsp
      rw [hsp]
      have hc : c ≠ 92#8 := by rintro rfl; exact hA (.inr rfl)
      cases r with
      | nil => rfl
      | cons y q =>
        show meantL (c :: y :: q) = some c
        rw [meant_cc, if_pos hc]
    · rw [if_neg hB] at hsp
      rw [hsp]
      have hl := c.isLt
      have h1 := hexd_ok ⟨c.toNat / 16, by omega⟩
      have h2 := hexd_ok ⟨c.toNat % 16, by omega⟩
      simp only at h1 h2
      show meantL (92#8 :: 120#8 :: hexd (c.toNat / 16) :: hexd (c.toNat % 16) :: r) = some c
      rw [meant_cc, if_neg (by simp), if_pos ⟨rfl, by simp⟩]
      have e1 : (List.take 2 (hexd (c.toNat / 16) :: hexd (c.toNat % 16) :: r)).all digOK = true := by simp [h1.1, h2.1]
      have e2 : valL (List.take 2 (hexd (c.toNat / 16) :: hexd (c.toNat % 16) :: r)) = c.toNat := by
        show (0 * 16 + digV (hexd (c.toNat / 16))) * 16 + digV (hexd (c.toNat % 16)) = c.toNat
        rw [h1.2, h2.2]
        omega
      rw [if_pos e1, e2]
      simp
set_option maxRecDepth 100000 in
set_option maxHeartbeats 2000000 in
theorem Sm.PU_good (s : ByteArray) (w : World) (hs : s.size = 2) (h : (strL s).all digOK = true) :
    Calls Tryz.prog 96 #[.string s, .int .i64 16, .int .i64 8] w fun e w' => e = .returned (.tuple #[.int .u64 (valL (strL s) : Int), .nilIface]) ∧ Below w.heap.size w w' := by
  have hp := pu_any s w hs
  unfold puV at hp
  rw [h] at hp
  obtain ⟨n, hn⟩ : ∃ n, valL (strL s) = n := ⟨_, rfl⟩
  rw [hn] at hp ⊢
  clear hn h
  go_enter Tryz.func96, Tryz.ntmps96
  go_wp2_with (go_at_call 105; (with_reducible refine hp.mono ?_); rintro e w' ⟨rfl, hb⟩)
  go_ret2
  exact ⟨rfl, hb⟩
set_option maxRecDepth 100000 in
set_option maxHeartbeats 2000000 in
theorem Sm.PU_bad (s : ByteArray) (w : World) (hs : s.size = 2) (h : (strL s).all digOK = false) (hL : LaysT w) :
    Calls Tryz.prog 96 #[.string s, .int .i64 16, .int .i64 8] w fun e w' => ∃ N : Nat, e = .returned (.tuple #[.int .u64 0, .iface 131 (.pointer (some ⟨N, 0, none⟩))]) ∧ Below w.heap.size w w' := by
  have hp := pu_any s w hs
  unfold puV at hp
  rw [h] at hp
  obtain ⟨ev, hv, hev⟩ := hL.e3
  have hsz := hL.size
  have hte := fun W (hb : Below w.heap.size w W) => Tryz.strconv_toError_syntax { data := #[80, 97, 114, 115, 101, 85, 105, 110, 116] } s 16 8 ev W (by omega) ((hb.cell (p := ⟨3, 0, none⟩) (by show 3 < _; omega)).trans hv) hev
  clear h hv hev hL
  have HTE := Lib.hid hte
  clear hte
  go_enter Tryz.func96, Tryz.ntmps96
  go_wp2_with (first
    | (go_at_call 105; (with_reducible refine hp.mono ?_); rintro e w' ⟨rfl, hb⟩; have ht := HTE.out _ hb)
    | (go_at_call 106; (with_reducible refine ht.mono ?_); rintro e w'' ⟨N, rfl, _, _, hb2⟩))
  go_ret2
  exact ⟨N, rfl, hb.trans (hb2.mono hb.size)⟩
end Go.Proofs
