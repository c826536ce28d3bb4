/-
  What opens was made: of the texts alone.
  The contract of few.
-/
import Derived.Test.YtbnemingkdofmaaDoorQ40
namespace Go.Proofs
open Go.RowKit Go.Shelf Sm
theorem Sm.canon_take : ∀ (l : List (BitVec 8)) (c : BitVec 8), l[lead l]? = some c → ¬ (0 < lead l ∧ c.toNat = 0) → numB (numV (l.take (lead l + 1))) = l.take (lead l + 1) := by
  intro l
  induction l with
  | nil => intro c h; simp at h
  | cons d r ih =>
    intro c h hz
    have hd := d.isLt
    by_cases hb : 128 ≤ d.toNat
    · have hl : lead (d :: r) = lead r + 1 := by rw [lead, if_pos hb]
      rw [hl] at h hz ⊢
      rw [List.getElem?_cons_succ] at h
      have hc0 : ¬ c.toNat = 0 := fun e => hz ⟨by omega, e⟩
      have hq := ih c h (fun e => hc0 e.2)
      rw [List.take_succ_cons]
      obtain ⟨q, hqe⟩ : ∃ q, r.take (lead r + 1) = q := ⟨_, rfl⟩
      have hlen := (List.getElem?_eq_some_iff.1 h).1
      have hql : q.length = lead r + 1 := by rw [← hqe, List.length_take]; omega
      have hqc : q[lead r]? = some c := by rw [← hqe, List.getElem?_take, if_pos (by omega)]; exact h
      rw [hqe] at hq ⊢
      have hpos : ¬ numV q = 0 := by
        intro e
        rw [e, numB_small (by decide)] at hq
        rw [← hq] at hql hqc
        have h0 : lead r = 0 := by simpa using hql.symm
        rw [h0] at hqc
        simp at hqc
        exact hc0 (by rw [← hqc]; rfl)
      rw [numV, numB_big (by omega)]
      have e1 : (d.toNat % 128 + 128 * numV q) % 128 = d.toNat % 128 := by omega
      have e2 : (d.toNat % 128 + 128 * numV q) / 128 = numV q := by omega
      rw [e1, e2, hq]
      refine congrArg (· :: q) (BitVec.eq_of_toNat_eq ?_)
      simp
      omega
    · have hl : lead (d :: r) = 0 := by rw [lead, if_neg hb]
      rw [hl, Nat.zero_add, List.take_succ_cons, List.take_zero, numV, numV]
      rw [numB_small (by omega)]
      refine congrArg (· :: []) (BitVec.eq_of_toNat_eq ?_)
      simp
      omega
theorem Sm.getN_read {l : List (BitVec 8)} {m k : Nat} (h : getN l = .num m k) : l = numB m ++ l.drop k := by
  unfold getN at h
  split at h
  · cases h
  · split at h
    · cases h
    · rename_i c hc
      split at h
      · cases h
      · rename_i h2
        injection h with h3 h4
        subst h3 h4
        rw [canon_take l c hc (fun e => h2 (.inl e)), List.take_append_drop]
theorem Sm.numO_read {l r : List (BitVec 8)} {most x : Int} (h : numO l most = some (r, x)) : l = numB x.toNat ++ r := by
  unfold numO at h
  cases hg : getN l with
  | num m k =>
    rw [hg] at h
    simp only at h
    by_cases hle : (m : Int) ≤ most
    · rw [if_pos hle] at h
      injection h with h
      injection h with h1 h2
      subst h1 h2
      have := getN_read hg
      rw [Int.toNat_natCast]
      exact this
    · rw [if_neg hle] at h; cases h
  | cut => rw [hg] at h; cases h
  | bad => rw [hg] at h; cases h
/-- what opens under a key was made under it -/
theorem Sm.opened_read {k : Kpt} {b : List (BitVec 8)} {m s i : Int} (h : openedS k b = .ok (m, s, i)) : TokOK m s i ∧ ∃ n p, findS k n = some p ∧ 0 ≤ n ∧ n ≤ 2147483647 ∧ b = tokB p.2 n m s i := by
  unfold openedS at h
  cases h1 : numO b 2147483647 with
  | none => rw [h1] at h; cases h
  | some p1 =>
    obtain ⟨l1, n⟩ := p1
    rw [h1] at h
    simp only at h
    cases h2 : numO l1 15 with
    | none => rw [h2] at h; cases h
    | some p2 =>
      obtain ⟨l2, m'⟩ := p2
      rw [h2] at h
      simp only at h
      cases h3 : numO l2 2147483647 with
      | none => rw [h3] at h; cases h
      | some p3 =>
        obtain ⟨l3, s'⟩ := p3
        rw [h3] at h
        simp only at h
        cases h4 : numO l3 2147483647 with
        | none => rw [h4] at h; cases h
        | some p4 =>
          obtain ⟨l4, i'⟩ := p4
          rw [h4] at h
          simp only at h
          by_cases h16 : l4.length = 16
          · rw [if_pos h16] at h
            cases h5 : findS k n with
            | none => rw [h5] at h; cases h
            | some p =>
              rw [h5] at h
              simp only at h
              by_cases h6 : (tagS (keyS p.2) (b.take (b.length - 16))).take 16 = b.drop (b.length - 16)
              · rw [if_pos h6] at h
                injection h with h
                injection h with e1 h
                injection h with e2 e3
                subst e1 e2 e3
                have b1 := numO_bound h1
                have b2 := numO_bound h2
                have b3 := numO_bound h3
                have b4 := numO_bound h4
                have r1 := numO_read h1
                have r2 := numO_read h2
                have r3 := numO_read h3
                have r4 := numO_read h4
                have hb : b = numsB [n, m', s', i'] ++ l4 := by rw [numsB_cons4, r1, r2, r3, r4]; simp only [List.append_assoc]
                have hlen : b.length - 16 = (numsB [n, m', s', i']).length := by rw [hb, List.length_append, h16]; omega
                have ht : b.take (b.length - 16) = numsB [n, m', s', i'] := by rw [hlen, hb, List.take_append_of_le_length (Nat.le_refl _), List.take_of_length_le (Nat.le_refl _)]
                have hd : b.drop (b.length - 16) = l4 := by rw [hlen, hb, List.drop_append_of_le_length (Nat.le_refl _), List.drop_of_length_le (Nat.le_refl _), List.nil_append]
                rw [ht, hd] at h6
                refine ⟨⟨⟨b2.1, by omega⟩, ⟨b3.1, b3.2.1⟩, b4.1, b4.2.1⟩, n, p, h5, b1.1, b1.2.1, ?_⟩
                unfold tokB
                rw [h6]
                exact hb
              · rw [if_neg h6] at h; cases h
          · rw [if_neg h16] at h; cases h
theorem Sm.find_single {m : ByteArray} {n : Int} {p : Int × ByteArray} (h : findS (turnK zeroK 0 m) n = some p) : n = 0 ∧ p.2 = m := by
  unfold findS at h
  have e1 : hitK (turnK zeroK 0 m) n 1 = false := rfl
  have e2 : hitK (turnK zeroK 0 m) n 2 = false := rfl
  rw [e1, e2] at h
  by_cases h0 : hitK (turnK zeroK 0 m) n 0 = true
  · rw [if_pos h0] at h
    injection h with h
    subst h
    unfold hitK at h0
    simp only [Bool.and_eq_true, decide_eq_true_eq] at h0
    exact ⟨h0.2.symm, rfl⟩
  · rw [if_neg h0] at h
    cases h
/-- under one key what opens is what is made -/
theorem Sm.open_made {m0 : ByteArray} {t : ByteArray} {m s i : Int} (h : openS (turnK zeroK 0 m0) t = .ok (m, s, i)) : TokOK m s i ∧ strB (spellS (tokB m0 0 m s i)) = t := by
  unfold openS at h
  by_cases hl : 200 < t.size
  · rw [if_pos hl] at h; cases h
  · rw [if_neg hl] at h
    cases hu : unspellS (sB t) with
    | none => rw [hu] at h; cases h
    | some b =>
      rw [hu] at h
      simp only at h
      obtain ⟨hT, n, p, hf, _, _, hb⟩ := opened_read h
      obtain ⟨rfl, hp⟩ := find_single hf
      rw [hp] at hb
      refine ⟨hT, ?_⟩
      rw [← hb, spell_unspell hu]
      exact strB_strL t
def Sm.moreB : ByteArray := ⟨#[109, 111, 114, 101]⟩
/-- so many more turns -/
def Sm.turnsK (k : Kpt) : Nat → Kpt
  | 0 => k
  | b + 1 => turnK (turnsK k b) ((turnsK k b).n0 + 1) moreB
theorem Sm.turnsK_num (k : Kpt) (b : Nat) : (turnsK k b).n0 = k.n0 + b := by
  induction b with
  | zero => simp [turnsK]
  | succ b ih => show (turnsK k b).n0 + 1 = _; rw [ih]; omega
theorem Sm.thB_of {s : ByteArray} (h : ¬ s = ⟨#[]⟩) : thB s = true := by
  cases ht : thB s with
  | true => rfl
  | false => exact absurd (thB_no ht) h
theorem Sm.find_behind {k : Kpt} (h : ¬ k.s0 = ⟨#[]⟩) : ∀ b, b ≤ 2 → findS (turnsK k b) k.n0 = some (k.n0, k.s0) := by
  intro b hb
  have ht := thB_of h
  have hm : ∀ x : Int, ¬ x = k.n0 → ∀ s : ByteArray, (thB s && decide (x = k.n0)) = false := fun x hx s => by rw [decide_eq_false hx, Bool.and_false]
  rcases (by omega : b = 0 ∨ b = 1 ∨ b = 2) with rfl | rfl | rfl
  · exact findS_hit (j := 0) (by omega) (fun i hi => absurd hi (Nat.not_lt_zero _)) (by simp [hitK, pickK, turnsK, ht])
  · refine findS_hit (j := 1) (by omega) (fun i hi => ?_) (by simp [hitK, pickK, turnsK, turnK, ht])
    obtain rfl : i = 0 := by omega
    exact hm _ (by simp only [pickK, turnsK, turnK]; omega) _
  · refine findS_hit (j := 2) (by omega) (fun i hi => ?_) (by simp [hitK, pickK, turnsK, turnK, ht])
    rcases (by omega : i = 0 ∨ i = 1) with rfl | rfl
    · exact hm _ (by simp only [pickK, turnsK, turnK]; omega) _
    · exact hm _ (by simp only [pickK, turnsK, turnK]; omega) _
theorem Sm.find_beyond {k : Kpt} (b : Nat) (hb : 3 ≤ b) : findS (turnsK k b) k.n0 = none := by
  obtain ⟨c, rfl⟩ : ∃ c, b = c + 3 := ⟨b - 3, by omega⟩
  have hn := turnsK_num k c
  have hm : ∀ x : Int, ¬ x = k.n0 → ∀ s : ByteArray, (thB s && decide (x = k.n0)) = false := fun x hx s => by rw [decide_eq_false hx, Bool.and_false]
  refine findS_none fun i hi => ?_
  rcases (by omega : i = 0 ∨ i = 1 ∨ i = 2) with rfl | rfl | rfl
  · exact hm _ (by simp only [pickK, turnsK, turnK]; omega) _
  · exact hm _ (by simp only [pickK, turnsK, turnK]; omega) _
  · exact hm _ (by simp only [pickK, turnsK, turnK]; omega) _
end Go.Proofs
namespace Go.Proofs
open Go.RowKit Go.Shelf Sm
/-- masters of at most 100 bytes, at most 12 others -/
def Sm.fewB (f : ByteArray) (ss : List ByteArray) : Bool := (ss.all fun x => decide (x.size ≤ 100)) && (decide (f.size ≤ 100) && decide (ss.length ≤ 12))
set_option maxRecDepth 100000 in
set_option maxHeartbeats 1000000 in
theorem Sm.few_any (f : ByteArray) (n c : Nat) (A : Option Addr) (ss : List ByteArray) (w : World) (hn : ss.length = n) (hm : n ≤ 9223372036854775807) (hr : Rds w (fun _ => False) A (ss.map Value.string)) :
    Calls Tryd.prog 15 #[.string f, .slice A n c] w fun e w' => e = .returned (.bool (fewB f ss)) ∧ w = w' := by
  have HN := Lib.hid hn
  have HR := Lib.hid hr
  clear hn hr
  go_enter Tryd.func15, Tryd.ntmps15
  go_upto_region 2 with fail
  go_loopw [5] (fun s5 wr => ∃ j : Nat, j ≤ n ∧ s5 = .int .i64 (j : Int) ∧ Hid (∀ x ∈ ss.take j, x.size ≤ 100) ∧ wr = w) (fun s5 _ => n - (intOf s5).toNat)
  case atStart => exact ⟨0, Nat.zero_le _, rfl, Lib.hid (fun x hx => by simp at hx), rfl⟩
  case round =>
    obtain ⟨j, hj, rfl, HA, rfl⟩ := hrel
    by_cases hlt : j < n
    · have hjl : j < ss.length := by rw [HN.out]; exact hlt
      obtain ⟨b, off, rfl, hbl, _, hcell⟩ := HR.out (by rw [List.length_map]; omega)
      have hc := hcell j (.string ss[j]) (by rw [List.getElem?_map, List.getElem?_eq_getElem hjl]; rfl)
      have hmem : ss[j] ∈ ss := List.getElem_mem hjl
      have htk : ss.take (j + 1) = ss.take j ++ [ss[j]] := List.take_succ_eq_append_getElem hjl
      obtain ⟨x, hx⟩ : ∃ x, ss[j] = x := ⟨_, rfl⟩
      rw [hx] at hc hmem htk
      have HM := Lib.hid hmem
      have HTK := Lib.hid htk
      clear hcell hx hmem htk hjl
      by_cases h100 : x.size ≤ 100
      · have h1 : ¬ (100 : Int) < (x.size : Int) := by omega
        go_wp2
        refine ⟨⟨j + 1, by omega, by go_num, Lib.hid (fun y hy => ?_), trivial⟩, by simp [intOf]; omega⟩
        rw [HTK.out, List.mem_append] at hy
        rcases hy with hy | hy
        · exact HA.out y hy
        · simp at hy
          rw [hy]
          exact h100
      · have h1 : (100 : Int) < (x.size : Int) := by omega
        have hf : fewB f ss = false := by
          unfold fewB
          rw [Bool.and_eq_false_iff]
          left
          rw [List.all_eq_false]
          exact ⟨x, HM.out, by simpa using h100⟩
        have HF := Lib.hid hf
        clear hf
        go_wp2
        go_ret
        rw [HF.out]
        exact ⟨rfl, rfl⟩
    · obtain rfl : j = n := by omega
      have hall : (ss.all fun x => decide (x.size ≤ 100)) = true := by
        rw [List.all_eq_true]
        intro x hx
        rw [← HN.out, List.take_length] at HA
        simpa using HA.out x hx
      have hf : fewB f ss = (decide (f.size ≤ 100) && decide (j ≤ 12)) := by unfold fewB; rw [hall, HN.out, Bool.true_and]
      have HF := Lib.hid hf
      clear hf hall hlt
      by_cases h1 : f.size ≤ 100
      · have h2 : (f.size : Int) ≤ 100 := by omega
        go_wp2
        go_ret
        rw [HF.out]
        refine ⟨?_, rfl⟩
        show Ending.returned (Value.bool _) = _
        simp [h1]
        omega
      · have h2 : ¬ (f.size : Int) ≤ 100 := by omega
        go_wp2
        go_ret
        rw [HF.out]
        refine ⟨?_, rfl⟩
        show Ending.returned (Value.bool _) = _
        simp [h1]
end Go.Proofs
