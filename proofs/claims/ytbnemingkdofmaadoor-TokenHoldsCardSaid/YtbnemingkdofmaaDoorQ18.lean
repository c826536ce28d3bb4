/-
  Bits of lists of numbers, groups of them, bytes that are spelled by signs of five bits. No condition.
  Texts that spell bytes by signs of five bits: what is spelled, and what is unspelled. No condition.
  A region that draws its order, at the wide fence: what only reads comes first, in whatever order; what comes behind it goes in the text's order. Conditions: what the theorems name.
  A range over a function whose rounds may give up in a panic: what an iterator promises then, and the law of the loop. Conditions: what each theorem names.
-/
import Derived.StillTailTactics
import Derived.TacticsIn
import Derived.Sort.QuietThIn
import Derived.RangeFuncNested
import Derived.RangeFuncCalls
import Derived.RangeFuncLeaves
import Derived.Scope
import Derived.Test.YtbnemingkdofmaaDoorQ17
namespace Go.Proofs
/-- bit i of numbers of w bits each, the highest ahead; 0 beyond -/
def Sm.bitW (w : Nat) (xs : List Nat) (i : Nat) : Nat := (xs.getD (i / w) 0 / 2 ^ (w - 1 - i % w)) % 2
/-- the number of the n bits from place a on -/
def Sm.valW (w : Nat) (xs : List Nat) (a : Nat) : Nat → Nat
  | 0 => 0
  | n + 1 => 2 * valW w xs a n + bitW w xs (a + n)
theorem Sm.bitW_lt (w : Nat) (xs : List Nat) (i : Nat) : bitW w xs i < 2 := Nat.mod_lt _ (by decide)
theorem Sm.valW_lt (w : Nat) (xs : List Nat) (a n : Nat) : valW w xs a n < 2 ^ n := by
  induction n with
  | zero => simp [valW]
  | succ n ih => have := bitW_lt w xs (a + n); rw [valW, Nat.pow_succ]; omega
theorem Sm.valW_add (w : Nat) (xs : List Nat) (a n m : Nat) : valW w xs a (n + m) = valW w xs a n * 2 ^ m + valW w xs (a + n) m := by
  induction m with
  | zero => simp [valW]
  | succ m ih =>
    rw [← Nat.add_assoc, valW, ih, valW, Nat.pow_succ, Nat.add_assoc a n m, Nat.mul_add, ← Nat.mul_assoc (valW w xs a n), Nat.mul_comm 2 (valW w xs a n * 2 ^ m), Nat.add_assoc]
theorem Sm.valW_div (w : Nat) (xs : List Nat) (a n m : Nat) : valW w xs a (n + m) / 2 ^ m = valW w xs a n := by
  have h := valW_lt w xs (a + n) m
  rw [valW_add, Nat.mul_comm, Nat.mul_add_div (Nat.pos_of_ne_zero (by simp)), Nat.div_eq_of_lt h, Nat.add_zero]
theorem Sm.valW_mod (w : Nat) (xs : List Nat) (a n m : Nat) : valW w xs a (n + m) % 2 ^ m = valW w xs (a + n) m := by
  have h := valW_lt w xs (a + n) m
  rw [valW_add, Nat.mul_comm, Nat.mul_add_mod, Nat.mod_eq_of_lt h]
theorem Sm.valW_congr {w w' : Nat} {xs xs' : List Nat} {a a' n : Nat} (h : ∀ i, i < n → bitW w xs (a + i) = bitW w' xs' (a' + i)) : valW w xs a n = valW w' xs' a' n := by
  induction n with
  | zero => rfl
  | succ n ih => rw [valW, valW, ih (fun i hi => h i (by omega)), h n (by omega)]
theorem Sm.bitW_beyond {w : Nat} {xs : List Nat} {i : Nat} (hw : 0 < w) (h : w * xs.length ≤ i) : bitW w xs i = 0 := by
  have : xs.length ≤ i / w := (Nat.le_div_iff_mul_le hw).2 (by rw [Nat.mul_comm]; exact h)
  unfold bitW
  rw [List.getD_eq_getElem?_getD, List.getElem?_eq_none this]
  simp
theorem Sm.valW_beyond {w : Nat} {xs : List Nat} {a n : Nat} (hw : 0 < w) (h : w * xs.length ≤ a) : valW w xs a n = 0 := by
  induction n with
  | zero => rfl
  | succ n ih => rw [valW, ih, bitW_beyond hw (by omega)]
/-- the bits of one number -/
theorem Sm.bits_of (x w : Nat) (hx : x < 2 ^ w) : ∀ n, n ≤ w → ∀ v : Nat → Nat, (∀ m, v (m + 1) = 2 * v m + (x / 2 ^ (w - 1 - m)) % 2) → v 0 = 0 → v n = x / 2 ^ (w - n) := by
  intro n
  induction n with
  | zero => intro _ v _ h0; rw [h0, Nat.sub_zero, Nat.div_eq_of_lt hx]
  | succ n ih =>
    intro hn v hs h0
    rw [hs, ih (by omega) v hs h0]
    have e : w - n = (w - 1 - n) + 1 := by omega
    have e2 : w - (n + 1) = w - 1 - n := by omega
    rw [e, e2, Nat.pow_succ, ← Nat.div_div_eq_div_mul]
    omega
theorem Sm.valW_item {w : Nat} {xs : List Nat} {k : Nat} (hw : 0 < w) (hx : xs.getD k 0 < 2 ^ w) : valW w xs (w * k) w = xs.getD k 0 := by
  have h : ∀ n, n ≤ w → valW w xs (w * k) n = xs.getD k 0 / 2 ^ (w - n) := by
    intro n
    induction n with
    | zero => intro _; rw [valW, Nat.sub_zero, Nat.div_eq_of_lt hx]
    | succ n ih =>
      intro hn
      have e : (w * k + n) / w = k := by rw [Nat.mul_add_div hw, Nat.div_eq_of_lt (by omega), Nat.add_zero]
      have e1 : (w * k + n) % w = n := by rw [Nat.mul_add_mod, Nat.mod_eq_of_lt (by omega)]
      rw [valW, ih (by omega)]
      unfold bitW
      rw [e, e1]
      have e3 : w - n = (w - 1 - n) + 1 := by omega
      have e2 : w - (n + 1) = w - 1 - n := by omega
      rw [e3, e2, Nat.pow_succ, ← Nat.div_div_eq_div_mul]
      omega
  rw [h w (Nat.le_refl _), Nat.sub_self, Nat.pow_zero, Nat.div_one]
theorem Sm.bit_of_val (w : Nat) (xs : List Nat) (a n i : Nat) (h : i < n) : bitW w xs (a + i) = valW w xs a n / 2 ^ (n - 1 - i) % 2 := by
  have e : n = (i + 1) + (n - 1 - i) := by omega
  have h1 := valW_div w xs a (i + 1) (n - 1 - i)
  rw [← e] at h1
  rw [h1, valW]
  have := bitW_lt w xs (a + i)
  omega
/-- how many groups of s bits there are -/
def Sm.cntW (w s n : Nat) : Nat := (w * n + (s - 1)) / s
/-- bytes as numbers -/
def Sm.nat8 (b : List (BitVec 8)) : List Nat := b.map BitVec.toNat
theorem Sm.nat8_length (b : List (BitVec 8)) : (nat8 b).length = b.length := List.length_map ..
theorem Sm.nat8_lt (b : List (BitVec 8)) (k : Nat) : (nat8 b).getD k 0 < 2 ^ 8 := by
  unfold nat8
  rw [List.getD_eq_getElem?_getD, List.getElem?_map]
  cases b[k]? with
  | none => simp
  | some x => exact x.isLt
/-- the groups of five bits of bytes -/
def Sm.fiveS (b : List (BitVec 8)) : List Nat := (List.range (cntW 8 5 b.length)).map fun j => valW 8 (nat8 b) (5 * j) 5
theorem Sm.fiveS_length (b : List (BitVec 8)) : (fiveS b).length = cntW 8 5 b.length := by unfold fiveS; simp
theorem Sm.fiveS_lt (b : List (BitVec 8)) : ∀ x ∈ fiveS b, x < 32 := by
  intro x hx
  unfold fiveS at hx
  obtain ⟨j, _, rfl⟩ := List.mem_map.1 hx
  exact valW_lt _ _ _ 5
/-- the bytes of groups of five bits, as many as are whole -/
def Sm.byteS (xs : List Nat) : List (BitVec 8) := (List.range (5 * xs.length / 8)).map fun j => BitVec.ofNat 8 (valW 5 xs (8 * j) 8)
/-- are the bits that are left over none but noughts, and fewer than five? -/
def Sm.restS (xs : List Nat) : Bool := decide (5 * xs.length % 8 < 5) && decide (valW 5 xs (8 * (5 * xs.length / 8)) (5 * xs.length % 8) = 0)
theorem Sm.byteS_length (xs : List Nat) : (byteS xs).length = 5 * xs.length / 8 := by unfold byteS; simp
theorem Sm.nat8_byteS (xs : List Nat) (k : Nat) (hk : k < 5 * xs.length / 8) : (nat8 (byteS xs)).getD k 0 = valW 5 xs (8 * k) 8 := by
  unfold nat8 byteS
  have h := valW_lt 5 xs (8 * k) 8
  rw [List.getD_eq_getElem?_getD, List.getElem?_map, List.getElem?_map, List.getElem?_range hk]
  simp only [Option.map_some, Option.getD_some, BitVec.toNat_ofNat]
  exact Nat.mod_eq_of_lt h
theorem Sm.bit_byteS (xs : List Nat) (i : Nat) (hi : i < 8 * (5 * xs.length / 8)) : bitW 8 (nat8 (byteS xs)) i = bitW 5 xs i := by
  have h1 : i / 8 < 5 * xs.length / 8 := by omega
  have h2 := nat8_byteS xs (i / 8) h1
  have h3 := bit_of_val 5 xs (8 * (i / 8)) 8 (i % 8) (by omega)
  have e : 8 * (i / 8) + i % 8 = i := by omega
  rw [e] at h3
  rw [h3]
  unfold bitW
  rw [h2]
theorem Sm.bit_fiveS (b : List (BitVec 8)) (i : Nat) : bitW 5 (fiveS b) i = bitW 8 (nat8 b) i := by
  by_cases hi : i / 5 < cntW 8 5 b.length
  · have h3 := bit_of_val 8 (nat8 b) (5 * (i / 5)) 5 (i % 5) (by omega)
    have e : 5 * (i / 5) + i % 5 = i := by omega
    rw [e] at h3
    rw [h3]
    unfold bitW fiveS
    rw [List.getD_eq_getElem?_getD, List.getElem?_map, List.getElem?_range hi]
    rfl
  · have h4 : 8 * b.length ≤ i := by unfold cntW at hi; omega
    rw [bitW_beyond (xs := fiveS b) (by decide) (by rw [fiveS_length]; omega), bitW_beyond (by decide) (by rw [nat8_length]; exact h4)]
theorem Sm.nat8_inj {a b : List (BitVec 8)} (h : nat8 a = nat8 b) : a = b := List.map_inj_right (fun _ _ e => BitVec.eq_of_toNat_eq e) |>.1 h
/-- what is spelled is unspelled so -/
theorem Sm.byteS_fiveS (b : List (BitVec 8)) : byteS (fiveS b) = b ∧ restS (fiveS b) = true := by
  have hl : 5 * (fiveS b).length / 8 = b.length := by rw [fiveS_length]; unfold cntW; omega
  constructor
  · apply nat8_inj
    apply List.ext_getElem
    · rw [nat8_length, nat8_length, byteS_length, hl]
    · intro k h1 h2
      rw [nat8_length] at h1 h2
      have h3 := nat8_byteS (fiveS b) k (by rw [hl]; exact h2)
      have h4 : valW 5 (fiveS b) (8 * k) 8 = valW 8 (nat8 b) (8 * k) 8 := valW_congr (fun i _ => bit_fiveS b _)
      have h5 := valW_item (w := 8) (xs := nat8 b) (k := k) (by decide) (nat8_lt b k)
      rw [h4, h5] at h3
      rw [List.getD_eq_getElem?_getD, List.getD_eq_getElem?_getD] at h3
      rw [List.getElem?_eq_getElem (by rw [nat8_length]; exact h1), List.getElem?_eq_getElem (by rw [nat8_length]; exact h2)] at h3
      exact h3
  · unfold restS
    have h1 : 5 * (fiveS b).length % 8 < 5 := by
      have h3 : (fiveS b).length = (8 * b.length + 4) / 5 := by rw [fiveS_length]; rfl
      omega
    have h2 : valW 5 (fiveS b) (8 * (5 * (fiveS b).length / 8)) (5 * (fiveS b).length % 8) = 0 := by
      rw [valW_congr (w' := 8) (xs' := nat8 b) (a' := 8 * (5 * (fiveS b).length / 8)) (fun i _ => bit_fiveS b _)]
      exact valW_beyond (by decide) (by rw [nat8_length, hl]; exact Nat.le_refl _)
    rw [decide_eq_true h1, decide_eq_true h2]
    rfl
/-- what is unspelled is spelled so -/
theorem Sm.fiveS_byteS (xs : List Nat) (hx : ∀ x ∈ xs, x < 32) : fiveS (byteS xs) = xs ↔ restS xs = true := by
  have hg : ∀ k, xs.getD k 0 < 2 ^ 5 := fun k => by
    rw [List.getD_eq_getElem?_getD]
    cases h : xs[k]? with
    | none => simp
    | some x => exact hx x (List.mem_of_getElem? h)
  constructor
  · intro h
    have hl : (fiveS (byteS xs)).length = xs.length := by rw [h]
    rw [fiveS_length, byteS_length] at hl
    unfold cntW at hl
    have h1 : 5 * xs.length % 8 < 5 := by omega
    have h2 : valW 5 xs (8 * (5 * xs.length / 8)) (5 * xs.length % 8) = 0 := by
      have h3 : valW 5 xs (8 * (5 * xs.length / 8)) (5 * xs.length % 8) = valW 8 (nat8 (byteS xs)) (8 * (5 * xs.length / 8)) (5 * xs.length % 8) := by
        refine valW_congr fun i _ => ?_
        have := bit_fiveS (byteS xs) (8 * (5 * xs.length / 8) + i)
        rw [h] at this
        exact this
      rw [h3]
      exact valW_beyond (by decide) (by rw [nat8_length, byteS_length]; exact Nat.le_refl _)
    unfold restS
    rw [decide_eq_true h1, decide_eq_true h2]
    rfl
  · intro h
    unfold restS at h
    rw [Bool.and_eq_true, decide_eq_true_eq, decide_eq_true_eq] at h
    obtain ⟨h1, h2⟩ := h
    have hb : ∀ i, bitW 8 (nat8 (byteS xs)) i = bitW 5 xs i := fun i => by
      by_cases hi : i < 8 * (5 * xs.length / 8)
      · exact bit_byteS xs i hi
      · rw [bitW_beyond (by decide) (by rw [nat8_length, byteS_length]; omega)]
        by_cases h5 : i < 5 * xs.length
        · have h3 := bit_of_val 5 xs (8 * (5 * xs.length / 8)) (5 * xs.length % 8) (i - 8 * (5 * xs.length / 8)) (by omega)
          have e : 8 * (5 * xs.length / 8) + (i - 8 * (5 * xs.length / 8)) = i := by omega
          rw [e, h2] at h3
          simp only [Nat.zero_div, Nat.zero_mod] at h3
          exact h3.symm
        · rw [bitW_beyond (by decide) (by omega)]
    apply List.ext_getElem
    · rw [fiveS_length, byteS_length]; unfold cntW; omega
    · intro k hk1 hk2
      have h3 : valW 8 (nat8 (byteS xs)) (5 * k) 5 = valW 5 xs (5 * k) 5 := valW_congr (fun i _ => hb _)
      have h4 := valW_item (w := 5) (xs := xs) (k := k) (by decide) (hg k)
      have h5 : (fiveS (byteS xs))[k]'hk1 = valW 8 (nat8 (byteS xs)) (5 * k) 5 := by simp [fiveS]
      rw [h5, h3, h4, List.getD_eq_getElem?_getD, List.getElem?_eq_getElem hk2]
      rfl
end Go.Proofs
namespace Go.Proofs
open Sm
/-- the sign of a number below 32 -/
def Sm.sgn (k : Nat) : BitVec 8 := if k < 26 then BitVec.ofNat 8 (97 + k) else BitVec.ofNat 8 (24 + k)
/-- the number of a sign -/
def Sm.sgnN (c : BitVec 8) : Option Nat := if 97 ≤ c.toNat ∧ c.toNat ≤ 122 then some (c.toNat - 97) else if 50 ≤ c.toNat ∧ c.toNat ≤ 55 then some (c.toNat - 24) else none
theorem Sm.sgnN_sgn {k : Nat} (h : k < 32) : sgnN (sgn k) = some k := by
  have : ∀ k, k < 32 → sgnN (sgn k) = some k := by decide +kernel
  exact this k h
theorem Sm.sgn_of {c : BitVec 8} {k : Nat} (h : sgnN c = some k) : k < 32 ∧ sgn k = c := by
  unfold sgnN at h
  split at h
  · cases h
    refine ⟨by omega, ?_⟩
    unfold sgn
    apply BitVec.eq_of_toNat_eq
    rw [if_pos (by omega), BitVec.toNat_ofNat]
    omega
  · split at h
    · cases h
      refine ⟨by omega, ?_⟩
      unfold sgn
      apply BitVec.eq_of_toNat_eq
      rw [if_neg (by omega), BitVec.toNat_ofNat]
      omega
    · cases h
/-- the numbers of a text's signs -/
def Sm.fivesOf : List (BitVec 8) → Option (List Nat)
  | [] => some []
  | c :: r => match sgnN c with
    | some k => match fivesOf r with
      | some xs => some (k :: xs)
      | none => none
    | none => none
theorem Sm.fivesOf_some {s : List (BitVec 8)} {xs : List Nat} (h : fivesOf s = some xs) : xs.map sgn = s ∧ ∀ x ∈ xs, x < 32 := by
  induction s generalizing xs with
  | nil => cases h; simp
  | cons c r ih =>
    simp only [fivesOf] at h
    cases h1 : sgnN c with
    | none => rw [h1] at h; cases h
    | some k =>
      rw [h1] at h
      cases h2 : fivesOf r with
      | none => rw [h2] at h; cases h
      | some ys =>
        rw [h2] at h
        cases h
        obtain ⟨h3, h4⟩ := ih h2
        obtain ⟨h5, h6⟩ := sgn_of h1
        refine ⟨by rw [List.map_cons, h3, h6], fun x hx => ?_⟩
        rcases List.mem_cons.1 hx with rfl | hx
        · exact h5
        · exact h4 x hx
theorem Sm.fivesOf_map {xs : List Nat} (h : ∀ x ∈ xs, x < 32) : fivesOf (xs.map sgn) = some xs := by
  induction xs with
  | nil => rfl
  | cons x r ih =>
    simp only [List.map_cons, fivesOf, sgnN_sgn (h x (by simp)), ih (fun y hy => h y (by simp [hy]))]
theorem Sm.fivesOf_none {s : List (BitVec 8)} (k : Nat) (c : BitVec 8) (hc : s[k]? = some c) (h : sgnN c = none) : fivesOf s = none := by
  induction s generalizing k with
  | nil => simp at hc
  | cons d r ih =>
    cases k with
    | zero =>
      simp at hc
      subst hc
      simp only [fivesOf, h]
    | succ k =>
      simp at hc
      have := ih k hc
      simp only [fivesOf, this]
      cases sgnN d <;> rfl
theorem Sm.fivesOf_append (s t : List (BitVec 8)) (xs ys : List Nat) (h1 : fivesOf s = some xs) (h2 : fivesOf t = some ys) : fivesOf (s ++ t) = some (xs ++ ys) := by
  obtain ⟨e1, a1⟩ := fivesOf_some h1
  obtain ⟨e2, a2⟩ := fivesOf_some h2
  rw [← e1, ← e2, ← List.map_append]
  exact fivesOf_map (fun x hx => by
    rcases List.mem_append.1 hx with hx | hx
    · exact a1 x hx
    · exact a2 x hx)
/-- bytes spelled -/
def Sm.spellS (b : List (BitVec 8)) : List (BitVec 8) := (fiveS b).map sgn
theorem Sm.spellS_length (b : List (BitVec 8)) : (spellS b).length = cntW 8 5 b.length := by unfold spellS; rw [List.length_map, fiveS_length]
/-- the bytes of a text -/
def Sm.unspellS (s : List (BitVec 8)) : Option (List (BitVec 8)) := match fivesOf s with
  | some xs => if restS xs = true then some (byteS xs) else none
  | none => none
theorem Sm.unspell_spell (b : List (BitVec 8)) : unspellS (spellS b) = some b := by
  unfold unspellS spellS
  rw [fivesOf_map (fiveS_lt b)]
  obtain ⟨h1, h2⟩ := byteS_fiveS b
  simp only [h2, if_true, h1]
theorem Sm.spell_unspell {s b : List (BitVec 8)} (h : unspellS s = some b) : spellS b = s := by
  unfold unspellS at h
  cases h1 : fivesOf s with
  | none => rw [h1] at h; cases h
  | some xs =>
    rw [h1] at h
    obtain ⟨h2, h3⟩ := fivesOf_some h1
    simp only at h
    split at h
    · rename_i h4
      cases h
      unfold spellS
      rw [(fiveS_byteS xs h3).2 h4, h2]
    · cases h
theorem Sm.unspell_none {s : List (BitVec 8)} {xs : List Nat} (h : fivesOf s = some xs) (hr : restS xs = false) : spellS (byteS xs) ≠ s ∧ unspellS s = none := by
  obtain ⟨h2, h3⟩ := fivesOf_some h
  constructor
  · intro e
    have h4 : fivesOf (spellS (byteS xs)) = fivesOf s := by rw [e]
    unfold spellS at h4
    rw [fivesOf_map (fiveS_lt _), h] at h4
    have := (fiveS_byteS xs h3).1 (Option.some.inj h4)
    rw [hr] at this
    cases this
  · unfold unspellS
    rw [h]
    simp [hr]
theorem Sm.fivesOf_length {s : List (BitVec 8)} {xs : List Nat} (h : fivesOf s = some xs) : xs.length = s.length := by
  have := (fivesOf_some h).1
  rw [← this, List.length_map]
end Go.Proofs
namespace Go.Proofs
open Go
section
variable {n : Nat} {P : Program} {ops : Array Oper} {md : Region.Mode}
theorem Sm.wpIn_of_wpW {o : Oper} {a : Act} {K : Act → World → Prop} {Q : Exit → Act → World → Prop} {w : World} (hh : o.wp P a w K Q) : o.wpIn Fence.wide n P a w K Q := by
  unfold Oper.wp at hh
  unfold Oper.wpIn
  refine ⟨fun _ _ => trivial, ?_⟩
  show o.uponIn Fence.wide n P a K Q ((execOp a.eval o).run P w)
  generalize (execOp a.eval o).run P w = r at *
  cases r with
  | ok x w' =>
    cases x <;> simp only [Oper.upon] at hh <;> simp only [Oper.uponIn]
    case value u => exact hh
    case skip => exact hh
    case defer d => exact hh
    case enter f args => exact ⟨(fun h => by cases h), callsIn_wide.2 hh⟩
    case row row args => exact ⟨(fun h => by cases h), fun c cs _ => let ⟨v, w2, r, s⟩ := hh c cs; ⟨v, w2, r, stepsIn_wide.2 s⟩⟩
  | halt x w' =>
    cases x <;> simp only [Oper.upon] at hh
    case panic u => exact hh
theorem Sm.wpOpIn_of_stOpW {i : Nat} {a : Act} {K : Act → Prop} {K' : Act → World → Prop} {Q' : Exit → Act → World → Prop} {w : World} (h : ∀ a, K a → K' a w) (hh : stOp P ops w i K a) : wpOpIn Fence.wide n P ops Q' i K' a w := by
  unfold stOp at hh
  unfold wpOpIn
  split
  · rename_i ho; simp only [ho] at hh; exact h _ hh
  · rename_i o ho
    simp only [ho] at hh
    split
    · rename_i hw; simp only [hw, if_true] at hh; exact Oper.wpIn_mono (fun _ _ h => h) (wpIn_of_wpW (Oper.wp_of_still h hh))
    · rename_i hw; simp only [hw] at hh; exact ⟨fun _ _ => trivial, h _ hh⟩
theorem Sm.wpAnyIn_of_headW {m g : Nat} {w : World} {L : Array Bool → Act → Prop} {Q' : Exit → Act → World → Prop} (hL : ∀ listed a, L listed a → wpAnyIn Fence.wide n P md ops Q' g listed a w) :
    ∀ (f : Nat) (listed : Array Bool) (a : Act), wpAnyL P md ops w m L f listed a → wpAnyIn Fence.wide n P md ops Q' (f + g) listed a w
  | 0, listed, a, h => by rw [Nat.zero_add]; exact hL _ _ h
  | f + 1, listed, a, h => by
    rw [show f + 1 + g = (f + g) + 1 by omega]
    exact ⟨fun h0 => absurd h0 h.1, fun i hi => wpOpIn_of_stOpW (fun a' h' => wpAnyIn_of_headW hL f _ a' h') (h.2 i hi).2⟩
theorem Sm.wpAnyIn_of_seqW {F : Fence} {Q' : Exit → Act → World → Prop} : ∀ (l : List Oper) (k : Nat) (listed : Array Bool) (a : Act) (w : World), (∀ j, l[j]? = ops[k + j]?) →
    Region.seqB md ops l.length k listed = true → wpListIn F n P ops Q' l a w → wpAnyIn F n P md ops Q' l.length listed a w
  | [], _, _, _, _, _, hB, h => ⟨by simpa [Region.seqB] using hB, h⟩
  | o :: l, k, listed, a, w, hl, hB, h => by
    have h0 : ops[k]? = some o := by simpa using (hl 0).symm
    simp only [List.length_cons, Region.seqB, Bool.and_eq_true, decide_eq_true_eq] at hB
    refine ⟨fun h1 => (by rw [hB.1] at h1; cases h1), fun i hi => ?_⟩
    rw [hB.1] at hi
    have hik : i = k := by simpa using hi
    subst hik
    have hw : wpOpIn F n P ops Q' i (wpListIn F n P ops Q' l) a w := by unfold wpOpIn; simp only [h0]; exact h
    exact wpOpIn_mono (fun a' w' h' => wpAnyIn_of_seqW l (i + 1) _ a' w' (fun j => by have := hl (j + 1); simpa [Nat.add_assoc, Nat.add_comm 1 j] using this) hB.2 h') hw
/-- **what only reads, then the rest in the text's order** -/
theorem Sm.wpIn_region_still_tail {id : Nat} {Q : Exit → Act → World → Prop} {a : Act} {w : World} {l : List Oper} (m : Nat) (hm : P.follows .mixedOrders = true) (hB : Region.lexTailB .any l.toArray m = true)
    (h : wpStill P l.toArray w.drew (fun a' => wpListIn Fence.wide n P l.toArray Q (l.drop m) a' w.drew) (l.take m) a) : (Code.region id l.toArray true).wpIn Fence.wide n P Q a w := by
  simp only [Region.lexTailB, Bool.and_eq_true, decide_eq_true_eq] at hB
  obtain ⟨⟨⟨⟨hsel, hn⟩, hs⟩, hc⟩, hlex⟩ := hB
  have hn' : m < l.length := by simpa using hn
  have htl : (l.take m).length = m := by simp; omega
  have hdl : (l.drop m).length = l.toArray.size - m := by simp
  have inv0 : HeadInv .any l.toArray m (Array.replicate l.toArray.size false) :=
    ⟨by simp, fun j oj _ hl => (by rw [getD_replicate_false] at hl; cases hl), fun t _ ht => getD_in (by simpa using ht) (getD_replicate_false _ _)⟩
  have H := wpAnyL_lex (md := .any) (g := l.toArray.size - m) hsel hs hc hn (l.take m) 0 _ a (fun j hj => by
    have hj' : j < m := by rw [htl] at hj; exact hj
    simp [hj']) (by simpa using htl) inv0 (by rw [htl]; exact hlex) h
  refine wpIn_region_any hm ?_
  have := wpAnyIn_of_headW (n := n) (Q' := Q) (g := l.toArray.size - m) (fun listed a' hL => by
    have := wpAnyIn_of_seqW (n := n) (F := Fence.wide) (md := .any) (Q' := Q) (l.drop m) m listed a' w.drew (fun j => by simp [List.getElem?_drop]) (by rw [hdl]; exact hL.1) hL.2
    rwa [hdl] at this) _ _ _ H
  rw [htl, show m + (l.toArray.size - m) = l.toArray.size by omega] at this
  exact this
end
end Go.Proofs
namespace Go.Proofs
open Go Go.RowKit Sm
def Sm.roundPostP (P : Program) (l : Nat) (R : Ending → World → Prop) : Exit → Act → World → Prop
  | .normal, _, w => ∃ v w', (Instr.endRound l none).run P w = .ok v w' ∧ R (.returned v) w'
  | .ret, _, w => ∃ v w', (Instr.endRound l (some .ret)).run P w = .ok v w' ∧ R (.returned v) w'
  | .exit id, _, w => ∃ v w', (Instr.endRound l (some (.exit id))).run P w = .ok v w' ∧ R (.returned v) w'
  | .goto t, _, w => ∃ v w', (Instr.endRound l (some (.goto t))).run P w = .ok v w' ∧ R (.returned v) w'
  | .panic ch, a, w => a.defers = [] ∧ R (.panicked ch) w
  | .outgrown, _, _ => False
theorem Sm.roundIn_of_wpInP {F : Fence} {n : Nat} {P : Program} {l : Nat} {f : FuncId} {tmps : Array Value} {assign body : Code} {w : World} {R : Ending → World → Prop} (hF : F.fn f) (hf : ∃ fn, P.funcs[f]? = some fn)
    (h : assign.wpIn (F.inRound l) n P (Exit.then (fun a₁ w₁ => ∃ w₂, (Instr.beginRound l).run P w₁ = .ok () w₂ ∧ body.wpIn (F.inRound l) n P (roundPostP P l R) a₁ w₂) (fun _ _ _ => False))
      { tmps := tmps, defers := [] } w) :
    RoundIn F n P l f tmps assign body w R := by
  refine ⟨hF, fun c cs hr => ?_⟩
  let b : Frame := { (default : Frame) with fn := f, kind := .normal, roundOf := some l }
  have hb0 : Frame.round l f tmps assign body .normal = b.atR { tmps := tmps, defers := [] } [.code assign, .beginRound, .code body] := by
    simp [Frame.round, Frame.atR, b]
  have hr' : (F.inRound l).room ((c :: cs).length + 1 + n) := hr
  have hF' : (F.inRound l).fn b.fn := hF
  obtain ⟨e, a₁, w₁, hq, harr⟩ := h b [.beginRound, .code body] (c :: cs) rfl hF' hr'
  rw [← hb0] at harr
  cases e with
  | normal =>
    obtain ⟨w₂, hbr, hbody⟩ := hq
    have s1 : StepsIn (Machine.fenced P (F.inRound l)) P (lone (b.atR a₁ [.beginRound, .code body]) (c :: cs) w₁) (lone (b.atR a₁ [.code body]) (c :: cs) w₂) :=
      .one (fenced_calm (fr := b.atR a₁ [.beginRound, .code body]) hF' hr' rfl) (stepR_beginRound rfl hbr)
    obtain ⟨e₂, a₂, w₃, hq₂, harr₂⟩ := hbody b [] (c :: cs) rfl hF' hr'
    cases e₂ with
    | normal =>
      obtain ⟨v, w₄, hend, hR⟩ := hq₂
      exact ⟨.returned v, w₄, hR, (StepsIn.trans harr s1).trans (StepsIn.trans harr₂ (.one (fenced_calm (fr := b.atR a₂ []) hF' hr' rfl) (stepR_round_end rfl rfl hend)))⟩
    | ret =>
      obtain ⟨v, w₄, hend, hR⟩ := hq₂
      obtain ⟨k₁, hs⟩ := harr₂.2 rfl
      exact ⟨.returned v, w₄, hR, (StepsIn.trans harr s1).trans (StepsIn.trans hs (.one (fenced_calm (fr := b.atR a₂ (.code .ret :: k₁)) hF' hr' rfl) (stepR_round_ret rfl rfl hend)))⟩
    | exit id =>
      obtain ⟨v, w₄, hend, hR⟩ := hq₂
      obtain ⟨k₁, hk, hs⟩ := harr₂.2 rfl rfl
      exact ⟨.returned v, w₄, hR, (StepsIn.trans harr s1).trans (StepsIn.trans hs (.one (fenced_calm (fr := b.atR a₂ (.code (.exit id) :: k₁)) hF' hr' rfl) (stepR_round_exit rfl rfl hk hend)))⟩
    | goto t =>
      obtain ⟨v, w₄, hend, hR⟩ := hq₂
      obtain ⟨k₁, hk, hs⟩ := harr₂.2 rfl rfl
      exact ⟨.returned v, w₄, hR, (StepsIn.trans harr s1).trans (StepsIn.trans hs (.one (fenced_calm (fr := b.atR a₂ (.code (.goto t) :: k₁)) hF' hr' rfl) (stepR_round_goto rfl rfl hk hend)))⟩
    | panic chain =>
      obtain ⟨hd, hR⟩ := hq₂
      obtain ⟨todo, hs⟩ := harr₂
      have hl : ({ b.atR a₂ todo with mode := .panicking chain } : Frame).leaving P w₃ (.panicked chain) := ⟨rfl, hd, hf⟩
      exact ⟨.panicked chain, w₃, hR, (StepsIn.trans harr s1).trans (StepsIn.trans hs (.one (fenced_leaving (fr := { b.atR a₂ todo with mode := .panicking chain }) hF' hr' hl) (step_leave_panicked hl)))⟩
    | outgrown => exact hq₂.elim
  | exit id => exact hq.elim
  | goto t => exact hq.elim
  | ret => exact hq.elim
  | panic chain => exact hq.elim
  | outgrown => exact hq.elim
/-- **what an iterator promises, where a round may give up** -/
def Sm.SeqXP (P : Program) (g : Nat) (lb : Array Value) (X : Nat → Prop) (H : Nat → Nat → Array Value → World → Prop) (row : Array Value → Nat → Prop) (Go : Nat → Prop) (S Sp : Nat → Prop) (w : World) : Prop :=
  ∀ (l : Nat) (J Jx : Nat → World → Prop) (Jp : List PanicEntry → World → Prop) (W : World), Below w.heap.size w W → LowJ W.heap.size J → LowJ W.heap.size Jx →
    (∀ k args W1, J k W1 → H W.heap.size k args W1 → YieldAt Fence.wide 1 P l args W1 fun e W' =>
      (e = .returned (.bool true) ∧ Go k ∧ J (k + 1) W' ∧ But (RoundMay X w.heap.size W.heap.size row args) W1 W') ∨ (e = .returned (.bool false) ∧ Jx (k + 1) W' ∧ But (RoundMay X w.heap.size W.heap.size row args) W1 W') ∨ (∃ ch, e = .panicked ch ∧ Jp ch W')) →
    J 0 W → Calls P g (#[.func (.yield l) #[] #[]] ++ lb) W fun e W' => ((∃ v, e = .returned v) ∧ ((∃ k, S k ∧ J k W') ∨ (∃ k, Sp k ∧ Jx k W'))) ∨ (∃ ch, e = .panicked ch ∧ Jp ch W')
theorem Sm.SeqXP.plain {P : Program} {g : Nat} {lb : Array Value} {X : Nat → Prop} {H : Nat → Nat → Array Value → World → Prop} {row : Array Value → Nat → Prop} {Go : Nat → Prop} {S Sp : Nat → Prop} {w : World} (h : SeqXP P g lb X H row Go S Sp w) : SeqX P g lb X H row Go S Sp w := by
  intro l J Jx W hW hJ hJx hY hJ0
  refine (h l J Jx (fun _ _ => False) W hW hJ hJx (fun k args W1 h1 h2 => ?_) hJ0).mono ?_
  · obtain ⟨fn, tmps, assign, body, hy, hR⟩ := hY k args W1 h1 h2
    exact ⟨fn, tmps, assign, body, hy, hR.mono (fun e w' h => h.imp id .inl)⟩
  · rintro e W' (h | ⟨_, _, h⟩)
    · exact h
    · exact h.elim
/-- how the body of a round may be left -/
def Sm.postXP (Go : Nat → Prop) (X : Nat → Prop) (row : Array Value → Nat → Prop) (args : Array Value) (I : Nat → World → Prop) (Ix : Code → Nat → World → Prop) (Ip : List PanicEntry → World → Prop) (k : Nat) (W : World) : Exit → Act → World → Prop
  | .normal, _, W' => Go k ∧ But (fun b => X b ∨ row args b) W W' ∧ I (k + 1) W'
  | .ret, _, W' => But (fun b => X b ∨ row args b) W W' ∧ Ix .ret (k + 1) W'
  | .exit id, _, W' => But (fun b => X b ∨ row args b) W W' ∧ Ix (.exit id) (k + 1) W'
  | .goto t, _, W' => But (fun b => X b ∨ row args b) W W' ∧ Ix (.goto t) (k + 1) W'
  | .panic ch, a, W' => a.defers = [] ∧ But (fun b => X b ∨ row args b) W W' ∧ Ip ch W'
  | .outgrown, _, _ => False
/-- what a piece of code comes to, in every frame of a function that there is -/
def Sm.WpE (P : Program) (c : Code) (Q : Exit → Act → World → Prop) (a : Act) (w : World) : Prop :=
  ∀ (b : Frame) (k : List Item) (cs : List Frame), (∃ fn, P.funcs[b.fn]? = some fn) →
    ∃ e a' w', Q e a' w' ∧ Arrives P (lone (b.at a (.code c :: k)) cs w) b k cs e a' w'
section
variable {P : Program} {Q : Exit → Act → World → Prop} {a : Act} {w : World}
theorem Sm.wpE_of {c : Code} (h : c.wp P Q a w) : WpE P c Q a w := fun b k cs _ => h b k cs
theorem Sm.wpE_seq {x y : Code} (h : WpE P x (Exit.then (fun a w => WpE P y Q a w) Q) a w) : WpE P (Code.seq x y) Q a w := by
  intro b k cs hb
  obtain ⟨e, a₁, w₁, hq, harr⟩ := h b (.code y :: k) cs hb
  cases e with
  | normal =>
    obtain ⟨e₂, a₂, w₂, hq₂, harr₂⟩ := hq b k cs hb
    exact ⟨e₂, a₂, w₂, hq₂, .of_steps (.head step_seq harr) harr₂⟩
  | exit id => exact ⟨_, a₁, w₁, hq, .of_steps (.one step_seq) (.pass (x := .code y) rfl (fun _ _ => .inl (by simp)) harr)⟩
  | goto l => exact ⟨_, a₁, w₁, hq, .of_steps (.one step_seq) (.pass (x := .code y) rfl (fun _ _ => .inl (by simp)) harr)⟩
  | ret => exact ⟨_, a₁, w₁, hq, .of_steps (.one step_seq) (.pass (x := .code y) rfl (fun _ _ => .inl (by simp)) harr)⟩
  | panic ch => exact ⟨_, a₁, w₁, hq, .of_steps (.one step_seq) (.pass (x := .code y) rfl (fun _ _ => .inl (by simp)) harr)⟩
  | outgrown => exact ⟨_, a₁, w₁, hq, .of_steps (.one step_seq) (.pass (x := .code y) rfl (fun _ _ => .inl (by simp)) harr)⟩
theorem Sm.wpE_block {id : Nat} {c : Code} (h : WpE P c (Exit.inBlock id Q) a w) : WpE P (Code.block id c) Q a w := by
  intro b k cs hb
  obtain ⟨e, a₁, w₁, hq, harr⟩ := h b (.inBlock id :: k) cs hb
  cases e with
  | normal => exact ⟨.normal, a₁, w₁, hq, .head step_block (Steps.trans harr (.one step_inBlock))⟩
  | exit id' =>
    by_cases hid : id' = id
    · simp only [Exit.inBlock, hid, if_true] at hq
      exact ⟨.normal, a₁, w₁, hq, .head step_block (harr k (by simp [exitTo, hid]))⟩
    · simp only [Exit.inBlock, hid, if_false] at hq
      refine ⟨.exit id', a₁, w₁, hq, fun k' hk => .head step_block (harr k' ?_)⟩
      have : (id == id') = false := by simp; exact fun h => hid h.symm
      simp [exitTo, this, hk]
  | goto l => exact ⟨_, a₁, w₁, hq, fun k' hk => .head step_block (harr k' (by simp [gotoIn, hk]))⟩
  | ret => exact ⟨_, a₁, w₁, hq, .of_steps (.one step_block) harr⟩
  | panic ch => exact ⟨_, a₁, w₁, hq, .of_steps (.one step_block) harr⟩
  | outgrown => exact ⟨_, a₁, w₁, hq, .of_steps (.one step_block) harr⟩
theorem Sm.wpE_scope {c : Code} (h : WpE P c (Exit.noGoto Q) a w) : WpE P (Code.scope c) Q a w := by
  intro b k cs hb
  obtain ⟨e, a₁, w₁, hq, harr⟩ := h b (.inScope c :: k) cs hb
  cases e with
  | normal => exact ⟨.normal, a₁, w₁, hq, .head step_scope (Steps.trans harr (.one step_inScope))⟩
  | exit id => exact ⟨.exit id, a₁, w₁, hq, fun k' hk => .head step_scope (harr k' (by simp [exitTo, hk]))⟩
  | goto l => exact hq.elim
  | ret => exact ⟨_, a₁, w₁, hq, .of_steps (.one step_scope) harr⟩
  | panic ch => exact ⟨_, a₁, w₁, hq, .of_steps (.one step_scope) harr⟩
  | outgrown => exact ⟨_, a₁, w₁, hq, .of_steps (.one step_scope) harr⟩
theorem Sm.wpE_of_in {c : Code} (h : ∀ (b : Frame) (k : List Item) (cs : List Frame), b.roundOf = none → (∃ fn, P.funcs[b.fn]? = some fn) → ∃ e a' w', Q e a' w' ∧ ArrivesIn (Machine.fenced P Fence.wide) P (lone (b.atR a (.code c :: k)) cs w) b k cs e a' w') : WpE P c Q a w := by
  intro b k cs hb
  obtain ⟨e, a', w', q, r⟩ := h { b with roundOf := none } k cs rfl hb
  exact ⟨e, a', w', q, (arrivesIn_iff (b := { b with roundOf := none }) (fun _ _ => stepsIn_wide) rfl).1 r⟩
theorem Sm.calls_of_wpE {n : Nat} {f : FuncId} {fn : Func} {c : Code} {args : Array Value} {w : World} {R : Ending → World → Prop}
    (hf : P.funcs[f]? = some fn) (hb : fn.body = some c)
    (h : WpE P c (bodyPostM Fence.wide n P fn R) { tmps := args ++ Array.replicate (fn.ntmps - args.size) undef, defers := [] } w) : Calls P f args w R := by
  refine (callsIn_wide (n := n)).1 ⟨trivial, fun cs hr => ?_⟩
  let b : Frame := { (default : Frame) with fn := f, kind := .normal, roundOf := none }
  have henter : Frame.enter P f args .normal =
      b.atR { tmps := args ++ Array.replicate (fn.ntmps - args.size) undef, defers := [] } [.code c] := by
    simp [Frame.enter, Frame.atR, hf, hb, b]
  obtain ⟨e, a', w', hq, harr0⟩ := h b [] cs ⟨fn, hf⟩
  have harr := (arrivesIn_iff (I := Machine.fenced P Fence.wide) (b := b) (k := []) (cs := cs) (e := e) (a := a') (w := w') (fun _ _ => stepsIn_wide) rfl).2 harr0
  rw [← Frame.atR_of_none (b := b) rfl, ← henter] at harr
  cases e with
  | normal =>
    obtain ⟨e', w'', fr', hR, hs, hfn, hl⟩ := leaves_stepsInM a'.defers .returning w' { b.atR a' [] with mode := .returning } cs rfl rfl rfl hf rfl trivial hr hq
    exact ⟨e', w'', fr', hR, ComesIn.of_steps (StepsIn.trans harr (.one (fenced_wide _ _) (stepR_end rfl))) hs, hfn, hl⟩
  | ret =>
    obtain ⟨todo, hs₀⟩ := harr.1 rfl
    obtain ⟨e', w'', fr', hR, hs, hfn, hl⟩ := leaves_stepsInM a'.defers .returning w' { b.atR a' todo with mode := .returning } cs rfl rfl rfl hf rfl trivial hr hq
    exact ⟨e', w'', fr', hR, ComesIn.of_steps hs₀ hs, hfn, hl⟩
  | panic chain =>
    obtain ⟨todo, hs₀⟩ := harr
    obtain ⟨e', w'', fr', hR, hs, hfn, hl⟩ := leaves_stepsInM a'.defers (.panicking chain) w' { b.atR a' todo with mode := .panicking chain } cs rfl rfl rfl hf rfl trivial hr hq
    exact ⟨e', w'', fr', hR, ComesIn.of_steps hs₀ hs, hfn, hl⟩
  | exit id => exact hq.elim
  | goto l => exact hq.elim
  | outgrown => exact ⟨.outgrown, w', b, hq, harr.resolve_left (by simp [b]), rfl, trivial⟩
end
/-- the statement itself, in every frame of a function that there is -/
theorem Sm.wpE_rangeFunc {n : Nat} {P : Program} {g : Operand} {ps : Array Tmp} {assign body : Code} {Q : Exit → Act → World → Prop} {a : Act} {w : World}
    (h : ∀ fn, (∃ f', P.funcs[fn]? = some f') → ∃ (l : Nat) (mark : List Deferred) (w₁ : World) (d : Deferred) (w₁' : World) (f : FuncId) (args : Array Value) (w₂ : World),
      (Instr.enterLoop fn a.tmps ps assign body none).run P w = .ok (l, mark) w₁ ∧
      (resolve a.eval (rangeCall g l) 0).run P w₁ = .ok d w₁' ∧
      (invoke d.target d.args).run P w₁' = .ok (.enter f args) w₂ ∧
      Calls P f args w₂ (rangePost Fence.wide n P l Q { a with defers := mark ++ a.defers })) :
    WpE P (Code.rangeFunc g ps assign body) Q a w := by
  refine wpE_of_in fun b k cs hro hb => ?_
  obtain ⟨l, mark, w₁, d, w₁', f, args, w₂, he, hres, hinv, hcall0⟩ := h b.fn hb
  have hcall := ((callsIn_wide (n := n)).2 hcall0).2
  rw [← hro] at he
  have h0 : (lone (b.atR a (.code (.rangeFunc g ps assign body) :: k)) cs w).fenced P Fence.wide := fenced_wide _ _
  have henter := stepR_rangeFunc (P := P) (b := b) (a := a) (k := k) (cs := cs) (w := w) he hres hinv
  obtain ⟨e, w₃, fr, hR, hsteps, hfn, hleave⟩ := hcall (b.atR { a with defers := mark ++ a.defers } (.inRangeFunc l :: k) :: cs) (room_wide _)
  cases e with
  | outgrown =>
    obtain ⟨a₀, w₀, hq⟩ := hR
    exact ⟨.outgrown, a₀, w₀, hq, .inr (Outgrown.of_steps (.one henter) hsteps)⟩
  | returned v =>
    have hl : (lone fr (b.atR { a with defers := mark ++ a.defers } (.inRangeFunc l :: k) :: cs) w₃).fenced P Fence.wide := fenced_wide _ _
    obtain ⟨jump, w₄, hend, hj⟩ := hR
    have sback : StepsIn (Machine.fenced P Fence.wide) P (lone (b.atR a (.code (.rangeFunc g ps assign body) :: k)) cs w) (lone (b.atR { a with defers := mark ++ a.defers } ((jump.map Item.code).toList ++ k)) cs w₄) := by
      refine .head h0 henter (StepsIn.trans hsteps (.head hl ?_ (.one (fenced_wide _ _) (stepR_endRangeFunc hend))))
      rw [← finish_atR_inRangeFunc l v]; exact step_leave_returned hleave
    cases jump with
    | none => exact ⟨.normal, _, w₄, hj, sback⟩
    | some c =>
      obtain ⟨e', a'', w₅, hq, harr⟩ := hj b k cs hro trivial (room_wide _)
      exact ⟨e', a'', w₅, hq, .of_steps sback harr⟩
  | panicked chain =>
    have hl : (lone fr (b.atR { a with defers := mark ++ a.defers } (.inRangeFunc l :: k) :: cs) w₃).fenced P Fence.wide := fenced_wide _ _
    refine ⟨.panic chain, _, w₃, hR, .inRangeFunc l :: k, .head h0 henter (StepsIn.trans hsteps (.one hl ?_))⟩
    rw [← Frame.raise_atR]; exact step_leave_panicked hleave
set_option maxHeartbeats 1000000 in
/-- **the law of the loop, where a round may give up** -/
theorem Sm.wpIn_rangeP {P : Program} {g : Operand} {ps : Array Tmp} {assign body : Code} {Q : Exit → Act → World → Prop} {a : Act} {w : World} {n : Nat} {gf : Nat} {lb : Array Value}
    (hg : a.eval g = .func (.func gf) #[] lb) (eg : ∀ args w, (callFunc gf args).run P w = .ok (.enter gf args) w)
    {X : Nat → Prop} {H : Nat → Nat → Array Value → World → Prop} {row : Array Value → Nat → Prop} {Go S Sp : Nat → Prop} (hseq : SeqXP P gf lb X H row Go S Sp w)
    (hX : ∀ b, X b → b < w.heap.size) (hH : ∀ k args W W', H (w.heap.size + 2) k args W → But (fun b => b < w.heap.size + 2) W W' → H (w.heap.size + 2) k args W')
    (hrow : ∀ k args W b, H (w.heap.size + 2) k args W → row args b → w.heap.size + 2 ≤ b) (hps : ∀ k args W, H (w.heap.size + 2) k args W → args.size = ps.size)
    (I : Nat → World → Prop) (Ix : Code → Nat → World → Prop) (Ip : List PanicEntry → World → Prop) (hI : LowJ w.heap.size I) (hIx : ∀ c, LowJ w.heap.size (Ix c)) (h0 : I 0 w) (Ax : Array Value → Act → World → Prop)
    (hAx : ∀ args a' W W', Ax args a' W → But (fun b => b < w.heap.size + 2) W W' → Ax args a' W')
    (hassign : ∀ (l k : Nat) (args : Array Value) (W : World) (K : Act → World → Prop), w.heap.size + 2 ≤ W.heap.size → I k W → H (w.heap.size + 2) k args W → (∀ a' W', Below W.heap.size W W' → Ax args a' W' → K a' W') →
      assign.wpIn (Fence.wide.inRound l) (n - 1 - 1) P (Exit.then K (fun _ _ _ => False)) { tmps := (ps.zip args).foldl (fun t (p, v) => t.setIfInBounds p v) a.tmps, defers := [] } W)
    (hbody : ∀ (l k : Nat) (args : Array Value) (a' : Act) (W : World), w.heap.size + 2 ≤ W.heap.size → I k W → H (w.heap.size + 2) k args W → Ax args a' W → body.wpIn (Fence.wide.inRound l) (n - 1 - 1) P (postXP Go X row args I Ix Ip k W) a' W)
    (hdone : ∀ (k : Nat) (W : World), S k → I k W → W.heap[w.heap.size]? = some (.deferred (some [])) → Q .normal { a with defers := { target := .collected w.heap.size, args := #[] } :: a.defers } W)
    (hstop : ∀ (c : Code) (k : Nat) (W : World), Sp k → Ix c k W → W.heap[w.heap.size]? = some (.deferred (some [])) → c.wpIn Fence.wide n P Q { a with defers := { target := .collected w.heap.size, args := #[] } :: a.defers } W)
    (hpanic : ∀ (ch : List PanicEntry) (W : World), Ip ch W → W.heap[w.heap.size]? = some (.deferred (some [])) → Q (.panic ch) { a with defers := { target := .collected w.heap.size, args := #[] } :: a.defers } W) :
    WpE P (Code.rangeFunc g ps assign body) Q a w := by
  refine wpE_rangeFunc (n := n) ?_
  intro fn hfn
  obtain ⟨rec, hrec⟩ : ∃ rec : LoopState → Option Code → Loop, rec = fun st pe => { state := st, pending := pe, fn, tmps := a.tmps, params := ps, assign, body, defers := w.heap.size } := ⟨_, rfl⟩
  obtain ⟨W1, hW1⟩ : ∃ W1, (w.alloc (.deferred (some []))).alloc (.loop (rec .ready none)) = W1 := ⟨_, rfl⟩
  have hs1 : W1.heap.size = w.heap.size + 2 := by rw [← hW1]; simp
  have hb1 : Below w.heap.size w W1 := by rw [← hW1]; exact ((Below.refl _ w).alloc (Nat.le_refl _) _).alloc (by simp) _
  have hL1 : W1.heap[w.heap.size + 1]? = some (.loop (rec .ready none)) := by
    rw [← hW1]; have := World.alloc_heap_new (w.alloc (.deferred (some []))) (.loop (rec .ready none)); rwa [World.size_alloc] at this
  have hK1 : W1.heap[w.heap.size]? = some (.deferred (some [])) := by
    rw [← hW1]; exact (Below.heap_alloc _ _ _ (by simp)).trans (World.alloc_heap_new w _)
  refine ⟨w.heap.size + 1, [{ target := .collected w.heap.size, args := #[] }], W1, { target := .fn (.func gf) lb, args := #[.func (.yield (w.heap.size + 1)) #[] #[]] }, W1, gf,
    #[.func (.yield (w.heap.size + 1)) #[] #[]] ++ lb, W1, ?_, ?_, ?_, ?_⟩
  · rw [← hW1, hrec]; exact run_enterLoop_outer _ _ _ _ _
  · simp only [resolve, hg]
    simp [go_sem]
  · simp [invoke, go_sem, eg]
  · have keep : ∀ {st : LoopState} {pe : Option Code} {W W' : World}, W.heap[w.heap.size + 1]? = some (.loop (rec st pe)) ∧ W.heap[w.heap.size]? = some (.deferred (some [])) → Below (w.heap.size + 2) W W' → W'.heap[w.heap.size + 1]? = some (.loop (rec st pe)) ∧ W'.heap[w.heap.size]? = some (.deferred (some [])) :=
      fun h hb => ⟨(hb.block _ (by omega)).trans h.1, (hb.block _ (by omega)).trans h.2⟩
    refine (hseq (w.heap.size + 1)
      (fun k W => I k W ∧ w.heap.size + 2 ≤ W.heap.size ∧ (W.heap[w.heap.size + 1]? = some (.loop (rec .ready none)) ∧ W.heap[w.heap.size]? = some (.deferred (some []))))
      (fun k W => ∃ c, Ix c k W ∧ (W.heap[w.heap.size + 1]? = some (.loop (rec .done (some c))) ∧ W.heap[w.heap.size]? = some (.deferred (some []))))
      (fun ch W => Ip ch W ∧ W.heap[w.heap.size]? = some (.deferred (some [])))
      W1 hb1
      (fun k W W' h hb => ⟨hI k W W' h.1 (hb.mono (by omega)), Nat.le_trans h.2.1 hb.size, keep h.2.2 (by rw [hs1] at hb; exact hb)⟩)
      (fun k W W' h hb => by
        obtain ⟨c, hc, h2⟩ := h
        exact ⟨c, hIx c k W W' hc (hb.mono (by omega)), keep h2 (by rw [hs1] at hb; exact hb)⟩)
      ?_ ⟨hI 0 w W1 h0 hb1, by omega, hL1, hK1⟩).mono ?_
    · rintro k args W ⟨hi, hsz, hl, hk⟩ hh
      rw [hs1] at hh ⊢
      have hlt : w.heap.size + 1 < W.heap.size := (Array.getElem?_eq_some_iff.1 hl).1
      have hy := run_yield (P := P) (args := args) hl (by rw [hrec]; exact hps _ _ _ hh)
      rw [hrec] at hy
      refine ⟨fn, _, assign, body, hy, roundIn_any (m := n - 1 - 1) (roundIn_of_wpInP (F := Fence.wide) (n := n - 1 - 1) trivial hfn (hassign _ k args W _ hsz hi hh ?_))⟩
      intro a' Wa hba hax
      have hla : Wa.heap[w.heap.size + 1]? = some (.loop (rec .ready none)) := (hba.block _ hlt).trans hl
      have hka : Wa.heap[w.heap.size]? = some (.deferred (some [])) := (hba.block _ (by omega)).trans hk
      have hlta : w.heap.size + 1 < Wa.heap.size := (Array.getElem?_eq_some_iff.1 hla).1
      refine ⟨_, run_beginRound hla (by rw [hrec]), ?_⟩
      have hb2 := put_but Wa (w.heap.size + 1) (.loop { rec .ready none with state := .busy })
      have hl2 : (Wa.putObj (w.heap.size + 1) (.loop { rec .ready none with state := .busy })).heap[w.heap.size + 1]? = some (.loop { rec .ready none with state := .busy }) := World.putObj_heap_same hlta
      have hk2 : (Wa.putObj (w.heap.size + 1) (.loop { rec .ready none with state := .busy })).heap[w.heap.size]? = some (.deferred (some [])) := (World.putObj_heap_other (by omega)).trans hka
      have hia : I k Wa := hI k W Wa hi (hba.mono (by omega))
      have hi2 : I k (Wa.putObj (w.heap.size + 1) (.loop { rec .ready none with state := .busy })) := hI.but hia hb2 (by omega) (fun b e => by omega)
      have hha : H (w.heap.size + 2) k args Wa := hH k args W Wa hh (But.of_all hba _)
      have hh2 := hH k args Wa _ hha (hb2.mono fun b _ e => by omega)
      have hax2 := hAx args a' Wa _ hax (hb2.mono fun b _ e => by omega)
      refine wpIn_mono (hbody _ k args a' _ (by simp; omega) hi2 hh2 hax2) ?_
      have fin : ∀ (jump : Option Code) (W3 : World), But (fun b => X b ∨ row args b) (Wa.putObj (w.heap.size + 1) (.loop { rec .ready none with state := .busy })) W3 →
          (Instr.endRound (w.heap.size + 1) jump).run P W3 = .ok (.bool jump.isNone) (W3.putObj (w.heap.size + 1) (.loop (rec (if jump.isNone then .ready else .done) jump))) ∧
          w.heap.size + 2 ≤ W3.heap.size ∧
          ((W3.putObj (w.heap.size + 1) (.loop (rec (if jump.isNone then .ready else .done) jump))).heap[w.heap.size + 1]? = some (.loop (rec (if jump.isNone then .ready else .done) jump)) ∧
          (W3.putObj (w.heap.size + 1) (.loop (rec (if jump.isNone then .ready else .done) jump))).heap[w.heap.size]? = some (.deferred (some []))) ∧
          But (RoundMay X w.heap.size (w.heap.size + 2) row args) W (W3.putObj (w.heap.size + 1) (.loop (rec (if jump.isNone then .ready else .done) jump))) := fun jump W3 hk3 => by
        have hno : ∀ b, b = w.heap.size + 1 ∨ b = w.heap.size → ¬ (X b ∨ row args b) := fun b hb e => by
          rcases e with e | e
          · have := hX b e; omega
          · have := hrow _ _ _ _ hh2 e; omega
        have hl3 := hk3.box hl2 (hno _ (.inl rfl))
        have hk4 := hk3.box hk2 (hno _ (.inr rfl))
        have hlt3 := (Array.getElem?_eq_some_iff.1 hl3).1
        have := run_endRound (P := P) jump hl3
        rw [hrec] at this ⊢
        refine ⟨this, by omega, ⟨World.putObj_heap_same hlt3, (World.putObj_heap_other (by omega)).trans hk4⟩, ?_⟩
        have hmay : ∀ b, b = w.heap.size + 1 → RoundMay X w.heap.size (w.heap.size + 2) row args b := fun b e => .inr (.inl (by omega))
        have c1 : But (RoundMay X w.heap.size (w.heap.size + 2) row args) W (Wa.putObj (w.heap.size + 1) (.loop { rec .ready none with state := .busy })) := (But.of_all hba _).trans hb2 (fun b _ e => hmay b e)
        have c2 := c1.trans hk3 (fun b _ e => by
          rcases e with e | e
          · exact .inl e
          · exact .inr (.inr e))
        exact c2.trans (put_but W3 _ _) (fun b _ e => hmay b e)
      rintro e a3 W3 hp
      cases e with
      | normal =>
        obtain ⟨hgo, hk3, hi3⟩ := hp
        obtain ⟨hr, hz, hlk, hbt⟩ := fin none W3 hk3
        exact ⟨_, _, hr, .inl ⟨rfl, hgo, ⟨hI.but hi3 (put_but W3 _ _) (by omega) (fun b e => by omega), by simpa using hz, hlk⟩, hbt⟩⟩
      | ret =>
        obtain ⟨hk3, hi3⟩ := hp
        obtain ⟨hr, hz, hlk, hbt⟩ := fin (some .ret) W3 hk3
        exact ⟨_, _, hr, .inr (.inl ⟨rfl, ⟨.ret, (hIx _).but hi3 (put_but W3 _ _) (by omega) (fun b e => by omega), hlk⟩, hbt⟩)⟩
      | exit id =>
        obtain ⟨hk3, hi3⟩ := hp
        obtain ⟨hr, hz, hlk, hbt⟩ := fin (some (.exit id)) W3 hk3
        exact ⟨_, _, hr, .inr (.inl ⟨rfl, ⟨.exit id, (hIx _).but hi3 (put_but W3 _ _) (by omega) (fun b e => by omega), hlk⟩, hbt⟩)⟩
      | goto t =>
        obtain ⟨hk3, hi3⟩ := hp
        obtain ⟨hr, hz, hlk, hbt⟩ := fin (some (.goto t)) W3 hk3
        exact ⟨_, _, hr, .inr (.inl ⟨rfl, ⟨.goto t, (hIx _).but hi3 (put_but W3 _ _) (by omega) (fun b e => by omega), hlk⟩, hbt⟩)⟩
      | panic ch =>
        obtain ⟨hd, hk3, hi3⟩ := hp
        have hno : ¬ (X w.heap.size ∨ row args w.heap.size) := fun e => by
          rcases e with e | e
          · have := hX _ e; omega
          · have := hrow _ _ _ _ hh2 e; omega
        exact ⟨hd, .inr (.inr ⟨ch, rfl, hi3, hk3.box hk2 hno⟩)⟩
      | outgrown => exact hp.elim
    · rintro e W2 (⟨⟨v, rfl⟩, (⟨k, hS, hi, hz, hl, hk⟩ | ⟨k, hSp, c, hi, hl, hk⟩)⟩ | ⟨ch, rfl, hi, hk⟩)
      · have hlt : w.heap.size + 1 < W2.heap.size := (Array.getElem?_eq_some_iff.1 hl).1
        exact ⟨none, _, by have := run_endLoop (P := P) hl (by rw [hrec]; simp); rw [hrec] at this; exact this, hdone k _ hS (hI.but hi (put_but W2 _ _) (by omega) (fun b e => by omega)) ((World.putObj_heap_other (by omega)).trans hk)⟩
      · have hlt : w.heap.size + 1 < W2.heap.size := (Array.getElem?_eq_some_iff.1 hl).1
        exact ⟨some c, _, by have := run_endLoop (P := P) hl (by rw [hrec]; simp); rw [hrec] at this; exact this, hstop c k _ hSp ((hIx c).but hi (put_but W2 _ _) (by omega) (fun b e => by omega)) ((World.putObj_heap_other (by omega)).trans hk)⟩
      · exact hpanic ch W2 hi hk
/-- a function that gives up behind such a loop -/
theorem Sm.retP1 {n : Nat} {P : Program} {fn : Func} {R : Ending → World → Prop} {a : Act} {w : World} {ch : List PanicEntry} {D : Nat} (hd : a.defers = [{ target := .collected D, args := #[] }]) (hD : w.heap[D]? = some (.deferred (some []))) (hR : R (.panicked ch) (w.putObj D (.deferred none))) : bodyPostM Fence.wide n P fn R (.panic ch) a w := by
  show LeavesInM Fence.wide n P fn a.tmps R a.defers (.panicking ch) w
  rw [hd]
  exact ⟨by simp, .inl ⟨_, _, rfl, run_takeDeferred hD, hR⟩⟩
end Go.Proofs
