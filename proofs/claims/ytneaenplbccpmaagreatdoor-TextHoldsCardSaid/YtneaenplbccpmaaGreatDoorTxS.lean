/-
  The program's Unquote: the text of a quoted one, or that it is none. Conditions: a text that is not too long; the package variables lie as they are laid.
-/
import Derived.WalkSpells
import Derived.Test.YtneaenplbccpmaaGreatDoorTxR
import Derived.Test.YtneaenplbccpmaaGreatDoorTxL
namespace Go.Proofs
open Go Go.RowKit Sm Go.Lib
theorem Sm.spell_pos (c : BitVec 8) : spellB c ≠ [] := by
  unfold spellB
  repeat' split
  all_goals simp
theorem Sm.spell_apart : ∀ (p t r : List (BitVec 8)), p.flatMap spellB ++ r = t.flatMap spellB → ∃ t', t = p ++ t' ∧ r = t'.flatMap spellB
  | [], t, r, h => ⟨t, rfl, by simpa using h⟩
  | c :: p, t, r, h => by
    cases t with
    | nil =>
      exfalso
      simp only [List.flatMap_cons, List.flatMap_nil, List.append_eq_nil_iff] at h
      exact spell_pos c h.1.1
    | cons d t =>
      simp only [List.flatMap_cons, List.append_assoc] at h
      have h1 := meant_spell c (p.flatMap spellB ++ r)
      rw [h, meant_spell] at h1
      obtain rfl : d = c := Option.some.inj h1
      obtain ⟨t', e1, e2⟩ := spell_apart p t r (List.append_cancel_left h)
      exact ⟨t', by rw [e1]; rfl, e2⟩
theorem Sm.quote_cons (t : List (BitVec 8)) : quoteS t = 34#8 :: (t.flatMap spellB ++ [34#8]) := rfl
theorem Sm.qu_pre {l : List (BitVec 8)} (h : ([34#8] : List (BitVec 8)).isPrefixOf l = false) (t : List (BitVec 8)) : l ≠ quoteS t := by
  rintro rfl
  rw [quote_cons] at h
  simp at h
theorem Sm.qu_suf {l : List (BitVec 8)} (h : ([34#8] : List (BitVec 8)).isSuffixOf (l.drop 1) = false) (t : List (BitVec 8)) : l ≠ quoteS t := by
  rintro rfl
  rw [quote_cons] at h
  simp only [List.drop_succ_cons, List.drop_zero] at h
  have : ([34#8] : List (BitVec 8)).isSuffixOf (t.flatMap spellB ++ [34#8]) = true := List.isSuffixOf_iff_suffix.2 ⟨_, rfl⟩
  rw [this] at h
  cases h
theorem Sm.qu_body {l : List (BitVec 8)} (h1 : ([34#8] : List (BitVec 8)).isPrefixOf l = true) (h2 : ([34#8] : List (BitVec 8)).isSuffixOf (l.drop 1) = true) : l = 34#8 :: ((l.drop 1).take ((l.drop 1).length - 1) ++ [34#8]) := by
  obtain ⟨r, hr⟩ := List.isPrefixOf_iff_prefix.1 h1
  obtain ⟨b, hb⟩ := List.isSuffixOf_iff_suffix.1 h2
  subst hr
  simp only [List.cons_append, List.nil_append, List.drop_succ_cons, List.drop_zero] at hb ⊢
  rw [← hb]
  simp
/-- what unquoted comes to -/
def Sm.UnqQ (l : List (BitVec 8)) (w : World) (e : Ending) (w' : World) : Prop :=
  Below w.heap.size w w' ∧ ((∃ t, l = quoteS t ∧ e = .returned (.string (strB t))) ∨ ((∀ t, l ≠ quoteS t) ∧ e = .panicked [pQ]))
theorem Sm.unq_no {l p r body : List (BitVec 8)} (hl : l = 34#8 :: (body ++ [34#8])) (hp : p.flatMap spellB ++ r = body) (hr : r ≠ []) (h : ∀ c, meantL r = some c → (spellB c).isPrefixOf r = false) (t : List (BitVec 8)) : l ≠ quoteS t := by
  intro e
  rw [hl, quote_cons] at e
  have e2 : body = t.flatMap spellB := List.append_cancel_right (List.cons.inj e).2
  obtain ⟨t', _, h2⟩ := spell_apart p t r (hp.trans e2)
  cases t' with
  | nil => exact hr h2
  | cons c q =>
    have h3 := meant_spell c (q.flatMap spellB)
    rw [← List.flatMap_cons, ← h2] at h3
    have h4 := h c h3
    have : (spellB c).isPrefixOf r = true := List.isPrefixOf_iff_prefix.2 ⟨q.flatMap spellB, by rw [h2]; rfl⟩
    rw [this] at h4
    cases h4
theorem Sm.size5 (w : World) : (sizeOf 5).run Tryz.prog w = .ok 1 w := by kernel_rfl
theorem Sm.elem38 : Tryz.prog.elem 38 = 5 := by kernel_rfl
theorem Sm.und38 : Tryz.prog.underlying 38 = some (.slice (Tryz.prog.elem 38)) := by rw [elem38]; exact Tryz.underlying38
theorem Sm.zero_cut (A : Option Addr) (n c : Nat) (w : World) : (Instr.slice 38 (.slice A n c) none (some (.int .i64 0)) none).run Tryz.prog w = .ok (.slice A 0 c) w := by
  rw [run_slice_h w 38 A n c und38 .i64 0 (by omega) (by omega), elem38, size5]
  cases A <;> simp [sliced, Addr.add]
theorem Sm.own_zero {w : World} {base : Nat} {e : TypeId} {A : Option Addr} {n c size : Nat} {xs : List Value} (h : w.ownsRow base e size (.slice A n c) n xs) : w.ownsRow base e size (.slice A 0 c) 0 [] := by
  refine ⟨by simp, ?_⟩
  rcases h.2 with ⟨h1, h2⟩ | ⟨g, cap, cur, h1, h2, h3, h4, h5, h6, h7⟩
  · injection h1 with e1 e2 e3
    subst e1 e3
    exact .inl ⟨rfl, rfl⟩
  · injection h1 with e1 e2 e3
    subst e1 e3
    exact .inr ⟨g, c, cur, rfl, h2, h3, Nat.zero_le _, h5, h6, by simp⟩
end Go.Proofs
