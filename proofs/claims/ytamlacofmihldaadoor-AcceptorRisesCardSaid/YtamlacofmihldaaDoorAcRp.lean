/-
  acceptor: what a call makes of what was promised and accepted never gets less. No condition.
-/
import Derived.Test.YtamlacofmihldaaDoorMe
namespace Go.Proofs
open Go Go.RowKit Sm Go.Lib
def Sm.stX (M : AcM) (y : XV) : AcM := stM M y.x y.r y.q y.k y.m y.n y.t
def Sm.playM (M : AcM) (xs : List XV) : AcM := xs.foldl stX M
theorem Sm.playM_snoc (M : AcM) (xs : List XV) (y : XV) : playM M (xs ++ [y]) = stX (playM M xs) y := by unfold playM; rw [List.foldl_append]; rfl
theorem Sm.few_small {xs : List XV} {most : Int} (h : fewB xs most = true) : (∀ y ∈ xs, y.t.size ≤ 300) ∧ (xs.length : Int) ≤ most := by
  unfold fewB at h
  simp only [Bool.and_eq_true, Bool.not_eq_true', decide_eq_true_eq] at h
  refine ⟨fun y hy => ?_, h.2⟩
  have := List.any_eq_false.1 h.1 y hy
  unfold lg at this
  simp at this
  exact this
theorem Sm.take_play (M : AcM) {xs : List XV} {k : Nat} (hk : k < xs.length) : playM M (xs.take (k + 1)) = stX (playM M (xs.take k)) xs[k] := by
  rw [List.take_succ_eq_append_getElem hk, playM_snoc]
theorem Sm.less_irr (r q : Int) : lessB r q r q = false := by unfold lessB; simp
theorem Sm.less_asym {r q r2 q2 : Int} (h : lessB r q r2 q2 = true) : lessB r2 q2 r q = false := by
  unfold lessB at *
  simp only [Bool.or_eq_true, Bool.and_eq_true, decide_eq_true_eq, Bool.or_eq_false_iff, Bool.and_eq_false_iff, decide_eq_false_iff_not] at *
  omega
theorem Sm.less_tr {r q r2 q2 r3 q3 : Int} (h : lessB r q r2 q2 = false) (h2 : lessB r2 q2 r3 q3 = false) : lessB r q r3 q3 = false := by
  unfold lessB at *
  simp only [Bool.or_eq_false_iff, Bool.and_eq_false_iff, decide_eq_false_iff_not] at *
  omega
/-- was the call promised or accepted? -/
def Sm.okX (M : AcM) (y : XV) : Bool := if y.x = 0 then prOk M y.r y.q else acOk M y.r y.q (entB y.k y.m y.n y.t)
/-- what is accepted is not above what is promised -/
def Sm.RiM (M : AcM) : Prop := noAcc M = false → lessB M.pr M.pp M.ar M.ap = false
theorem Sm.RiM.new (c s : Int) : RiM (newM c s) := by intro h; unfold noAcc newM at h; simp at h
/-- what a round of the law looks at -/
structure Sm.RiX (M N : AcM) (y : XV) (ok : Bool) : Prop where
  prom : lessB N.pr N.pp M.pr M.pp = false
  has : noAcc M = false → noAcc N = false
  acc : noAcc M = false → lessB N.ar N.ap M.ar M.ap = false
  top : noAcc N = false → lessB N.pr N.pp N.ar N.ap = false
  low : ok = true → lessB y.r y.q M.pr M.pp = false
  same : ok = false → N = M
theorem Sm.RiM.step {M : AcM} (h : RiM M) (y : XV) : RiX M (stX M y) y (okX M y) ∧ RiM (stX M y) := by
  unfold stX stM okX
  by_cases hx : y.x = 0
  · rw [if_pos hx, if_pos hx]
    unfold prM
    cases ho : prOk M y.r y.q with
    | false => exact ⟨⟨less_irr _ _, fun e => e, fun _ => less_irr _ _, fun e => h e, fun e => Bool.noConfusion e, fun _ => rfl⟩, h⟩
    | true =>
      rw [if_pos rfl]
      unfold prOk at ho
      simp only [Bool.and_eq_true, Bool.not_eq_true'] at ho
      have h1 := ho.2
      rw [lt1_less, Bool.not_eq_false'] at h1
      have h2 := less_asym h1
      exact ⟨⟨h2, fun e => e, fun _ => less_irr _ _, fun e => less_tr h2 (h e), fun _ => h2, fun e => Bool.noConfusion e⟩, fun e => less_tr h2 (h e)⟩
  · rw [if_neg hx, if_neg hx]
    unfold acM
    cases ho : acOk M y.r y.q (entB y.k y.m y.n y.t) with
    | false => exact ⟨⟨less_irr _ _, fun e => e, fun _ => less_irr _ _, fun e => h e, fun e => Bool.noConfusion e, fun _ => rfl⟩, h⟩
    | true =>
      rw [if_pos rfl]
      unfold acOk at ho
      simp only [Bool.and_eq_true, Bool.not_eq_true'] at ho
      have h2 := ho.2
      rw [lt0_less] at h2
      have h3 := may_round ho.1.1
      have hn : noAcc (accM (promM M y.r y.q) y.r y.q y.k y.m y.n y.t) = false := decide_eq_false (fun e => by have := e.1; have : y.r = -1 := this; omega)
      exact ⟨⟨h2, fun _ => hn, fun e => less_tr h2 (h e), fun _ => less_irr _ _, fun _ => h2, fun e => Bool.noConfusion e⟩, fun _ => less_irr _ _⟩
theorem Sm.RiM.play {M : AcM} (h : RiM M) : ∀ xs : List XV, RiM (playM M xs)
  | [] => h
  | y :: r => RiM.play (h.step y).2 r
end Go.Proofs
