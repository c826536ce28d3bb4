/-
  A region that draws its order, at the wide fence: what only reads comes first, in whatever order; what comes behind it goes in the text's order. Conditions: what the theorems name.
  A range over a function whose rounds may give up in a panic: what an iterator promises then, and the law of the loop. Conditions: what each theorem names.
  The iterator over groups of bits, round by round. Conditions: what the theorems name.
  The walk of the law BlakeKeyed where the key and the parts are few enough: where there is no sum, and where there is one.
  The contract of a hash's Copy, where there is one; and the walk of the law BlakeCopies.
-/
import Derived.StillTailTactics
import Derived.TacticsIn
import Derived.Sort.QuietThIn
import Derived.RangeFuncNested
import Derived.RangeFuncCalls
import Derived.RangeFuncLeaves
import Derived.Scope
import Derived.Test.YtbojnblececnhaaGreatDoorQ13
import Derived.Outline
import Derived.BigQuiet
import Derived.Deep.CutRange
import Derived.TacticsInMore
import Derived.OwnWalkIn
import Derived.LoopNIn
import Derived.LoopIn
import Derived.Deep.QuietTactic
import Derived.Test.YtbojnblececnhaaGreatDoorQ12
namespace Go.Proofs
open Go
section
variable {n : Nat} {P : Program} {ops : Array Oper} {md : Region.Mode}
theorem Sm.wpIn_of_wpW {o : Oper} {a : Act} {K : Act → World → Prop} {Q : Exit → Act → World → Prop} {w : World} (hh : o.wp P a w K Q) : o.wpIn Fence.wide n P a w K Q := by
  unfold Oper.wp at hh
  unfold Oper.wpIn
  refine ⟨fun _ _ => trivial, ?_⟩
  show o.uponIn Fence.wide n P a K Q ((execOp a.eval o).run P w)
  generalize (execOp a.eval o).run P w = r at *
  cases r with
  | ok x w' =>
    cases x <;> simp only [Oper.upon] at hh <;> simp only [Oper.uponIn]
    case value u => exact hh
    case skip => exact hh
    case defer d => exact hh
    case enter f args => exact ⟨(fun h => by cases h), callsIn_wide.2 hh⟩
    case row row args => exact ⟨(fun h => by cases h), fun c cs _ => let ⟨v, w2, r, s⟩ := hh c cs; ⟨v, w2, r, stepsIn_wide.2 s⟩⟩
  | halt x w' =>
    cases x <;> simp only [Oper.upon] at hh
    case panic u => exact hh
theorem Sm.wpOpIn_of_stOpW {i : Nat} {a : Act} {K : Act → Prop} {K' : Act → World → Prop} {Q' : Exit → Act → World → Prop} {w : World} (h : ∀ a, K a → K' a w) (hh : stOp P ops w i K a) : wpOpIn Fence.wide n P ops Q' i K' a w := by
  unfold stOp at hh
  unfold wpOpIn
  split
  · rename_i ho; simp only [ho] at hh; exact h _ hh
  · rename_i o ho
    simp only [ho] at hh
    split
    · rename_i hw; simp only [hw, if_true] at hh; exact Oper.wpIn_mono (fun _ _ h => h) (wpIn_of_wpW (Oper.wp_of_still h hh))
    · rename_i hw; simp only [hw] at hh; exact ⟨fun _ _ => trivial, h _ hh⟩
theorem Sm.wpAnyIn_of_headW {m g : Nat} {w : World} {L : Array Bool → Act → Prop} {Q' : Exit → Act → World → Prop} (hL : ∀ listed a, L listed a → wpAnyIn Fence.wide n P md ops Q' g listed a w) :
    ∀ (f : Nat) (listed : Array Bool) (a : Act), wpAnyL P md ops w m L f listed a → wpAnyIn Fence.wide n P md ops Q' (f + g) listed a w
  | 0, listed, a, h => by rw [Nat.zero_add]; exact hL _ _ h
  | f + 1, listed, a, h => by
    rw [show f + 1 + g = (f + g) + 1 by omega]
    exact ⟨fun h0 => absurd h0 h.1, fun i hi => wpOpIn_of_stOpW (fun a' h' => wpAnyIn_of_headW hL f _ a' h') (h.2 i hi).2⟩
theorem Sm.wpAnyIn_of_seqW {F : Fence} {Q' : Exit → Act → World → Prop} : ∀ (l : List Oper) (k : Nat) (listed : Array Bool) (a : Act) (w : World), (∀ j, l[j]? = ops[k + j]?) →
    Region.seqB md ops l.length k listed = true → wpListIn F n P ops Q' l a w → wpAnyIn F n P md ops Q' l.length listed a w
  | [], _, _, _, _, _, hB, h => ⟨by simpa [Region.seqB] using hB, h⟩
  | o :: l, k, listed, a, w, hl, hB, h => by
    have h0 : ops[k]? = some o := by simpa using (hl 0).symm
    simp only [List.length_cons, Region.seqB, Bool.and_eq_true, decide_eq_true_eq] at hB
    refine ⟨fun h1 => (by rw [hB.1] at h1; cases h1), fun i hi => ?_⟩
    rw [hB.1] at hi
    have hik : i = k := by simpa using hi
    subst hik
    have hw : wpOpIn F n P ops Q' i (wpListIn F n P ops Q' l) a w := by unfold wpOpIn; simp only [h0]; exact h
    exact wpOpIn_mono (fun a' w' h' => wpAnyIn_of_seqW l (i + 1) _ a' w' (fun j => by have := hl (j + 1); simpa [Nat.add_assoc, Nat.add_comm 1 j] using this) hB.2 h') hw
/-- **what only reads, then the rest in the text's order** -/
theorem Sm.wpIn_region_still_tail {id : Nat} {Q : Exit → Act → World → Prop} {a : Act} {w : World} {l : List Oper} (m : Nat) (hm : P.follows .mixedOrders = true) (hB : Region.lexTailB .any l.toArray m = true)
    (h : wpStill P l.toArray w.drew (fun a' => wpListIn Fence.wide n P l.toArray Q (l.drop m) a' w.drew) (l.take m) a) : (Code.region id l.toArray true).wpIn Fence.wide n P Q a w := by
  simp only [Region.lexTailB, Bool.and_eq_true, decide_eq_true_eq] at hB
  obtain ⟨⟨⟨⟨hsel, hn⟩, hs⟩, hc⟩, hlex⟩ := hB
  have hn' : m < l.length := by simpa using hn
  have htl : (l.take m).length = m := by simp; omega
  have hdl : (l.drop m).length = l.toArray.size - m := by simp
  have inv0 : HeadInv .any l.toArray m (Array.replicate l.toArray.size false) :=
    ⟨by simp, fun j oj _ hl => (by rw [getD_replicate_false] at hl; cases hl), fun t _ ht => getD_in (by simpa using ht) (getD_replicate_false _ _)⟩
  have H := wpAnyL_lex (md := .any) (g := l.toArray.size - m) hsel hs hc hn (l.take m) 0 _ a (fun j hj => by
    have hj' : j < m := by rw [htl] at hj; exact hj
    simp [hj']) (by simpa using htl) inv0 (by rw [htl]; exact hlex) h
  refine wpIn_region_any hm ?_
  have := wpAnyIn_of_headW (n := n) (Q' := Q) (g := l.toArray.size - m) (fun listed a' hL => by
    have := wpAnyIn_of_seqW (n := n) (F := Fence.wide) (md := .any) (Q' := Q) (l.drop m) m listed a' w.drew (fun j => by simp [List.getElem?_drop]) (by rw [hdl]; exact hL.1) hL.2
    rwa [hdl] at this) _ _ _ H
  rw [htl, show m + (l.toArray.size - m) = l.toArray.size by omega] at this
  exact this
end
end Go.Proofs
namespace Go.Proofs
open Go Go.RowKit Sm
def Sm.roundPostP (P : Program) (l : Nat) (R : Ending → World → Prop) : Exit → Act → World → Prop
  | .normal, _, w => ∃ v w', (Instr.endRound l none).run P w = .ok v w' ∧ R (.returned v) w'
  | .ret, _, w => ∃ v w', (Instr.endRound l (some .ret)).run P w = .ok v w' ∧ R (.returned v) w'
  | .exit id, _, w => ∃ v w', (Instr.endRound l (some (.exit id))).run P w = .ok v w' ∧ R (.returned v) w'
  | .goto t, _, w => ∃ v w', (Instr.endRound l (some (.goto t))).run P w = .ok v w' ∧ R (.returned v) w'
  | .panic ch, a, w => a.defers = [] ∧ R (.panicked ch) w
  | .outgrown, _, _ => False
theorem Sm.roundIn_of_wpInP {F : Fence} {n : Nat} {P : Program} {l : Nat} {f : FuncId} {tmps : Array Value} {assign body : Code} {w : World} {R : Ending → World → Prop} (hF : F.fn f) (hf : ∃ fn, P.funcs[f]? = some fn)
    (h : assign.wpIn (F.inRound l) n P (Exit.then (fun a₁ w₁ => ∃ w₂, (Instr.beginRound l).run P w₁ = .ok () w₂ ∧ body.wpIn (F.inRound l) n P (roundPostP P l R) a₁ w₂) (fun _ _ _ => False))
      { tmps := tmps, defers := [] } w) :
    RoundIn F n P l f tmps assign body w R := by
  refine ⟨hF, fun c cs hr => ?_⟩
  let b : Frame := { (default : Frame) with fn := f, kind := .normal, roundOf := some l }
  have hb0 : Frame.round l f tmps assign body .normal = b.atR { tmps := tmps, defers := [] } [.code assign, .beginRound, .code body] := by
    simp [Frame.round, Frame.atR, b]
  have hr' : (F.inRound l).room ((c :: cs).length + 1 + n) := hr
  have hF' : (F.inRound l).fn b.fn := hF
  obtain ⟨e, a₁, w₁, hq, harr⟩ := h b [.beginRound, .code body] (c :: cs) rfl hF' hr'
  rw [← hb0] at harr
  cases e with
  | normal =>
    obtain ⟨w₂, hbr, hbody⟩ := hq
    have s1 : StepsIn (Machine.fenced P (F.inRound l)) P (lone (b.atR a₁ [.beginRound, .code body]) (c :: cs) w₁) (lone (b.atR a₁ [.code body]) (c :: cs) w₂) :=
      .one (fenced_calm (fr := b.atR a₁ [.beginRound, .code body]) hF' hr' rfl) (stepR_beginRound rfl hbr)
    obtain ⟨e₂, a₂, w₃, hq₂, harr₂⟩ := hbody b [] (c :: cs) rfl hF' hr'
    cases e₂ with
    | normal =>
      obtain ⟨v, w₄, hend, hR⟩ := hq₂
      exact ⟨.returned v, w₄, hR, (StepsIn.trans harr s1).trans (StepsIn.trans harr₂ (.one (fenced_calm (fr := b.atR a₂ []) hF' hr' rfl) (stepR_round_end rfl rfl hend)))⟩
    | ret =>
      obtain ⟨v, w₄, hend, hR⟩ := hq₂
      obtain ⟨k₁, hs⟩ := harr₂.2 rfl
      exact ⟨.returned v, w₄, hR, (StepsIn.trans harr s1).trans (StepsIn.trans hs (.one (fenced_calm (fr := b.atR a₂ (.code .ret :: k₁)) hF' hr' rfl) (stepR_round_ret rfl rfl hend)))⟩
    | exit id =>
      obtain ⟨v, w₄, hend, hR⟩ := hq₂
      obtain ⟨k₁, hk, hs⟩ := harr₂.2 rfl rfl
      exact ⟨.returned v, w₄, hR, (StepsIn.trans harr s1).trans (StepsIn.trans hs (.one (fenced_calm (fr := b.atR a₂ (.code (.exit id) :: k₁)) hF' hr' rfl) (stepR_round_exit rfl rfl hk hend)))⟩
    | goto t =>
      obtain ⟨v, w₄, hend, hR⟩ := hq₂
      obtain ⟨k₁, hk, hs⟩ := harr₂.2 rfl rfl
      exact ⟨.returned v, w₄, hR, (StepsIn.trans harr s1).trans (StepsIn.trans hs (.one (fenced_calm (fr := b.atR a₂ (.code (.goto t) :: k₁)) hF' hr' rfl) (stepR_round_goto rfl rfl hk hend)))⟩
    | panic chain =>
      obtain ⟨hd, hR⟩ := hq₂
      obtain ⟨todo, hs⟩ := harr₂
      have hl : ({ b.atR a₂ todo with mode := .panicking chain } : Frame).leaving P w₃ (.panicked chain) := ⟨rfl, hd, hf⟩
      exact ⟨.panicked chain, w₃, hR, (StepsIn.trans harr s1).trans (StepsIn.trans hs (.one (fenced_leaving (fr := { b.atR a₂ todo with mode := .panicking chain }) hF' hr' hl) (step_leave_panicked hl)))⟩
    | outgrown => exact hq₂.elim
  | exit id => exact hq.elim
  | goto t => exact hq.elim
  | ret => exact hq.elim
  | panic chain => exact hq.elim
  | outgrown => exact hq.elim
/-- **what an iterator promises, where a round may give up** -/
def Sm.SeqXP (P : Program) (g : Nat) (lb : Array Value) (X : Nat → Prop) (H : Nat → Nat → Array Value → World → Prop) (row : Array Value → Nat → Prop) (Go : Nat → Prop) (S Sp : Nat → Prop) (w : World) : Prop :=
  ∀ (l : Nat) (J Jx : Nat → World → Prop) (Jp : List PanicEntry → World → Prop) (W : World), Below w.heap.size w W → LowJ W.heap.size J → LowJ W.heap.size Jx →
    (∀ k args W1, J k W1 → H W.heap.size k args W1 → YieldAt Fence.wide 1 P l args W1 fun e W' =>
      (e = .returned (.bool true) ∧ Go k ∧ J (k + 1) W' ∧ But (RoundMay X w.heap.size W.heap.size row args) W1 W') ∨ (e = .returned (.bool false) ∧ Jx (k + 1) W' ∧ But (RoundMay X w.heap.size W.heap.size row args) W1 W') ∨ (∃ ch, e = .panicked ch ∧ Jp ch W')) →
    J 0 W → Calls P g (#[.func (.yield l) #[] #[]] ++ lb) W fun e W' => ((∃ v, e = .returned v) ∧ ((∃ k, S k ∧ J k W') ∨ (∃ k, Sp k ∧ Jx k W'))) ∨ (∃ ch, e = .panicked ch ∧ Jp ch W')
theorem Sm.SeqXP.plain {P : Program} {g : Nat} {lb : Array Value} {X : Nat → Prop} {H : Nat → Nat → Array Value → World → Prop} {row : Array Value → Nat → Prop} {Go : Nat → Prop} {S Sp : Nat → Prop} {w : World} (h : SeqXP P g lb X H row Go S Sp w) : SeqX P g lb X H row Go S Sp w := by
  intro l J Jx W hW hJ hJx hY hJ0
  refine (h l J Jx (fun _ _ => False) W hW hJ hJx (fun k args W1 h1 h2 => ?_) hJ0).mono ?_
  · obtain ⟨fn, tmps, assign, body, hy, hR⟩ := hY k args W1 h1 h2
    exact ⟨fn, tmps, assign, body, hy, hR.mono (fun e w' h => h.imp id .inl)⟩
  · rintro e W' (h | ⟨_, _, h⟩)
    · exact h
    · exact h.elim
/-- how the body of a round may be left -/
def Sm.postXP (Go : Nat → Prop) (X : Nat → Prop) (row : Array Value → Nat → Prop) (args : Array Value) (I : Nat → World → Prop) (Ix : Code → Nat → World → Prop) (Ip : List PanicEntry → World → Prop) (k : Nat) (W : World) : Exit → Act → World → Prop
  | .normal, _, W' => Go k ∧ But (fun b => X b ∨ row args b) W W' ∧ I (k + 1) W'
  | .ret, _, W' => But (fun b => X b ∨ row args b) W W' ∧ Ix .ret (k + 1) W'
  | .exit id, _, W' => But (fun b => X b ∨ row args b) W W' ∧ Ix (.exit id) (k + 1) W'
  | .goto t, _, W' => But (fun b => X b ∨ row args b) W W' ∧ Ix (.goto t) (k + 1) W'
  | .panic ch, a, W' => a.defers = [] ∧ But (fun b => X b ∨ row args b) W W' ∧ Ip ch W'
  | .outgrown, _, _ => False
/-- what a piece of code comes to, in every frame of a function that there is -/
def Sm.WpE (P : Program) (c : Code) (Q : Exit → Act → World → Prop) (a : Act) (w : World) : Prop :=
  ∀ (b : Frame) (k : List Item) (cs : List Frame), (∃ fn, P.funcs[b.fn]? = some fn) →
    ∃ e a' w', Q e a' w' ∧ Arrives P (lone (b.at a (.code c :: k)) cs w) b k cs e a' w'
section
variable {P : Program} {Q : Exit → Act → World → Prop} {a : Act} {w : World}
theorem Sm.wpE_of {c : Code} (h : c.wp P Q a w) : WpE P c Q a w := fun b k cs _ => h b k cs
theorem Sm.wpE_seq {x y : Code} (h : WpE P x (Exit.then (fun a w => WpE P y Q a w) Q) a w) : WpE P (Code.seq x y) Q a w := by
  intro b k cs hb
  obtain ⟨e, a₁, w₁, hq, harr⟩ := h b (.code y :: k) cs hb
  cases e with
  | normal =>
    obtain ⟨e₂, a₂, w₂, hq₂, harr₂⟩ := hq b k cs hb
    exact ⟨e₂, a₂, w₂, hq₂, .of_steps (.head step_seq harr) harr₂⟩
  | exit id => exact ⟨_, a₁, w₁, hq, .of_steps (.one step_seq) (.pass (x := .code y) rfl (fun _ _ => .inl (by simp)) harr)⟩
  | goto l => exact ⟨_, a₁, w₁, hq, .of_steps (.one step_seq) (.pass (x := .code y) rfl (fun _ _ => .inl (by simp)) harr)⟩
  | ret => exact ⟨_, a₁, w₁, hq, .of_steps (.one step_seq) (.pass (x := .code y) rfl (fun _ _ => .inl (by simp)) harr)⟩
  | panic ch => exact ⟨_, a₁, w₁, hq, .of_steps (.one step_seq) (.pass (x := .code y) rfl (fun _ _ => .inl (by simp)) harr)⟩
  | outgrown => exact ⟨_, a₁, w₁, hq, .of_steps (.one step_seq) (.pass (x := .code y) rfl (fun _ _ => .inl (by simp)) harr)⟩
theorem Sm.wpE_block {id : Nat} {c : Code} (h : WpE P c (Exit.inBlock id Q) a w) : WpE P (Code.block id c) Q a w := by
  intro b k cs hb
  obtain ⟨e, a₁, w₁, hq, harr⟩ := h b (.inBlock id :: k) cs hb
  cases e with
  | normal => exact ⟨.normal, a₁, w₁, hq, .head step_block (Steps.trans harr (.one step_inBlock))⟩
  | exit id' =>
    by_cases hid : id' = id
    · simp only [Exit.inBlock, hid, if_true] at hq
      exact ⟨.normal, a₁, w₁, hq, .head step_block (harr k (by simp [exitTo, hid]))⟩
    · simp only [Exit.inBlock, hid, if_false] at hq
      refine ⟨.exit id', a₁, w₁, hq, fun k' hk => .head step_block (harr k' ?_)⟩
      have : (id == id') = false := by simp; exact fun h => hid h.symm
      simp [exitTo, this, hk]
  | goto l => exact ⟨_, a₁, w₁, hq, fun k' hk => .head step_block (harr k' (by simp [gotoIn, hk]))⟩
  | ret => exact ⟨_, a₁, w₁, hq, .of_steps (.one step_block) harr⟩
  | panic ch => exact ⟨_, a₁, w₁, hq, .of_steps (.one step_block) harr⟩
  | outgrown => exact ⟨_, a₁, w₁, hq, .of_steps (.one step_block) harr⟩
theorem Sm.wpE_scope {c : Code} (h : WpE P c (Exit.noGoto Q) a w) : WpE P (Code.scope c) Q a w := by
  intro b k cs hb
  obtain ⟨e, a₁, w₁, hq, harr⟩ := h b (.inScope c :: k) cs hb
  cases e with
  | normal => exact ⟨.normal, a₁, w₁, hq, .head step_scope (Steps.trans harr (.one step_inScope))⟩
  | exit id => exact ⟨.exit id, a₁, w₁, hq, fun k' hk => .head step_scope (harr k' (by simp [exitTo, hk]))⟩
  | goto l => exact hq.elim
  | ret => exact ⟨_, a₁, w₁, hq, .of_steps (.one step_scope) harr⟩
  | panic ch => exact ⟨_, a₁, w₁, hq, .of_steps (.one step_scope) harr⟩
  | outgrown => exact ⟨_, a₁, w₁, hq, .of_steps (.one step_scope) harr⟩
theorem Sm.wpE_of_in {c : Code} (h : ∀ (b : Frame) (k : List Item) (cs : List Frame), b.roundOf = none → (∃ fn, P.funcs[b.fn]? = some fn) → ∃ e a' w', Q e a' w' ∧ ArrivesIn (Machine.fenced P Fence.wide) P (lone (b.atR a (.code c :: k)) cs w) b k cs e a' w') : WpE P c Q a w := by
  intro b k cs hb
  obtain ⟨e, a', w', q, r⟩ := h { b with roundOf := none } k cs rfl hb
  exact ⟨e, a', w', q, (arrivesIn_iff (b := { b with roundOf := none }) (fun _ _ => stepsIn_wide) rfl).1 r⟩
theorem Sm.calls_of_wpE {n : Nat} {f : FuncId} {fn : Func} {c : Code} {args : Array Value} {w : World} {R : Ending → World → Prop}
    (hf : P.funcs[f]? = some fn) (hb : fn.body = some c)
    (h : WpE P c (bodyPostM Fence.wide n P fn R) { tmps := args ++ Array.replicate (fn.ntmps - args.size) undef, defers := [] } w) : Calls P f args w R := by
  refine (callsIn_wide (n := n)).1 ⟨trivial, fun cs hr => ?_⟩
  let b : Frame := { (default : Frame) with fn := f, kind := .normal, roundOf := none }
  have henter : Frame.enter P f args .normal =
      b.atR { tmps := args ++ Array.replicate (fn.ntmps - args.size) undef, defers := [] } [.code c] := by
    simp [Frame.enter, Frame.atR, hf, hb, b]
  obtain ⟨e, a', w', hq, harr0⟩ := h b [] cs ⟨fn, hf⟩
  have harr := (arrivesIn_iff (I := Machine.fenced P Fence.wide) (b := b) (k := []) (cs := cs) (e := e) (a := a') (w := w') (fun _ _ => stepsIn_wide) rfl).2 harr0
  rw [← Frame.atR_of_none (b := b) rfl, ← henter] at harr
  cases e with
  | normal =>
    obtain ⟨e', w'', fr', hR, hs, hfn, hl⟩ := leaves_stepsInM a'.defers .returning w' { b.atR a' [] with mode := .returning } cs rfl rfl rfl hf rfl trivial hr hq
    exact ⟨e', w'', fr', hR, ComesIn.of_steps (StepsIn.trans harr (.one (fenced_wide _ _) (stepR_end rfl))) hs, hfn, hl⟩
  | ret =>
    obtain ⟨todo, hs₀⟩ := harr.1 rfl
    obtain ⟨e', w'', fr', hR, hs, hfn, hl⟩ := leaves_stepsInM a'.defers .returning w' { b.atR a' todo with mode := .returning } cs rfl rfl rfl hf rfl trivial hr hq
    exact ⟨e', w'', fr', hR, ComesIn.of_steps hs₀ hs, hfn, hl⟩
  | panic chain =>
    obtain ⟨todo, hs₀⟩ := harr
    obtain ⟨e', w'', fr', hR, hs, hfn, hl⟩ := leaves_stepsInM a'.defers (.panicking chain) w' { b.atR a' todo with mode := .panicking chain } cs rfl rfl rfl hf rfl trivial hr hq
    exact ⟨e', w'', fr', hR, ComesIn.of_steps hs₀ hs, hfn, hl⟩
  | exit id => exact hq.elim
  | goto l => exact hq.elim
  | outgrown => exact ⟨.outgrown, w', b, hq, harr.resolve_left (by simp [b]), rfl, trivial⟩
end
/-- the statement itself, in every frame of a function that there is -/
theorem Sm.wpE_rangeFunc {n : Nat} {P : Program} {g : Operand} {ps : Array Tmp} {assign body : Code} {Q : Exit → Act → World → Prop} {a : Act} {w : World}
    (h : ∀ fn, (∃ f', P.funcs[fn]? = some f') → ∃ (l : Nat) (mark : List Deferred) (w₁ : World) (d : Deferred) (w₁' : World) (f : FuncId) (args : Array Value) (w₂ : World),
      (Instr.enterLoop fn a.tmps ps assign body none).run P w = .ok (l, mark) w₁ ∧
      (resolve a.eval (rangeCall g l) 0).run P w₁ = .ok d w₁' ∧
      (invoke d.target d.args).run P w₁' = .ok (.enter f args) w₂ ∧
      Calls P f args w₂ (rangePost Fence.wide n P l Q { a with defers := mark ++ a.defers })) :
    WpE P (Code.rangeFunc g ps assign body) Q a w := by
  refine wpE_of_in fun b k cs hro hb => ?_
  obtain ⟨l, mark, w₁, d, w₁', f, args, w₂, he, hres, hinv, hcall0⟩ := h b.fn hb
  have hcall := ((callsIn_wide (n := n)).2 hcall0).2
  rw [← hro] at he
  have h0 : (lone (b.atR a (.code (.rangeFunc g ps assign body) :: k)) cs w).fenced P Fence.wide := fenced_wide _ _
  have henter := stepR_rangeFunc (P := P) (b := b) (a := a) (k := k) (cs := cs) (w := w) he hres hinv
  obtain ⟨e, w₃, fr, hR, hsteps, hfn, hleave⟩ := hcall (b.atR { a with defers := mark ++ a.defers } (.inRangeFunc l :: k) :: cs) (room_wide _)
  cases e with
  | outgrown =>
    obtain ⟨a₀, w₀, hq⟩ := hR
    exact ⟨.outgrown, a₀, w₀, hq, .inr (Outgrown.of_steps (.one henter) hsteps)⟩
  | returned v =>
    have hl : (lone fr (b.atR { a with defers := mark ++ a.defers } (.inRangeFunc l :: k) :: cs) w₃).fenced P Fence.wide := fenced_wide _ _
    obtain ⟨jump, w₄, hend, hj⟩ := hR
    have sback : StepsIn (Machine.fenced P Fence.wide) P (lone (b.atR a (.code (.rangeFunc g ps assign body) :: k)) cs w) (lone (b.atR { a with defers := mark ++ a.defers } ((jump.map Item.code).toList ++ k)) cs w₄) := by
      refine .head h0 henter (StepsIn.trans hsteps (.head hl ?_ (.one (fenced_wide _ _) (stepR_endRangeFunc hend))))
      rw [← finish_atR_inRangeFunc l v]; exact step_leave_returned hleave
    cases jump with
    | none => exact ⟨.normal, _, w₄, hj, sback⟩
    | some c =>
      obtain ⟨e', a'', w₅, hq, harr⟩ := hj b k cs hro trivial (room_wide _)
      exact ⟨e', a'', w₅, hq, .of_steps sback harr⟩
  | panicked chain =>
    have hl : (lone fr (b.atR { a with defers := mark ++ a.defers } (.inRangeFunc l :: k) :: cs) w₃).fenced P Fence.wide := fenced_wide _ _
    refine ⟨.panic chain, _, w₃, hR, .inRangeFunc l :: k, .head h0 henter (StepsIn.trans hsteps (.one hl ?_))⟩
    rw [← Frame.raise_atR]; exact step_leave_panicked hleave
set_option maxHeartbeats 1000000 in
/-- **the law of the loop, where a round may give up** -/
theorem Sm.wpIn_rangeP {P : Program} {g : Operand} {ps : Array Tmp} {assign body : Code} {Q : Exit → Act → World → Prop} {a : Act} {w : World} {n : Nat} {gf : Nat} {lb : Array Value}
    (hg : a.eval g = .func (.func gf) #[] lb) (eg : ∀ args w, (callFunc gf args).run P w = .ok (.enter gf args) w)
    {X : Nat → Prop} {H : Nat → Nat → Array Value → World → Prop} {row : Array Value → Nat → Prop} {Go S Sp : Nat → Prop} (hseq : SeqXP P gf lb X H row Go S Sp w)
    (hX : ∀ b, X b → b < w.heap.size) (hH : ∀ k args W W', H (w.heap.size + 2) k args W → But (fun b => b < w.heap.size + 2) W W' → H (w.heap.size + 2) k args W')
    (hrow : ∀ k args W b, H (w.heap.size + 2) k args W → row args b → w.heap.size + 2 ≤ b) (hps : ∀ k args W, H (w.heap.size + 2) k args W → args.size = ps.size)
    (I : Nat → World → Prop) (Ix : Code → Nat → World → Prop) (Ip : List PanicEntry → World → Prop) (hI : LowJ w.heap.size I) (hIx : ∀ c, LowJ w.heap.size (Ix c)) (h0 : I 0 w) (Ax : Array Value → Act → World → Prop)
    (hAx : ∀ args a' W W', Ax args a' W → But (fun b => b < w.heap.size + 2) W W' → Ax args a' W')
    (hassign : ∀ (l k : Nat) (args : Array Value) (W : World) (K : Act → World → Prop), w.heap.size + 2 ≤ W.heap.size → I k W → H (w.heap.size + 2) k args W → (∀ a' W', Below W.heap.size W W' → Ax args a' W' → K a' W') →
      assign.wpIn (Fence.wide.inRound l) (n - 1 - 1) P (Exit.then K (fun _ _ _ => False)) { tmps := (ps.zip args).foldl (fun t (p, v) => t.setIfInBounds p v) a.tmps, defers := [] } W)
    (hbody : ∀ (l k : Nat) (args : Array Value) (a' : Act) (W : World), w.heap.size + 2 ≤ W.heap.size → I k W → H (w.heap.size + 2) k args W → Ax args a' W → body.wpIn (Fence.wide.inRound l) (n - 1 - 1) P (postXP Go X row args I Ix Ip k W) a' W)
    (hdone : ∀ (k : Nat) (W : World), S k → I k W → W.heap[w.heap.size]? = some (.deferred (some [])) → Q .normal { a with defers := { target := .collected w.heap.size, args := #[] } :: a.defers } W)
    (hstop : ∀ (c : Code) (k : Nat) (W : World), Sp k → Ix c k W → W.heap[w.heap.size]? = some (.deferred (some [])) → c.wpIn Fence.wide n P Q { a with defers := { target := .collected w.heap.size, args := #[] } :: a.defers } W)
    (hpanic : ∀ (ch : List PanicEntry) (W : World), Ip ch W → W.heap[w.heap.size]? = some (.deferred (some [])) → Q (.panic ch) { a with defers := { target := .collected w.heap.size, args := #[] } :: a.defers } W) :
    WpE P (Code.rangeFunc g ps assign body) Q a w := by
  refine wpE_rangeFunc (n := n) ?_
  intro fn hfn
  obtain ⟨rec, hrec⟩ : ∃ rec : LoopState → Option Code → Loop, rec = fun st pe => { state := st, pending := pe, fn, tmps := a.tmps, params := ps, assign, body, defers := w.heap.size } := ⟨_, rfl⟩
  obtain ⟨W1, hW1⟩ : ∃ W1, (w.alloc (.deferred (some []))).alloc (.loop (rec .ready none)) = W1 := ⟨_, rfl⟩
  have hs1 : W1.heap.size = w.heap.size + 2 := by rw [← hW1]; simp
  have hb1 : Below w.heap.size w W1 := by rw [← hW1]; exact ((Below.refl _ w).alloc (Nat.le_refl _) _).alloc (by simp) _
  have hL1 : W1.heap[w.heap.size + 1]? = some (.loop (rec .ready none)) := by
    rw [← hW1]; have := World.alloc_heap_new (w.alloc (.deferred (some []))) (.loop (rec .ready none)); rwa [World.size_alloc] at this
  have hK1 : W1.heap[w.heap.size]? = some (.deferred (some [])) := by
    rw [← hW1]; exact (Below.heap_alloc _ _ _ (by simp)).trans (World.alloc_heap_new w _)
  refine ⟨w.heap.size + 1, [{ target := .collected w.heap.size, args := #[] }], W1, { target := .fn (.func gf) lb, args := #[.func (.yield (w.heap.size + 1)) #[] #[]] }, W1, gf,
    #[.func (.yield (w.heap.size + 1)) #[] #[]] ++ lb, W1, ?_, ?_, ?_, ?_⟩
  · rw [← hW1, hrec]; exact run_enterLoop_outer _ _ _ _ _
  · simp only [resolve, hg]
    simp [go_sem]
  · simp [invoke, go_sem, eg]
  · have keep : ∀ {st : LoopState} {pe : Option Code} {W W' : World}, W.heap[w.heap.size + 1]? = some (.loop (rec st pe)) ∧ W.heap[w.heap.size]? = some (.deferred (some [])) → Below (w.heap.size + 2) W W' → W'.heap[w.heap.size + 1]? = some (.loop (rec st pe)) ∧ W'.heap[w.heap.size]? = some (.deferred (some [])) :=
      fun h hb => ⟨(hb.block _ (by omega)).trans h.1, (hb.block _ (by omega)).trans h.2⟩
    refine (hseq (w.heap.size + 1)
      (fun k W => I k W ∧ w.heap.size + 2 ≤ W.heap.size ∧ (W.heap[w.heap.size + 1]? = some (.loop (rec .ready none)) ∧ W.heap[w.heap.size]? = some (.deferred (some []))))
      (fun k W => ∃ c, Ix c k W ∧ (W.heap[w.heap.size + 1]? = some (.loop (rec .done (some c))) ∧ W.heap[w.heap.size]? = some (.deferred (some []))))
      (fun ch W => Ip ch W ∧ W.heap[w.heap.size]? = some (.deferred (some [])))
      W1 hb1
      (fun k W W' h hb => ⟨hI k W W' h.1 (hb.mono (by omega)), Nat.le_trans h.2.1 hb.size, keep h.2.2 (by rw [hs1] at hb; exact hb)⟩)
      (fun k W W' h hb => by
        obtain ⟨c, hc, h2⟩ := h
        exact ⟨c, hIx c k W W' hc (hb.mono (by omega)), keep h2 (by rw [hs1] at hb; exact hb)⟩)
      ?_ ⟨hI 0 w W1 h0 hb1, by omega, hL1, hK1⟩).mono ?_
    · rintro k args W ⟨hi, hsz, hl, hk⟩ hh
      rw [hs1] at hh ⊢
      have hlt : w.heap.size + 1 < W.heap.size := (Array.getElem?_eq_some_iff.1 hl).1
      have hy := run_yield (P := P) (args := args) hl (by rw [hrec]; exact hps _ _ _ hh)
      rw [hrec] at hy
      refine ⟨fn, _, assign, body, hy, roundIn_any (m := n - 1 - 1) (roundIn_of_wpInP (F := Fence.wide) (n := n - 1 - 1) trivial hfn (hassign _ k args W _ hsz hi hh ?_))⟩
      intro a' Wa hba hax
      have hla : Wa.heap[w.heap.size + 1]? = some (.loop (rec .ready none)) := (hba.block _ hlt).trans hl
      have hka : Wa.heap[w.heap.size]? = some (.deferred (some [])) := (hba.block _ (by omega)).trans hk
      have hlta : w.heap.size + 1 < Wa.heap.size := (Array.getElem?_eq_some_iff.1 hla).1
      refine ⟨_, run_beginRound hla (by rw [hrec]), ?_⟩
      have hb2 := put_but Wa (w.heap.size + 1) (.loop { rec .ready none with state := .busy })
      have hl2 : (Wa.putObj (w.heap.size + 1) (.loop { rec .ready none with state := .busy })).heap[w.heap.size + 1]? = some (.loop { rec .ready none with state := .busy }) := World.putObj_heap_same hlta
      have hk2 : (Wa.putObj (w.heap.size + 1) (.loop { rec .ready none with state := .busy })).heap[w.heap.size]? = some (.deferred (some [])) := (World.putObj_heap_other (by omega)).trans hka
      have hia : I k Wa := hI k W Wa hi (hba.mono (by omega))
      have hi2 : I k (Wa.putObj (w.heap.size + 1) (.loop { rec .ready none with state := .busy })) := hI.but hia hb2 (by omega) (fun b e => by omega)
      have hha : H (w.heap.size + 2) k args Wa := hH k args W Wa hh (But.of_all hba _)
      have hh2 := hH k args Wa _ hha (hb2.mono fun b _ e => by omega)
      have hax2 := hAx args a' Wa _ hax (hb2.mono fun b _ e => by omega)
      refine wpIn_mono (hbody _ k args a' _ (by simp; omega) hi2 hh2 hax2) ?_
      have fin : ∀ (jump : Option Code) (W3 : World), But (fun b => X b ∨ row args b) (Wa.putObj (w.heap.size + 1) (.loop { rec .ready none with state := .busy })) W3 →
          (Instr.endRound (w.heap.size + 1) jump).run P W3 = .ok (.bool jump.isNone) (W3.putObj (w.heap.size + 1) (.loop (rec (if jump.isNone then .ready else .done) jump))) ∧
          w.heap.size + 2 ≤ W3.heap.size ∧
          ((W3.putObj (w.heap.size + 1) (.loop (rec (if jump.isNone then .ready else .done) jump))).heap[w.heap.size + 1]? = some (.loop (rec (if jump.isNone then .ready else .done) jump)) ∧
          (W3.putObj (w.heap.size + 1) (.loop (rec (if jump.isNone then .ready else .done) jump))).heap[w.heap.size]? = some (.deferred (some []))) ∧
          But (RoundMay X w.heap.size (w.heap.size + 2) row args) W (W3.putObj (w.heap.size + 1) (.loop (rec (if jump.isNone then .ready else .done) jump))) := fun jump W3 hk3 => by
        have hno : ∀ b, b = w.heap.size + 1 ∨ b = w.heap.size → ¬ (X b ∨ row args b) := fun b hb e => by
          rcases e with e | e
          · have := hX b e; omega
          · have := hrow _ _ _ _ hh2 e; omega
        have hl3 := hk3.box hl2 (hno _ (.inl rfl))
        have hk4 := hk3.box hk2 (hno _ (.inr rfl))
        have hlt3 := (Array.getElem?_eq_some_iff.1 hl3).1
        have := run_endRound (P := P) jump hl3
        rw [hrec] at this ⊢
        refine ⟨this, by omega, ⟨World.putObj_heap_same hlt3, (World.putObj_heap_other (by omega)).trans hk4⟩, ?_⟩
        have hmay : ∀ b, b = w.heap.size + 1 → RoundMay X w.heap.size (w.heap.size + 2) row args b := fun b e => .inr (.inl (by omega))
        have c1 : But (RoundMay X w.heap.size (w.heap.size + 2) row args) W (Wa.putObj (w.heap.size + 1) (.loop { rec .ready none with state := .busy })) := (But.of_all hba _).trans hb2 (fun b _ e => hmay b e)
        have c2 := c1.trans hk3 (fun b _ e => by
          rcases e with e | e
          · exact .inl e
          · exact .inr (.inr e))
        exact c2.trans (put_but W3 _ _) (fun b _ e => hmay b e)
      rintro e a3 W3 hp
      cases e with
      | normal =>
        obtain ⟨hgo, hk3, hi3⟩ := hp
        obtain ⟨hr, hz, hlk, hbt⟩ := fin none W3 hk3
        exact ⟨_, _, hr, .inl ⟨rfl, hgo, ⟨hI.but hi3 (put_but W3 _ _) (by omega) (fun b e => by omega), by simpa using hz, hlk⟩, hbt⟩⟩
      | ret =>
        obtain ⟨hk3, hi3⟩ := hp
        obtain ⟨hr, hz, hlk, hbt⟩ := fin (some .ret) W3 hk3
        exact ⟨_, _, hr, .inr (.inl ⟨rfl, ⟨.ret, (hIx _).but hi3 (put_but W3 _ _) (by omega) (fun b e => by omega), hlk⟩, hbt⟩)⟩
      | exit id =>
        obtain ⟨hk3, hi3⟩ := hp
        obtain ⟨hr, hz, hlk, hbt⟩ := fin (some (.exit id)) W3 hk3
        exact ⟨_, _, hr, .inr (.inl ⟨rfl, ⟨.exit id, (hIx _).but hi3 (put_but W3 _ _) (by omega) (fun b e => by omega), hlk⟩, hbt⟩)⟩
      | goto t =>
        obtain ⟨hk3, hi3⟩ := hp
        obtain ⟨hr, hz, hlk, hbt⟩ := fin (some (.goto t)) W3 hk3
        exact ⟨_, _, hr, .inr (.inl ⟨rfl, ⟨.goto t, (hIx _).but hi3 (put_but W3 _ _) (by omega) (fun b e => by omega), hlk⟩, hbt⟩)⟩
      | panic ch =>
        obtain ⟨hd, hk3, hi3⟩ := hp
        have hno : ¬ (X w.heap.size ∨ row args w.heap.size) := fun e => by
          rcases e with e | e
          · have := hX _ e; omega
          · have := hrow _ _ _ _ hh2 e; omega
        exact ⟨hd, .inr (.inr ⟨ch, rfl, hi3, hk3.box hk2 hno⟩)⟩
      | outgrown => exact hp.elim
    · rintro e W2 (⟨⟨v, rfl⟩, (⟨k, hS, hi, hz, hl, hk⟩ | ⟨k, hSp, c, hi, hl, hk⟩)⟩ | ⟨ch, rfl, hi, hk⟩)
      · have hlt : w.heap.size + 1 < W2.heap.size := (Array.getElem?_eq_some_iff.1 hl).1
        exact ⟨none, _, by have := run_endLoop (P := P) hl (by rw [hrec]; simp); rw [hrec] at this; exact this, hdone k _ hS (hI.but hi (put_but W2 _ _) (by omega) (fun b e => by omega)) ((World.putObj_heap_other (by omega)).trans hk)⟩
      · have hlt : w.heap.size + 1 < W2.heap.size := (Array.getElem?_eq_some_iff.1 hl).1
        exact ⟨some c, _, by have := run_endLoop (P := P) hl (by rw [hrec]; simp); rw [hrec] at this; exact this, hstop c k _ hSp ((hIx c).but hi (put_but W2 _ _) (by omega) (fun b e => by omega)) ((World.putObj_heap_other (by omega)).trans hk)⟩
      · exact hpanic ch W2 hi hk
/-- a function that gives up behind such a loop -/
theorem Sm.retP1 {n : Nat} {P : Program} {fn : Func} {R : Ending → World → Prop} {a : Act} {w : World} {ch : List PanicEntry} {D : Nat} (hd : a.defers = [{ target := .collected D, args := #[] }]) (hD : w.heap[D]? = some (.deferred (some []))) (hR : R (.panicked ch) (w.putObj D (.deferred none))) : bodyPostM Fence.wide n P fn R (.panic ch) a w := by
  show LeavesInM Fence.wide n P fn a.tmps R a.defers (.panicking ch) w
  rw [hd]
  exact ⟨by simp, .inl ⟨_, _, rfl, run_takeDeferred hD, hR⟩⟩
end Go.Proofs
namespace Go.Proofs
open Go.RowKit Sm
attribute [local go_sem] Oper.semAt_some
def Sm.MayG (X : Nat → Prop) (N : Nat) : Nat → Prop := fun b => X b ∨ N ≤ b
/-- what the iterator has captured -/
structure Sm.CapG (w : World) (X : Nat → Prop) (Bb Bw Bs : Nat) (A : Option Addr) (n c : Nat) (l : List (BitVec 8)) (wide size : Nat) : Prop where
  bb : w.cell? ⟨Bb, 0, none⟩ = some (.slice A n c)
  bw : w.cell? ⟨Bw, 0, none⟩ = some (.int .i64 (wide : Int))
  bs : w.cell? ⟨Bs, 0, none⟩ = some (.int .i64 (size : Int))
  far : ∀ b, X b → b < w.heap.size ∧ b ≠ Bb ∧ b ≠ Bw ∧ b ≠ Bs
  lb : Bb < w.heap.size
  lw : Bw < w.heap.size
  ls : Bs < w.heap.size
  rd : Rds w X A (l.map byteCell)
/-- with what group k is told -/
def Sm.HG (l : List (BitVec 8)) (wide size : Nat) (_L k : Nat) (args : Array Value) (_W : World) : Prop :=
  k < cntW wide size l.length ∧ args = #[.int .u8 (valW wide (nat8 l) (size * k) size : Int), .int .i64 (min size (wide * l.length - size * k) : Nat)]
def Sm.rowG : Array Value → Nat → Prop := fun _ _ => False
structure Sm.GrAt (X : Nat → Prop) (J : Nat → World → Prop) (w wr : World) (L k : Nat) : Prop where
  j : J k wr
  keep : But (MayG X w.heap.size) w wr
  far : L ≤ wr.heap.size
theorem Sm.CapG.cells {X : Nat → Prop} {w w' : World} {Bb Bw Bs : Nat} {A : Option Addr} {n c : Nat} {l : List (BitVec 8)} {wide size : Nat} (h : CapG w X Bb Bw Bs A n c l wide size) (hb : But (MayG X w.heap.size) w w') :
    w'.cell? ⟨Bb, 0, none⟩ = some (.slice A n c) ∧ w'.cell? ⟨Bw, 0, none⟩ = some (.int .i64 (wide : Int)) ∧ w'.cell? ⟨Bs, 0, none⟩ = some (.int .i64 (size : Int)) := by
  have h1 := h.lb
  have h2 := h.lw
  have h3 := h.ls
  refine ⟨(hb.cell (p := ⟨Bb, 0, none⟩) h1 ?_).trans h.bb, (hb.cell (p := ⟨Bw, 0, none⟩) h2 ?_).trans h.bw, (hb.cell (p := ⟨Bs, 0, none⟩) h3 ?_).trans h.bs⟩ <;> (rintro (e | e); have := h.far _ e; simp at this; simp at e; omega)
theorem Below.drewN (w : World) (n : Nat) : Below w.heap.size w (w.drewN n) := ⟨rfl, rfl, rfl, Nat.le_refl _, fun _ _ => rfl⟩
theorem Sm.GrAt.below {X : Nat → Prop} {J : Nat → World → Prop} {w wr w' : World} {L k : Nat} (h : GrAt X J w wr L k) (hb : Below wr.heap.size wr w') (hJ : LowJ L J) : GrAt X J w w' L k :=
  ⟨hJ k _ _ h.j (hb.mono h.far), h.keep.trans (But.of_all hb (MayG X w.heap.size)) (fun _ _ e => e), Nat.le_trans h.far hb.size⟩
theorem Sm.CapG.reads {X : Nat → Prop} {w w' : World} {Bb Bw Bs : Nat} {A : Option Addr} {n c : Nat} {l : List (BitVec 8)} {wide size : Nat} (h : CapG w X Bb Bw Bs A n c l wide size) (hb : But (MayG X w.heap.size) w w') : Rds w' X A (l.map byteCell) := fun h0 => by
  obtain ⟨b, off, rfl, hlt, hns, hc⟩ := h.rd h0
  exact ⟨b, off, rfl, Nat.lt_of_lt_of_le hlt hb.size, hns, fun j c hj => (hb.cell (p := ⟨b, off + j, none⟩) hlt (fun e => by
    rcases e with e | e
    · exact hns e
    · simp at e; omega)).trans (hc j c hj)⟩
theorem Sm.or_val (v wide : Nat) (x : BitVec 8) (hv : v < 256) (hw : wide ≤ 8) (hx : x.toNat < 2 ^ wide) : bits .or .u64 (IntKind.u64.wrap ((v : Int) * 2 ^ wide)) (ib x) = ((v * 2 ^ wide + x.toNat : Nat) : Int) := by
  have hp : 2 ^ wide ≤ 2 ^ 8 := Nat.pow_le_pow_right (by decide) hw
  have hor : 2 ^ wide * v ||| x.toNat = 2 ^ wide * v + x.toNat := (Nat.two_pow_add_eq_or_of_lt hx v).symm
  have hm : 2 ^ wide * v ≤ 2 ^ 8 * 255 := Nat.mul_le_mul hp (by omega)
  have e1 : ((v : Int) * 2 ^ wide) = ((2 ^ wide * v : Nat) : Int) := by rw [Nat.mul_comm]; simp
  rw [e1, Nat.mul_comm v]
  have hxl := x.isLt
  generalize 2 ^ wide * v = M at *
  have e2 : IntKind.u64.wrap ((M : Nat) : Int) = (M : Int) := by simp [IntKind.wrap, IntKind.signed, IntKind.bits]; omega
  rw [e2]
  show IntKind.u64.wrap ((BitVec.ofInt 64 (M : Int) ||| BitVec.ofInt 64 (ib x)).toNat : Int) = _
  have e3 : (BitVec.ofInt 64 (M : Int) ||| BitVec.ofInt 64 (ib x)).toNat = M + x.toNat := by
    unfold ib
    rw [BitVec.toNat_or, BitVec.ofInt_natCast, BitVec.ofInt_natCast, BitVec.toNat_ofNat, BitVec.toNat_ofNat, Nat.mod_eq_of_lt (by omega), Nat.mod_eq_of_lt (by omega), hor]
  rw [e3]
  simp [IntKind.wrap, IntKind.signed, IntKind.bits]
  omega
theorem Sm.and_low (v r : Nat) (hv : v < 2 ^ 16) (hr : r ≤ 16) : bits .and .u64 (v : Int) (IntKind.u64.wrap (IntKind.u64.wrap (2 ^ r) - 1)) = ((v % 2 ^ r : Nat) : Int) := by
  have hp : 2 ^ r ≤ 2 ^ 16 := Nat.pow_le_pow_right (by decide) hr
  have hp1 : 1 ≤ 2 ^ r := Nat.one_le_two_pow
  have hand : v &&& (2 ^ r - 1) = v % 2 ^ r := Nat.and_two_pow_sub_one_eq_mod v r
  have e1 : ((2 : Int) ^ r) = ((2 ^ r : Nat) : Int) := by simp
  rw [e1]
  have hlt : v % 2 ^ r < 2 ^ r := Nat.mod_lt _ hp1
  generalize 2 ^ r = M at *
  have e2 : IntKind.u64.wrap (IntKind.u64.wrap ((M : Nat) : Int) - 1) = ((M - 1 : Nat) : Int) := by simp [IntKind.wrap, IntKind.signed, IntKind.bits]; omega
  rw [e2]
  show IntKind.u64.wrap ((BitVec.ofInt 64 (v : Int) &&& BitVec.ofInt 64 ((M - 1 : Nat) : Int)).toNat : Int) = _
  have e3 : (BitVec.ofInt 64 (v : Int) &&& BitVec.ofInt 64 ((M - 1 : Nat) : Int)).toNat = v % M := by
    rw [BitVec.toNat_and, BitVec.ofInt_natCast, BitVec.ofInt_natCast, BitVec.toNat_ofNat, BitVec.toNat_ofNat, Nat.mod_eq_of_lt (by omega), Nat.mod_eq_of_lt (by omega), hand]
  rw [e3]
  simp only [IntKind.wrap, IntKind.signed, IntKind.bits]
  simp
  omega
theorem Sm.shl_low (v d y : Nat) (h : v * 2 ^ d = y) (hy : y < 256) : IntKind.u8.wrap (IntKind.u64.wrap ((v : Int) * 2 ^ d)) = (y : Int) := by
  have e1 : ((v : Int) * 2 ^ d) = ((v * 2 ^ d : Nat) : Int) := by simp
  rw [e1, h]
  simp [IntKind.wrap, IntKind.signed, IntKind.bits]
  omega
set_option maxRecDepth 100000 in
set_option maxHeartbeats 4000000 in
theorem Sm.groups_seqP (Bb Bw Bs : Nat) (A : Option Addr) (n c : Nat) (l : List (BitVec 8)) (wide size : Nat) (w : World) (X : Nat → Prop) (hcap : CapG w X Bb Bw Bs A n c l wide size) (hl : l.length = n) (hn : n ≤ 1000000)
    (hw1 : 1 ≤ wide) (hw8 : wide ≤ 8) (hs1 : 1 ≤ size) (hs8 : size ≤ 8) (hx : ∀ k, (nat8 l).getD k 0 < 2 ^ wide) :
    SeqXP Tryz.prog 73 #[.pointer (some ⟨Bb, 0, none⟩), .pointer (some ⟨Bw, 0, none⟩), .pointer (some ⟨Bs, 0, none⟩)] X (HG l wide size) rowG (fun _ => True) (fun k => k = cntW wide size n) (fun _ => True) w := by
  intro L0 J Jx Jp W hW hJ hJx hY hJ0
  obtain ⟨L, hL⟩ : ∃ L, W.heap.size = L := ⟨_, rfl⟩
  rw [hL] at hJ hJx hY
  show Calls Tryz.prog 73 #[.func (.yield L0) #[] #[], .pointer (some ⟨Bb, 0, none⟩), .pointer (some ⟨Bw, 0, none⟩), .pointer (some ⟨Bs, 0, none⟩)] W _
  have hR0 : GrAt X J w W L 0 := ⟨hJ0, (But.of_below hW).mono (fun b _ e => .inr e), by omega⟩
  have hc0 := hcap.cells hR0.keep
  have HC := Lib.hid hcap
  have HL := Lib.hid hL
  have HLN := Lib.hid hl
  have HR0 := Lib.hid hR0
  have HX := Lib.hid hx
  clear hcap hL hR0 hJ0 hW hl hx
  obtain ⟨c1, c2, c3⟩ := hc0
  go_enter Tryz.func73, Tryz.ntmps73
  go_wp2_with fail
  clear c1 c2 c3
  go_loopw [5, 6, 11] (fun s5 s6 s11 wr => ∃ i j r : Nat, i ≤ n ∧ s11 = .int .i64 (i : Int) ∧ r < size ∧ Hid (size * j + r = wide * i) ∧ s6 = .int .i64 (r : Int) ∧ s5 = .int .u64 (valW wide (nat8 l) (size * j) r : Nat) ∧ Hid (GrAt X J w wr L j)) (fun _ _ s11 _ => n - (intOf s11).toNat)
  case atStart => exact ⟨0, 0, 0, by omega, rfl, by omega, Lib.hid (by simp), rfl, rfl, HR0⟩
  case round =>
    obtain ⟨wo, rfl⟩ : ∃ wo : World, wo = wr := ⟨_, rfl⟩
    obtain ⟨i, j, r, hi, rfl, hr, HIJ, rfl, rfl, HR⟩ := hrel
    clear HR0
    obtain ⟨c1, c2, c3⟩ := HC.out.cells HR.out.keep
    by_cases hlt : i < n
    · have hv := valW_lt wide (nat8 l) (size * j) r
      obtain ⟨v, hv0⟩ : ∃ v, valW wide (nat8 l) (size * j) r = v := ⟨_, rfl⟩
      rw [hv0] at hv ⊢
      have hRD := HC.out.reads HR.out.keep
      obtain ⟨pb, po, rfl, hpb, _, hpc⟩ := hRD (by simp [HLN.out]; omega)
      obtain ⟨x, hxe⟩ : ∃ x, l[i]? = some x := ⟨l[i]'(by rw [HLN.out]; omega), List.getElem?_eq_getElem _⟩
      have hcx : wo.cell? ⟨pb, po + i, none⟩ = some (.int .u8 (ib x)) := hpc i (byteCell x) (by rw [List.getElem?_map, hxe]; rfl)
      have hxlo := ib_lo x
      have hxhi := ib_hi x
      have HXE := Lib.hid hxe
      clear hRD hpc hxe
      go_wp2_with fail
      go_quiet (fail)
      go_wp2_with fail
      have hx2 := HX.out i
      have hxi : (nat8 l).getD i 0 = x.toNat := by
        unfold nat8
        rw [List.getD_eq_getElem?_getD, List.getElem?_map, HXE.out]
        rfl
      have hp8 : 2 ^ r ≤ 2 ^ 8 := Nat.pow_le_pow_right (by decide) (by omega)
      have hor := or_val v wide x (by omega) hw8 (by rw [← hxi]; exact hx2)
      have hval : v * 2 ^ wide + x.toNat = valW wide (nat8 l) (size * j) (r + wide) := by
        rw [valW_add, HIJ.out, valW_item (by omega) hx2, hv0, hxi]
      rw [hval] at hor
      rw [hor]
      have hR1 : GrAt X J w (wo.drewN nq) L j := HR.out.below (Below.drewN _ nq) hJ
      have hrw : ((r : Int) + (wide : Int)) = ((r + wide : Nat) : Int) := by simp
      rw [hrw]
      have HR1 := Lib.hid hR1
      have hij : size * j + (r + wide) = wide * (i + 1) := by have := HIJ.out; rw [Nat.mul_succ]; omega
      have HIJ1 := Lib.hid hij
      have hrb : r + wide < 16 := by omega
      clear hv hv0 hx2 hxi hp8 hor hval hR1 hrw hij c1 c2 c3 hcx HIJ HR hxlo hxhi
      obtain ⟨w1, hw1e⟩ : ∃ w1, wo.drewN nq = w1 := ⟨_, rfl⟩
      rw [hw1e] at HR1 ⊢
      obtain ⟨r1, hr1⟩ : ∃ r1, r + wide = r1 := ⟨_, rfl⟩
      rw [hr1] at HIJ1 hrb ⊢
      clear hw1e hr1 hr
      go_loopw [5, 6] (fun s5 s6 wr => ∃ j r : Nat, r < 16 ∧ Hid (size * j + r = wide * (i + 1)) ∧ s6 = .int .i64 (r : Int) ∧ s5 = .int .u64 (valW wide (nat8 l) (size * j) r : Nat) ∧ Hid (GrAt X J w wr L j)) (fun _ s6 _ => (intOf s6).toNat)
      case atStart => exact ⟨j, r1, hrb, HIJ1, rfl, rfl, HR1⟩
      case round =>
        obtain ⟨wi, rfl⟩ : ∃ wi : World, wi = wr := ⟨_, rfl⟩
        clear HR1 HIJ1 hrb
        obtain ⟨j, r, hr, HIJ, rfl, rfl, HR⟩ := hrel
        obtain ⟨c1, c2, c3⟩ := HC.out.cells HR.out.keep
        obtain ⟨v, hv0⟩ : ∃ v, valW wide (nat8 l) (size * j) r = v := ⟨_, rfl⟩
        rw [hv0]
        by_cases hsz : size ≤ r
        · obtain ⟨r2, rfl⟩ : ∃ r2, r = r2 + size := ⟨r - size, by omega⟩
          have hle : size * j + (r2 + size) ≤ wide * n := by
            have h1 := HIJ.out
            have h2 : wide * (i + 1) ≤ wide * n := Nat.mul_le_mul (Nat.le_refl _) (by omega)
            omega
          have hdiv : v / 2 ^ r2 = valW wide (nat8 l) (size * j) size := by
            rw [← hv0, Nat.add_comm r2 size, valW_div]
          have hmod : v % 2 ^ r2 = valW wide (nat8 l) (size * (j + 1)) r2 := by
            rw [← hv0, Nat.add_comm r2 size, valW_mod, Nat.mul_succ]
          have hvl := valW_lt wide (nat8 l) (size * j) size
          have hp8 : 2 ^ size ≤ 2 ^ 8 := Nat.pow_le_pow_right (by decide) hs8
          have hH : HG l wide size L j #[.int .u8 (valW wide (nat8 l) (size * j) size : Int), .int .i64 (size : Int)] wi.drew := by
            refine ⟨?_, ?_⟩
            · unfold cntW
              rw [HLN.out]
              exact (Nat.le_div_iff_mul_le hs1).2 (by rw [Nat.succ_mul, Nat.mul_comm]; omega)
            · rw [HLN.out, Nat.min_eq_left (by omega)]
          obtain ⟨y, hy0⟩ : ∃ y, valW wide (nat8 l) (size * j) size = y := ⟨_, rfl⟩
          rw [hy0] at hdiv hvl hH
          have h34 : IntKind.u8.wrap ((v : Int) / 2 ^ r2) = (y : Int) := by
            have e : ((v : Int) / 2 ^ r2) = ((v / 2 ^ r2 : Nat) : Int) := by simp
            rw [e, hdiv]
            simp [IntKind.wrap, IntKind.signed, IntKind.bits]
            omega
          have hjd : J j wi.drew := hJ j _ _ HR.out.j ((Below.refl _ wi).drew.mono HR.out.far)
          obtain ⟨fn, tmps, assign, body, hy, hR⟩ := hY j _ wi.drew hjd hH
          have HIJ2 := Lib.hid hmod
          clear hdiv hmod hvl hp8 hH hjd hle
          go_upto_region 7 with fail
          refine (wpIn_wide (n := 3)).1 ?_
          refine wpIn_region_still_tail 6 (by kernel_rfl) (by kernel_rfl) ?_
          simp only [List.take_succ_cons, List.take_zero, List.drop_succ_cons, List.drop_zero]
          repeat still_step
          refine wpStill_nil ?_
          gi_wp2
          refine (roundIn_any hR).mono ?_
          clear hR hy h34
          rintro e W3 (⟨rfl, _, hJ3, hbut⟩ | ⟨rfl, hJx3, _⟩ | ⟨ch, rfl, hp⟩)
          · have hbm : But (MayG X w.heap.size) w W3 := (HR.out.keep.drew).trans hbut (fun b _ e => by
              rcases e with e | e | e
              · exact .inl e
              · exact .inr e.1
              · exact e.elim)
            have hf3 : L ≤ W3.heap.size := by have h1 : wi.drew.heap.size ≤ W3.heap.size := hbut.size; have h2 : L ≤ wi.heap.size := HR.out.far; exact Nat.le_trans h2 h1
            have HK3 : Hid (GrAt X J w W3 L (j + 1)) := Lib.hid ⟨hJ3, hbm, hf3⟩
            obtain ⟨d1, d2, d3⟩ := HC.out.cells hbm
            clear hbut hbm hJ3
            gi_wp2
            go_wp2_with fail
            have hvb : v < 2 ^ 16 := by
              have h1 := valW_lt wide (nat8 l) (size * j) (r2 + size)
              have h2 : 2 ^ (r2 + size) ≤ 2 ^ 16 := Nat.pow_le_pow_right (by decide) (by omega)
              rw [hv0] at h1
              omega
            refine ⟨⟨j + 1, r2, by omega, Lib.hid (by have := HIJ.out; rw [Nat.mul_succ]; omega), rfl, ?_, HK3⟩, by simp [intOf]; omega⟩
            rw [and_low v r2 hvb (by omega), HIJ2.out]
          · gi_wp2
            go_wp2_with fail
            refine bodyPost_ret (results_none rfl _ _ _) rfl ?_
            exact .inl ⟨⟨_, rfl⟩, .inr ⟨j + 1, trivial, hJx3⟩⟩
          · gi_wp2
            exact ⟨rfl, .inr ⟨ch, rfl, hp⟩⟩
        · go_wp2_with fail
          refine ⟨⟨i + 1, j, r, by omega, by go_num, by omega, HIJ, rfl, by rw [hv0], HR⟩, by simp [intOf]; omega⟩
    · obtain rfl : i = n := by omega
      have hcnt : r = 0 → j = cntW wide size i := fun h0 => by
        have h1 := HIJ.out
        unfold cntW
        subst h0
        rw [← h1, Nat.add_zero, Nat.mul_add_div hs1, Nat.div_eq_of_lt (by omega), Nat.add_zero]
      have hcnt1 : 0 < r → j + 1 = cntW wide size i := fun h0 => by
        have h1 := HIJ.out
        unfold cntW
        rw [← h1, Nat.add_assoc, Nat.mul_add_div hs1]
        congr 1
        exact (Nat.div_eq_of_lt_le (by omega) (by omega)).symm
      by_cases h0 : r = 0
      · have HS := Lib.hid (hcnt h0)
        subst h0
        clear hcnt hcnt1
        go_wp2_with fail
        go_end0
        exact .inl ⟨⟨_, rfl⟩, .inl ⟨j, HS.out, HR.out.j⟩⟩
      · have hr0 : 0 < r := by omega
        have HS := Lib.hid (hcnt1 hr0)
        obtain ⟨v, hv0⟩ : ∃ v, valW wide (nat8 l) (size * j) r = v := ⟨_, rfl⟩
        obtain ⟨d, hd⟩ : ∃ d, size = r + d := ⟨size - r, by omega⟩
        have hval : v * 2 ^ d = valW wide (nat8 l) (size * j) size := by
          have h1 := HIJ.out
          rw [hd, valW_add, ← hd, hv0, valW_beyond (xs := nat8 l) (a := size * j + r) (by omega) (by rw [nat8_length, HLN.out, h1]; exact Nat.le_refl _), Nat.add_zero]
        have hvl := valW_lt wide (nat8 l) (size * j) size
        have hp8 : 2 ^ size ≤ 2 ^ 8 := Nat.pow_le_pow_right (by decide) hs8
        have hH : HG l wide size L j #[.int .u8 (valW wide (nat8 l) (size * j) size : Int), .int .i64 (r : Int)] wo := by
          have h1 := HIJ.out
          refine ⟨?_, ?_⟩
          · rw [HLN.out]; have := HS.out; omega
          · rw [HLN.out, Nat.min_eq_right (by omega)]
            congr 4
            omega
        obtain ⟨y, hy0⟩ : ∃ y, valW wide (nat8 l) (size * j) size = y := ⟨_, rfl⟩
        rw [hy0] at hval hvl hH
        have h34 := shl_low v d y hval (by omega)
        have hsub : (size : Int) - (r : Int) = (d : Int) := by omega
        obtain ⟨fn, tmps, assign, body, hy, hR⟩ := hY j _ wo HR.out.j hH
        rw [hv0]
        clear hcnt hcnt1 hval hvl hp8 hH hv0 hy0 hd h0
        go_upto_region 11 with fail
        refine (wpIn_wide (n := 3)).1 ?_
        gi_wp2
        refine (roundIn_any hR).mono ?_
        clear hR hy h34
        rintro e W3 (⟨rfl, _, hJ3, hbut⟩ | ⟨rfl, hJx3, _⟩ | ⟨ch, rfl, hp⟩)
        · gi_wp2
          go_end0
          exact .inl ⟨⟨_, rfl⟩, .inl ⟨j + 1, HS.out, hJ3⟩⟩
        · gi_wp2
          go_end0
          exact .inl ⟨⟨_, rfl⟩, .inr ⟨j + 1, trivial, hJx3⟩⟩
        · gi_wp2
          exact ⟨rfl, .inr ⟨ch, rfl, hp⟩⟩
theorem Sm.groups_seq (Bb Bw Bs : Nat) (A : Option Addr) (n c : Nat) (l : List (BitVec 8)) (wide size : Nat) (w : World) (X : Nat → Prop) (hcap : CapG w X Bb Bw Bs A n c l wide size) (hl : l.length = n) (hn : n ≤ 1000000)
    (hw1 : 1 ≤ wide) (hw8 : wide ≤ 8) (hs1 : 1 ≤ size) (hs8 : size ≤ 8) (hx : ∀ k, (nat8 l).getD k 0 < 2 ^ wide) :
    SeqX Tryz.prog 73 #[.pointer (some ⟨Bb, 0, none⟩), .pointer (some ⟨Bw, 0, none⟩), .pointer (some ⟨Bs, 0, none⟩)] X (HG l wide size) rowG (fun _ => True) (fun k => k = cntW wide size n) (fun _ => True) w :=
  (groups_seqP Bb Bw Bs A n c l wide size w X hcap hl hn hw1 hw8 hs1 hs8 hx).plain
end Go.Proofs
namespace Go.Proofs
open Go.RowKit Sm
theorem Sm.slice33_all (b : Nat) (w : World) : (Instr.sliceAt 0x7e (.pointer (some ⟨b, 0, none⟩)) none none none).run Tryz.prog w = .ok (.slice (some ⟨b, 0, none⟩) 32 32) w := by
  have hu : Tryz.prog.underlying 0x7e = some (.array (Tryz.prog.arrayLen 0x7e) (Tryz.prog.elem 0x7e)) := by kernel_rfl
  have ha : Tryz.prog.arrayLen 0x7e = 32 := by kernel_rfl
  have he : Tryz.prog.elem 0x7e = 5 := by kernel_rfl
  have hs : ∀ w, (sizeOf 5).run Tryz.prog w = .ok 1 w := fun _ => by kernel_rfl
  rw [run_sliceAt_array_all w 0x7e ⟨b, 0, none⟩ hu, he, hs]
  simp only [Result.andThen_ok, slicedAt, ha, Nat.zero_mul]
  rw [if_neg (by omega), Addr.add_mid, Nat.add_zero]
theorem Sm.copy_row {w : World} {base n : Nat} {v : Value} {l : List (BitVec 8)} (h : w.ownsRow base 5 1 v (0 + n + 1) ([] ++ l.map byteCell ++ [77#8].map byteCell)) (hl : l.length = n) : ∃ g cap, v = .slice (some ⟨g, 0, none⟩) (n + 1) cap ∧ base ≤ g ∧ n + 1 ≤ cap ∧ w.ownsRow base 5 1 (.slice (some ⟨g, 0, none⟩) (n + 1) cap) (n + 1) ((l ++ [77#8]).map byteCell) := by
  have e : [] ++ l.map byteCell ++ [77#8].map byteCell = (l ++ [77#8]).map byteCell := by simp
  rw [e, Nat.zero_add] at h
  obtain ⟨g, cap, rfl, hb, _⟩ := h.form (by omega)
  refine ⟨g, cap, rfl, hb, ?_, h⟩
  rcases h.2 with ⟨h1, _⟩ | ⟨g', cap', cur, h1, _, _, hnc, _⟩
  · cases h1
  · cases h1; exact hnc
theorem Sm.row_reads {w : World} {base g n cap : Nat} {l : List (BitVec 8)} (h : w.ownsRow base 5 1 (.slice (some ⟨g, 0, none⟩) (n + 1) cap) (n + 1) ((l ++ [77#8]).map byteCell)) (hl : l.length = n) : Rd w w.heap.size (some ⟨g, 0, none⟩) l ∧ w.cell? ⟨g, n, none⟩ = some (.int .u8 77) := by
  have hr := Rd.of_own h (Nat.le_refl _)
  refine ⟨?_, ?_⟩
  · have := hr.take n
    rwa [List.take_append_of_le_length (by omega), List.take_of_length_le (by omega)] at this
  · obtain ⟨b, off, e, _, hc⟩ := hr (by simp)
    cases e
    have := hc n 77#8 (by rw [List.getElem?_append_right (by omega), hl]; simp)
    rw [Nat.zero_add] at this
    exact this
theorem Sm.cut_h0 (g n c hi : Nat) (hc : hi ≤ c) (w : World) : (Instr.sliceAt 0x38 (.slice (some ⟨g, 0, none⟩) n c) none (some (.int .i64 (hi : Int))) none).run Tryz.prog w = .ok (.slice (some ⟨g, 0, none⟩) hi c) w := by
  rw [cut_h (some ⟨g, 0, none⟩) n c hi hc w]
  have : cutA (some ⟨g, 0, none⟩) 0 c = some ⟨g, 0, none⟩ := by
    unfold cutA
    split
    · rfl
    · rw [Option.map_some, Addr.add_mid]
  rw [this]
theorem Sm.rd77 (w : World) : Rd (w.alloc (.cells #[.int .u8 77] 5)) (w.heap.size + 1) (some ⟨w.heap.size, 0, none⟩) [77#8] := fun _ => ⟨w.heap.size, 0, rfl, by omega, fun j c hj => by
  rw [World.cell?_alloc_mark]
  rcases j with _ | j <;> simp at hj <;> subst hj <;> rfl⟩
theorem Sm.conv_rd {w : World} {A : Option Addr} {n c : Nat} {l : List (BitVec 8)} (hl : l.length = n) (hr : Rd w w.heap.size A l) : (convert 0x38 9 (.slice A n c)).run Tryz.prog w = .ok (.string (strB l)) w :=
  run_str (P := Tryz.prog) w 0x38 5 Tryz.underlying56 Tryz.underlying5 l n c w.heap.size A hl hr 9 Tryz.underlying9
end Go.Proofs
namespace Go.Proofs
open Go.RowKit Sm
theorem Sm.hsc_length {ws : List (BitVec 32)} {p : Nat} {bl : List (BitVec 8)} {sz : Nat} {a b : Value} (h1 : ws.length = 8) (h2 : bl.length = 64) : (stc ws p bl sz ++ [a, b]).toArray.size = 76 := by
  rw [List.size_toArray, List.length_append, stc_length, h1, h2]; rfl
set_option maxRecDepth 100000 in
set_option maxHeartbeats 2000000 in
theorem Sm.Copy_any (g : Nat) (s : HS) (size : Int) (ahead : Nat) (w : World) (h : HsAt w g s size ahead) (h1 : 0 < size) :
    Calls Tryz.prog 111 #[.pointer (some ⟨g, 0, none⟩)] w fun e w' => ∃ g2, e = .returned (.pointer (some ⟨g2, 0, none⟩)) ∧ w.heap.size ≤ g2 ∧ HsAt w' g2 s size ahead ∧ Below w.heap.size w w' := by
  have hth := there_yes w g s size ahead h h1
  have hz54 := (zero_of_info z54).1
  have hzl := zz54_length
  have hi : (Tryz.prog.info? 0xae).map (·.size) = some (stc s.ws s.p (pad s.cur) s.cur.length ++ [Value.int .i64 size, Value.int .i64 (ahead : Int)]).toArray.size := by
    rw [hsc_length h.wlen h.blen]; kernel_rfl
  have hs : zz54.toArray.size = (stc s.ws s.p (pad s.cur) s.cur.length ++ [Value.int .i64 size, Value.int .i64 (ahead : Int)]).toArray.size := by
    rw [hsc_length h.wlen h.blen, List.size_toArray, hzl]
  have ho : (stc s.ws s.p (pad s.cur) s.cur.length ++ [Value.int .i64 size, Value.int .i64 (ahead : Int)]).toArray.all (·.oneCell') = true := by
    refine all_oneCell_toArray fun v hv => ?_
    rcases List.mem_append.1 hv with hv | hv
    · exact stc_one _ _ _ _ v hv
    · simp only [List.mem_cons, List.not_mem_nil, or_false] at hv
      rcases hv with rfl | rfl <;> rfl
  have hbk : Blk w g 0xae (stc s.ws s.p (pad s.cur) s.cur.length ++ [Value.int .i64 size, Value.int .i64 (ahead : Int)]).toArray := h.blk
  have hwl := h.wlen
  have hbl := h.blen
  obtain ⟨X, hX⟩ : ∃ X, (stc s.ws s.p (pad s.cur) s.cur.length ++ [Value.int .i64 size, Value.int .i64 (ahead : Int)]).toArray = X := ⟨_, rfl⟩
  rw [hX] at hi hs ho hbk
  have HX := Lib.hid hX
  have HI := Lib.hid hi
  have HS := Lib.hid hs
  have HO := Lib.hid ho
  have HBK := Lib.hid hbk
  have HL := Lib.hid (And.intro hwl hbl)
  clear hX hi hs ho hbk hwl hbl h h1 hzl
  go_enter Tryz.func111, Tryz.ntmps111
  go_wp2_with (first
    | (go_at_call 114; (with_reducible refine hth.mono ?_); clear hth; rintro e w' ⟨rfl, rfl⟩)
    | (refine wpList_load_row rfl 0xae _ rfl g rfl 0xae X (0, 0) _ HBK.out Tryz.underlying174 rfl HI.out ?_)
    | (refine wpList_store_row rfl 0xae _ _ rfl w.heap.size X rfl rfl 0xae zz54.toArray (World.alloc_heap_new w _) HI.out HS.out HO.out ?_))
  go_ret
  refine ⟨_, rfl, Nat.le_refl _, ⟨?_, HL.out.1, HL.out.2⟩, below_setRow ((Below.refl _ w).alloc (Nat.le_refl _) _) (Nat.le_refl _) _⟩
  rw [HX.out]
  exact setRow_heap _ _ _ _ _ _ (World.alloc_heap_new w _)
/-- a part that is written, told from a base world; other hashes stay -/
theorem Sm.Write_by {w v : World} (g : Nat) (s : HS) (size : Int) (a : Nat) (A : Option Addr) (n c : Nat) (l : List (BitVec 8)) (ht : Tabs w) (hg : w.heap.size ≤ g) (h1 : 0 < size) (hcur : s.cur.length ≤ 64) (hp : s.p + s.cur.length + l.length ≤ 1000000000) (hpt : PtOK w g A n c l)
    (h : HsAt v g s size a) (hb : Below w.heap.size w v) : Calls Tryz.prog 105 #[.pointer (some ⟨g, 0, none⟩), .slice A n c] v fun e w' => e = .returned (.int .i64 0) ∧ HsAt w' g (takeS s l) size a ∧ Below w.heap.size w w' ∧ ∀ g' s' size' a', g' ≠ g → HsAt v g' s' size' a' → HsAt w' g' s' size' a' :=
  (Write_any g s size a A n c l v h h1 hcur (hpt.keep hb) (by have := ht.size; omega) (ht.keep hb) (by rw [List.length_append]; omega)).mono fun _ _ ⟨e, hh, hbt⟩ => ⟨e, hh, hb.trans (hbt.to_below hb.size (fun b eb => by omega)), fun _ _ _ _ hne h' => h'.but hbt hne⟩
end Go.Proofs
