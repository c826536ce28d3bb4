/-
  The law of a loop over a function, of one variable. Conditions: what the theorem names.
-/
import Derived.Test.YtohidbkhccepnaaDoorItr
namespace Go.Proofs
open Go Go.RowKit Sm
/-- **the law of a loop of one variable that is not boxed** -/
theorem Sm.wpIn_range1 {P : Program} {g : Operand} {ps : Array Tmp} {assign body : Code} {Q : Exit → Act → World → Prop} {a : Act} {w : World} {n : Nat} {gf : Nat} {lb : Array Value}
    (hg : a.eval g = .func (.func gf) #[] lb) (eg : ∀ args w, (callFunc gf args).run P w = .ok (.enter gf args) w)
    {X : Nat → Prop} {H : Nat → Nat → Array Value → World → Prop} {row : Array Value → Nat → Prop} {Go S Sp : Nat → Prop} (hseq : SeqX P gf lb X H row Go S Sp w)
    (hX : ∀ b, X b → b < w.heap.size) (hH : ∀ k args W W', H (w.heap.size + 2) k args W → But (fun b => b < w.heap.size + 2) W W' → H (w.heap.size + 2) k args W')
    (hrow : ∀ k args W b, H (w.heap.size + 2) k args W → row args b → w.heap.size + 2 ≤ b) (p1 q1 : Nat) (hps : ps = #[p1]) (hargs : ∀ k args W, H (w.heap.size + 2) k args W → ∃ x, args = #[x])
    (I : Nat → World → Prop) (Ix : Code → Nat → World → Prop) (hI : LowJ w.heap.size I) (hIx : ∀ c, LowJ w.heap.size (Ix c)) (h0 : I 0 w)
    (hassign : ∀ (l : Nat) (x : Value) (W : World) (K : Act → World → Prop), K { tmps := (a.tmps.setIfInBounds p1 x).setIfInBounds q1 x, defers := [] } W →
      assign.wpIn (Fence.wide.inRound l) (n - 1 - 1) P (Exit.then K (fun _ _ _ => False)) { tmps := a.tmps.setIfInBounds p1 x, defers := [] } W)
    (hbody : ∀ (l k : Nat) (x : Value) (W : World), w.heap.size + 2 ≤ W.heap.size → I k W → H (w.heap.size + 2) k #[x] W → body.wpIn (Fence.wide.inRound l) (n - 1 - 1) P (postX Go X row #[x] I Ix k W) { tmps := (a.tmps.setIfInBounds p1 x).setIfInBounds q1 x, defers := [] } W)
    (hdone : ∀ (k : Nat) (W : World), S k → I k W → W.heap[w.heap.size]? = some (.deferred (some [])) → Q .normal { a with defers := { target := .collected w.heap.size, args := #[] } :: a.defers } W)
    (hstop : ∀ (c : Code) (k : Nat) (W : World), Sp k → Ix c k W → W.heap[w.heap.size]? = some (.deferred (some [])) → c.wpIn Fence.wide n P Q { a with defers := { target := .collected w.heap.size, args := #[] } :: a.defers } W) :
    (Code.rangeFunc g ps assign body).wpIn Fence.wide n P Q a w := by
  subst hps
  refine wpIn_range hg eg hseq hX hH hrow (fun k args W h => by obtain ⟨x, rfl⟩ := hargs k args W h; rfl) I Ix hI hIx h0
    (fun args a' _ => ∀ x, args = #[x] → a' = { tmps := (a.tmps.setIfInBounds p1 x).setIfInBounds q1 x, defers := [] }) (fun _ _ _ _ h _ => h) ?_ ?_ hdone hstop
  · intro l k args W K _ _ hh hK
    obtain ⟨x, rfl⟩ := hargs k args W hh
    have := hassign l x W K (hK _ _ (Below.refl _ _) (fun x' e => by simp at e; obtain rfl := e; rfl))
    simpa using this
  · intro l k args a' W hs hi hh hax
    obtain ⟨x, rfl⟩ := hargs k args W hh
    rw [hax x rfl]
    exact hbody l k x W hs hi hh
end Go.Proofs
