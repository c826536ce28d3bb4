/-
  A range over a function of one variable that may be left: its end and its break in one goal; marks of loops that were gone through. Conditions: what the theorems name.
-/
import Derived.Test.YtohidbkhccepnaaDoorSlJ
namespace Go.Proofs
open Go Go.RowKit Sm
theorem Sm.retM {n : Nat} {P : Program} {fn : Func} {R : Ending → World → Prop} {a : Act} {w : World} {v : Value} (hr : (results fn a.tmps).run P w = .ok v w) (hd : a.defers = []) (hR : R (.returned v) w) : bodyPostM Fence.wide n P fn R .ret a w := by
  show LeavesInM Fence.wide n P fn a.tmps R a.defers .returning w
  rw [hd]
  exact ⟨v, hr, hR⟩
/-- marks of loops that were gone through -/
def Sm.Marks (Ds : List Nat) (lo : Nat) (w : World) : Prop := Ds.Nodup ∧ ∀ D ∈ Ds, lo ≤ D ∧ w.heap[D]? = some (.deferred (some []))
def Sm.markOf (D : Nat) : Deferred := { target := .collected D, args := #[] }
theorem Sm.Marks.on {Ds : List Nat} {lo : Nat} {w w' : World} (h : Marks Ds lo w) (hb : Below w.heap.size w w') : Marks Ds lo w' :=
  ⟨h.1, fun D hD => ⟨(h.2 D hD).1, (hb.block _ (Array.getElem?_eq_some_iff.1 (h.2 D hD).2).1).trans (h.2 D hD).2⟩⟩
theorem Sm.Marks.push {Ds : List Nat} {lo D : Nat} {w w' : World} (h : Marks Ds lo w) (hb : Below w.heap.size w w') (hD : w.heap.size ≤ D) (hl : lo ≤ w.heap.size) (hd : w'.heap[D]? = some (.deferred (some []))) : Marks (D :: Ds) lo w' := by
  have h2 := h.on hb
  refine ⟨List.nodup_cons.2 ⟨fun hm => ?_, h.1⟩, fun E hE => ?_⟩
  · have := (Array.getElem?_eq_some_iff.1 (h.2 D hm).2).1; omega
  · rcases List.mem_cons.1 hE with rfl | hE
    · exact ⟨by omega, hd⟩
    · exact h2.2 E hE
theorem Sm.retM2 {n : Nat} {P : Program} {fn : Func} {R : Ending → World → Prop} {a : Act} {w : World} {v : Value} {D1 D0 : Nat} (hd : a.defers = [markOf D1, markOf D0]) (hne : D1 ≠ D0) (h1 : w.heap[D1]? = some (.deferred (some []))) (h0 : w.heap[D0]? = some (.deferred (some [])))
    (hr : (results fn a.tmps).run P ((w.putObj D1 (.deferred none)).putObj D0 (.deferred none)) = .ok v ((w.putObj D1 (.deferred none)).putObj D0 (.deferred none))) (hR : R (.returned v) ((w.putObj D1 (.deferred none)).putObj D0 (.deferred none))) : bodyPostM Fence.wide n P fn R .ret a w := by
  show LeavesInM Fence.wide n P fn a.tmps R a.defers .returning w
  rw [hd]
  exact ⟨by simp, .inl ⟨_, _, rfl, run_takeDeferred h1, by simp, .inl ⟨_, _, rfl, run_takeDeferred ((World.putObj_heap_other hne.symm).trans h0), v, hr, hR⟩⟩⟩
theorem Sm.wpIn_range1b {P : Program} {g : Operand} {ps : Array Tmp} {assign body : Code} {Q : Exit → Act → World → Prop} {a : Act} {w : World} {n : Nat} {gf : Nat} {lb : Array Value}
    (hg : a.eval g = .func (.func gf) #[] lb) (eg : ∀ args w, (callFunc gf args).run P w = .ok (.enter gf args) w)
    {X : Nat → Prop} {H : Nat → Nat → Array Value → World → Prop} {row : Array Value → Nat → Prop} {Go S Sp : Nat → Prop} (hseq : SeqX P gf lb X H row Go S Sp w)
    (hX : ∀ b, X b → b < w.heap.size) (hH : ∀ k args W W', H (w.heap.size + 2) k args W → But (fun b => b < w.heap.size + 2) W W' → H (w.heap.size + 2) k args W')
    (hrow : ∀ k args W b, H (w.heap.size + 2) k args W → row args b → w.heap.size + 2 ≤ b) (p1 q1 : Nat) (hps : ps = #[p1]) (hargs : ∀ k args W, H (w.heap.size + 2) k args W → ∃ x, args = #[x])
    (I Ix : Nat → World → Prop) (id : Nat) (hI : LowJ w.heap.size I) (hIx : LowJ w.heap.size Ix) (h0 : I 0 w)
    (hassign : ∀ (l : Nat) (x : Value) (W : World) (K : Act → World → Prop), K { tmps := (a.tmps.setIfInBounds p1 x).setIfInBounds q1 x, defers := [] } W →
      assign.wpIn (Fence.wide.inRound l) (n - 1 - 1) P (Exit.then K (fun _ _ _ => False)) { tmps := a.tmps.setIfInBounds p1 x, defers := [] } W)
    (hbody : ∀ (l k : Nat) (x : Value) (W : World), w.heap.size + 2 ≤ W.heap.size → I k W → H (w.heap.size + 2) k #[x] W → body.wpIn (Fence.wide.inRound l) (n - 1 - 1) P (postX Go X row #[x] I (fun c k W => c = .exit id ∧ Ix k W) k W) { tmps := (a.tmps.setIfInBounds p1 x).setIfInBounds q1 x, defers := [] } W)
    (R : Act → World → Prop) (hQn : ∀ a w, R a w → Q .normal a w) (hQx : ∀ a w, R a w → Q (.exit id) a w)
    (hrest : ∀ (W : World), ((∃ k, S k ∧ I k W) ∨ ∃ k, Sp k ∧ Ix k W) → W.heap[w.heap.size]? = some (.deferred (some [])) → R { a with defers := { target := .collected w.heap.size, args := #[] } :: a.defers } W) :
    (Code.rangeFunc g ps assign body).wpIn Fence.wide n P Q a w :=
  wpIn_range1 hg eg hseq hX hH hrow p1 q1 hps hargs I (fun c k W => c = .exit id ∧ Ix k W) hI (fun c k W W' h hb => ⟨h.1, hIx k W W' h.2 hb⟩) h0 hassign hbody
    (fun k W hS hi hD => hQn _ _ (hrest W (.inl ⟨k, hS, hi⟩) hD))
    (fun c k W hSp hx hD => by
      obtain ⟨rfl, hx⟩ := hx
      exact wpIn_exit (hQx _ _ (hrest W (.inr ⟨k, hSp, hx⟩) hD)))
end Go.Proofs
