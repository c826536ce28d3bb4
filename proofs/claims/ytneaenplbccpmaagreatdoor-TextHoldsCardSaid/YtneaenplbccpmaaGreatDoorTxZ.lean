/-
  The program's fill: a line is filled with pieces. Conditions: a text that is not too long, with no blank ahead, a width of at least 1; the package variables lie as they are laid.
-/
import Derived.LoopIn
import Derived.Test.YtneaenplbccpmaaGreatDoorTxY
import Derived.Test.YtneaenplbccpmaaGreatDoorWoN
namespace Go.Proofs
open Go Go.RowKit Sm Go.Lib
attribute [local go_sem] Oper.semAt_some
/-- how many signs piece k has -/
def Sm.cntP (l : List (BitVec 8)) (n k : Nat) : Nat := cntS (strB (pieceL n (leftK l n k)))
/-- the room behind k pieces -/
def Sm.roomK (l : List (BitVec 8)) (n : Nat) : Nat → Int
  | 0 => (n : Int)
  | k + 1 => roomK l n k - (cntP l n k : Int) - 1
def Sm.fits (l : List (BitVec 8)) (n k : Nat) : Prop := leftK l n k ≠ [] ∧ (cntP l n k : Int) ≤ roomK l n k
def Sm.piecesK (l : List (BitVec 8)) (n k : Nat) : List (List (BitVec 8)) := (List.range k).map fun i => pieceL n (leftK l n i)
theorem Sm.piecesK_succ (l : List (BitVec 8)) (n k : Nat) : piecesK l n (k + 1) = piecesK l n k ++ [pieceL n (leftK l n k)] := by
  unfold piecesK
  rw [List.range_succ, List.map_append]
  rfl
theorem Sm.piecesK_len (l : List (BitVec 8)) (n k : Nat) : (piecesK l n k).length = k := by simp [piecesK]
/-- where the pieces that were taken end -/
def Sm.takenK (l : List (BitVec 8)) (n : Nat) : Nat → Nat
  | 0 => 0
  | k + 1 => l.length - (restK l n k).length
theorem Sm.room_lo (l : List (BitVec 8)) (n : Nat) : ∀ k, (∀ i, i < k → fits l n i) → -1 ≤ roomK l n k ∧ roomK l n k ≤ n
  | 0, _ => by unfold roomK; omega
  | k + 1, h => by
    have := (h k (by omega)).2
    have := (room_lo l n k (fun i hi => h i (by omega))).2
    unfold roomK
    omega
structure Sm.FiI (V : World) (l : List (BitVec 8)) (n P : Nat) (M : Nat → Prop) (k : Nat) (W : World) (v : Value) (room : Int) : Prop where
  parts : W.heap[P]? = some (.cells #[v] 40 (0, 0))
  room_ : W.heap[P + 1]? = some (.cells #[.int .i64 room] 3 (0, 0))
  taken : W.heap[P + 1 + 1]? = some (.cells #[.int .i64 (takenK l n k : Int)] 3 (0, 0))
  row : W.ownsRow P 9 1 v k (strC (piecesK l n k))
  inM : ∀ g, v.ownBlock = some g → M g
  fit : ∀ i, i < k → fits l n i
  keep : But (fun b => (P ≤ b ∧ b < P + 3) ∨ V.heap.size ≤ b) V W
theorem Sm.FiI.low {V : World} {l : List (BitVec 8)} {n P : Nat} {M : Nat → Prop} {k : Nat} {W W' : World} {v : Value} {room : Int} (h : FiI V l n P M k W v room) (hP : P + 5 ≤ V.heap.size) (hb : But (fun b => ¬ (b < V.heap.size ∨ M b)) W W') : FiI V l n P M k W' v room :=
  ⟨hb.box h.parts (fun e => e (.inl (by omega))), hb.box h.room_ (fun e => e (.inl (by omega))), hb.box h.taken (fun e => e (.inl (by omega))), hb.row h.row (fun g e1 e2 => e2 (.inr (h.inM g e1))), h.inM, h.fit,
    h.keep.trans hb (fun b hlt e => absurd (.inl hlt) e)⟩
/-- a piece is taken -/
theorem Sm.FiI.push {V : World} {l : List (BitVec 8)} {n P : Nat} {M : Nat → Prop} {k : Nat} {W1 W5 W6 : World} {v v6 : Value} {r5 r6 : Int} {args : Array Value} (h : FiI V l n P M k W1 v (roomK l n k)) (hf : fits l n k) (hP : P + 5 ≤ V.heap.size) (hM : ∀ b, M b → V.heap.size + 2 ≤ b ∧ b < W1.heap.size)
    (hb : But (fun b => b = P + 1) W1 W5) (hr5 : W5.heap[P + 1]? = some (.cells #[.int .i64 r5] 3 (0, 0))) (hg : (W5.alloc (.cells #[.string (strB (pieceL n (leftK l n k)))] 9)).grownBy W6 v.ownBlock)
    (ho : W6.ownsRow P 9 1 v6 (k + 1) (strC (piecesK l n k) ++ [.string (strB (pieceL n (leftK l n k)))])) (hat : v6.ownBlock = v.ownBlock ∨ v6.ownBlock = some (W5.alloc (.cells #[.string (strB (pieceL n (leftK l n k)))] 9)).heap.size) (hr6 : r6 = roomK l n (k + 1)) (e : Nat) (he : e = takenK l n (k + 1)) (Wf : World)
    (hWf : Wf = ((W6.setCell ⟨P, 0, none⟩ v6).setCell ⟨P + 1 + 1, 0, none⟩ (.int .i64 (e : Int))).setCell ⟨P + 1, 0, none⟩ (.int .i64 r6)) :
    FiI V l n P (fun b => M b ∨ (W1.heap.size ≤ b ∧ b < Wf.heap.size)) (k + 1) Wf v6 (roomK l n (k + 1)) ∧ But (fun b => ((P ≤ b ∧ b < P + 3) ∨ rowE args b) ∨ M b) W1 Wf := by
  subst hr6
  subst he
  have hz := hb.size
  have hkz := h.keep.size
  have hvM : ∀ b, v.ownBlock = some b → V.heap.size + 2 ≤ b := fun b e => (hM b (h.inM b e)).1
  have hg6 : But (fun b => v.ownBlock = some b) W5 W6 := ((But.refl _ W5).alloc _).trans (But.grown hg) (fun b _ e => e)
  have h6b : ∀ g, v6.ownBlock = some g → V.heap.size ≤ g := fun g e => by
    rcases hat with e2 | e2
    · rw [e2] at e; have := hvM g e; omega
    · rw [e2] at e; injection e with e; simp at e; omega
  have s6 := hg6.size
  have c6 : But (fun b => (P ≤ b ∧ b < P + 3) ∨ M b) W1 W6 := (hb.mono (fun b _ e => Or.inl (by omega))).trans hg6 (fun b _ e => .inr (h.inM b e))
  have x0 : W6.heap[P]? = some (.cells #[v] 40 (0, 0)) := hg6.box (hb.box h.parts (by omega)) (fun e => by have := hvM _ e; omega)
  have x1 : W6.heap[P + 1]? = some (.cells #[.int .i64 r5] 3 (0, 0)) := hg6.box hr5 (fun e => by have := hvM _ e; omega)
  have x2 : W6.heap[P + 1 + 1]? = some (.cells #[.int .i64 (takenK l n k : Int)] 3 (0, 0)) := hg6.box (hb.box h.taken (by omega)) (fun e => by have := hvM _ e; omega)
  have g1 : (W6.setCell ⟨P, 0, none⟩ v6).heap[P]? = some (.cells #[v6] 40 (0, 0)) := heap_setCells (i := 0) (u := v6) x0
  have o1 : ∀ (W : World) (a : Nat) (u : Value) (b : Nat), b ≠ a → (W.setCell ⟨a, 0, none⟩ u).heap[b]? = W.heap[b]? := fun W a u b hn => Below.heap_setCell W ⟨a, 0, none⟩ u b (fun e => hn e)
  have hfb : But (fun b => P ≤ b ∧ b < P + 3) W6 Wf := by
    rw [hWf]
    exact (((But.refl _ W6).set ⟨P, 0, none⟩ _ (.inl (by constructor <;> simp))).set ⟨P + 1 + 1, 0, none⟩ _ (.inl (by constructor <;> simp <;> omega))).set ⟨P + 1, 0, none⟩ _ (.inl (by constructor <;> simp <;> omega))
  have hfs : Wf.heap.size = W6.heap.size := by rw [hWf]; simp
  have f0 : Wf.heap[P]? = some (.cells #[v6] 40 (0, 0)) := by rw [hWf, o1 _ _ _ _ (by omega), o1 _ _ _ _ (by omega)]; exact g1
  have f1 : Wf.heap[P + 1]? = some (.cells #[.int .i64 (roomK l n (k + 1))] 3 (0, 0)) := by
    rw [hWf]
    refine heap_setCells (i := 0) (u := .int .i64 (roomK l n (k + 1))) (cs := #[.int .i64 r5]) ?_
    rw [o1 _ _ _ _ (by omega), o1 _ _ _ _ (by omega)]
    exact x1
  have f2 : Wf.heap[P + 1 + 1]? = some (.cells #[.int .i64 (takenK l n (k + 1) : Int)] 3 (0, 0)) := by
    rw [hWf, o1 _ _ _ _ (by omega)]
    refine heap_setCells (i := 0) (u := .int .i64 (takenK l n (k + 1) : Int)) (cs := #[.int .i64 (takenK l n k : Int)]) ?_
    rw [o1 _ _ _ _ (by omega)]
    exact x2
  refine ⟨⟨f0, f1, f2, ?_, ?_, ?_, ?_⟩, ?_⟩
  · rw [piecesK_succ]
    unfold strC at ho ⊢
    rw [List.map_append]
    exact hfb.row ho (fun g e1 e2 => by have := h6b g e1; omega)
  · intro g e
    rcases hat with e2 | e2
    · rw [e2] at e; exact .inl (h.inM g e)
    · have hl := (ho.lt g e).2
      rw [e2] at e
      injection e with e
      simp at e
      exact .inr ⟨by omega, by omega⟩
  · intro i hi
    by_cases e : i = k
    · exact e ▸ hf
    · exact h.fit i (by omega)
  · refine (h.keep.trans c6 (fun b hlt e => ?_)).trans hfb (fun b _ e => .inl e)
    rcases e with e | e
    · exact .inl e
    · exact .inr (by have := (hM b e).1; omega)
  · refine (c6.mono (fun b _ e => ?_)).trans hfb (fun b _ e => .inl (.inl e))
    rcases e with e | e
    · exact .inl (.inl e)
    · exact .inr e
end Go.Proofs
