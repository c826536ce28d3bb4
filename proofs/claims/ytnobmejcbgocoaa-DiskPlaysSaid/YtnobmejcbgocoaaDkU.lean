/-
  A disk as data: what steps do to names, bytes and how many are sure. No condition.
-/
import Derived.Test.YtnobmejcbgocoaaDkQ
namespace Go.Proofs
open Go Go.RowKit Sm Go.Lib Go.Maps Go.WideMaps
def Sm.delL (nm : List (BitVec 8)) (L : List (List (BitVec 8) × List (BitVec 8) × Nat)) : List (List (BitVec 8) × List (BitVec 8) × Nat) := L.filter fun t => !(decide (t.1 = nm))
def Sm.insL (t : List (BitVec 8) × List (BitVec 8) × Nat) : List (List (BitVec 8) × List (BitVec 8) × Nat) → List (List (BitVec 8) × List (BitVec 8) × Nat)
  | [] => [t]
  | g :: r => if nmU t.1 < nmU g.1 then t :: g :: r else g :: insL t r
def Sm.putL (t : List (BitVec 8) × List (BitVec 8) × Nat) (L : List (List (BitVec 8) × List (BitVec 8) × Nat)) : List (List (BitVec 8) × List (BitVec 8) × Nat) := insL t (delL t.1 L)
def Sm.getL (nm : List (BitVec 8)) (L : List (List (BitVec 8) × List (BitVec 8) × Nat)) : Option (List (BitVec 8) × List (BitVec 8) × Nat) := L.find? fun t => decide (t.1 = nm)
def Sm.usedL (L : List (List (BitVec 8) × List (BitVec 8) × Nat)) : Nat := (L.map fun t => t.2.1.length).sum
theorem Sm.del_map (nm : List (BitVec 8)) (G : List FileM) : (delG nm G).map datF = delL nm (G.map datF) := by
  unfold delG delL
  rw [List.filter_map]
  rfl
theorem Sm.ins_map (f : FileM) : ∀ G : List FileM, (insG f G).map datF = insL (datF f) (G.map datF)
  | [] => rfl
  | g :: r => by
    rw [List.map_cons]
    unfold insG insL
    show List.map datF (if nmU f.name < nmU g.name then _ else _) = if nmU f.name < nmU g.name then _ else _
    split
    · rfl
    · rw [List.map_cons, ins_map f r]
theorem Sm.put_map (f : FileM) (G : List FileM) : (putG f G).map datF = putL (datF f) (G.map datF) := by
  unfold putG putL
  rw [ins_map, del_map]
  rfl
theorem Sm.used_map (G : List FileM) : usedG G = usedL (G.map datF) := by
  unfold usedG usedL
  rw [List.map_map]
  rfl
theorem Sm.get_some {G : List FileM} (hs : SortG G) {f : FileM} (hf : f ∈ G) : getL f.name (G.map datF) = some (datF f) := by
  unfold getL
  cases h : (G.map datF).find? (fun t => decide (t.1 = f.name)) with
  | none =>
    have := List.find?_eq_none.1 h (datF f) (List.mem_map.2 ⟨f, hf, rfl⟩)
    simp [datF] at this
  | some t =>
    have h1 := List.find?_some h
    have h2 := List.mem_of_find?_eq_some h
    obtain ⟨g, hg, rfl⟩ := List.mem_map.1 h2
    have e : g.name = f.name := of_decide_eq_true h1
    rw [sort_name hs hg hf e]
theorem Sm.get_none {G : List FileM} {nm : List (BitVec 8)} (h : ∀ f ∈ G, f.name ≠ nm) : getL nm (G.map datF) = none := by
  unfold getL
  refine List.find?_eq_none.2 (fun t ht => ?_)
  obtain ⟨g, hg, rfl⟩ := List.mem_map.1 ht
  exact fun e => h g hg (of_decide_eq_true e)
/-- what is told of a name: the bytes, how many are sure, the error -/
def Sm.tellM (L : List (List (BitVec 8) × List (BitVec 8) × Nat)) (nm : List (BitVec 8)) : List (BitVec 8) × Nat × Int :=
  if nameOK nm = false then ([], 0, 170) else match getL nm L with
    | none => ([], 0, 5)
    | some t => (t.2.1, t.2.2, 0)
/-- a step that is not refused -/
def Sm.doneM (s : DSt) (L L2 : List (List (BitVec 8) × List (BitVec 8) × Nat)) : DSt × List (List (BitVec 8) × List (BitVec 8) × Nat) × Int := if (nextD s).dead = true then (nextD s, L, 172) else (nextD s, L2, 0)
def Sm.appM (s : DSt) (L : List (List (BitVec 8) × List (BitVec 8) × Nat)) (nm l : List (BitVec 8)) : DSt × List (List (BitVec 8) × List (BitVec 8) × Nat) × Int :=
  if nameOK nm = false then (s, L, 170) else if s.room < (usedL L : Int) + l.length then (s, L, 171) else
    doneM s L (putL (nm, ((getL nm L).map fun t => t.2.1).getD [] ++ l, ((getL nm L).map fun t => t.2.2).getD 0) L)
def Sm.synM (s : DSt) (L : List (List (BitVec 8) × List (BitVec 8) × Nat)) (nm : List (BitVec 8)) : DSt × List (List (BitVec 8) × List (BitVec 8) × Nat) × Int :=
  if nameOK nm = false then (s, L, 170) else match getL nm L with
    | none => (s, L, 5)
    | some t => doneM s L (putL (nm, t.2.1, t.2.1.length) L)
def Sm.cutM (s : DSt) (L : List (List (BitVec 8) × List (BitVec 8) × Nat)) (nm : List (BitVec 8)) (k : Int) : DSt × List (List (BitVec 8) × List (BitVec 8) × Nat) × Int :=
  if nameOK nm = false then (s, L, 170) else match getL nm L with
    | none => (s, L, 5)
    | some t => if k < 0 ∨ (t.2.1.length : Int) < k then (s, L, 4) else doneM s L (putL (nm, t.2.1.take k.toNat, min t.2.2 k.toNat) L)
def Sm.remM (s : DSt) (L : List (List (BitVec 8) × List (BitVec 8) × Nat)) (nm : List (BitVec 8)) : DSt × List (List (BitVec 8) × List (BitVec 8) × Nat) × Int :=
  if nameOK nm = false then (s, L, 170) else match getL nm L with
    | none => (s, L, 5)
    | some _ => doneM s L (delL nm L)
def Sm.renM (s : DSt) (L : List (List (BitVec 8) × List (BitVec 8) × Nat)) (nm nt : List (BitVec 8)) : DSt × List (List (BitVec 8) × List (BitVec 8) × Nat) × Int :=
  if (nameOK nm && nameOK nt) = false then (s, L, 170) else match getL nm L with
    | none => (s, L, 5)
    | some t => doneM s L (putL (nt, t.2.1, t.2.2) (delL nm L))
def Sm.stoM (s : DSt) (n : Int) : DSt × Int := if n < 0 then (s, 2) else if s.dead = true then (s, 172) else (⟨true, n, false, s.room⟩, 0)
/-- what a crash leaves -/
def Sm.crK (pick : Int) (t : List (BitVec 8) × List (BitVec 8) × Nat) : Nat := t.2.2 + (pick % ((t.2.1.length : Int) - t.2.2 + 1)).toNat
def Sm.crM (picks : List Int) : Nat → List (List (BitVec 8) × List (BitVec 8) × Nat) → List (List (BitVec 8) × List (BitVec 8) × Nat)
  | _, [] => []
  | k, t :: r => (t.1, t.2.1.take (crK (picks.getD k 0) t), crK (picks.getD k 0) t) :: crM picks (k + 1) r
theorem Sm.cr_map (picks : List Int) : ∀ (G : List FileM) (k : Nat), crL picks k G = crM picks k (G.map datF)
  | [], _ => rfl
  | f :: r, k => by
    rw [List.map_cons]
    unfold crL crM
    rw [cr_map picks r (k + 1)]
    rfl
/-- a disk in memory, by its data; all its blocks are of B -/
def Sm.Dk (B : Nat → Prop) (W : World) (p : Nat) (s : DSt) (L : List (List (BitVec 8) × List (BitVec 8) × Nat)) : Prop :=
  ∃ Mb base G, DAt W p Mb base s G ∧ G.map datF = L ∧ B p ∧ B Mb ∧ ∀ f ∈ G, ∀ b, f.sl.ownBlock = some b → B b
theorem Sm.Dk.keep {B : Nat → Prop} {W W' : World} {p : Nat} {s : DSt} {L : List (List (BitVec 8) × List (BitVec 8) × Nat)} (h : Dk B W p s L) (hb : Below W.heap.size W W') : Dk B W' p s L := by
  obtain ⟨Mb, base, G, h1, h2⟩ := h
  exact ⟨Mb, base, G, h1.keep hb, h2⟩
theorem Sm.Dk.but {B S : Nat → Prop} {W W' : World} {p : Nat} {s : DSt} {L : List (List (BitVec 8) × List (BitVec 8) × Nat)} (h : Dk B W p s L) (hb : But S W W') (hS : ∀ b, S b → ¬ B b) : Dk B W' p s L := by
  obtain ⟨Mb, base, G, h1, h2, h3, h4, h5⟩ := h
  exact ⟨Mb, base, G, h1.but hb (fun b e => ⟨fun e2 => hS b e (e2 ▸ h3), fun e2 => hS b e (e2 ▸ h4), fun f hf e2 => hS b e (h5 f hf b e2)⟩), h2, h3, h4, h5⟩
theorem Sm.Dk.mono {B B' : Nat → Prop} {W : World} {p : Nat} {s : DSt} {L : List (List (BitVec 8) × List (BitVec 8) × Nat)} (h : Dk B W p s L) (hB : ∀ b, b < W.heap.size → B b → B' b) : Dk B' W p s L := by
  obtain ⟨Mb, base, G, h1, h2, h3, h4, h5⟩ := h
  exact ⟨Mb, base, G, h1, h2, hB _ (Array.getElem?_eq_some_iff.1 h1.blk).1 h3, hB _ (by have := h1.low; omega) h4, fun f hf b e => hB b ((h1.row f hf).lt b e).2 (h5 f hf b e)⟩
/-- what a step does to memory -/
def Sm.StepM (B : Nat → Prop) (W W' : World) (p : Nat) (r : DSt × List (List (BitVec 8) × List (BitVec 8) × Nat) × Int) : Prop := Dk (fun b => B b ∨ W.heap.size ≤ b) W' p r.1 r.2.1 ∧ But B W W'
theorem Sm.step_same {B : Nat → Prop} {W W' : World} {p : Nat} {s : DSt} {L : List (List (BitVec 8) × List (BitVec 8) × Nat)} (h : Dk B W p s L) (hb : Below W.heap.size W W') (e : Int) : StepM B W W' p (s, L, e) :=
  ⟨(h.keep hb).mono (fun _ _ e => .inl e), But.of_all hb _⟩
end Go.Proofs
