/-
  What a crash leaves: as lists. No condition.
-/
import Derived.Test.YtnobmejcbgocoaaDkP
namespace Go.Proofs
open Go Go.RowKit Sm Go.Lib Go.Maps Go.WideMaps
attribute [local go_sem] Oper.semAt_some
/-- a file behind all others is put at the end -/
theorem Sm.ins_last {f : FileM} : ∀ {G : List FileM}, (∀ g ∈ G, nmU g.name < nmU f.name) → insG f G = G ++ [f]
  | [], _ => rfl
  | x :: r, h => by
    have hx := h x (List.mem_cons_self ..)
    unfold insG
    rw [if_neg (fun e => List.lt_irrefl _ (List.lt_trans e hx)), ins_last (fun g hg => h g (List.mem_cons_of_mem _ hg))]
    rfl
theorem Sm.put_last {f : FileM} {G : List FileM} (h : ∀ g ∈ G, nmU g.name < nmU f.name) : putG f G = G ++ [f] := by
  unfold putG
  rw [del_none (fun g hg e => by
    have h1 := h g hg
    rw [e] at h1
    exact List.lt_irrefl _ h1), ins_last h]
/-- a file without where it lies -/
def Sm.datF (f : FileM) : List (BitVec 8) × List (BitVec 8) × Nat := (f.name, f.bytes, f.sure)
/-- how many bytes a crash leaves -/
def Sm.crN (pick : Int) (f : FileM) : Nat := f.sure + (pick % ((f.bytes.length : Int) - f.sure + 1)).toNat
theorem Sm.crN_rng (pick : Int) {f : FileM} (h : f.sure ≤ f.bytes.length) : f.sure ≤ crN pick f ∧ crN pick f ≤ f.bytes.length ∧ ((crN pick f : Nat) : Int) = f.sure + pick % ((f.bytes.length : Int) - f.sure + 1) := by
  have h0 := Int.emod_nonneg pick (by omega : (f.bytes.length : Int) - f.sure + 1 ≠ 0)
  have h1 := Int.emod_lt_of_pos pick (by omega : 0 < (f.bytes.length : Int) - f.sure + 1)
  unfold crN
  omega
/-- what a crash leaves, the file k by the pick k -/
def Sm.crL (picks : List Int) : Nat → List FileM → List (List (BitVec 8) × List (BitVec 8) × Nat)
  | _, [] => []
  | k, f :: r => (f.name, f.bytes.take (crN (picks.getD k 0) f), crN (picks.getD k 0) f) :: crL picks (k + 1) r
theorem Sm.crL_length (picks : List Int) : ∀ (G : List FileM) (k : Nat), (crL picks k G).length = G.length
  | [], _ => rfl
  | f :: r, k => by
    unfold crL
    rw [List.length_cons, crL_length picks r (k + 1), List.length_cons]
theorem Sm.crL_at (picks : List Int) : ∀ (G : List FileM) (j k : Nat) (f : FileM), G[k]? = some f → (crL picks j G)[k]? = some (f.name, f.bytes.take (crN (picks.getD (j + k) 0) f), crN (picks.getD (j + k) 0) f)
  | [], _, k, f, h => by simp at h
  | g :: r, j, 0, f, h => by
    simp only [List.getElem?_cons_zero, Option.some.injEq] at h
    subst h
    unfold crL
    rfl
  | g :: r, j, k + 1, f, h => by
    rw [List.getElem?_cons_succ] at h
    unfold crL
    rw [List.getElem?_cons_succ, crL_at picks r (j + 1) k f h, show j + 1 + k = j + (k + 1) by omega]
theorem Sm.crL_take (picks : List Int) {G : List FileM} {k : Nat} {f : FileM} (h : G[k]? = some f) : (crL picks 0 G).take (k + 1) = (crL picks 0 G).take k ++ [(f.name, f.bytes.take (crN (picks.getD k 0) f), crN (picks.getD k 0) f)] := by
  have h1 := crL_at picks G 0 k f h
  rw [Nat.zero_add] at h1
  rw [List.take_add_one, h1]
  rfl
/-- names of what is left so far: those of the first k files -/
theorem Sm.crL_names (picks : List Int) : ∀ (G : List FileM) (j : Nat), (crL picks j G).map (fun t => t.1) = G.map fun f => f.name
  | [], _ => rfl
  | f :: r, j => by
    unfold crL
    rw [List.map_cons, List.map_cons, crL_names picks r (j + 1)]
/-- one file more -/
theorem Sm.crash_step {picks : List Int} {G Gk : List FileM} {k : Nat} {f f2 : FileM} (hs : SortG G) (hk : Gk.map datF = (crL picks 0 G).take k) (hf : G[k]? = some f) (h2 : datF f2 = (f.name, f.bytes.take (crN (picks.getD k 0) f), crN (picks.getD k 0) f)) :
    (∀ g ∈ Gk, nmU g.name < nmU f2.name) ∧ (putG f2 Gk).map datF = (crL picks 0 G).take (k + 1) := by
  have hn2 : f2.name = f.name := by
    unfold datF at h2
    injection h2
  have hlt : ∀ g ∈ Gk, nmU g.name < nmU f2.name := fun g hg => by
    have h1 : g.name ∈ (Gk.map datF).map (fun t => t.1) := by
      rw [List.map_map]
      exact List.mem_map.2 ⟨g, hg, rfl⟩
    rw [hk, List.map_take, crL_names] at h1
    obtain ⟨j, hj, e⟩ := List.mem_iff_getElem.1 h1
    rw [List.getElem_take, List.getElem_map] at e
    have hjk : j < k := by
      rw [List.length_take] at hj
      omega
    have hkl := (List.getElem?_eq_some_iff.1 hf).1
    have hfk := (List.getElem?_eq_some_iff.1 hf).2
    have := List.pairwise_iff_getElem.1 hs j k (by omega) hkl hjk
    rw [hn2, ← e, ← hfk]
    exact this
  refine ⟨hlt, ?_⟩
  rw [put_last hlt, List.map_append, hk, crL_take picks hf]
  show _ ++ [datF f2] = _
  rw [h2]
end Go.Proofs
