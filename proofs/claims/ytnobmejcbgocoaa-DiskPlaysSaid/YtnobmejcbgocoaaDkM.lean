/-
  The files of a disk: what a map by names holds, put and taken away; the files in order. No condition.
-/
import Derived.Maps.OwnIn
import Derived.Test.YtnobmejcbgocoaaDkN
namespace Go.Proofs
open Go Go.RowKit Sm Go.Lib Go.Maps Go.WideMaps
/-- a file: its name, its bytes, how many are sure, where they lie -/
structure Sm.FileM where
  name : List (BitVec 8)
  bytes : List (BitVec 8)
  sure : Nat
  A : Option Addr
  c : Nat
def Sm.FileM.sl (f : FileM) : Value := .slice f.A f.bytes.length f.c
def Sm.FileM.val (f : FileM) : Value := .agg #[f.sl, .int .i64 (f.sure : Int)]
def Sm.nmU (nm : List (BitVec 8)) : List UInt8 := (strB nm).data.toList
theorem Sm.nmU_map (nm : List (BitVec 8)) : nmU nm = nm.map UInt8.ofBitVec := by
  unfold nmU
  rw [strB_data]
theorem Sm.nmU_inj {a b : List (BitVec 8)} (h : nmU a = nmU b) : a = b := by
  rw [nmU_map, nmU_map] at h
  exact (List.map_inj_right (fun x y e => by
    have := congrArg UInt8.toBitVec e
    simpa using this)).1 h
def Sm.keyN (nm : List (BitVec 8)) : Lit := .string (nmU nm)
theorem Sm.keyN_ne {a b : List (BitVec 8)} (h : a ≠ b) : keyN a ≠ keyN b := fun e => h (nmU_inj (by injection e))
theorem Sm.keyN_lit (nm : List (BitVec 8)) : WideAt.IsKeyLit (keyN nm) := trivial
/-- values as they are -/
def Sm.heldElem (v : Value) : Option (DataW Value × List MemPlace) := some (.held v, [])
def Sm.delG (nm : List (BitVec 8)) (G : List FileM) : List FileM := G.filter fun g => !(decide (g.name = nm))
def Sm.insG (f : FileM) : List FileM → List FileM
  | [] => [f]
  | g :: r => if nmU f.name < nmU g.name then f :: g :: r else g :: insG f r
def Sm.putG (f : FileM) (G : List FileM) : List FileM := insG f (delG f.name G)
theorem Sm.mem_del {nm : List (BitVec 8)} {G : List FileM} {g : FileM} : g ∈ delG nm G ↔ g ∈ G ∧ g.name ≠ nm := by
  unfold delG
  rw [List.mem_filter]
  simp
theorem Sm.mem_ins {f g : FileM} : ∀ {G : List FileM}, g ∈ insG f G ↔ g = f ∨ g ∈ G
  | [] => by simp [insG]
  | x :: r => by
    unfold insG
    split
    · simp
    · rw [List.mem_cons, mem_ins, List.mem_cons]
      constructor
      · rintro (h | h | h)
        · exact .inr (.inl h)
        · exact .inl h
        · exact .inr (.inr h)
      · rintro (h | h | h)
        · exact .inr (.inl h)
        · exact .inl h
        · exact .inr (.inr h)
theorem Sm.mem_put {f g : FileM} {G : List FileM} : g ∈ putG f G ↔ g = f ∨ (g ∈ G ∧ g.name ≠ f.name) := by
  unfold putG
  rw [mem_ins, mem_del]
theorem Sm.len_ins (f : FileM) : ∀ G : List FileM, (insG f G).length = G.length + 1
  | [] => rfl
  | x :: r => by
    unfold insG
    split
    · simp
    · rw [List.length_cons, len_ins f r, List.length_cons]
/-- the files are in order, each name once -/
def Sm.SortG (G : List FileM) : Prop := G.Pairwise fun f g => nmU f.name < nmU g.name
theorem Sm.sort_del {nm : List (BitVec 8)} {G : List FileM} (h : SortG G) : SortG (delG nm G) := List.Pairwise.filter _ h
theorem Sm.nmU_total {a b : List (BitVec 8)} (h : ¬ nmU a < nmU b) (hne : a ≠ b) : nmU b < nmU a := by
  have h1 : nmU b ≤ nmU a := List.not_lt.1 h
  rcases List.le_iff_lt_or_eq.1 h1 with h2 | h2
  · exact h2
  · exact absurd (nmU_inj h2.symm) hne
theorem Sm.sort_ins {f : FileM} : ∀ {G : List FileM}, SortG G → (∀ g ∈ G, g.name ≠ f.name) → SortG (insG f G)
  | [], _, _ => List.pairwise_singleton _ _
  | x :: r, h, hn => by
    obtain ⟨h1, h2⟩ := List.pairwise_cons.1 h
    unfold insG
    split
    · rename_i hlt
      refine List.pairwise_cons.2 ⟨fun y hy => ?_, h⟩
      rcases List.mem_cons.1 hy with rfl | hy
      · exact hlt
      · exact List.lt_trans hlt (h1 y hy)
    · rename_i hlt
      refine List.pairwise_cons.2 ⟨fun y hy => ?_, sort_ins h2 (fun y hy => hn y (List.mem_cons_of_mem _ hy))⟩
      rcases mem_ins.1 hy with rfl | hy
      · exact nmU_total hlt (fun e => hn x (List.mem_cons_self ..) e.symm)
      · exact h1 y hy
theorem Sm.sort_put {f : FileM} {G : List FileM} (h : SortG G) : SortG (putG f G) := sort_ins (sort_del h) (fun _ hg => (mem_del.1 hg).2)
theorem Sm.sort_name {G : List FileM} (h : SortG G) {f g : FileM} (hf : f ∈ G) (hg : g ∈ G) (e : f.name = g.name) : f = g := by
  induction G with
  | nil => cases hf
  | cons x r ih =>
    obtain ⟨h1, h2⟩ := List.pairwise_cons.1 h
    rcases List.mem_cons.1 hf with e1 | hf2
    · rcases List.mem_cons.1 hg with e2 | hg2
      · rw [e1, e2]
      · have := h1 g hg2
        rw [← e1, e] at this
        exact absurd this (List.lt_irrefl _)
    · rcases List.mem_cons.1 hg with e2 | hg2
      · have := h1 f hf2
        rw [← e2, e] at this
        exact absurd this (List.lt_irrefl _)
      · exact ih h2 hf2 hg2
/-- what a map holds -/
structure Sm.MapIs (D : DataW Value) (G : List FileM) : Prop where
  tidy : Tidy D
  isMap : IsMap D
  len : Maps.size D = G.length
  here : ∀ f ∈ G, Maps.has D (keyN f.name) = true ∧ ∀ z, D.atKey (keyN f.name) z = .held f.val
  only : ∀ nm, (∀ f ∈ G, f.name ≠ nm) → Maps.has D (keyN nm) = false
theorem Sm.len_del {nm : List (BitVec 8)} : ∀ {G : List FileM}, SortG G → (delG nm G).length + (if ∃ f ∈ G, f.name = nm then 1 else 0) = G.length
  | [], _ => by simp [delG]
  | x :: r, h => by
    obtain ⟨h1, h2⟩ := List.pairwise_cons.1 h
    have ih := len_del (nm := nm) h2
    by_cases e : x.name = nm
    · have hno : ∀ f ∈ r, f.name ≠ nm := fun f hf e2 => by
        have := h1 f hf
        rw [e, ← e2] at this
        exact absurd this (List.lt_irrefl _)
      have hd : delG nm (x :: r) = delG nm r := by unfold delG; rw [List.filter_cons_of_neg (by simp [e])]
      rw [hd, if_pos ⟨x, List.mem_cons_self .., e⟩]
      rw [if_neg (fun ⟨f, hf, e2⟩ => hno f hf e2)] at ih
      simp only [List.length_cons]
      omega
    · have hd : delG nm (x :: r) = x :: delG nm r := by unfold delG; rw [List.filter_cons_of_pos (by simp [e])]
      rw [hd]
      have hiff : (∃ f ∈ x :: r, f.name = nm) ↔ ∃ f ∈ r, f.name = nm := by
        constructor
        · rintro ⟨f, hf, e2⟩
          rcases List.mem_cons.1 hf with rfl | hf
          · exact absurd e2 e
          · exact ⟨f, hf, e2⟩
        · rintro ⟨f, hf, e2⟩
          exact ⟨f, List.mem_cons_of_mem _ hf, e2⟩
      simp only [hiff, List.length_cons]
      omega
theorem Sm.MapIs.has_iff {D : DataW Value} {G : List FileM} (h : MapIs D G) (nm : List (BitVec 8)) : Maps.has D (keyN nm) = decide (∃ f ∈ G, f.name = nm) := by
  by_cases e : ∃ f ∈ G, f.name = nm
  · obtain ⟨f, hf, rfl⟩ := e
    rw [(h.here f hf).1, decide_eq_true ⟨f, hf, rfl⟩]
  · rw [decide_eq_false e]
    exact h.only nm (fun f hf e2 => e ⟨f, hf, e2⟩)
theorem Sm.MapIs.del {D : DataW Value} {G : List FileM} (h : MapIs D G) (hs : SortG G) (nm : List (BitVec 8)) : MapIs (D.del (keyN nm)) (delG nm G) := by
  refine ⟨h.tidy.del _, h.isMap.del _, ?_, fun f hf => ?_, fun n2 hn => ?_⟩
  · have h1 := size_del (k := keyN nm) h.tidy
    have h2 := len_del (nm := nm) hs
    rw [h.has_iff, h.len] at h1
    by_cases e : ∃ f ∈ G, f.name = nm
    · rw [if_pos e] at h2
      simp only [e, decide_true, if_true] at h1
      omega
    · rw [if_neg e] at h2
      simp only [e, decide_false, Bool.false_eq_true, if_false] at h1
      omega
  · obtain ⟨hf1, hf2⟩ := mem_del.1 hf
    have hk := keyN_ne hf2
    exact ⟨by rw [has_del_other hk]; exact (h.here f hf1).1, fun z => by rw [atKey_del_other hk]; exact (h.here f hf1).2 z⟩
  · by_cases e : n2 = nm
    · subst e; exact has_del_same
    · rw [has_del_other (keyN_ne e)]
      exact h.only n2 (fun f hf e2 => hn f (mem_del.2 ⟨hf, fun e3 => e (e2 ▸ e3)⟩) e2)
theorem Sm.MapIs.put {D : DataW Value} {G : List FileM} (h : MapIs D G) (hs : SortG G) (f : FileM) : MapIs (D.put (keyN f.name) (.held f.val)) (putG f G) := by
  refine ⟨h.tidy.put (keyN_lit _) _, h.isMap.put _ _, ?_, fun g hg => ?_, fun n2 hn => ?_⟩
  · have h1 := size_put (k := keyN f.name) h.tidy (.held f.val)
    have h2 := len_del (nm := f.name) hs
    rw [h.has_iff, h.len] at h1
    unfold putG
    rw [len_ins]
    by_cases e : ∃ g ∈ G, g.name = f.name
    · rw [if_pos e] at h2
      simp only [e, decide_true, if_true] at h1
      omega
    · rw [if_neg e] at h2
      simp only [e, decide_false, Bool.false_eq_true, if_false] at h1
      omega
  · rcases mem_put.1 hg with rfl | ⟨hg1, hg2⟩
    · exact ⟨has_put_same h.isMap (keyN_lit _) _, fun z => atKey_put_same h.isMap (keyN_lit _) _ _⟩
    · have hk := keyN_ne hg2
      exact ⟨by rw [has_put_other hk]; exact (h.here g hg1).1, fun z => by rw [atKey_put_other hk]; exact (h.here g hg1).2 z⟩
  · have e : n2 ≠ f.name := fun e => hn f (mem_put.2 (.inl rfl)) e.symm
    rw [has_put_other (keyN_ne e)]
    exact h.only n2 (fun g hg e2 => hn g (mem_put.2 (.inr ⟨hg, fun e3 => e (e2.symm.trans e3)⟩)) e2)
theorem Sm.MapIs.nil : MapIs (.map []) [] := ⟨by first | exact Tidy.nil | exact ⟨_, rfl, by simp, by simp⟩ | simp [Tidy], ⟨_, rfl⟩, rfl, fun f hf => (by cases hf), fun nm _ => rfl⟩
end Go.Proofs
