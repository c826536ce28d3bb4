/-
  What stands between a net, what was put and what is gone. No condition.
-/
import Derived.Test.YtkipjlcbmiagcaaNtSp
namespace Go.Proofs
open Go Go.RowKit Sm Go.Lib Go.Maps Go.WideMaps
structure Sm.OnceM (N : NM) (ps : List PD) (gone : List Int) : Prop where
  came : N.s.came = ps.length
  at_ : ∀ m ∈ N.P, ∃ j : Nat, m.1 = j ∧ ps[j]? = some m
  nums : (N.P.map (fun m => m.1)).Nodup
  gn : ∀ g ∈ gone, 0 ≤ g ∧ g < ps.length ∧ g ∉ N.P.map (fun m => m.1)
  len : N.P.length + gone.length = ps.length
theorem Sm.OnceM.put {N : NM} {ps : List PD} {gone : List Int} (h : OnceM N ps gone) (x y : Int) (b : List (BitVec 8)) : OnceM ⟨⟨N.s.ends, N.s.most, N.s.came + 1⟩, N.D, N.P ++ [(N.s.came, x, y, b)]⟩ (ps ++ [(N.s.came, x, y, b)]) gone := by
  have hlt : ∀ m ∈ N.P, m.1 < N.s.came := fun m hm => by
    obtain ⟨j, h1, h2⟩ := h.at_ m hm
    have := (List.getElem?_eq_some_iff.1 h2).1
    have := h.came
    omega
  refine ⟨?_, fun m hm => ?_, ?_, fun g hg => ?_, ?_⟩
  · show N.s.came + 1 = _
    rw [List.length_append, List.length_singleton, h.came]
    omega
  · rcases List.mem_append.1 hm with hm | hm
    · obtain ⟨j, h1, h2⟩ := h.at_ m hm
      exact ⟨j, h1, by rw [List.getElem?_append_left (List.getElem?_eq_some_iff.1 h2).1]; exact h2⟩
    · rw [List.mem_singleton] at hm
      subst hm
      refine ⟨ps.length, h.came, ?_⟩
      rw [List.getElem?_append_right (Nat.le_refl _), Nat.sub_self]
      rfl
  · rw [List.map_append, List.nodup_append]
    refine ⟨h.nums, by simp, fun a ha b hb e => ?_⟩
    simp only [List.map_cons, List.map_nil, List.mem_singleton] at hb
    obtain ⟨m, hm, rfl⟩ := List.mem_map.1 ha
    have h1 := hlt m hm
    have h2 : m.1 = N.s.came := e.trans hb
    omega
  · obtain ⟨h1, h2, h3⟩ := h.gn g hg
    refine ⟨h1, by rw [List.length_append, List.length_singleton]; omega, fun hm => ?_⟩
    rw [List.map_append, List.mem_append] at hm
    rcases hm with hm | hm
    · exact h3 hm
    · simp only [List.map_cons, List.map_nil, List.mem_singleton] at hm
      have := h.came
      omega
  · simp only [List.length_append, List.length_singleton]
    have := h.len
    omega
theorem Sm.OnceM.same {N N' : NM} {ps : List PD} {gone : List Int} (h : OnceM N ps gone) (hs : N'.s = N.s) (hP : N'.P = N.P) : OnceM N' ps gone :=
  ⟨by rw [hs]; exact h.came, by rw [hP]; exact h.at_, by rw [hP]; exact h.nums, by rw [hP]; exact h.gn, by rw [hP]; exact h.len⟩
theorem Sm.OnceM.found {N : NM} {ps : List PD} {gone : List Int} (h : OnceM N ps gone) {i : Nat} {m : PD} (hm : N.P[i]? = some m) : ∃ j : Nat, m.1 = j ∧ ps[j]? = some m ∧ j < ps.length ∧ m.1 ∉ gone := by
  obtain ⟨j, h1, h2⟩ := h.at_ m (List.mem_of_getElem? hm)
  exact ⟨j, h1, h2, (List.getElem?_eq_some_iff.1 h2).1, fun hg => (h.gn _ hg).2.2 (List.mem_map.2 ⟨m, List.mem_of_getElem? hm, rfl⟩)⟩
theorem Sm.OnceM.less {N : NM} {ps : List PD} {gone : List Int} (h : OnceM N ps gone) {i : Nat} {m : PD} (hm : N.P[i]? = some m) : OnceM (N.less i) ps (gone ++ [m.1]) := by
  have hi := (List.getElem?_eq_some_iff.1 hm).1
  have hsub : ∀ x ∈ (N.less i).P, x ∈ N.P := fun x hx => List.mem_of_mem_eraseIdx hx
  have hmap : (N.less i).P.map (fun m => m.1) = (N.P.map (fun m => m.1)).eraseIdx i := by
    unfold NM.less
    simp only
    rw [List.eraseIdx_eq_take_drop_succ, List.eraseIdx_eq_take_drop_succ, List.map_append, List.map_take, List.map_drop]
  refine ⟨h.came, fun x hx => h.at_ x (hsub x hx), ?_, fun g hg => ?_, ?_⟩
  · rw [hmap]
    exact h.nums.sublist (List.eraseIdx_sublist _ _)
  · rcases List.mem_append.1 hg with hg | hg
    · obtain ⟨h1, h2, h3⟩ := h.gn g hg
      exact ⟨h1, h2, fun hx => h3 (by
        obtain ⟨x, hx1, hx2⟩ := List.mem_map.1 hx
        exact List.mem_map.2 ⟨x, hsub x hx1, hx2⟩)⟩
    · rw [List.mem_singleton] at hg
      subst hg
      obtain ⟨j, h1, h2, h3, _⟩ := h.found hm
      refine ⟨by omega, by omega, fun hx => ?_⟩
      rw [hmap] at hx
      have hk : (N.P.map (fun m => m.1))[i]? = some m.1 := by rw [List.getElem?_map, hm]; rfl
      have hil : i < (N.P.map (fun m => m.1)).length := (List.getElem?_eq_some_iff.1 hk).1
      have hx2 : m.1 ∈ (N.P.map (fun m => m.1)).eraseIdx i := hx
      rw [List.mem_eraseIdx_iff_getElem?] at hx2
      obtain ⟨j', hj1, hj2⟩ := hx2
      have hj' := (List.getElem?_eq_some_iff.1 hj2).1
      have h9 := List.pairwise_iff_getElem.1 h.nums
      have k1 : (N.P.map (fun m => m.1))[i] = m.1 := by rw [List.getElem?_eq_getElem hil] at hk; exact Option.some.inj hk
      have k2 : (N.P.map (fun m => m.1))[j'] = m.1 := by rw [List.getElem?_eq_getElem hj'] at hj2; exact Option.some.inj hj2
      rcases Nat.lt_trichotomy i j' with e | e | e
      · exact h9 i j' hil hj' e (k1.trans k2.symm)
      · exact hj1 e.symm
      · exact h9 j' i hj' hil e (k2.trans k1.symm)
  · have e1 : (N.less i).P.length = N.P.length - 1 := by
      unfold NM.less
      simp only
      exact List.length_eraseIdx_of_lt hi
    rw [e1, List.length_append, List.length_singleton]
    have := h.len
    omega
/-- in memory: the net, the row of what was put, the row of what is gone -/
structure Sm.OnM (w : World) (n0 p : Nat) (N : NM) (Q : List MsgM) (G : List Int) (vp vg : Value) (W : World) : Prop where
  net : ∃ B, Nt B W p N ∧ ∀ b, B b → n0 ≤ b ∧ b < W.heap.size ∧ vp.ownBlock ≠ some b ∧ vg.ownBlock ≠ some b
  prow : W.ownsRow n0 41 4 vp Q.length (cellsM Q)
  grow : W.ownsRow n0 2 1 vg G.length (G.map fun g => .int .i64 g)
  sep : ∀ b, vp.ownBlock = some b → vg.ownBlock ≠ some b
  rd : ∀ q ∈ Q, Rd W n0 q.A q.bytes
  below : Below n0 w W
  lo : n0 ≤ W.heap.size
section
variable {w W W' : World} {n0 p : Nat} {N N' : NM} {Q : List MsgM} {G : List Int} {vp vg : Value}
theorem Sm.OnM.keep (h : OnM w n0 p N Q G vp vg W) (hb : Below W.heap.size W W') : OnM w n0 p N Q G vp vg W' := by
  obtain ⟨B, h1, h2⟩ := h.net
  exact ⟨⟨B, h1.keep hb, fun b e => ⟨(h2 b e).1, Nat.lt_of_lt_of_le (h2 b e).2.1 hb.size, (h2 b e).2.2⟩⟩, own_below h.prow hb, own_below h.grow hb, h.sep, fun q hq => (h.rd q hq).keep (fun p hp => hb.cell (Nat.lt_of_lt_of_le hp h.lo)), h.below.trans (hb.mono h.lo), Nat.le_trans h.lo hb.size⟩
theorem Sm.OnM.callB (h : OnM w n0 p N Q G vp vg W) (B : Nat → Prop) (h2 : ∀ b, B b → n0 ≤ b ∧ b < W.heap.size ∧ vp.ownBlock ≠ some b ∧ vg.ownBlock ≠ some b) :
    (∀ W' N', StepN B W W' p N' → OnM w n0 p N' Q G vp vg W') ∧ (∀ W' N', StepK B W W' p N' → OnM w n0 p N' Q G vp vg W') := by
  have hp : ∀ g, vp.ownBlock = some g → ¬ B g := fun g e e2 => (h2 g e2).2.2.1 e
  have hg : ∀ g, vg.ownBlock = some g → ¬ B g := fun g e e2 => (h2 g e2).2.2.2 e
  have both : ∀ W' N', Nt (fun b => B b ∨ W.heap.size ≤ b) W' p N' → But B W W' → OnM w n0 p N' Q G vp vg W' := fun W' N' k1 k2 =>
    ⟨⟨fun b => (B b ∨ W.heap.size ≤ b) ∧ b < W'.heap.size, k1.mono (fun b hb e => ⟨e, hb⟩), fun b ⟨e, e2⟩ => by
      rcases e with e | e
      · exact ⟨(h2 b e).1, e2, (h2 b e).2.2⟩
      · exact ⟨Nat.le_trans h.lo e, e2, fun e3 => by have := (h.prow.lt b e3).2; omega, fun e3 => by have := (h.grow.lt b e3).2; omega⟩⟩,
     k2.row h.prow hp, k2.row h.grow hg, h.sep, fun q hq => (h.rd q hq).keep (fun p hp => k2.cell (Nat.lt_of_lt_of_le hp h.lo) (fun e => by have := (h2 _ e).1; omega)), h.below.trans (k2.to_below h.lo (fun b e => (h2 b e).1)), Nat.le_trans h.lo k2.size⟩
  exact ⟨fun W' N' k => both W' N' k.1 k.2, fun W' N' k => both W' N' (k.1.mono (fun _ _ e => .inl e)) k.2⟩
/-- a call on the net, behind new memory -/
theorem Sm.OnM.call (h : OnM w n0 p N Q G vp vg W) (hb : Below W.heap.size W W') : ∃ B, Nt B W' p N ∧ (∀ b, B b → b < W.heap.size) ∧ (∀ V N', StepN B W' V p N' → OnM w n0 p N' Q G vp vg V) ∧ (∀ V N', StepK B W' V p N' → OnM w n0 p N' Q G vp vg V) := by
  obtain ⟨B, h1, h2⟩ := h.net
  exact ⟨B, h1.keep hb, fun b e => (h2 b e).2.1, (h.keep hb).callB B (fun b e => ⟨(h2 b e).1, Nat.lt_of_lt_of_le (h2 b e).2.1 hb.size, (h2 b e).2.2⟩)⟩
theorem Sm.OnM.pushP (h : OnM w n0 p N Q G vp vg W) (q : MsgM) {vp' : Value} (hr : W'.ownsRow n0 41 4 vp' (Q.length + 1) (cellsM Q ++ [.int .i64 q.num, .int .i64 q.src, .int .i64 q.dst, q.sl])) (hg : W.grownBy W' vp.ownBlock) (hs : vp'.ownBlock = vp.ownBlock ∨ vp'.ownBlock = some W.heap.size) (hq : Rd w n0 q.A q.bytes) : OnM w n0 p N (Q ++ [q]) G vp' vg W' := by
  obtain ⟨B, h1, h2⟩ := h.net
  have hb := But.grown hg
  have hbl := hb.to_below h.lo (fun b e => (h.prow.lt b e).1)
  refine ⟨⟨B, h1.but hb (fun b e e2 => (h2 b e2).2.2.1 e), fun b e => ⟨(h2 b e).1, Nat.lt_of_lt_of_le (h2 b e).2.1 hb.size, fun e2 => ?_, (h2 b e).2.2.2⟩⟩, ?_, hb.row h.grow (fun g e e2 => h.sep g e2 e), fun b e e2 => ?_, fun q' hq' => ?_, h.below.trans hbl, Nat.le_trans h.lo hb.size⟩
  · rcases hs with hs | hs
    · exact (h2 b e).2.2.1 (hs ▸ e2)
    · rw [hs] at e2
      have := Option.some.inj e2
      have := (h2 b e).2.1
      omega
  · rw [List.length_append, List.length_singleton, cellsM_add]
    exact hr
  · rcases hs with hs | hs
    · exact h.sep b (hs ▸ e) e2
    · rw [hs] at e
      have := Option.some.inj e
      have := (h.grow.lt b e2).2
      omega
  · rcases List.mem_append.1 hq' with hq' | hq'
    · exact (h.rd q' hq').keep (fun p hp => hbl.cell hp)
    · rw [List.mem_singleton] at hq'
      subst hq'
      exact (hq.below h.below).below hbl
theorem Sm.OnM.pushG (h : OnM w n0 p N Q G vp vg W) (x : Int) {vg' : Value} (hr : W'.ownsRow n0 2 1 vg' (G.length + 1) ((G.map fun g => .int .i64 g) ++ [.int .i64 x])) (hg : W.grownBy W' vg.ownBlock) (hs : vg'.ownBlock = vg.ownBlock ∨ vg'.ownBlock = some W.heap.size) : OnM w n0 p N Q (G ++ [x]) vp vg' W' := by
  obtain ⟨B, h1, h2⟩ := h.net
  have hb := But.grown hg
  have hbl := hb.to_below h.lo (fun b e => (h.grow.lt b e).1)
  refine ⟨⟨B, h1.but hb (fun b e e2 => (h2 b e2).2.2.2 e), fun b e => ⟨(h2 b e).1, Nat.lt_of_lt_of_le (h2 b e).2.1 hb.size, (h2 b e).2.2.1, fun e2 => ?_⟩⟩, hb.row h.prow (fun g e e2 => h.sep g e e2), ?_, fun b e e2 => ?_, fun q' hq' => (h.rd q' hq').keep (fun p hp => hbl.cell hp), h.below.trans hbl, Nat.le_trans h.lo hb.size⟩
  · rcases hs with hs | hs
    · exact (h2 b e).2.2.2 (hs ▸ e2)
    · rw [hs] at e2
      have := Option.some.inj e2
      have := (h2 b e).2.1
      omega
  · rw [List.length_append, List.length_singleton, List.map_append]
    exact hr
  · rcases hs with hs | hs
    · exact h.sep b e (hs ▸ e2)
    · rw [hs] at e2
      have := Option.some.inj e2
      have := (h.prow.lt b e).2
      omega
end
end Go.Proofs
