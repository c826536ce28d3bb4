/-
  Which disks are the same, by their data; a copy, by its data. Conditions: as each theorem names them.
-/
import Derived.Deep.RegionWith
import Derived.Deep.RegionHeldLaw
import Derived.BigQuiet
import Derived.StillTailTactics
import Derived.ChangeKeysEq
import Derived.Test.YtnobmejcbgocoaaLwB
import Derived.Test.YtnobmejcbgocoaaLwC
import Derived.Test.YtnobmejcbgocoaaLwD
namespace Go.Proofs
open Go Go.RowKit Sm Go.Lib Go.Maps Go.WideMaps
attribute [local go_sem] Oper.semAt_some
/-- in order of names -/
def Sm.SortL (L : List (List (BitVec 8) × List (BitVec 8) × Nat)) : Prop := L.Pairwise fun s t => nmU s.1 < nmU t.1
theorem Sm.sort_map {G : List FileM} (h : SortG G) : SortL (G.map datF) := List.pairwise_map.2 h
theorem Sm.sub_tail {a b : List (BitVec 8) × List (BitVec 8) × Nat} {A B : List (List (BitVec 8) × List (BitVec 8) × Nat)} (hA : SortL (a :: A)) (hsub : ∀ t ∈ a :: A, t ∈ b :: B) (hab : a = b) : ∀ t ∈ A, t ∈ B := fun t ht => by
  have h1 := (List.pairwise_cons.1 hA).1 t ht
  rcases List.mem_cons.1 (hsub t (List.mem_cons_of_mem _ ht)) with e | e
  · rw [e, ← hab] at h1
    exact absurd h1 (List.lt_irrefl _)
  · exact e
theorem Sm.sub_other {a b : List (BitVec 8) × List (BitVec 8) × Nat} {A B : List (List (BitVec 8) × List (BitVec 8) × Nat)} (hA : SortL (a :: A)) (hB : SortL (b :: B)) (hsub : ∀ t ∈ a :: A, t ∈ b :: B) (hab : a ≠ b) : ∀ t ∈ a :: A, t ∈ B := fun t ht => by
  have ha : a ∈ B := (List.mem_cons.1 (hsub a (List.mem_cons_self ..))).resolve_left hab
  have hlt := (List.pairwise_cons.1 hB).1 a ha
  rcases List.mem_cons.1 ht with e | e
  · rw [e]; exact ha
  · rcases List.mem_cons.1 (hsub t ht) with e2 | e2
    · have h1 := (List.pairwise_cons.1 hA).1 t e
      rw [e2] at h1
      exact absurd (List.lt_trans hlt h1) (List.lt_irrefl _)
    · exact e2
theorem Sm.sub_len : ∀ (B A : List (List (BitVec 8) × List (BitVec 8) × Nat)), SortL A → SortL B → (∀ t ∈ A, t ∈ B) → A.length ≤ B.length
  | _, [], _, _, _ => Nat.zero_le _
  | [], a :: A, _, _, h => absurd (h a (List.mem_cons_self ..)) (by simp)
  | b :: B, a :: A, hA, hB, h => by
    by_cases e : a = b
    · have := sub_len B A (List.pairwise_cons.1 hA).2 (List.pairwise_cons.1 hB).2 (sub_tail hA h e)
      simp only [List.length_cons]
      omega
    · have := sub_len B (a :: A) hA (List.pairwise_cons.1 hB).2 (sub_other hA hB h e)
      simp only [List.length_cons] at this ⊢
      omega
theorem Sm.sub_eq : ∀ (B A : List (List (BitVec 8) × List (BitVec 8) × Nat)), SortL A → SortL B → (∀ t ∈ A, t ∈ B) → A.length = B.length → A = B
  | [], [], _, _, _, _ => rfl
  | b :: B, [], _, _, _, h => by simp at h
  | [], a :: A, _, _, h, _ => absurd (h a (List.mem_cons_self ..)) (by simp)
  | b :: B, a :: A, hA, hB, h, hl => by
    by_cases e : a = b
    · rw [e, sub_eq B A (List.pairwise_cons.1 hA).2 (List.pairwise_cons.1 hB).2 (sub_tail hA h e) (by simpa using hl)]
    · have := sub_len B (a :: A) hA (List.pairwise_cons.1 hB).2 (sub_other hA hB h e)
      simp only [List.length_cons] at this hl
      omega
theorem Sm.equal_dat {G1 G2 : List FileM} (s1 : SortG G1) (s2 : SortG G2) : equalB G1 G2 = decide (G1.map datF = G2.map datF) := by
  rw [Bool.eq_iff_iff, decide_eq_true_iff]
  unfold equalB
  rw [Bool.and_eq_true, decide_eq_true_iff, List.all_eq_true]
  constructor
  · rintro ⟨h1, h2⟩
    refine sub_eq _ _ (sort_map s1) (sort_map s2) (fun t ht => ?_) (by simpa using h1)
    obtain ⟨f, hf, rfl⟩ := List.mem_map.1 ht
    obtain ⟨g, hg, e⟩ := List.any_eq_true.1 (h2 f hf)
    unfold sameF at e
    simp only [Bool.and_eq_true, decide_eq_true_eq] at e
    refine List.mem_map.2 ⟨g, hg, ?_⟩
    unfold datF
    rw [e.1, e.2.1, e.2.2]
  · intro h
    refine ⟨by simpa using congrArg List.length h, fun f hf => ?_⟩
    have hm : datF f ∈ G2.map datF := by rw [← h]; exact List.mem_map.2 ⟨f, hf, rfl⟩
    obtain ⟨g, hg, e⟩ := List.mem_map.1 hm
    unfold datF at e
    simp only [Prod.mk.injEq] at e
    refine List.any_eq_true.2 ⟨g, hg, ?_⟩
    unfold sameF
    simp only [Bool.and_eq_true, decide_eq_true_eq]
    exact ⟨e.1, e.2.2.symm, e.2.1.symm⟩
def Sm.endB (s1 s2 : DSt) : Bool := (s1.stops == s2.stops) && (s1.after == s2.after) && (s1.dead == s2.dead)
def Sm.sameM (s1 : DSt) (L1 : List (List (BitVec 8) × List (BitVec 8) × Nat)) (s2 : DSt) (L2 : List (List (BitVec 8) × List (BitVec 8) × Nat)) : Bool := (s1.room == s2.room) && endB s1 s2 && decide (L1 = L2)
theorem Sm.copy_M {B : Nat → Prop} {p : Nat} {s : DSt} {L : List (List (BitVec 8) × List (BitVec 8) × Nat)} (w : World) (h : Dk B w p s L) (hl : L.length ≤ 1000000) :
    Calls Try.prog 25 #[.pointer (some ⟨p, 0, none⟩)] w fun e w' => ∃ q, e = .returned (.pointer (some ⟨q, 0, none⟩)) ∧ Dk (fun b => w.heap.size ≤ b) w' q s L ∧ Below w.heap.size w w' := by
  obtain ⟨Mb, base, G, hD, rfl, hp, hM, hG⟩ := h
  rw [List.length_map] at hl
  refine (copy_any w hD hl).mono ?_
  rintro e w' ⟨q, Mq, bq, G2, rfl, h1, h2, h3, h4, h5, h6⟩
  exact ⟨q, rfl, ⟨Mq, bq, G2, h1, h2, h3, h4, fun f hf b e => Nat.le_trans h5 ((h1.row f hf).lt b e).1⟩, h6⟩
set_option maxRecDepth 100000 in
theorem Sm.eq_end (d : Nat) (x1 x2 z1 z2 : Bool) (y1 y2 : Int) (w : World) : (Op.equalIn (d + 3) 32 (.agg #[.bool x1, .int .i64 y1, .bool z1]) (.agg #[.bool x2, .int .i64 y2, .bool z2])).run Try.prog w = .ok (x1 == x2 && y1 == y2 && z1 == z2) w := by
  rw [run_equalIn_agg w (d + 2) 32 _ _ (by kernel_rfl) (by kernel_rfl)]
  simp [go_sem, Op.eqFields]
  by_cases h : y1 = y2 <;> cases x1 <;> cases x2 <;> cases z1 <;> cases z2 <;> simp [h]
set_option maxRecDepth 100000 in
set_option maxHeartbeats 4000000 in
theorem Sm.same_any {p Mb base q Mq bq : Nat} {s1 s2 : DSt} {G1 G2 : List FileM} (w : World) (h1 : DAt w p Mb base s1 G1) (h2 : DAt w q Mq bq s2 G2) (hl1 : G1.length ≤ 1000000) (hl2 : G2.length ≤ 1000000) :
    Calls Try.prog 26 #[.pointer (some ⟨p, 0, none⟩), .pointer (some ⟨q, 0, none⟩)] w fun e w' => e = .returned (.bool (sameM s1 (G1.map datF) s2 (G2.map datF))) ∧ Below w.heap.size w w' := by
  have t1 := there_yes w h1
  have t2 := there_yes w h2
  obtain ⟨D1, o1, m1⟩ := h1.map
  obtain ⟨D2, o2, m2⟩ := h2.map
  have hq := fun W (hb : Below w.heap.size w W) => equalFunc_any W (map_keep o1 (hb.block _ o1.lt)) m1 (map_keep o2 (hb.block _ o2.lt)) m2 h1.sort h2.sort (h1.keep hb).row (h2.keep hb).row (fun f hf => (h1.ok f hf).1) hl1 hl2
  rw [equal_dat h1.sort h2.sort] at hq
  obtain ⟨bb, hbb⟩ : ∃ bb, decide (G1.map datF = G2.map datF) = bb := ⟨_, rfl⟩
  unfold sameM
  rw [hbb] at hq ⊢
  have c0 := cell_of_heap h1.blk 0
  have c1 := cell_of_heap h1.blk 1
  have c2 := cell_of_heap h1.blk 2
  have c3 := cell_of_heap h1.blk 3
  have c5 := cell_of_heap h1.blk 5
  have e0 := cell_of_heap h2.blk 0
  have e1 := cell_of_heap h2.blk 1
  have e2 := cell_of_heap h2.blk 2
  have e3 := cell_of_heap h2.blk 3
  have e5 := cell_of_heap h2.blk 5
  simp only [List.getElem?_toArray, List.getElem?_cons_succ, List.getElem?_cons_zero] at c0 c1 c2 c3 c5 e0 e1 e2 e3 e5
  have hpl := (Array.getElem?_eq_some_iff.1 h1.blk).1
  have hql := (Array.getElem?_eq_some_iff.1 h2.blk).1
  obtain ⟨x1, y1, z1, R1⟩ := s1
  obtain ⟨x2, y2, z2, R2⟩ := s2
  dsimp only at c0 c1 c2 c3 e0 e1 e2 e3
  unfold endB
  dsimp only
  have HQ := Lib.hid hq
  clear h1 h2 o1 o2 m1 m2 hq hbb
  cases hr : (R1 == R2) with
  | false =>
    go_enter Try.func26, Try.ntmps26
    go_upto_region 3 with (first | (go_at_call 38; (with_reducible refine t1.mono ?_); rintro e w1 ⟨rfl, rfl⟩) | (go_at_call 38; (with_reducible refine t2.mono ?_); rintro e w1 ⟨rfl, rfl⟩))
    go_quiet (fail)
    go_wp2
    go_ret
    exact ⟨rfl, (Below.refl _ w).trans ⟨rfl, rfl, rfl, Nat.le_refl _, fun _ _ => rfl⟩⟩
  | true =>
    have heq := fun W => eq_end 9997 x1 x2 z1 z2 y1 y2 W
    cases he : (x1 == x2 && y1 == y2 && z1 == z2) with
    | false =>
      rw [he] at heq
      go_enter Try.func26, Try.ntmps26
      go_upto_region 3 with (first | (go_at_call 38; (with_reducible refine t1.mono ?_); rintro e w1 ⟨rfl, rfl⟩) | (go_at_call 38; (with_reducible refine t2.mono ?_); rintro e w1 ⟨rfl, rfl⟩))
      go_quiet (fail)
      go_wp2
      go_ret
      exact ⟨rfl, (Below.refl _ w).trans ⟨rfl, rfl, rfl, Nat.le_refl _, fun _ _ => rfl⟩⟩
    | true =>
      rw [he] at heq
      go_enter Try.func26, Try.ntmps26
      go_upto_region 3 with (first | (go_at_call 38; (with_reducible refine t1.mono ?_); rintro e w1 ⟨rfl, rfl⟩) | (go_at_call 38; (with_reducible refine t2.mono ?_); rintro e w1 ⟨rfl, rfl⟩))
      go_still_tail 29, (by kernel_rfl)
      change wpList _ _ _ _ _ w.drew
      have hb0 : Below w.heap.size w w.drew := (Below.refl _ w).drew
      have hf := HQ.out _ hb0
      have HB0 := Lib.hid hb0
      go_wp2_with (go_at_call 55; (with_reducible refine hf.mono ?_); rintro e w4 ⟨rfl, hg4⟩)
      go_ret
      exact ⟨by cases bb <;> rfl, HB0.out.grown hg4 HB0.out.size (fun j hj => by cases hj)⟩
theorem Sm.same_M {B1 B2 : Nat → Prop} {p q : Nat} {s1 s2 : DSt} {L1 L2 : List (List (BitVec 8) × List (BitVec 8) × Nat)} (w : World) (h1 : Dk B1 w p s1 L1) (h2 : Dk B2 w q s2 L2) (hl1 : L1.length ≤ 1000000) (hl2 : L2.length ≤ 1000000) :
    Calls Try.prog 26 #[.pointer (some ⟨p, 0, none⟩), .pointer (some ⟨q, 0, none⟩)] w fun e w' => e = .returned (.bool (sameM s1 L1 s2 L2)) ∧ Below w.heap.size w w' := by
  obtain ⟨Mb, base, G, hD, rfl, _⟩ := h1
  obtain ⟨Mb2, base2, G2, hD2, rfl, _⟩ := h2
  rw [List.length_map] at hl1 hl2
  exact same_any w hD hD2 hl1 hl2
theorem Sm.same_self (s : DSt) (L : List (List (BitVec 8) × List (BitVec 8) × Nat)) : sameM s L s L = true := by
  unfold sameM endB
  simp
/-- what holds of a disk's data -/
theorem Sm.Dk.facts {B : Nat → Prop} {W : World} {p : Nat} {s : DSt} {L : List (List (BitVec 8) × List (BitVec 8) × Nat)} (h : Dk B W p s L) : SortL L ∧ ∀ t ∈ L, nameOK t.1 = true ∧ t.2.2 ≤ t.2.1.length := by
  obtain ⟨Mb, base, G, hD, rfl, _⟩ := h
  refine ⟨sort_map hD.sort, fun t ht => ?_⟩
  obtain ⟨f, hf, rfl⟩ := List.mem_map.1 ht
  exact hD.ok f hf
theorem Sm.get_mem {L : List (List (BitVec 8) × List (BitVec 8) × Nat)} (h : SortL L) {t : List (BitVec 8) × List (BitVec 8) × Nat} (ht : t ∈ L) : getL t.1 L = some t := by
  induction L with
  | nil => cases ht
  | cons a r ih =>
    obtain ⟨h1, h2⟩ := List.pairwise_cons.1 h
    unfold getL
    rcases List.mem_cons.1 ht with e | e
    · rw [e, List.find?_cons_of_pos (by simp)]
    · have hne : a.1 ≠ t.1 := fun e2 => by
        have := h1 t e
        rw [e2] at this
        exact List.lt_irrefl _ this
      rw [List.find?_cons_of_neg (by simpa using hne)]
      exact ih h2 e
theorem Sm.tell_mem {L : List (List (BitVec 8) × List (BitVec 8) × Nat)} (h : SortL L) {t : List (BitVec 8) × List (BitVec 8) × Nat} (ht : t ∈ L) (hn : nameOK t.1 = true) : tellM L t.1 = (t.2.1, t.2.2, 0) := by
  unfold tellM
  rw [if_neg (by rw [hn]; decide), get_mem h ht]
theorem Sm.crK_rng (pick : Int) {t : List (BitVec 8) × List (BitVec 8) × Nat} (h : t.2.2 ≤ t.2.1.length) : t.2.2 ≤ crK pick t ∧ crK pick t ≤ t.2.1.length := by
  have h0 := Int.emod_nonneg pick (by omega : (t.2.1.length : Int) - t.2.2 + 1 ≠ 0)
  have h1 := Int.emod_lt_of_pos pick (by omega : 0 < (t.2.1.length : Int) - t.2.2 + 1)
  unfold crK
  omega
theorem Sm.cr_len (picks : List Int) : ∀ (L : List (List (BitVec 8) × List (BitVec 8) × Nat)) (k : Nat), (crM picks k L).length = L.length
  | [], _ => rfl
  | t :: r, k => by
    unfold crM
    rw [List.length_cons, cr_len picks r (k + 1), List.length_cons]
/-- a crash of what a crash left leaves the same -/
theorem Sm.cr_twice (one two : List Int) : ∀ (L : List (List (BitVec 8) × List (BitVec 8) × Nat)) (k : Nat), (∀ t ∈ L, t.2.2 ≤ t.2.1.length) → crM two k (crM one k L) = crM one k L
  | [], _, _ => rfl
  | t :: r, k, h => by
    have ht := crK_rng (one.getD k 0) (h t (List.mem_cons_self ..))
    have hl : (t.2.1.take (crK (one.getD k 0) t)).length = crK (one.getD k 0) t := by rw [List.length_take]; omega
    have hk : crK (two.getD k 0) (t.1, t.2.1.take (crK (one.getD k 0) t), crK (one.getD k 0) t) = crK (one.getD k 0) t := by
      have h0 := crK_rng (two.getD k 0) (t := (t.1, t.2.1.take (crK (one.getD k 0) t), crK (one.getD k 0) t)) (by dsimp only; omega)
      dsimp only at h0
      omega
    rw [crM, crM, hk, cr_twice one two r (k + 1) (fun t ht => h t (List.mem_cons_of_mem _ ht)), List.take_take, Nat.min_self]
theorem Sm.cr_at (picks : List Int) : ∀ (L : List (List (BitVec 8) × List (BitVec 8) × Nat)) (j k : Nat) (t : List (BitVec 8) × List (BitVec 8) × Nat), L[k]? = some t → (crM picks j L)[k]? = some (t.1, t.2.1.take (crK (picks.getD (j + k) 0) t), crK (picks.getD (j + k) 0) t)
  | [], _, k, t, h => by simp at h
  | g :: r, j, 0, t, h => by
    simp only [List.getElem?_cons_zero, Option.some.injEq] at h
    subst h
    unfold crM
    rfl
  | g :: r, j, k + 1, t, h => by
    rw [List.getElem?_cons_succ] at h
    unfold crM
    rw [List.getElem?_cons_succ, cr_at picks r (j + 1) k t h, show j + 1 + k = j + (k + 1) by omega]
end Go.Proofs
