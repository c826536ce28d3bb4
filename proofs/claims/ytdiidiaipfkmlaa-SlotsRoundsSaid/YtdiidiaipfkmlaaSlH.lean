/-
  slots: Many, Own. Conditions: as each theorem names them.
-/
import Derived.Test.YtdiidiaipfkmlaaSlF
import Derived.Test.YtdiidiaipfkmlaaSlE
namespace Go.Proofs
open Go Go.RowKit Sm Go.Lib
attribute [local go_sem] Oper.semAt_some
/-- why nothing is told of a place's slots between two -/
def Sm.mxV (c p f t : Int) : Int := refM c [!plB c p, decide (f < 0), decide (t < f), decide (4096 < t)] []
theorem Sm.mxV_zero {c p f t : Int} (h : mxV c p f t = 0) : chB c = true ∧ (0 ≤ p ∧ p < c) ∧ 0 ≤ f ∧ f ≤ t ∧ t ≤ 4096 := by
  unfold mxV refM at h
  split at h
  · cases h
  · rename_i h1
    rw [not_or] at h1
    obtain ⟨h1, h2⟩ := h1
    have hc : chB c = true := by simpa using h1
    simp only [List.any_cons, List.any_nil, id, Bool.or_false, Bool.or_eq_true, decide_eq_true_eq, not_or, Bool.not_eq_true', Bool.not_eq_false] at h2
    exact ⟨hc, (plB_iff hc).1 h2.1, by omega, by omega, by omega⟩
theorem Sm.mxV_iff {c p f t : Int} (hc : chB c = true) (hp : 0 ≤ p) (hp2 : p < c) (h0 : 0 ≤ f) (h1 : f ≤ t) (h2 : t ≤ 4096) : mxV c p f t = 0 := by
  unfold mxV refM
  have h3 := (plB_iff hc).2 ⟨hp, hp2⟩
  rw [if_neg, if_neg (by simp)]
  rw [hc, h3]
  simp
  omega
theorem Sm.cells_new4 (w : World) (a b c d : Value) (t1 t2 t3 t4 : TypeId) (w1 : World) (hw1 : (((w.alloc (.cells #[a] t1)).alloc (.cells #[b] t2)).alloc (.cells #[c] t3)).alloc (.cells #[d] t4) = w1) :
    Below w.heap.size w w1 ∧ w1.heap.size = w.heap.size + 4 ∧ w1.cell? ⟨w.heap.size, 0, none⟩ = some a ∧ w1.cell? ⟨w.heap.size + 1, 0, none⟩ = some b ∧ w1.cell? ⟨w.heap.size + 1 + 1, 0, none⟩ = some c ∧ w1.cell? ⟨w.heap.size + 1 + 1 + 1, 0, none⟩ = some d := by
  subst hw1
  refine ⟨(((((Below.refl _ w).alloc (Nat.le_refl _) _).alloc (by simp) _).alloc (by simp; omega) _).alloc (by simp; omega) _), by simp, ?_, ?_, ?_, ?_⟩
  · exact cell_keep ((((Below.refl _ _).alloc (Nat.le_refl _) _).alloc (by simp) _).alloc (by simp) _) (by simp) (box_cell w a t1)
  · have h := box_cell (w.alloc (.cells #[a] t1)) b t2
    simp only [World.size_alloc] at h
    exact cell_keep (((Below.refl _ _).alloc (Nat.le_refl _) _).alloc (by simp) _) (by simp) h
  · have h := box_cell ((w.alloc (.cells #[a] t1)).alloc (.cells #[b] t2)) c t3
    simp only [World.size_alloc] at h
    exact cell_keep ((Below.refl _ _).alloc (Nat.le_refl _) _) (by simp) h
  · have h := box_cell (((w.alloc (.cells #[a] t1)).alloc (.cells #[b] t2)).alloc (.cells #[c] t3)) d t4
    simp only [World.size_alloc] at h
    exact h
set_option maxRecDepth 100000 in
set_option maxHeartbeats 8000000 in
theorem Sm.Many_any (c p f t : Int) (w : World) : Calls Try.prog 25 #[.int .i64 c, .int .i64 p, .int .i64 f, .int .i64 t] w fun e w' => e = .returned (.tuple #[.int .i64 (if mxV c p f t = 0 then maV c p f t else 0), .int .i64 (mxV c p f t)]) ∧ Below w.heap.size w w' := by
  obtain ⟨w1, hw1⟩ : ∃ v, (((w.alloc (.cells #[.int .i64 c] 25)).alloc (.cells #[.int .i64 p] 3)).alloc (.cells #[.int .i64 f] 3)).alloc (.cells #[.int .i64 t] 3) = v := ⟨_, rfl⟩
  obtain ⟨hb1, hs1, c0, c1, c2, c3⟩ := cells_new4 w _ _ _ _ _ _ _ _ w1 hw1
  have HS : Hid (∀ W, Below w1.heap.size w1 W → W.cell? ⟨w.heap.size, 0, none⟩ = some (.int .i64 c) ∧ W.cell? ⟨w.heap.size + 1, 0, none⟩ = some (.int .i64 p) ∧ W.cell? ⟨w.heap.size + 1 + 1, 0, none⟩ = some (.int .i64 f) ∧ W.cell? ⟨w.heap.size + 1 + 1 + 1, 0, none⟩ = some (.int .i64 t)) :=
    Lib.hid fun W hb => ⟨cell_keep hb (by omega) c0, cell_keep hb (by omega) c1, cell_keep hb (by omega) c2, cell_keep hb (by omega) c3⟩
  obtain ⟨x, hx⟩ : ∃ x, mxV c p f t = x := ⟨_, rfl⟩
  obtain ⟨y, hy⟩ : ∃ y, (if x = 0 then maV c p f t else 0) = y := ⟨_, rfl⟩
  have HA : Hid (∀ W, Below w1.heap.size w1 W → Calls Try.prog 29 #[.int .i64 x, .func (.func 42) #[] #[.pointer (some ⟨w.heap.size, 0, none⟩), .pointer (some ⟨w.heap.size + 1, 0, none⟩), .pointer (some ⟨w.heap.size + 1 + 1 + 1, 0, none⟩), .pointer (some ⟨w.heap.size + 1 + 1, 0, none⟩)]] W fun e w' => e = .returned (.tuple #[.int .i64 y, .int .i64 x]) ∧ Below W.heap.size W w') :=
    Lib.hid fun W hb => by
      by_cases hx0 : x = 0
      · have hm := mxV_zero (hx.trans hx0)
        obtain ⟨q0, q1, q2, q3⟩ := HS.out W hb
        rw [← hy, if_pos hx0, hx0]
        exact answer_ok2 42 _ (enters_of Try.func42 (by kernel_rfl) rfl) _ W (f42_any _ _ _ _ c p f t W q0 q1 q3 q2 hm.1 hm.2.1.1 hm.2.1.2 hm.2.2.1 hm.2.2.2.1 hm.2.2.2.2)
      · rw [← hy, if_neg hx0]
        exact (answer_no x _ W hx0).mono fun e w' ⟨h1, h2⟩ => ⟨h1, h2 ▸ Below.refl _ _⟩
  have hxe : refM c [!plB c p, decide (f < 0), decide (t < f), decide (4096 < t)] [] = x := hx
  have HR : Hid (∀ (n k : Nat) (A : Option Addr) W, RowB W A n k [!plB c p, decide (f < 0), decide (t < f), decide (4096 < t)] → Calls Try.prog 31 #[.int .i64 c, .slice A n k] W fun e w' => ∃ a b, e = .returned (.func (.func 47) #[] #[.pointer (some ⟨a, 0, none⟩), .pointer (some ⟨b, 0, none⟩)]) ∧ RefAt w' a b c [!plB c p, decide (f < 0), decide (t < f), decide (4096 < t)] ∧ Below W.heap.size W w') := Lib.hid fun n k A W h => refusal_any c A n k _ W h
  have HP : Hid (∀ W, Calls Try.prog 37 #[.int .i64 c, .int .i64 p] W fun e w' => e = .returned (.bool (plB c p)) ∧ W = w') := Lib.hid fun W => isPlace c p W
  have HT : Hid (∀ (a b : Nat) W, RefAt W a b c [!plB c p, decide (f < 0), decide (t < f), decide (4096 < t)] → Calls Try.prog 47 #[.slice none 0 0, .pointer (some ⟨a, 0, none⟩), .pointer (some ⟨b, 0, none⟩)] W fun e w' => e = .returned (.int .i64 x) ∧ W = w') :=
    Lib.hid fun a b W h1 => by rw [← hxe]; exact told_any c _ _ a b 0 0 none W h1 (RowB.nil W)
  have HB1 := Lib.hid hb1
  obtain ⟨m1, hm1⟩ : ∃ m, plB c p = m := ⟨_, rfl⟩
  obtain ⟨m2, hm2⟩ : ∃ m, decide (f < 0) = m := ⟨_, rfl⟩
  obtain ⟨m3, hm3⟩ : ∃ m, decide (t < f) = m := ⟨_, rfl⟩
  obtain ⟨m4, hm4⟩ : ∃ m, decide (4096 < t) = m := ⟨_, rfl⟩
  rw [hx, hy]
  rw [hm1, hm2, hm3, hm4] at HR HT
  rw [hm1] at HP
  have q0 := HS.out w1 (Below.refl _ _)
  clear hx hy hm1 c0 c1 c2 c3 hb1 hxe hs1
  go_enter Try.func25, Try.ntmps25
  go_upto_region 1 with fail
  clear hw1
  go_region_held_law (fun W => W.cell? ⟨w.heap.size, 0, none⟩ = some (.int .i64 c) ∧ W.cell? ⟨w.heap.size + 1, 0, none⟩ = some (.int .i64 p) ∧ W.cell? ⟨w.heap.size + 1 + 1, 0, none⟩ = some (.int .i64 f) ∧ W.cell? ⟨w.heap.size + 1 + 1 + 1, 0, none⟩ = some (.int .i64 t))
    (first | exact q0 | (refine HS.out _ ?_; repeat' (first | exact HB2.out | exact Below.refl _ _ | refine Below.drew ?_ | refine Below.alloc ?_ ?_ _ | (simp; done) | (simp; omega) | omega)))
    (first
      | (go_at_call 37; refine (HP.out _).mono ?_; rintro e w' ⟨rfl, rfl⟩)
      | (go_at_call 31; refine (HR.out _ _ _ _ (row_new w1.drew [!m1, m2, m3, m4] 4 (by simp))).mono ?_; rintro e w2 ⟨a, b, rfl, hr, hb2⟩; have HB2 : Hid (Below w1.heap.size w1 w2) := Lib.hid (((Below.refl _ w1).drew.alloc (Nat.le_refl _) _).trans (hb2.mono (by simp))); have hz := HB2.out.size)
      | (go_at_call 47; refine (HT.out _ _ _ hr).mono ?_; rintro e w' ⟨rfl, rfl⟩))
  all_goals
    clear hb2 hr
    go_wp2_with (go_at_call 29; refine (HA.out _ HB2.out).mono ?_; rintro e w3 ⟨rfl, hb3⟩)
    go_ret2
    exact ⟨rfl, HB1.out.trans ((HB2.out.trans (hb3.mono hz)).mono HB1.out.size)⟩
/-- what goes over a place's slots, in memory -/
structure Sm.OwnAt (w : World) (bm bc bp bf : Nat) (m c p f : Int) : Prop where
  lt : bm < w.heap.size ∧ bc < w.heap.size ∧ bp < w.heap.size ∧ bf < w.heap.size
  cm : w.cell? ⟨bm, 0, none⟩ = some (.int .i64 m)
  cc : w.cell? ⟨bc, 0, none⟩ = some (.int .i64 c)
  cp : w.cell? ⟨bp, 0, none⟩ = some (.int .i64 p)
  cf : w.cell? ⟨bf, 0, none⟩ = some (.int .i64 f)
theorem Sm.OwnAt.keep {w w' : World} {bm bc bp bf : Nat} {m c p f : Int} (h : OwnAt w bm bc bp bf m c p f) (hb : Below w.heap.size w w') : OwnAt w' bm bc bp bf m c p f :=
  ⟨⟨Nat.lt_of_lt_of_le h.lt.1 hb.size, Nat.lt_of_lt_of_le h.lt.2.1 hb.size, Nat.lt_of_lt_of_le h.lt.2.2.1 hb.size, Nat.lt_of_lt_of_le h.lt.2.2.2 hb.size⟩,
    cell_keep hb h.lt.1 h.cm, cell_keep hb h.lt.2.1 h.cc, cell_keep hb h.lt.2.2.1 h.cp, cell_keep hb h.lt.2.2.2 h.cf⟩
def Sm.ownF (bm bc bp bf : Nat) : Value := .func (.func 44) #[] #[.pointer (some ⟨bm, 0, none⟩), .pointer (some ⟨bc, 0, none⟩), .pointer (some ⟨bp, 0, none⟩), .pointer (some ⟨bf, 0, none⟩)]
/-- how many slots are gone over -/
def Sm.manyV (c p f t : Int) : Int := if mxV c p f t = 0 then maV c p f t else 0
theorem Sm.cells_new3 (w : World) (a b c : Value) (t1 t2 t3 : TypeId) (w1 : World) (hw1 : ((w.alloc (.cells #[a] t1)).alloc (.cells #[b] t2)).alloc (.cells #[c] t3) = w1) :
    Below w.heap.size w w1 ∧ w1.heap.size = w.heap.size + 3 ∧ w1.cell? ⟨w.heap.size, 0, none⟩ = some a ∧ w1.cell? ⟨w.heap.size + 1, 0, none⟩ = some b ∧ w1.cell? ⟨w.heap.size + 1 + 1, 0, none⟩ = some c := by
  subst hw1
  refine ⟨((((Below.refl _ w).alloc (Nat.le_refl _) _).alloc (by simp) _).alloc (by simp; omega) _), by simp, ?_, ?_, ?_⟩
  · exact cell_keep (((Below.refl _ _).alloc (Nat.le_refl _) _).alloc (by simp) _) (by simp) (box_cell w a t1)
  · have h := box_cell (w.alloc (.cells #[a] t1)) b t2
    simp only [World.size_alloc] at h
    exact cell_keep ((Below.refl _ _).alloc (Nat.le_refl _) _) (by simp) h
  · have h := box_cell ((w.alloc (.cells #[a] t1)).alloc (.cells #[b] t2)) c t3
    simp only [World.size_alloc] at h
    exact h
set_option maxRecDepth 100000 in
theorem Sm.Own_any (c p f t : Int) (w : World) : Calls Try.prog 26 #[.int .i64 c, .int .i64 p, .int .i64 f, .int .i64 t] w fun e w' => ∃ bm bc bp bf, e = .returned (ownF bm bc bp bf) ∧ OwnAt w' bm bc bp bf (manyV c p f t) c p f ∧ w.heap.size ≤ bm ∧ w.heap.size ≤ bc ∧ w.heap.size ≤ bp ∧ w.heap.size ≤ bf ∧ Below w.heap.size w w' := by
  obtain ⟨w1, hw1⟩ : ∃ v, ((w.alloc (.cells #[.int .i64 c] 25)).alloc (.cells #[.int .i64 p] 3)).alloc (.cells #[.int .i64 f] 3) = v := ⟨_, rfl⟩
  obtain ⟨hb1, hs1, c0, c1, c2⟩ := cells_new3 w _ _ _ _ _ _ w1 hw1
  have hM : ∀ W, Calls Try.prog 25 #[.int .i64 c, .int .i64 p, .int .i64 f, .int .i64 t] W fun e w' => e = .returned (.tuple #[.int .i64 (manyV c p f t), .int .i64 (mxV c p f t)]) ∧ Below W.heap.size W w' := fun W => Many_any c p f t W
  obtain ⟨m, hm⟩ : ∃ m, manyV c p f t = m := ⟨_, rfl⟩
  rw [hm] at hM ⊢
  have HB1 := Lib.hid hb1
  have HM := Lib.hid hM
  have HS := Lib.hid hs1
  clear hb1 hM hm hs1
  go_enter Try.func26, Try.ntmps26
  go_wp2_with (go_at_call 25; refine (HM.out _).mono ?_; rintro e w2 ⟨rfl, hb2⟩)
  have hz := hb2.size
  have hs := HS.out
  have hb3 : Below w2.heap.size w2 (w2.alloc (.cells #[.int .i64 m] 3)) := (Below.refl _ _).alloc (Nat.le_refl _) _
  have hk : Below w1.heap.size w1 (w2.alloc (.cells #[.int .i64 m] 3)) := hb2.trans (hb3.mono hz)
  go_ret
  refine ⟨_, _, _, _, rfl, ⟨⟨by simp, by simp; omega, by simp; omega, by simp; omega⟩, box_cell w2 _ 3, cell_keep hk (by omega) c0, cell_keep hk (by omega) c1, cell_keep hk (by omega) c2⟩, by omega, by omega, by omega, by omega, HB1.out.trans (hk.mono HB1.out.size)⟩
end Go.Proofs
