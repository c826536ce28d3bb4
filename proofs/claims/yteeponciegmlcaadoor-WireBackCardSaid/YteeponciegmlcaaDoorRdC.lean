/-
  The contracts of the closures that take is handed.
-/
import Derived.RegionDies
import Derived.Deep.RegionHeld3
import Derived.Deep.DrawnRows
import Derived.Deep.RegionHeldLaw
import Derived.Test.YteeponciegmlcaaDoorRdB
namespace Go.Proofs
open Go.RowKit Go.Shelf Sm
theorem Sm.Moved.but {B : Nat} {w w' : World} (h : Moved B w w') : But (fun b => b = B) w w' := by
  rcases h with rfl | ⟨u, rfl⟩
  · exact But.refl _ _
  · exact (But.refl _ _).set _ _ (.inl rfl)
theorem Sm.Moved.heap {B : Nat} {w w' : World} (h : Moved B w w') {v x y : Value} {t : TypeId} (hb : w.heap[B]? = some (.cells #[v, x, y] t (0, 0))) : ∃ u, w'.heap[B]? = some (.cells #[u, x, y] t (0, 0)) := by
  rcases h with rfl | ⟨u, rfl⟩
  · exact ⟨v, hb⟩
  · exact ⟨u, heap_setCells hb⟩
theorem Sm.cap_le {m : Nat} {most : Int} (h : m ≤ top) : (m : Int) ≤ cap most ↔ (m : Int) ≤ most := by
  unfold cap top at *
  split <;> omega
theorem Sm.cap_hi (most : Int) : cap most ≤ 4611686018427387904 := by
  unfold cap; split <;> omega
theorem Sm.cap_lo {most : Int} (h : 0 ≤ most) : 0 ≤ cap most := by
  unfold cap; split <;> omega
/-- what lies ready for a closure: the reader's variable, its greatest number, its answer's variable -/
structure Sm.Ready (w : World) (B R M V : Nat) (most : Int) (x : Value) : Prop where
  r : w.cell? ⟨R, 0, none⟩ = some (.pointer (some ⟨B, 0, none⟩))
  m : w.cell? ⟨M, 0, none⟩ = some (.int .i64 most)
  v : w.cell? ⟨V, 0, none⟩ = some x
  vf : w.frozen? ⟨V, 0, none⟩ = false
  rB : R ≠ B
  mB : M ≠ B
  vB : V ≠ B
theorem Sm.Moved.cell {B : Nat} {w w' : World} (h : Moved B w w') {p : Addr} (hp : p.block ≠ B) : w'.cell? p = w.cell? p := by
  rcases h with rfl | ⟨u, rfl⟩
  · rfl
  · exact World.cell?_setCell_other w _ p u (fun e => hp (by rw [← e]))
theorem Sm.Moved.frozen {B : Nat} {w w' : World} (h : Moved B w w') {p : Addr} : w'.frozen? p = w.frozen? p := by
  rcases h with rfl | ⟨u, rfl⟩
  · rfl
  · rw [World.frozen?_setCell]
theorem Sm.number_post {l : List (BitVec 8)} {most : Int} {B n c m k : Nat} {e : Ending} {w' : World} (h : NumPost l (cap most) B n c e w') (hg : getN l = .num m k) (hm : (m : Int) ≤ most) : e = .returned (.int .i64 (m : Int)) ∧ ∃ A', RestAt w' B A' (n - k) (c - k) (l.drop k) := by
  unfold NumPost at h
  rw [hg] at h
  simp only at h
  rwa [if_pos ((cap_le (getN_form hg).1).2 hm)] at h
/-- the bytes begin with no number up to that one -/
def Sm.NoNum (l : List (BitVec 8)) (most : Int) : Prop := ∀ m k, getN l = .num m k → ¬ (m : Int) ≤ most
theorem Sm.number_bad {l : List (BitVec 8)} {most : Int} {B n c : Nat} {e : Ending} {w' : World} (h : NumPost l (cap most) B n c e w') (hb : NoNum l most) : ∃ T, (T = 115 ∨ T = 116) ∧ e = .panicked [{ v := .iface T (.agg #[]), recovered := false }] := by
  unfold NumPost at h
  split at h
  · rename_i m k hg
    rw [if_neg (fun hc => hb m k hg ((cap_le (getN_form hg).1).1 hc))] at h
    exact ⟨115, .inl rfl, h⟩
  · exact ⟨116, .inr rfl, h⟩
  · exact ⟨115, .inl rfl, h⟩
theorem Sm.RestAt.drew {w : World} {B n c : Nat} {A : Option Addr} {l : List (BitVec 8)} (h : RestAt w B A n c l) : RestAt w.drew B A n c l := { cell := h.cell, frozen := h.frozen, len := h.len, room := h.room, none_ := h.none_, rd := h.rd }
set_option maxRecDepth 100000 in
set_option maxHeartbeats 4000000 in
theorem Sm.dnum_ok {w : World} {B n c R M V m k : Nat} {A : Option Addr} {l : List (BitVec 8)} {most : Int} {x : Value} (h : RestAt w B A n c l) (hr : Ready w B R M V most x) (h0 : 0 ≤ most) (hg : getN l = .num m k) (hm : (m : Int) ≤ most) :
    Calls Tryd.prog 45 #[.pointer (some ⟨R, 0, none⟩), .pointer (some ⟨M, 0, none⟩), .pointer (some ⟨V, 0, none⟩)] w fun e w' => (∃ v, e = .returned v) ∧ ∃ w1, Moved B w.drew w1 ∧ (∃ A', RestAt w1 B A' (n - k) (c - k) (l.drop k)) ∧ w' = w1.setCell ⟨V, 0, none⟩ (.int .i64 (m : Int)) := by
  have hct := (number_any h.drew (cap most) (cap_lo h0) (cap_hi most)).mono fun e w' ⟨hp, hmv⟩ => And.intro (number_post hp hg hm) (And.intro hmv (And.intro (hmv.cell (p := ⟨V, 0, none⟩) hr.vB) (hmv.frozen (p := ⟨V, 0, none⟩))))
  obtain ⟨r1, r2, r3, r4, r5, r6, r7⟩ := hr
  have r3' : w.drew.cell? ⟨V, 0, none⟩ = some x := r3
  have r4' : w.drew.frozen? ⟨V, 0, none⟩ = false := r4
  go_enter Tryd.func45, Tryd.ntmps45
  go_region_with (first
    | (go_at_call 47; (with_reducible refine (bound_ok most _ h0).mono ?_); rintro e w1 ⟨rfl, rfl⟩)
    | (go_at_call 46; (with_reducible refine hct.mono ?_); rintro e w2 ⟨⟨rfl, A2, hr2⟩, hm2, hv2, hf2⟩; rw [r3'] at hv2; rw [r4'] at hf2))
  all_goals (go_end0; exact ⟨⟨_, rfl⟩, w2, hm2, ⟨A2, hr2⟩, rfl⟩)
set_option maxRecDepth 100000 in
set_option maxHeartbeats 4000000 in
theorem Sm.dnum_bad {w : World} {B n c R M V : Nat} {A : Option Addr} {l : List (BitVec 8)} {most : Int} {x : Value} (h : RestAt w B A n c l) (hr : Ready w B R M V most x) (h0 : 0 ≤ most) (hb : NoNum l most) :
    Calls Tryd.prog 45 #[.pointer (some ⟨R, 0, none⟩), .pointer (some ⟨M, 0, none⟩), .pointer (some ⟨V, 0, none⟩)] w fun e w' => (∃ T, (T = 115 ∨ T = 116) ∧ e = .panicked [{ v := .iface T (.agg #[]), recovered := false }]) ∧ Moved B w.drew w' := by
  have hct := (number_any h.drew (cap most) (cap_lo h0) (cap_hi most)).mono fun e w' ⟨hp, hmv⟩ => And.intro (number_bad hp hb) hmv
  obtain ⟨r1, r2, r3, r4, r5, r6, r7⟩ := hr
  go_enter Tryd.func45, Tryd.ntmps45
  go_region_dies
  all_goals (go_at_call 47; (with_reducible refine (bound_ok most _ h0).mono ?_); rintro e w1 ⟨rfl, rfl⟩; rename_i hK; refine hK _ _ ?_; clear hK)
  all_goals (repeat (first
    | (refine wpAny_ready (rs := [0]) (by decide +kernel) (by simp) (AllReady.cons rfl (fun K hK => ?_) AllReady.nil); go_simp; refine hK _ _ ?_; clear hK K)
    | (refine wpAny_ready (rs := [1]) (by decide +kernel) (by simp) (AllReady.cons rfl (fun K hK => ?_) AllReady.nil); go_simp; refine hK _ _ ?_; clear hK K)
    | (refine wpAny_ready (rs := [2]) (by decide +kernel) (by simp) (AllReady.cons rfl (fun K hK => ?_) AllReady.nil); go_simp; refine hK _ _ ?_; clear hK K)))
  all_goals (refine wpAny_ready (rs := [5]) (by decide +kernel) (by simp) (AllReady.cons rfl (fun K hK => ?_) AllReady.nil); go_simp)
  all_goals (go_at_call 46; (with_reducible refine hct.mono ?_); rintro e w2 ⟨⟨T, hT, rfl⟩, hm2⟩; rcases hT with rfl | rfl; exact ⟨rfl, .inl rfl, hm2⟩; exact ⟨rfl, .inr rfl, hm2⟩)
set_option maxRecDepth 100000 in
set_option maxHeartbeats 4000000 in
theorem Sm.dnum_arg {w : World} {B R M V : Nat} {most : Int} {x : Value} (hr : Ready w B R M V most x) (h0 : most < 0) :
    Calls Tryd.prog 45 #[.pointer (some ⟨R, 0, none⟩), .pointer (some ⟨M, 0, none⟩), .pointer (some ⟨V, 0, none⟩)] w fun e w' => e = .panicked [pArg] ∧ w' = w.drew := by
  obtain ⟨r1, r2, r3, r4, r5, r6, r7⟩ := hr
  go_enter Tryd.func45, Tryd.ntmps45
  go_region_dies
  all_goals (go_at_call 47; (with_reducible refine (bound_neg most _ h0).mono ?_); rintro e w1 ⟨rfl, rfl⟩; exact ⟨rfl, rfl, rfl⟩)
