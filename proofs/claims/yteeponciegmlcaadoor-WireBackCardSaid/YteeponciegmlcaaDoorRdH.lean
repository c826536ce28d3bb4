/-
  The contracts of a reader's truths and of its end, of Read, and of none.
-/
import Derived.Test.YteeponciegmlcaaDoorRdG
namespace Go.Proofs
open Go.RowKit Go.Shelf Sm
theorem Sm.cell_of_heap {w : World} {B : Nat} {cs : Array Value} {t : TypeId} {fr : Nat × Nat} (h : w.heap[B]? = some (.cells cs t fr)) (i : Nat) : w.cell? ⟨B, i, none⟩ = cs[i]? := by simp [World.cell?, h]
theorem Sm.frozen_of_heap {w : World} {B : Nat} {cs : Array Value} {t : TypeId} (h : w.heap[B]? = some (.cells cs t (0, 0))) (i : Nat) : w.frozen? ⟨B, i, none⟩ = false := by simp [World.frozen?, h]
theorem Sm.cap_one : cap 1 = 1 := rfl
theorem Sm.eq_one (m : Nat) : ((m : Int) == 1) = decide (m = 1) := by
  rw [Bool.eq_iff_iff]
  simp
  omega
set_option maxRecDepth 100000 in
set_option maxHeartbeats 4000000 in
theorem Sm.dtruth_ok {w : World} {B n c R V m k : Nat} {A : Option Addr} {l : List (BitVec 8)} {x : Value} (h : RestAt w B A n c l) (hr : w.cell? ⟨R, 0, none⟩ = some (.pointer (some ⟨B, 0, none⟩))) (hv : w.cell? ⟨V, 0, none⟩ = some x) (hf : w.frozen? ⟨V, 0, none⟩ = false) (hVB : V ≠ B) (hg : getN l = .num m k) (hm : (m : Int) ≤ 1) :
    Calls Tryd.prog 56 #[.pointer (some ⟨R, 0, none⟩), .pointer (some ⟨V, 0, none⟩)] w fun e w' => (∃ v, e = .returned v) ∧ ∃ w1, Moved B w w1 ∧ (∃ A', RestAt w1 B A' (n - k) (c - k) (l.drop k)) ∧ w' = w1.setCell ⟨V, 0, none⟩ (.bool (decide (m = 1))) := by
  have hct := (number_any h 1 (by omega) (by omega)).mono fun e w' ⟨hp, hmv⟩ => And.intro (number_post (most := 1) hp hg hm) (And.intro hmv (And.intro ((hmv.cell (p := ⟨V, 0, none⟩) hVB).trans hv) ((hmv.frozen (p := ⟨V, 0, none⟩)).trans hf)))
  have he := eq_one m
  go_enter Tryd.func56, Tryd.ntmps56
  go_wp2_with (go_at_call 46; (with_reducible refine hct.mono ?_); rintro e w2 ⟨⟨rfl, A2, hr2⟩, hm2, hv2, hf2⟩)
  go_end0
  exact ⟨⟨_, rfl⟩, w2, hm2, ⟨A2, hr2⟩, rfl⟩
set_option maxRecDepth 100000 in
set_option maxHeartbeats 4000000 in
theorem Sm.dtruth_bad {w : World} {B n c R : Nat} {A : Option Addr} {l : List (BitVec 8)} {u : Value} (h : RestAt w B A n c l) (hr : w.cell? ⟨R, 0, none⟩ = some (.pointer (some ⟨B, 0, none⟩))) (hb : NoNum l 1) :
    Calls Tryd.prog 56 #[.pointer (some ⟨R, 0, none⟩), u] w fun e w' => (∃ T, (T = 115 ∨ T = 116) ∧ e = .panicked [{ v := .iface T (.agg #[]), recovered := false }]) ∧ Moved B w w' := by
  have hct := (number_any h 1 (by omega) (by omega)).mono fun e w' ⟨hp, hmv⟩ => And.intro (number_bad (most := 1) hp hb) hmv
  go_enter Tryd.func56, Tryd.ntmps56
  go_wp2_with (go_at_call 46; (with_reducible refine hct.mono ?_); rintro e w2 ⟨⟨T, hT, rfl⟩, hm2⟩)
  exact ⟨rfl, ⟨T, hT, rfl⟩, hm2⟩
set_option maxRecDepth 100000 in
set_option maxHeartbeats 4000000 in
theorem Sm.dend_ok {w : World} {B c R : Nat} {A : Option Addr} (h : RestAt w B A 0 c []) (hr : w.cell? ⟨R, 0, none⟩ = some (.pointer (some ⟨B, 0, none⟩))) :
    Calls Tryd.prog 57 #[.pointer (some ⟨R, 0, none⟩)] w fun e w' => (∃ v, e = .returned v) ∧ w = w' := by
  go_enter Tryd.func57, Tryd.ntmps57
  go_wp2_with (go_at_call 58; (with_reducible refine (end_ok h).mono ?_); rintro e w2 ⟨⟨v, rfl⟩, rfl⟩)
  go_end0
  exact ⟨⟨_, rfl⟩, rfl⟩
set_option maxRecDepth 100000 in
set_option maxHeartbeats 4000000 in
theorem Sm.dend_left {w : World} {B n c R : Nat} {A : Option Addr} {l : List (BitVec 8)} (h : RestAt w B A n c l) (hn : ¬ n = 0) (hr : w.cell? ⟨R, 0, none⟩ = some (.pointer (some ⟨B, 0, none⟩))) :
    Calls Tryd.prog 57 #[.pointer (some ⟨R, 0, none⟩)] w fun e w' => e = .panicked [pWrong] ∧ w = w' := by
  go_enter Tryd.func57, Tryd.ntmps57
  go_wp2_with (go_at_call 58; (with_reducible refine (end_left h hn).mono ?_); rintro e w2 ⟨rfl, rfl⟩)
  exact ⟨rfl, rfl, rfl⟩
/-- the world in which Truth calls take -/
def Sm.truW (w : World) (v : Value) : World := (w.alloc (.cells #[v] 42)).alloc (.cells #[.bool false] 4)
section
variable {w : World} {v : Value}
theorem Sm.truW_size : (truW w v).heap.size = w.heap.size + 1 + 1 := by simp [truW]
theorem Sm.truW_below : Below w.heap.size w (truW w v) := ((Below.refl _ w).alloc (Nat.le_refl _) _).alloc (by simp) _
theorem Sm.truW_r : (truW w v).cell? ⟨w.heap.size, 0, none⟩ = some v := by
  unfold truW
  rw [World.cell?_alloc_lt _ _ _ (by simp)]
  simp [World.cell?_alloc_new]
theorem Sm.truW_v : (truW w v).cell? ⟨w.heap.size + 1, 0, none⟩ = some (.bool false) := by
  unfold truW
  simp
theorem Sm.truW_f : (truW w v).frozen? ⟨w.heap.size + 1, 0, none⟩ = false := by
  unfold truW
  simp [go_sem]
end
set_option maxRecDepth 100000 in
set_option maxHeartbeats 4000000 in
/-- Truth, by what take answers -/
theorem Sm.Truth_by {w : World} {B : Nat} {v : Value} (n : Bool) (no : Int) (Q : World → Prop)
    (ht : Calls Tryd.prog 44 #[v, .func (.func 56) #[] #[.pointer (some ⟨w.heap.size, 0, none⟩), .pointer (some ⟨w.heap.size + 1, 0, none⟩)]] ((w.alloc (.cells #[v] 42)).alloc (.cells #[.bool false] 4)) fun e w' =>
      e = .returned (.int .i64 no) ∧ Q w' ∧ w'.cell? ⟨w.heap.size + 1, 0, none⟩ = some (.bool n) ∧ w'.frozen? ⟨w.heap.size + 1, 0, none⟩ = false)
    (hp : v = .pointer none ∨ v = .pointer (some ⟨B, 0, none⟩)) :
    Calls Tryd.prog 27 #[v] w fun e w' => e = .returned (.tuple #[.bool n, .int .i64 no]) ∧ ∃ w2, Q w2 ∧ w' = w2.setCell ⟨w.heap.size + 1, 0, none⟩ (.bool n) := by
  have hmf : ∀ (fn : Fn) (first cap : Array Value) (w : World), (Instr.makeFunc fn first cap).run Tryd.prog w = .ok (.func fn first cap) w := fun _ _ _ _ => rfl
  rcases hp with rfl | rfl
  · go_enter Tryd.func27, Tryd.ntmps27
    go_wp2_with (go_at_call 44; (with_reducible refine ht.mono ?_); rintro e w2 ⟨rfl, hQ, hc, hf⟩)
    have hs := World.cell?_setCell_same w2 ⟨w.heap.size + 1, 0, none⟩ (.bool n) hc
    exact bodyPost_ret (v := .tuple #[.bool n, .int .i64 no]) (by simp [results, Tryd.results27, go_sem, hs]) rfl ⟨rfl, w2, hQ, rfl⟩
  · go_enter Tryd.func27, Tryd.ntmps27
    go_wp2_with (go_at_call 44; (with_reducible refine ht.mono ?_); rintro e w2 ⟨rfl, hQ, hc, hf⟩)
    have hs := World.cell?_setCell_same w2 ⟨w.heap.size + 1, 0, none⟩ (.bool n) hc
    exact bodyPost_ret (v := .tuple #[.bool n, .int .i64 no]) (by simp [results, Tryd.results27, go_sem, hs]) rfl ⟨rfl, w2, hQ, rfl⟩
set_option maxRecDepth 100000 in
set_option maxHeartbeats 4000000 in
/-- End, by what take answers -/
theorem Sm.End_by {w : World} {B : Nat} {v : Value} (no : Int) (Q : World → Prop)
    (ht : Calls Tryd.prog 44 #[v, .func (.func 57) #[] #[.pointer (some ⟨w.heap.size, 0, none⟩)]] (w.alloc (.cells #[v] 42)) fun e w' => e = .returned (.int .i64 no) ∧ Q w')
    (hp : v = .pointer none ∨ v = .pointer (some ⟨B, 0, none⟩)) :
    Calls Tryd.prog 28 #[v] w fun e w' => e = .returned (.int .i64 no) ∧ Q w' := by
  have hmf : ∀ (fn : Fn) (first cap : Array Value) (w : World), (Instr.makeFunc fn first cap).run Tryd.prog w = .ok (.func fn first cap) w := fun _ _ _ _ => rfl
  rcases hp with rfl | rfl
  · go_enter Tryd.func28, Tryd.ntmps28
    go_wp2_with (go_at_call 44; (with_reducible refine ht.mono ?_); rintro e w2 ⟨rfl, hQ⟩)
    go_ret
    exact ⟨rfl, hQ⟩
  · go_enter Tryd.func28, Tryd.ntmps28
    go_wp2_with (go_at_call 44; (with_reducible refine ht.mono ?_); rintro e w2 ⟨rfl, hQ⟩)
    go_ret
    exact ⟨rfl, hQ⟩
set_option maxRecDepth 100000 in
set_option maxHeartbeats 4000000 in
theorem Sm.Truth_any {w : World} {B : Nat} {l : List (BitVec 8)} {e : Int} (h : Rdr w B l e) :
    Calls Tryd.prog 27 #[.pointer (some ⟨B, 0, none⟩)] w fun x w' => x = .returned (.tuple #[.bool (truthS l e).2.2.1, .int .i64 (truthS l e).2.2.2]) ∧ Rdr w' B (truthS l e).1 (truthS l e).2.1 ∧ But (fun b => b = B) w w' := by
  have hB := h.lt
  have hb := @truW_below w (.pointer (some ⟨B, 0, none⟩))
  have hv := @truW_v w (.pointer (some ⟨B, 0, none⟩))
  have hf := @truW_f w (.pointer (some ⟨B, 0, none⟩))
  have hs := @truW_size w (.pointer (some ⟨B, 0, none⟩))
  have hrr := @truW_r w (.pointer (some ⟨B, 0, none⟩))
  rcases h with ⟨rfl, h⟩ | ⟨rfl, rfl, h⟩
  · have ha := rdAt_below h hb
    obtain ⟨A, n, c, h1, h2⟩ := rdAt_took ha
    have ht := tookW_but (truW w (.pointer (some ⟨B, 0, none⟩))) B (fun _ => False)
    have tr := (ht.cell (p := ⟨w.heap.size, 0, none⟩) (by rw [hs]; simp; omega) id).trans hrr
    have tv := (ht.cell (p := ⟨w.heap.size + 1, 0, none⟩) (by rw [hs]; simp) id).trans hv
    have tf := (ht.frozen (p := ⟨w.heap.size + 1, 0, none⟩) (by rw [hs]; simp) id).trans hf
    rcases num_ways l 1 with ⟨m, k, hg, hm⟩ | hbad
    · rw [truthS_ok hg hm]
      refine (Truth_by (B := B) (decide (m = 1)) 0 (fun w2 => DeedOk (truW w (.pointer (some ⟨B, 0, none⟩))) w2 B (w.heap.size + 1) (l.drop k) (.bool (decide (m = 1)))) ((took_ok (V := w.heap.size + 1) (l' := l.drop k) (y := .bool (decide (m = 1))) enters56 ha (by rw [hs]; omega) ((dtruth_ok h2 tr tv tf (by omega) hg hm).mono ?_)).mono ?_) (.inr rfl)).mono ?_
      · rintro e w' ⟨hv, w1, hm1, ⟨A', hr1⟩, rfl⟩
        exact ⟨hv, DeedOk.of h1 (by omega) tv tf hm1 hr1⟩
      · rintro x w2 ⟨rfl, hk⟩
        exact ⟨rfl, hk, hk.cell, hk.frozen⟩
      · rintro x w' ⟨rfl, w2, hk, rfl⟩
        exact ⟨rfl, hk.fin hb (by omega) hB _⟩
    · rw [truthS_bad hbad]
      refine (Truth_by (B := B) false 120 (fun w2 => RdBad w2 B ∧ But (fun b => b = B) (truW w (.pointer (some ⟨B, 0, none⟩))) w2) ((took_bad enters56 ha ((dtruth_bad h2 tr hbad).mono ?_)).mono ?_) (.inr rfl)).mono ?_
      · rintro e w' ⟨hv, hm1⟩
        exact ⟨hv, hm1.heap h1, hm1.but⟩
      · rintro x w2 ⟨rfl, hk1, hk⟩
        exact ⟨rfl, ⟨hk1, hk⟩, (hk.cell (p := ⟨w.heap.size + 1, 0, none⟩) (by rw [hs]; simp) (by simp; omega)).trans hv, (hk.frozen (p := ⟨w.heap.size + 1, 0, none⟩) (by rw [hs]; simp) (by simp; omega)).trans hf⟩
      · rintro x w' ⟨rfl, w2, ⟨hk1, hk⟩, rfl⟩
        exact ⟨rfl, hk1.fin hb (by omega) hB hk _⟩
  · have e1 : truthS [] 120 = ([], 120, false, 120) := by unfold truthS; rw [if_pos (by omega)]
    rw [e1]
    have ha : RdBad (truW w (.pointer (some ⟨B, 0, none⟩))) B := by
      obtain ⟨u, hu⟩ := h
      exact ⟨u, (hb.block B hB).trans hu⟩
    obtain ⟨u, hu⟩ := ha
    refine (Truth_by (B := B) false 120 (fun w2 => Below (truW w (.pointer (some ⟨B, 0, none⟩))).heap.size (truW w (.pointer (some ⟨B, 0, none⟩))) w2) ((take_fault B u 120 (by omega) _ hu _).mono ?_) (.inr rfl)).mono ?_
    · rintro x w2 ⟨rfl, hk⟩
      exact ⟨rfl, hk, (hk.cell (p := ⟨w.heap.size + 1, 0, none⟩) (by rw [hs]; simp)).trans hv, (hk.frozen (p := ⟨w.heap.size + 1, 0, none⟩) (by rw [hs]; simp)).trans hf⟩
    · rintro x w' ⟨rfl, w2, hk, rfl⟩
      exact ⟨rfl, Rdr.same (.inr ⟨rfl, rfl, h⟩) hb (by omega) hk _⟩
set_option maxRecDepth 100000 in
set_option maxHeartbeats 4000000 in
theorem Sm.End_any {w : World} {B : Nat} {l : List (BitVec 8)} {e : Int} (h : Rdr w B l e) :
    Calls Tryd.prog 28 #[.pointer (some ⟨B, 0, none⟩)] w fun x w' => x = .returned (.int .i64 (endS l e).2.2) ∧ Rdr w' B (endS l e).1 (endS l e).2.1 ∧ But (fun b => b = B) w w' := by
  have hB := h.lt
  have hb : Below w.heap.size w (w.alloc (.cells #[.pointer (some ⟨B, 0, none⟩)] 42)) := (Below.refl _ w).alloc (Nat.le_refl _) _
  have hs : (w.alloc (.cells #[.pointer (some ⟨B, 0, none⟩)] 42)).heap.size = w.heap.size + 1 := by simp
  have hrr : (w.alloc (.cells #[.pointer (some ⟨B, 0, none⟩)] 42)).cell? ⟨w.heap.size, 0, none⟩ = some (.pointer (some ⟨B, 0, none⟩)) := by simp
  have hbb : But (fun b => b = B) w (w.alloc (.cells #[.pointer (some ⟨B, 0, none⟩)] 42)) := But.of_all hb _
  rcases h with ⟨rfl, h⟩ | ⟨rfl, rfl, h⟩
  · have ha := rdAt_below h hb
    obtain ⟨A, n, c, h1, h2⟩ := rdAt_took ha
    have ht := tookW_but (w.alloc (.cells #[.pointer (some ⟨B, 0, none⟩)] 42)) B (fun _ => False)
    have tr := (ht.cell (p := ⟨w.heap.size, 0, none⟩) (by rw [hs]; simp) id).trans hrr
    by_cases hl : l = []
    · subst hl
      have e1 : endS [] 0 = ([], 0, 0) := by unfold endS; rw [if_neg (by simp), if_pos rfl]
      rw [e1]
      obtain rfl : n = 0 := by have := h2.len; simpa using this.symm
      refine (End_by (B := B) 0 (fun w' => Rdr w' B [] 0 ∧ But (fun b => b = B) w w') ((take_ok 57 _ enters57 B _ _ _ _ (fun w' => w' = tookW (w.alloc (.cells #[.pointer (some ⟨B, 0, none⟩)] 42)) B) (by obtain ⟨A', n', c', h3, h4⟩ := ha; exact ((tookW_but _ B (fun _ => False)).block B (by omega) id).symm.trans h1) ((dend_ok h2 tr).mono ?_)).mono ?_) (.inr rfl))
      · rintro e w' ⟨hv, rfl⟩
        exact ⟨hv, rfl, tookW_e _ B, tookW_f _ B _ (.inr rfl)⟩
      · rintro e w' ⟨rfl, w2, rfl, rfl⟩
        have hbt := (hbb.trans (tookW_but _ B (fun b => b = B)) (fun _ _ e => e)).set ⟨(w.alloc (.cells #[.pointer (some ⟨B, 0, none⟩)] 42)).heap.size + 1, 0, none⟩ (.int .i64 0) (.inr (by simp; omega))
        refine ⟨rfl, ?_, hbt⟩
        exact (Rdr.below (.inl ⟨rfl, h⟩) ((hb.trans ((tookW_but _ B (fun _ => False)).to_below (n := w.heap.size) (by simp) (fun _ h => h.elim))).setCell (p := ⟨(w.alloc (.cells #[.pointer (some ⟨B, 0, none⟩)] 42)).heap.size + 1, 0, none⟩) (by simp; omega) _))
    · have e1 : endS l 0 = ([], 120, 120) := by unfold endS; rw [if_neg (by simp), if_neg hl]
      rw [e1]
      have hn : ¬ n = 0 := fun e => hl (List.eq_nil_of_length_eq_zero (by rw [h2.len]; exact e))
      refine (End_by (B := B) 120 (fun w' => Rdr w' B [] 120 ∧ But (fun b => b = B) w w') ((took_bad enters57 ha ((dend_left h2 hn tr).mono ?_)).mono ?_) (.inr rfl))
      · rintro e w' ⟨hv, rfl⟩
        exact ⟨⟨115, .inl rfl, hv⟩, ⟨_, h1⟩, But.refl _ _⟩
      · rintro x w2 ⟨rfl, ⟨u, hu⟩, hk⟩
        exact ⟨rfl, .inr ⟨rfl, rfl, u, hu⟩, hbb.trans hk (fun _ _ e => e)⟩
  · have e1 : endS [] 120 = ([], 120, 120) := by unfold endS; rw [if_pos (by omega)]
    rw [e1]
    have ha : RdBad (w.alloc (.cells #[.pointer (some ⟨B, 0, none⟩)] 42)) B := by
      obtain ⟨u, hu⟩ := h
      exact ⟨u, (hb.block B hB).trans hu⟩
    obtain ⟨u, hu⟩ := ha
    refine (End_by (B := B) 120 (fun w' => Rdr w' B [] 120 ∧ But (fun b => b = B) w w') ((take_fault B u 120 (by omega) _ hu _).mono ?_) (.inr rfl))
    rintro x w2 ⟨rfl, hk⟩
    have h3 := hb.trans (hk.mono (by simp))
    exact ⟨rfl, Rdr.below (.inr ⟨rfl, rfl, h⟩) h3, But.of_all h3 _⟩
set_option maxRecDepth 100000 in
set_option maxHeartbeats 2000000 in
theorem Sm.Read_any (l : List (BitVec 8)) (n c N : Nat) (A : Option Addr) (w : World) (hn : Hid (l.length = n)) (hm : n ≤ 1000000) (hN : N ≤ w.heap.size) (hr : Rd w N A l) :
    Calls Tryd.prog 21 #[.slice A n c] w fun e w' => ∃ B, e = .returned (.pointer (some ⟨B, 0, none⟩)) ∧ Rdr w' B l 0 ∧ w.heap.size ≤ B ∧ Below w.heap.size w w' := by
  go_enter Tryd.func21, Tryd.ntmps21
  go_wp2_with (go_at_call 40; (with_reducible refine (Clone_any l n c N A _ hn hm hN hr).mono ?_); rintro e w1 ⟨v, rfl, hown, hb⟩; obtain ⟨A1, c1, rfl⟩ := own_slice hown)
  go_ret
  have hx : (w1.alloc (.cells #[.slice A1 n c1, .int .i64 0, .bool true] 59)).heap[w1.heap.size]? = some (.cells #[.slice A1 n c1, .int .i64 0, .bool true] 59 (0, 0)) := World.alloc_heap_new w1 _
  refine ⟨w1.heap.size, rfl, .inl ⟨rfl, A1, n, c1, hx, ?_⟩, hb.size, hb.alloc hb.size _⟩
  have hform : n ≤ c1 ∧ (A1 = none → c1 = 0) := by
    rcases hown.2 with ⟨e1, _⟩ | ⟨g, cap, cur, e1, _, _, h3, _⟩
    · injection e1 with e2 e3 e4
      subst e2 e3 e4
      exact ⟨Nat.le_refl _, fun _ => rfl⟩
    · injection e1 with e2 e3 e4
      subst e2 e4
      exact ⟨h3, fun e => by cases e⟩
  refine { cell := ?_, frozen := ?_, len := hn.out, room := hform.1, none_ := hform.2, rd := ?_ }
  · exact cell_of_heap hx 0
  · exact frozen_of_heap hx 0
  · exact (Rd.of_own hown (Nat.le_refl _)).alloc (Nat.le_refl _) _
