/-
  The contracts of a reader's calls, at every reader, none too.
-/
import Derived.Test.YteeponciegmlcaaDoorRdF
namespace Go.Proofs
open Go.RowKit Go.Shelf Sm
theorem Sm.DeedOk.fin {w W w2 : World} {B V : Nat} {l : List (BitVec 8)} {y : Value} (hb : Below w.heap.size w W) (hV : w.heap.size ≤ V) (hB : B < w.heap.size) (h : DeedOk W w2 B V l y) (u : Value) : Rdr (w2.setCell ⟨V, 0, none⟩ u) B l 0 ∧ But (fun b => b = B) w (w2.setCell ⟨V, 0, none⟩ u) := by
  have h1 : But (fun b => b = B) w w2 := (But.of_all hb (fun b => b = B)).trans h.but fun b hb' e => by
    rcases e with e | e
    · exact e
    · omega
  refine ⟨.inl ⟨rfl, h.rd.but ((But.refl (fun b => b = V) w2).set ⟨V, 0, none⟩ u (.inl rfl)) (fun b hb' => by omega)⟩, h1.set _ _ (.inr hV)⟩
theorem Sm.RdBad.fin {w W w2 : World} {B V : Nat} (hb : Below w.heap.size w W) (hV : w.heap.size ≤ V) (hB : B < w.heap.size) (h : RdBad w2 B) (hbut : But (fun b => b = B) W w2) (u : Value) : Rdr (w2.setCell ⟨V, 0, none⟩ u) B [] 120 ∧ But (fun b => b = B) w (w2.setCell ⟨V, 0, none⟩ u) := by
  have h1 : But (fun b => b = B) w w2 := (But.of_all hb (fun b => b = B)).trans hbut fun b hb' e => e
  obtain ⟨x, hx⟩ := h
  exact ⟨.inr ⟨rfl, rfl, x, (Below.heap_setCell w2 ⟨V, 0, none⟩ u B (by simp; omega)).trans hx⟩, h1.set _ _ (.inr hV)⟩
theorem Sm.Rdr.same {w W w2 : World} {B V : Nat} {l : List (BitVec 8)} {e : Int} (h : Rdr w B l e) (hb : Below w.heap.size w W) (hV : w.heap.size ≤ V) (hbut : Below W.heap.size W w2) (u : Value) : Rdr (w2.setCell ⟨V, 0, none⟩ u) B l e ∧ But (fun b => b = B) w (w2.setCell ⟨V, 0, none⟩ u) := by
  have h1 : Below w.heap.size w (w2.setCell ⟨V, 0, none⟩ u) := (hb.trans (hbut.mono hb.size)).setCell (p := ⟨V, 0, none⟩) hV u
  exact ⟨h.below h1, But.of_all h1 _⟩
set_option maxRecDepth 100000 in
set_option maxHeartbeats 4000000 in
theorem Sm.Number_any {w : World} {B : Nat} {l : List (BitVec 8)} {e : Int} (h : Rdr w B l e) (most : Int) :
    Calls Tryd.prog 22 #[.pointer (some ⟨B, 0, none⟩), .int .i64 most] w fun x w' => x = .returned (.tuple #[.int .i64 (numS l e most).2.2.1, .int .i64 (numS l e most).2.2.2]) ∧ Rdr w' B (numS l e most).1 (numS l e most).2.1 ∧ But (fun b => b = B) w w' := by
  have hB := h.lt
  have hb := @askW_below w B most 2 2 (.int .i64 0)
  have hv := @askW_v w B most 2 2 (.int .i64 0)
  have hf := @askW_f w B most 2 2 (.int .i64 0)
  have hs := @askW_size w B most 2 2 (.int .i64 0)
  rcases h with ⟨rfl, h⟩ | ⟨rfl, rfl, h⟩
  · by_cases h0 : most < 0
    · have e1 : numS l 0 most = (l, 0, 0, 2) := by unfold numS; rw [if_neg (by simp), if_pos h0]
      rw [e1]
      refine (Number_by (B := B) 0 2 (fun w2 => Below (askW w B most 2 2 (.int .i64 0)).heap.size (askW w B most 2 2 (.int .i64 0)) w2) ((tnum_arg h h0).mono ?_) (.inr rfl)).mono ?_
      · rintro x w2 ⟨rfl, hk⟩
        exact ⟨rfl, hk, (hk.cell (p := ⟨w.heap.size + 1 + 1, 0, none⟩) (by rw [hs]; simp)).trans hv, (hk.frozen (p := ⟨w.heap.size + 1 + 1, 0, none⟩) (by rw [hs]; simp)).trans hf⟩
      · rintro x w' ⟨rfl, w2, hk, rfl⟩
        exact ⟨rfl, Rdr.same (.inl ⟨rfl, h⟩) hb (by omega) hk _⟩
    · rcases num_ways l most with ⟨m, k, hg, hm⟩ | hbad
      · rw [numS_ok h0 hg hm]
        refine (Number_by (B := B) m 0 (fun w2 => DeedOk (askW w B most 2 2 (.int .i64 0)) w2 B (w.heap.size + 1 + 1) (l.drop k) (.int .i64 (m : Int))) ((tnum_ok h (by omega) hg hm).mono ?_) (.inr rfl)).mono ?_
        · rintro x w2 ⟨rfl, hk⟩
          exact ⟨rfl, hk, hk.cell, hk.frozen⟩
        · rintro x w' ⟨rfl, w2, hk, rfl⟩
          exact ⟨rfl, hk.fin hb (by omega) hB _⟩
      · rw [numS_bad h0 hbad]
        refine (Number_by (B := B) 0 120 (fun w2 => RdBad w2 B ∧ But (fun b => b = B) (askW w B most 2 2 (.int .i64 0)) w2) ((tnum_bad h (by omega) hbad).mono ?_) (.inr rfl)).mono ?_
        · rintro x w2 ⟨rfl, hk1, hk⟩
          exact ⟨rfl, ⟨hk1, hk⟩, (hk.cell (p := ⟨w.heap.size + 1 + 1, 0, none⟩) (by rw [hs]; simp) (by simp; omega)).trans hv, (hk.frozen (p := ⟨w.heap.size + 1 + 1, 0, none⟩) (by rw [hs]; simp) (by simp; omega)).trans hf⟩
        · rintro x w' ⟨rfl, w2, ⟨hk1, hk⟩, rfl⟩
          exact ⟨rfl, hk1.fin hb (by omega) hB hk _⟩
  · have e1 : numS [] 120 most = ([], 120, 0, 120) := by unfold numS; rw [if_pos (by omega)]
    rw [e1]
    have ha : RdBad (askW w B most 2 2 (.int .i64 0)) B := by
      obtain ⟨u, hu⟩ := h
      exact ⟨u, (hb.block B hB).trans hu⟩
    obtain ⟨u, hu⟩ := ha
    refine (Number_by (B := B) 0 120 (fun w2 => Below (askW w B most 2 2 (.int .i64 0)).heap.size (askW w B most 2 2 (.int .i64 0)) w2) ((take_fault B u 120 (by omega) _ hu _).mono ?_) (.inr rfl)).mono ?_
    · rintro x w2 ⟨rfl, hk⟩
      exact ⟨rfl, hk, (hk.cell (p := ⟨w.heap.size + 1 + 1, 0, none⟩) (by rw [hs]; simp)).trans hv, (hk.frozen (p := ⟨w.heap.size + 1 + 1, 0, none⟩) (by rw [hs]; simp)).trans hf⟩
    · rintro x w' ⟨rfl, w2, hk, rfl⟩
      exact ⟨rfl, Rdr.same (.inr ⟨rfl, rfl, h⟩) hb (by omega) hk _⟩
theorem Sm.strB_nil : strB [] = ⟨#[]⟩ := rfl
set_option maxRecDepth 100000 in
set_option maxHeartbeats 4000000 in
theorem Sm.Text_any {w : World} {B : Nat} {l : List (BitVec 8)} {e : Int} (h : Rdr w B l e) (most : Int) :
    Calls Tryd.prog 26 #[.pointer (some ⟨B, 0, none⟩), .int .i64 most] w fun x w' => x = .returned (.tuple #[.string (strB (textS l e most).2.2.1), .int .i64 (textS l e most).2.2.2]) ∧ Rdr w' B (textS l e most).1 (textS l e most).2.1 ∧ But (fun b => b = B) w w' := by
  have hB := h.lt
  have hb := @askW_below w B most 3 9 (.string ⟨#[]⟩)
  have hv := @askW_v w B most 3 9 (.string ⟨#[]⟩)
  have hf := @askW_f w B most 3 9 (.string ⟨#[]⟩)
  have hs := @askW_size w B most 3 9 (.string ⟨#[]⟩)
  rcases h with ⟨rfl, h⟩ | ⟨rfl, rfl, h⟩
  · by_cases h0 : most < 0
    · have e1 : textS l 0 most = (l, 0, [], 2) := by unfold textS; rw [if_neg (by simp), if_pos h0]
      rw [e1]
      refine (Text_by (B := B) (strB []) 2 (fun w2 => Below (askW w B most 3 9 (.string ⟨#[]⟩)).heap.size (askW w B most 3 9 (.string ⟨#[]⟩)) w2) ((ttext_arg h h0).mono ?_) (.inr rfl)).mono ?_
      · rintro x w2 ⟨rfl, hk⟩
        exact ⟨rfl, hk, (hk.cell (p := ⟨w.heap.size + 1 + 1, 0, none⟩) (by rw [hs]; simp)).trans hv, (hk.frozen (p := ⟨w.heap.size + 1 + 1, 0, none⟩) (by rw [hs]; simp)).trans hf⟩
      · rintro x w' ⟨rfl, w2, hk, rfl⟩
        exact ⟨rfl, Rdr.same (.inl ⟨rfl, h⟩) hb (by omega) hk _⟩
    · have hbadcase : textS l 0 most = ([], 120, [], 120) → (Calls Tryd.prog 44 #[.pointer (some ⟨B, 0, none⟩), .func (.func 53) #[] #[.pointer (some ⟨w.heap.size, 0, none⟩), .pointer (some ⟨w.heap.size + 1, 0, none⟩), .pointer (some ⟨w.heap.size + 1 + 1, 0, none⟩)]] (askW w B most 3 9 (.string ⟨#[]⟩)) fun e w' =>
          e = .returned (.int .i64 120) ∧ RdBad w' B ∧ But (fun b => b = B) (askW w B most 3 9 (.string ⟨#[]⟩)) w') →
          Calls Tryd.prog 26 #[.pointer (some ⟨B, 0, none⟩), .int .i64 most] w fun x w' => x = .returned (.tuple #[.string (strB (textS l 0 most).2.2.1), .int .i64 (textS l 0 most).2.2.2]) ∧ Rdr w' B (textS l 0 most).1 (textS l 0 most).2.1 ∧ But (fun b => b = B) w w' := fun e1 hc => by
        rw [e1]
        refine (Text_by (B := B) (strB []) 120 (fun w2 => RdBad w2 B ∧ But (fun b => b = B) (askW w B most 3 9 (.string ⟨#[]⟩)) w2) (hc.mono ?_) (.inr rfl)).mono ?_
        · rintro x w2 ⟨rfl, hk1, hk⟩
          exact ⟨rfl, ⟨hk1, hk⟩, (hk.cell (p := ⟨w.heap.size + 1 + 1, 0, none⟩) (by rw [hs]; simp) (by simp; omega)).trans hv, (hk.frozen (p := ⟨w.heap.size + 1 + 1, 0, none⟩) (by rw [hs]; simp) (by simp; omega)).trans hf⟩
        · rintro x w' ⟨rfl, w2, ⟨hk1, hk⟩, rfl⟩
          exact ⟨rfl, hk1.fin hb (by omega) hB hk _⟩
      rcases num_ways l most with ⟨m, k, hg, hm⟩ | hbad
      · by_cases hl : m ≤ l.length - k
        · rw [textS_ok h0 hg hm hl]
          refine (Text_by (B := B) (strB ((l.drop k).take m)) 0 (fun w2 => DeedOk (askW w B most 3 9 (.string ⟨#[]⟩)) w2 B (w.heap.size + 1 + 1) ((l.drop k).drop m) (.string (strB ((l.drop k).take m)))) ((ttext_ok h (by omega) hg hm hl).mono ?_) (.inr rfl)).mono ?_
          · rintro x w2 ⟨rfl, hk⟩
            exact ⟨rfl, hk, hk.cell, hk.frozen⟩
          · rintro x w' ⟨rfl, w2, hk, rfl⟩
            exact ⟨rfl, hk.fin hb (by omega) hB _⟩
        · exact hbadcase (textS_long h0 hg (by omega)) (ttext_long h (by omega) hg hm (by omega))
      · exact hbadcase (textS_bad h0 hbad) (ttext_bad h (by omega) hbad)
  · have e1 : textS [] 120 most = ([], 120, [], 120) := by unfold textS; rw [if_pos (by omega)]
    rw [e1]
    have ha : RdBad (askW w B most 3 9 (.string ⟨#[]⟩)) B := by
      obtain ⟨u, hu⟩ := h
      exact ⟨u, (hb.block B hB).trans hu⟩
    obtain ⟨u, hu⟩ := ha
    refine (Text_by (B := B) (strB []) 120 (fun w2 => Below (askW w B most 3 9 (.string ⟨#[]⟩)).heap.size (askW w B most 3 9 (.string ⟨#[]⟩)) w2) ((take_fault B u 120 (by omega) _ hu _).mono ?_) (.inr rfl)).mono ?_
    · rintro x w2 ⟨rfl, hk⟩
      exact ⟨rfl, hk, (hk.cell (p := ⟨w.heap.size + 1 + 1, 0, none⟩) (by rw [hs]; simp)).trans hv, (hk.frozen (p := ⟨w.heap.size + 1 + 1, 0, none⟩) (by rw [hs]; simp)).trans hf⟩
    · rintro x w' ⟨rfl, w2, hk, rfl⟩
      exact ⟨rfl, Rdr.same (.inr ⟨rfl, rfl, h⟩) hb (by omega) hk _⟩
set_option maxRecDepth 100000 in
set_option maxHeartbeats 2000000 in
theorem Sm.Left_any {w : World} {B : Nat} {l : List (BitVec 8)} {e : Int} (h : Rdr w B l e) : Calls Tryd.prog 24 #[.pointer (some ⟨B, 0, none⟩)] w fun x w' => x = .returned (.int .i64 (l.length : Int)) ∧ w = w' := by
  rcases h with ⟨rfl, A, n, c, h1, h2⟩ | ⟨rfl, rfl, u, h1⟩
  · have hc := h2.cell
    have c1 : w.cell? ⟨B, 1, none⟩ = some (.int .i64 0) := by simp [World.cell?, h1]
    have hl := h2.len
    subst hl
    go_enter Tryd.func24, Tryd.ntmps24
    go_wp2
    go_ret
    exact ⟨rfl, rfl⟩
  · have c1 : w.cell? ⟨B, 1, none⟩ = some (.int .i64 120) := by simp [World.cell?, h1]
    go_enter Tryd.func24, Tryd.ntmps24
    go_wp2
    go_ret
    exact ⟨rfl, rfl⟩
