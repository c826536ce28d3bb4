/-
  The contract of ask: a call by the reader and by the reference tell the same and leave the same. Conditions: what the theorem names.
-/
import Derived.Deep.RegionHeldLaw
import Derived.Deep.DrawnRows
import Derived.Deep.RegionWith
import Derived.Test.YteeponciegmlcaaDoorRefY
import Derived.Test.YteeponciegmlcaaDoorRdI
namespace Go.Proofs
open Go.RowKit Go.Shelf Sm
attribute [local go_sem ↓] Go.wp_at_zero Go.wp_at_succ
/-- the greatest number that is asked for of a text -/
def Sm.clampI (most : Int) : Int := max (-5) (min most 1000000)
/-- what a call leaves -/
def Sm.askS (l : List (BitVec 8)) (e what most : Int) : List (BitVec 8) × Int :=
  if what = 0 then ((numS l e most).1, (numS l e most).2.1) else if what = 1 then ((textS l e (clampI most)).1, (textS l e (clampI most)).2.1) else if what = 2 then ((truthS l e).1, (truthS l e).2.1) else if what = 3 then ((endS l e).1, (endS l e).2.1) else (l, e)
def Sm.AskPost (w : World) (R : Nat) (l' : List (BitVec 8)) (e' : Int) (x : Ending) (w' : World) : Prop :=
  ∃ A' n' c', x = .returned (.tuple #[rdV A' n' c' e', .bool true]) ∧ RefAt w' A' n' c' l' ∧ Rdr w' R l' e' ∧ But (fun b => b = R) w w'
theorem Sm.Rdr.not_byte {w : World} {R : Nat} {l : List (BitVec 8)} (h : Rdr w R l 0) (i : Nat) (x : Int) : w.cell? ⟨R, i, none⟩ ≠ some (.int .u8 x) := by
  intro hc
  rcases h with ⟨_, A, n, c, hh, _⟩ | ⟨h0, _⟩
  · rw [cell_of_heap hh] at hc
    match i, hc with
    | 0, hc => simp at hc
    | 1, hc => simp at hc
    | 2, hc => simp at hc
    | i + 3, hc => simp at hc
  · simp at h0
theorem Sm.RefAt.over {w w' : World} {R : Nat} {l l' : List (BitVec 8)} {e : Int} {A : Option Addr} {n c : Nat} (hR : Rdr w R l e) (h0 : e ≠ 0 → l' = []) (h : RefAt w A n c l') (hb : But (fun b => b = R) w w') : RefAt w' A n c l' := by
  refine ⟨h.len, h.room, fun hl => ?_⟩
  by_cases he : e = 0
  · subst he
    obtain ⟨b, off, rfl, hbw, hc⟩ := h.rd hl
    have hne : ¬ b = R := fun e => by
      subst e
      exact hR.not_byte _ _ (hc 0 l'[0] (List.getElem?_eq_getElem hl))
    exact ⟨b, off, rfl, Nat.lt_of_lt_of_le hbw hb.size, fun j x hj => (hb.cell (p := ⟨b, off + j, none⟩) hbw hne).trans (hc j x hj)⟩
  · rw [h0 he] at hl
    simp at hl
theorem Sm.Rdr.code {w : World} {R : Nat} {l : List (BitVec 8)} {e : Int} (h : Rdr w R l e) : e = 0 ∨ e = 120 := by
  rcases h with ⟨h, _⟩ | ⟨h, _⟩
  · exact .inl h
  · exact .inr h
/-- the world in which ask's first call is made -/
def Sm.askB (w : World) (A : Option Addr) (n c : Nat) (e what most : Int) : World := ((w.alloc (.cells #[.slice A n c, .int .i64 e] 47)).alloc (.cells #[.int .i64 what, .int .i64 most] 56)).alloc (.cells #[.slice none 0 0, .int .i64 0] 47)
theorem Sm.askB_below (w : World) (A : Option Addr) (n c : Nat) (e what most : Int) : Below w.heap.size w (askB w A n c e what most) := (((Below.refl _ w).alloc (Nat.le_refl _) _).alloc (by simp) _).alloc (by simp; omega) _
theorem Sm.askB_size (w : World) (A : Option Addr) (n c : Nat) (e what most : Int) : (askB w A n c e what most).heap.size = w.heap.size + 1 + 1 + 1 := by simp [askB]
theorem Sm.askB_last (w : World) (A : Option Addr) (n c : Nat) (e what most : Int) : (askB w A n c e what most).heap[w.heap.size + 1 + 1]? = some (.cells #[.slice none 0 0, .int .i64 0] 47 (0, 0)) := by
  have := World.alloc_heap_new ((w.alloc (.cells #[.slice A n c, .int .i64 e] 47)).alloc (.cells #[.int .i64 what, .int .i64 most] 56)) (.cells #[.slice none 0 0, .int .i64 0] 47)
  simpa [askB] using this
theorem Sm.askB_mid (w : World) (A : Option Addr) (n c : Nat) (e what most : Int) : (askB w A n c e what most).heap[w.heap.size + 1]? = some (.cells #[.int .i64 what, .int .i64 most] 56 (0, 0)) := by
  have := World.alloc_heap_new (w.alloc (.cells #[.slice A n c, .int .i64 e] 47)) (.cells #[.int .i64 what, .int .i64 most] 56)
  rw [World.size_alloc] at this
  exact (Below.heap_alloc _ _ _ (by simp)).trans this
/-- what lies behind the first call -/
structure Sm.AskMid (w w4 : World) (what most : Int) : Prop where
  m0 : ∀ o, (w4.alloc o).cell? ⟨w.heap.size + 1, 0, none⟩ = some (.int .i64 what)
  m1 : ∀ o, (w4.alloc o).cell? ⟨w.heap.size + 1, 1, none⟩ = some (.int .i64 most)
  last : w4.heap[w.heap.size + 1 + 1]? = some (.cells #[.slice none 0 0, .int .i64 0] 47 (0, 0))
  lt : w.heap.size + 1 + 1 < w4.heap.size
  below : Below w.heap.size w w4
theorem Sm.askMid {w w4 : World} {A : Option Addr} {n c : Nat} {e what most : Int} (hb : Below (askB w A n c e what most).heap.size (askB w A n c e what most) w4) : AskMid w w4 what most := by
  have hs := askB_size w A n c e what most
  have h1 := (hb.block (w.heap.size + 1) (by omega)).trans (askB_mid w A n c e what most)
  have h2 := (hb.block (w.heap.size + 1 + 1) (by omega)).trans (askB_last w A n c e what most)
  have hl := hb.size
  have h3 : ∀ o, (w4.alloc o).heap[w.heap.size + 1]? = some (.cells #[.int .i64 what, .int .i64 most] 56 (0, 0)) := fun o => (Below.heap_alloc _ _ _ (by omega)).trans h1
  exact ⟨fun o => cell_of_heap (h3 o) 0, fun o => cell_of_heap (h3 o) 1, h2, by omega, (askB_below w A n c e what most).trans (hb.mono (askB_below w A n c e what most).size)⟩
/-- what lies behind the reader's call -/
structure Sm.AskEnd (w w4 w5 : World) (R : Nat) (u v : Value) : Prop where
  p0 : w5.cell? ⟨w4.heap.size, 0, none⟩ = some u
  p1 : w5.cell? ⟨w4.heap.size, 1, none⟩ = some v
  q0 : w5.cell? ⟨w.heap.size + 1 + 1, 0, none⟩ = some (.slice none 0 0)
  q1 : w5.cell? ⟨w.heap.size + 1 + 1, 1, none⟩ = some (.int .i64 0)
  q2 : w5.frozen? ⟨w.heap.size + 1 + 1, 0, none⟩ = false
  q3 : w5.frozen? ⟨w.heap.size + 1 + 1, 1, none⟩ = false
  last : w5.heap[w.heap.size + 1 + 1]? = some (.cells #[.slice none 0 0, .int .i64 0] 47 (0, 0))
  but : But (fun b => b = R) w w5
  ne : ¬ w4.heap.size = w.heap.size + 1 + 1
theorem Sm.askEnd {w w4 w5 : World} {what most : Int} {R : Nat} {u v : Value} (h : AskMid w w4 what most) (hR : R < w.heap.size) (hb : But (fun b => b = R) (w4.alloc (.cells #[u, v] 47)) w5) : AskEnd w w4 w5 R u v := by
  have hl := h.lt
  have h1 := hb.box (World.alloc_heap_new w4 (.cells #[u, v] 47)) (by have := h.below.size; omega)
  have h2 := hb.box ((Below.heap_alloc w4 (.cells #[u, v] 47) _ hl).trans h.last) (by omega)
  exact ⟨cell_of_heap h1 0, cell_of_heap h1 1, cell_of_heap h2 0, cell_of_heap h2 1, frozen_of_heap h2 0, frozen_of_heap h2 1, h2, ((But.of_all h.below _).alloc _).trans hb (fun _ _ e => e), by omega⟩
/-- the answer -/
theorem Sm.askFin {w w5 : World} {R : Nat} {u v : Value} (h : w5.heap[w.heap.size + 1 + 1]? = some (.cells #[.slice none 0 0, .int .i64 0] 47 (0, 0))) (hb : But (fun b => b = R) w w5) :
    ∃ W', W' = ((w5.setCell ⟨w.heap.size + 1 + 1, 0, none⟩ u).setCell ⟨w.heap.size + 1 + 1, 1, none⟩ v).drew ∧ W'.cell? ⟨w.heap.size + 1 + 1, 0, none⟩ = some u ∧ W'.cell? ⟨w.heap.size + 1 + 1, 1, none⟩ = some v ∧ But (fun b => b = R) w W' ∧ But (fun b => b = w.heap.size + 1 + 1) w5 W' := by
  have h5 := heap_setCells (i := 1) (u := v) (heap_setCells (i := 0) (u := u) h)
  refine ⟨_, rfl, cell_of_heap h5 0, cell_of_heap h5 1, ?_, ?_⟩
  · exact ((hb.set ⟨w.heap.size + 1 + 1, 0, none⟩ u (.inr (by simp; omega))).set ⟨w.heap.size + 1 + 1, 1, none⟩ v (.inr (by simp; omega))).drew
  · have h0 : But (fun b => b = w.heap.size + 1 + 1) w5 w5 := But.refl _ _
    exact ((h0.set ⟨w.heap.size + 1 + 1, 0, none⟩ u (.inl rfl)).set ⟨w.heap.size + 1 + 1, 1, none⟩ v (.inl rfl)).drew
theorem Sm.ask_leave {w w5 W' : World} {R : Nat} {l' : List (BitVec 8)} {e' : Int} {A' : Option Addr} {n' c' : Nat} (hrd : Rdr w5 R l' e') (href : RefAt w5 A' n' c' l') (hR : R < w.heap.size) (hlast : w5.heap[w.heap.size + 1 + 1]? = some (.cells #[.slice none 0 0, .int .i64 0] 47 (0, 0))) (hb : But (fun b => b = R) w W') (hb5 : But (fun b => b = w.heap.size + 1 + 1) w5 W') :
    AskPost w R l' e' (.returned (.tuple #[rdV A' n' c' e', .bool true])) W' := by
  refine ⟨A', n', c', rfl, ⟨href.len, href.room, fun hl => ?_⟩, hrd.but hb5 (fun b h e => by omega), hb⟩
  obtain ⟨b, off, rfl, hbw, hc⟩ := href.rd hl
  have hne : ¬ b = w.heap.size + 1 + 1 := fun e => by
    subst e
    have := hc 0 l'[0] (List.getElem?_eq_getElem hl)
    rw [cell_of_heap hlast] at this
    generalize off + 0 = i at this
    match i, this with
    | 0, h => simp at h
    | 1, h => simp at h
    | i + 2, h => simp at h
  exact ⟨b, off, rfl, Nat.lt_of_lt_of_le hbw hb5.size, fun j x hj => (hb5.cell (p := ⟨b, off + j, none⟩) hbw hne).trans (hc j x hj)⟩
set_option maxRecDepth 100000 in
set_option maxHeartbeats 4000000 in
theorem Sm.ask_num (w : World) (R : Nat) (A : Option Addr) (n c : Nat) (l : List (BitVec 8)) (e most : Int) (h : Rdr w R l e) (hra : RefAt w A n c l) (hm : n ≤ 9223372036854775807) (hlo : -9223372036854775808 ≤ most) (hhi : most ≤ 9223372036854775807) :
    Calls Tryd.prog 25 #[.pointer (some ⟨R, 0, none⟩), rdV A n c e, .agg #[.int .i64 0, .int .i64 most]] w (AskPost w R (numS l e most).1 (numS l e most).2.1) := by
  have hR := h.lt
  have hb := askB_below w A n c e 0 most
  have he0 : e ≠ 0 → (numS l e most).1 = [] := fun he => by
    rcases h with ⟨h0, _⟩ | ⟨h1, h2, _⟩
    · exact absurd h0 he
    · unfold numS; rw [if_pos he]; exact h2
  have h1 := refNumE_any A n c l e most _ (hra.below hb) hm h.code
  obtain ⟨l', e', m, no, hS⟩ : ∃ l' e' m no, numS l e most = (l', e', m, no) := ⟨_, _, _, _, rfl⟩
  rw [hS] at h1 he0 ⊢
  have h3 : Calls Tryd.prog 23 #[.agg #[.slice A n c, .int .i64 e], .int .i64 most] (askB w A n c e 0 most) fun x w4 => ∃ A' n' c', x = .returned (.tuple #[.agg #[.slice A' n' c', .int .i64 e'], .int .i64 m, .int .i64 no]) ∧ RefAt w4 A' n' c' l' ∧ AskMid w w4 0 most ∧ Rdr w4 R l e := h1.mono fun x w4 ⟨⟨A', n', c', hx, hr⟩, hb4⟩ => ⟨A', n', c', hx, hr, askMid hb4, (h.below hb).below hb4⟩
  have h4 : ∀ (w4 : World) (A' : Option Addr) (n' c' : Nat), RefAt w4 A' n' c' l' → AskMid w w4 0 most → Rdr w4 R l e → Calls Tryd.prog 22 #[.pointer (some ⟨R, 0, none⟩), .int .i64 most] (w4.alloc (.cells #[.slice A' n' c', .int .i64 e'] 47)) fun x w5 => x = .returned (.tuple #[.int .i64 m, .int .i64 no]) ∧ AskEnd w w4 w5 R (.slice A' n' c') (.int .i64 e') ∧ Rdr w5 R l' e' ∧ RefAt w5 A' n' c' l' := fun w4 A' n' c' hr hmid hrd => by
    have hbo : Below w4.heap.size w4 (w4.alloc (.cells #[.slice A' n' c', .int .i64 e'] 47)) := (Below.refl _ _).alloc (Nat.le_refl _) _
    have hrd' := hrd.below hbo
    refine (Number_any hrd' most).mono ?_
    rintro x w5 ⟨hx, h5, h6⟩
    rw [hS] at hx h5
    exact ⟨hx, askEnd hmid hR h6, h5, RefAt.over hrd' he0 (hr.below hbo) h6⟩
  clear h1 hra hb hS h he0
  unfold askB at h3
  unfold rdV
  go_enter Tryd.func25, Tryd.ntmps25
  go_wp2_with (first
    | (go_at_call 23; (with_reducible refine h3.mono ?_); clear h3; rintro x w4 ⟨A', n', c', rfl, hr4, hmid, hrd4⟩; have m0 := hmid.m0; have m1 := hmid.m1)
    | (go_at_call 22; (with_reducible refine (h4 w4 A' n' c' hr4 hmid hrd4).mono ?_); clear h4 m0 m1; rintro x w5 ⟨rfl, hend, hrd5, hr5⟩; have p0 := hend.p0; have p1 := hend.p1; have q0 := hend.q0; have q1 := hend.q1; have q2 := hend.q2; have q3 := hend.q3; have ne := hend.ne))
  all_goals obtain ⟨W', hW', z0, z1, zb, z5⟩ := askFin (u := .slice A' n' c') (v := .int .i64 e') hend.last hend.but
  all_goals have hpost := ask_leave hrd5 hr5 hR hend.last zb z5
  all_goals have hlast := Lib.hid hpost
  all_goals clear hpost hend hrd5 hr5 zb z5 hmid hrd4 hr4
  all_goals go_region_with ((go_at_call 15; (with_reducible refine (num_any _ _).mono ?_); rintro e w' ⟨rfl, rfl⟩))
  all_goals go_wp2
  all_goals rw [← hW']
  all_goals exact bodyPost_ret (v := .tuple #[.agg #[.slice A' n' c', .int .i64 e'], .bool true]) (by simp [results, Tryd.results25, go_sem, z0, z1]) rfl hlast.out
set_option maxRecDepth 100000 in
set_option maxHeartbeats 4000000 in
theorem Sm.ask_txt (w : World) (R : Nat) (A : Option Addr) (n c : Nat) (l : List (BitVec 8)) (e most : Int) (h : Rdr w R l e) (hra : RefAt w A n c l) (hm : n ≤ 9223372036854775807) (hlo : -9223372036854775808 ≤ most) (hhi : most ≤ 9223372036854775807) :
    Calls Tryd.prog 25 #[.pointer (some ⟨R, 0, none⟩), rdV A n c e, .agg #[.int .i64 1, .int .i64 most]] w (AskPost w R (textS l e (clampI most)).1 (textS l e (clampI most)).2.1) := by
  have hR := h.lt
  have hb := askB_below w A n c e 1 most
  have he0 : e ≠ 0 → (textS l e (clampI most)).1 = [] := fun he => by
    rcases h with ⟨h0, _⟩ | ⟨h1, h2, _⟩
    · exact absurd h0 he
    · unfold textS; rw [if_pos he]; exact h2
  have h1 := refTxt_any A n c l e (clampI most) _ (hra.below hb) hm h.code
  obtain ⟨l', e', mb, no, hS⟩ : ∃ l' e' m no, textS l e (clampI most) = (l', e', m, no) := ⟨_, _, _, _, rfl⟩
  rw [hS] at h1 he0 ⊢
  obtain ⟨m, hmb⟩ : ∃ m, strB mb = m := ⟨_, rfl⟩
  have h3 : ∀ q, q = clampI most → Calls Tryd.prog 50 #[.agg #[.slice A n c, .int .i64 e], .int .i64 q] (askB w A n c e 1 most) fun x w4 => ∃ A' n' c', x = .returned (.tuple #[.agg #[.slice A' n' c', .int .i64 e'], .string m, .int .i64 no]) ∧ RefAt w4 A' n' c' l' ∧ AskMid w w4 1 most ∧ Rdr w4 R l e := fun q hq => by
    rw [hq, ← hmb]
    exact h1.mono fun x w4 ⟨⟨A', n', c', hx, hr⟩, hb4⟩ => ⟨A', n', c', hx, hr, askMid hb4, (h.below hb).below hb4⟩
  have h4 : ∀ q, q = clampI most → ∀ (w4 : World) (A' : Option Addr) (n' c' : Nat), RefAt w4 A' n' c' l' → AskMid w w4 1 most → Rdr w4 R l e → Calls Tryd.prog 26 #[.pointer (some ⟨R, 0, none⟩), .int .i64 q] (w4.alloc (.cells #[.slice A' n' c', .int .i64 e'] 47)) fun x w5 => x = .returned (.tuple #[.string m, .int .i64 no]) ∧ AskEnd w w4 w5 R (.slice A' n' c') (.int .i64 e') ∧ Rdr w5 R l' e' ∧ RefAt w5 A' n' c' l' := fun q hq w4 A' n' c' hr hmid hrd => by
    have hbo : Below w4.heap.size w4 (w4.alloc (.cells #[.slice A' n' c', .int .i64 e'] 47)) := (Below.refl _ _).alloc (Nat.le_refl _) _
    have hrd' := hrd.below hbo
    rw [hq]
    refine (Text_any hrd' (clampI most)).mono ?_
    rintro x w5 ⟨hx, h5, h6⟩
    rw [hS] at hx h5
    exact ⟨by rw [hx, ← hmb], askEnd hmid hR h6, h5, RefAt.over hrd' he0 (hr.below hbo) h6⟩
  clear h1 hra hb hS h he0 hmb
  unfold askB at h3
  unfold rdV
  go_enter Tryd.func25, Tryd.ntmps25
  go_wp2_with (first
    | (go_at_call 50; (with_reducible refine (h3 _ ?_).mono ?_); (unfold clampI; omega); clear h3; rintro x w4 ⟨A', n', c', rfl, hr4, hmid, hrd4⟩; have m0 := hmid.m0; have m1 := hmid.m1)
    | (go_at_call 26; (with_reducible refine (h4 _ ?_ w4 A' n' c' hr4 hmid hrd4).mono ?_); (unfold clampI; omega); clear h4 m0 m1; rintro x w5 ⟨rfl, hend, hrd5, hr5⟩; have p0 := hend.p0; have p1 := hend.p1; have q0 := hend.q0; have q1 := hend.q1; have q2 := hend.q2; have q3 := hend.q3; have ne := hend.ne))
  all_goals obtain ⟨W', hW', z0, z1, zb, z5⟩ := askFin (u := .slice A' n' c') (v := .int .i64 e') hend.last hend.but
  all_goals have hpost := ask_leave hrd5 hr5 hR hend.last zb z5
  all_goals have hlast := Lib.hid hpost
  all_goals clear hpost hend hrd5 hr5 zb z5 hmid hrd4 hr4
  all_goals go_region_with ((go_at_call 15; (with_reducible refine (num_any _ _).mono ?_); rintro e w' ⟨rfl, rfl⟩))
  all_goals go_wp2
  all_goals rw [← hW']
  all_goals exact bodyPost_ret (v := .tuple #[.agg #[.slice A' n' c', .int .i64 e'], .bool true]) (by simp [results, Tryd.results25, go_sem, z0, z1]) rfl hlast.out
set_option maxRecDepth 100000 in
set_option maxHeartbeats 4000000 in
theorem Sm.ask_tru (w : World) (R : Nat) (A : Option Addr) (n c : Nat) (l : List (BitVec 8)) (e most : Int) (h : Rdr w R l e) (hra : RefAt w A n c l) (hm : n ≤ 9223372036854775807) (hlo : -9223372036854775808 ≤ most) (hhi : most ≤ 9223372036854775807) :
    Calls Tryd.prog 25 #[.pointer (some ⟨R, 0, none⟩), rdV A n c e, .agg #[.int .i64 2, .int .i64 most]] w (AskPost w R (truthS l e).1 (truthS l e).2.1) := by
  have hR := h.lt
  have hb := askB_below w A n c e 2 most
  have he0 : e ≠ 0 → (truthS l e).1 = [] := fun he => by
    rcases h with ⟨h0, _⟩ | ⟨h1, h2, _⟩
    · exact absurd h0 he
    · unfold truthS; rw [if_pos he]; exact h2
  have h1 := refTru_any A n c l e _ (hra.below hb) hm h.code
  obtain ⟨l', e', m, no, hS⟩ : ∃ l' e' m no, truthS l e = (l', e', m, no) := ⟨_, _, _, _, rfl⟩
  rw [hS] at h1 he0 ⊢
  have h3 : Calls Tryd.prog 51 #[.agg #[.slice A n c, .int .i64 e]] (askB w A n c e 2 most) fun x w4 => ∃ A' n' c', x = .returned (.tuple #[.agg #[.slice A' n' c', .int .i64 e'], .bool m, .int .i64 no]) ∧ RefAt w4 A' n' c' l' ∧ AskMid w w4 2 most ∧ Rdr w4 R l e := h1.mono fun x w4 ⟨⟨A', n', c', hx, hr⟩, hb4⟩ => ⟨A', n', c', hx, hr, askMid hb4, (h.below hb).below hb4⟩
  have h4 : ∀ (w4 : World) (A' : Option Addr) (n' c' : Nat), RefAt w4 A' n' c' l' → AskMid w w4 2 most → Rdr w4 R l e → Calls Tryd.prog 27 #[.pointer (some ⟨R, 0, none⟩)] (w4.alloc (.cells #[.slice A' n' c', .int .i64 e'] 47)) fun x w5 => x = .returned (.tuple #[.bool m, .int .i64 no]) ∧ AskEnd w w4 w5 R (.slice A' n' c') (.int .i64 e') ∧ Rdr w5 R l' e' ∧ RefAt w5 A' n' c' l' := fun w4 A' n' c' hr hmid hrd => by
    have hbo : Below w4.heap.size w4 (w4.alloc (.cells #[.slice A' n' c', .int .i64 e'] 47)) := (Below.refl _ _).alloc (Nat.le_refl _) _
    have hrd' := hrd.below hbo
    refine (Truth_any hrd').mono ?_
    rintro x w5 ⟨hx, h5, h6⟩
    rw [hS] at hx h5
    exact ⟨hx, askEnd hmid hR h6, h5, RefAt.over hrd' he0 (hr.below hbo) h6⟩
  clear h1 hra hb hS h he0
  unfold askB at h3
  unfold rdV
  go_enter Tryd.func25, Tryd.ntmps25
  go_wp2_with (first
    | (go_at_call 51; (with_reducible refine h3.mono ?_); clear h3; rintro x w4 ⟨A', n', c', rfl, hr4, hmid, hrd4⟩; have m0 := hmid.m0; have m1 := hmid.m1)
    | (go_at_call 27; (with_reducible refine (h4 w4 A' n' c' hr4 hmid hrd4).mono ?_); clear h4 m0 m1; rintro x w5 ⟨rfl, hend, hrd5, hr5⟩; have p0 := hend.p0; have p1 := hend.p1; have q0 := hend.q0; have q1 := hend.q1; have q2 := hend.q2; have q3 := hend.q3; have ne := hend.ne))
  all_goals obtain ⟨W', hW', z0, z1, zb, z5⟩ := askFin (u := .slice A' n' c') (v := .int .i64 e') hend.last hend.but
  all_goals have hpost := ask_leave hrd5 hr5 hR hend.last zb z5
  all_goals have hlast := Lib.hid hpost
  all_goals clear hpost hend hrd5 hr5 zb z5 hmid hrd4 hr4
  all_goals go_region_with ((go_at_call 15; (with_reducible refine (num_any _ _).mono ?_); rintro e w' ⟨rfl, rfl⟩))
  all_goals go_wp2
  all_goals rw [← hW']
  all_goals exact bodyPost_ret (v := .tuple #[.agg #[.slice A' n' c', .int .i64 e'], .bool true]) (by simp [results, Tryd.results25, go_sem, z0, z1]) rfl hlast.out
end Go.Proofs
