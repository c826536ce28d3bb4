/-
  The contracts of a reader's calls: Read, Left, Number, Text, Truth, End, at every reader, none too.
-/
import Derived.Test.YteeponciegmlcaaDoorRdE
namespace Go.Proofs
open Go.RowKit Go.Shelf Sm
/-- a reader: its bytes, its error -/
def Sm.Rdr (w : World) (B : Nat) (l : List (BitVec 8)) (e : Int) : Prop := (e = 0 ∧ RdAt w B l) ∨ (e = 120 ∧ l = [] ∧ RdBad w B)
/-- a number that is asked for: the reader's bytes and error then, the number, the error told -/
def Sm.numS (l : List (BitVec 8)) (e : Int) (most : Int) : List (BitVec 8) × Int × Int × Int :=
  if e ≠ 0 then (l, e, 0, e) else if most < 0 then (l, 0, 0, 2) else match getN l with
    | .num m k => if (m : Int) ≤ most then (l.drop k, 0, m, 0) else ([], 120, 0, 120)
    | _ => ([], 120, 0, 120)
def Sm.textS (l : List (BitVec 8)) (e : Int) (most : Int) : List (BitVec 8) × Int × List (BitVec 8) × Int :=
  if e ≠ 0 then (l, e, [], e) else if most < 0 then (l, 0, [], 2) else match getN l with
    | .num m k => if (m : Int) ≤ most ∧ m ≤ l.length - k then ((l.drop k).drop m, 0, (l.drop k).take m, 0) else ([], 120, [], 120)
    | _ => ([], 120, [], 120)
def Sm.truthS (l : List (BitVec 8)) (e : Int) : List (BitVec 8) × Int × Bool × Int :=
  if e ≠ 0 then (l, e, false, e) else match getN l with
    | .num m k => if (m : Int) ≤ 1 then (l.drop k, 0, decide (m = 1), 0) else ([], 120, false, 120)
    | _ => ([], 120, false, 120)
def Sm.endS (l : List (BitVec 8)) (e : Int) : List (BitVec 8) × Int × Int :=
  if e ≠ 0 then (l, e, e) else if l = [] then (l, 0, 0) else ([], 120, 120)
namespace Sm
theorem Rdr.lt {w : World} {B : Nat} {l : List (BitVec 8)} {e : Int} (h : Rdr w B l e) : B < w.heap.size := by
  rcases h with ⟨_, h⟩ | ⟨_, _, u, h⟩
  · exact h.lt
  · exact (Array.getElem?_eq_some_iff.1 h).1
theorem Rdr.but {S : Nat → Prop} {w w' : World} {B : Nat} {l : List (BitVec 8)} {e : Int} (h : Rdr w B l e) (hb : But S w w') (hn : ∀ b, b ≤ B → ¬ S b) : Rdr w' B l e := by
  rcases h with ⟨h0, h⟩ | ⟨h0, h1, u, h⟩
  · exact .inl ⟨h0, h.but hb hn⟩
  · exact .inr ⟨h0, h1, u, hb.box h (hn B (Nat.le_refl _))⟩
theorem Rdr.below {w w' : World} {B : Nat} {l : List (BitVec 8)} {e : Int} (h : Rdr w B l e) (hb : Below w.heap.size w w') : Rdr w' B l e := h.but (But.of_all hb (fun _ => False)) (fun _ _ => id)
theorem NoNum.of {l : List (BitVec 8)} {most : Int} (h : ∀ m k, getN l = .num m k → ¬ (m : Int) ≤ most) : NoNum l most := h
/-- the ways of a number -/
theorem num_ways (l : List (BitVec 8)) (most : Int) : (∃ m k, getN l = .num m k ∧ (m : Int) ≤ most) ∨ NoNum l most := by
  by_cases h : ∃ m k, getN l = .num m k ∧ (m : Int) ≤ most
  · exact .inl h
  · exact .inr fun m k h1 h2 => h ⟨m, k, h1, h2⟩
theorem numS_bad {l : List (BitVec 8)} {most : Int} (h0 : ¬ most < 0) (h : NoNum l most) : numS l 0 most = ([], 120, 0, 120) := by
  unfold numS
  rw [if_neg (by simp), if_neg h0]
  split
  · rename_i m k hg
    rw [if_neg (h m k hg)]
  · rfl
theorem numS_ok {l : List (BitVec 8)} {most : Int} {m k : Nat} (h0 : ¬ most < 0) (hg : getN l = .num m k) (hm : (m : Int) ≤ most) : numS l 0 most = (l.drop k, 0, (m : Int), 0) := by
  unfold numS
  rw [if_neg (by simp), if_neg h0, hg]
  simp only
  rw [if_pos hm]
theorem textS_bad {l : List (BitVec 8)} {most : Int} (h0 : ¬ most < 0) (h : NoNum l most) : textS l 0 most = ([], 120, [], 120) := by
  unfold textS
  rw [if_neg (by simp), if_neg h0]
  split
  · rename_i m k hg
    rw [if_neg (fun hc => h m k hg hc.1)]
  · rfl
theorem textS_long {l : List (BitVec 8)} {most : Int} {m k : Nat} (h0 : ¬ most < 0) (hg : getN l = .num m k) (hl : l.length - k < m) : textS l 0 most = ([], 120, [], 120) := by
  unfold textS
  rw [if_neg (by simp), if_neg h0, hg]
  simp only
  rw [if_neg (by omega)]
theorem textS_ok {l : List (BitVec 8)} {most : Int} {m k : Nat} (h0 : ¬ most < 0) (hg : getN l = .num m k) (hm : (m : Int) ≤ most) (hl : m ≤ l.length - k) : textS l 0 most = ((l.drop k).drop m, 0, (l.drop k).take m, 0) := by
  unfold textS
  rw [if_neg (by simp), if_neg h0, hg]
  simp only
  rw [if_pos ⟨hm, hl⟩]
theorem truthS_bad {l : List (BitVec 8)} (h : NoNum l 1) : truthS l 0 = ([], 120, false, 120) := by
  unfold truthS
  rw [if_neg (by simp)]
  split
  · rename_i m k hg
    rw [if_neg (h m k hg)]
  · rfl
theorem truthS_ok {l : List (BitVec 8)} {m k : Nat} (hg : getN l = .num m k) (hm : (m : Int) ≤ 1) : truthS l 0 = (l.drop k, 0, decide (m = 1), 0) := by
  unfold truthS
  rw [if_neg (by simp), hg]
  simp only
  rw [if_pos hm]
end Sm
theorem Sm.enters45 : ∀ args w, (callFunc 45 args).run Tryd.prog w = .ok (.enter 45 args) w := enters_of Tryd.func45 (by kernel_rfl) rfl
theorem Sm.enters53 : ∀ args w, (callFunc 53 args).run Tryd.prog w = .ok (.enter 53 args) w := enters_of Tryd.func53 (by kernel_rfl) rfl
theorem Sm.enters56 : ∀ args w, (callFunc 56 args).run Tryd.prog w = .ok (.enter 56 args) w := enters_of Tryd.func56 (by kernel_rfl) rfl
theorem Sm.enters57 : ∀ args w, (callFunc 57 args).run Tryd.prog w = .ok (.enter 57 args) w := enters_of Tryd.func57 (by kernel_rfl) rfl
/-- the world in which Number and Text call take -/
def Sm.askW (w : World) (B : Nat) (most : Int) (T U : TypeId) (z : Value) : World := ((w.alloc (.cells #[.pointer (some ⟨B, 0, none⟩)] 42)).alloc (.cells #[.int .i64 most] T)).alloc (.cells #[z] U)
section
variable {w : World} {B : Nat} {most : Int} {T U : TypeId} {z : Value} {l : List (BitVec 8)}
theorem Sm.askW_size : (askW w B most T U z).heap.size = w.heap.size + 1 + 1 + 1 := by simp [askW]
theorem Sm.askW_below : Below w.heap.size w (askW w B most T U z) := (((Below.refl _ w).alloc (Nat.le_refl _) _).alloc (by simp) _).alloc (by simp; omega) _
theorem Sm.askW_r : (askW w B most T U z).cell? ⟨w.heap.size, 0, none⟩ = some (.pointer (some ⟨B, 0, none⟩)) := by
  unfold askW
  rw [World.cell?_alloc_lt _ _ _ (by simp; omega), World.cell?_alloc_lt _ _ _ (by simp)]
  simp [World.cell?_alloc_new]
theorem Sm.askW_m : (askW w B most T U z).cell? ⟨w.heap.size + 1, 0, none⟩ = some (.int .i64 most) := by
  unfold askW
  rw [World.cell?_alloc_lt _ _ _ (by simp)]
  simp
theorem Sm.askW_v : (askW w B most T U z).cell? ⟨w.heap.size + 1 + 1, 0, none⟩ = some z := by
  have h := World.cell?_alloc_new (w := (w.alloc (.cells #[.pointer (some ⟨B, 0, none⟩)] 42)).alloc (.cells #[.int .i64 most] T)) #[z] U 0
  rw [World.size_alloc, World.size_alloc] at h
  exact h
theorem Sm.askW_f : (askW w B most T U z).frozen? ⟨w.heap.size + 1 + 1, 0, none⟩ = false := by
  unfold askW
  simp [go_sem]
/-- what lies ready, where take calls -/
theorem Sm.ready_ask (hB : B < w.heap.size) : Ready (tookW (askW w B most T U z) B) B w.heap.size (w.heap.size + 1) (w.heap.size + 1 + 1) most z := by
  have hb := tookW_but (askW w B most T U z) B (fun _ => False)
  have hs := @askW_size w B most T U z
  refine { r := ?_, m := ?_, v := ?_, vf := ?_, rB := by omega, mB := by omega, vB := by omega }
  · exact (hb.cell (p := ⟨w.heap.size, 0, none⟩) (by rw [hs]; simp; omega) id).trans askW_r
  · exact (hb.cell (p := ⟨w.heap.size + 1, 0, none⟩) (by rw [hs]; simp) id).trans askW_m
  · exact (hb.cell (p := ⟨w.heap.size + 1 + 1, 0, none⟩) (by rw [hs]; simp) id).trans askW_v
  · exact (hb.frozen (p := ⟨w.heap.size + 1 + 1, 0, none⟩) (by rw [hs]; simp) id).trans askW_f
theorem Sm.rdAt_took (h : RdAt w B l) : RdAt (tookW w B) B l := h.but (tookW_but w B (fun _ => False)) (fun _ _ => id)
theorem Sm.rdAt_below {w' : World} (h : RdAt w B l) (hb : Below w.heap.size w w') : RdAt w' B l := h.but (But.of_all hb (fun _ => False)) (fun _ _ => id)
end
set_option maxRecDepth 100000 in
set_option maxHeartbeats 4000000 in
/-- take, handed the closure that reads a number -/
theorem Sm.tnum_ok {w : World} {B m k : Nat} {l : List (BitVec 8)} {most : Int} (h : RdAt w B l) (h0 : 0 ≤ most) (hg : getN l = .num m k) (hm : (m : Int) ≤ most) :
    Calls Tryd.prog 44 #[.pointer (some ⟨B, 0, none⟩), .func (.func 45) #[] #[.pointer (some ⟨w.heap.size, 0, none⟩), .pointer (some ⟨w.heap.size + 1, 0, none⟩), .pointer (some ⟨w.heap.size + 1 + 1, 0, none⟩)]] (askW w B most 2 2 (.int .i64 0)) fun e w' =>
      e = .returned (.int .i64 0) ∧ DeedOk (askW w B most 2 2 (.int .i64 0)) w' B (w.heap.size + 1 + 1) (l.drop k) (.int .i64 (m : Int)) := by
  have hB := h.lt
  have ha := rdAt_below h (@askW_below w B most 2 2 (.int .i64 0))
  obtain ⟨A, n, c, h1, h2⟩ := rdAt_took ha
  have hr := @ready_ask w B most 2 2 (.int .i64 0) hB
  refine took_ok enters45 ha (by rw [askW_size]; omega) ((dnum_ok h2 hr h0 hg hm).mono ?_)
  rintro e w' ⟨hv, w1, hm1, ⟨A', hr1⟩, rfl⟩
  have hd1 : (tookW (askW w B most 2 2 (.int .i64 0)) B).drew.heap[B]? = some (.cells #[.slice A n c, .int .i64 0, .bool true] 59 (0, 0)) := h1
  have hk := DeedOk.of (y := .int .i64 (m : Int)) hd1 (V := w.heap.size + 1 + 1) (by omega) (x := .int .i64 0) hr.v hr.vf hm1 hr1
  exact ⟨hv, hk.rd, (But.refl _ _).drew.trans hk.but (fun _ _ e => e), hk.cell, hk.frozen⟩
set_option maxRecDepth 100000 in
set_option maxHeartbeats 4000000 in
theorem Sm.tnum_bad {w : World} {B : Nat} {l : List (BitVec 8)} {most : Int} (h : RdAt w B l) (h0 : 0 ≤ most) (hb : NoNum l most) :
    Calls Tryd.prog 44 #[.pointer (some ⟨B, 0, none⟩), .func (.func 45) #[] #[.pointer (some ⟨w.heap.size, 0, none⟩), .pointer (some ⟨w.heap.size + 1, 0, none⟩), .pointer (some ⟨w.heap.size + 1 + 1, 0, none⟩)]] (askW w B most 2 2 (.int .i64 0)) fun e w' =>
      e = .returned (.int .i64 120) ∧ RdBad w' B ∧ But (fun b => b = B) (askW w B most 2 2 (.int .i64 0)) w' := by
  have hB := h.lt
  have ha := rdAt_below h (@askW_below w B most 2 2 (.int .i64 0))
  obtain ⟨A, n, c, h1, h2⟩ := rdAt_took ha
  have hr := @ready_ask w B most 2 2 (.int .i64 0) hB
  refine took_bad enters45 ha ((dnum_bad h2 hr h0 hb).mono ?_)
  rintro e w' ⟨hv, hm1⟩
  have hd1 : (tookW (askW w B most 2 2 (.int .i64 0)) B).drew.heap[B]? = some (.cells #[.slice A n c, .int .i64 0, .bool true] 59 (0, 0)) := h1
  exact ⟨hv, hm1.heap hd1, (But.refl _ _).drew.trans hm1.but (fun _ _ e => e)⟩
set_option maxRecDepth 100000 in
set_option maxHeartbeats 4000000 in
theorem Sm.tnum_arg {w : World} {B : Nat} {l : List (BitVec 8)} {most : Int} (h : RdAt w B l) (h0 : most < 0) :
    Calls Tryd.prog 44 #[.pointer (some ⟨B, 0, none⟩), .func (.func 45) #[] #[.pointer (some ⟨w.heap.size, 0, none⟩), .pointer (some ⟨w.heap.size + 1, 0, none⟩), .pointer (some ⟨w.heap.size + 1 + 1, 0, none⟩)]] (askW w B most 2 2 (.int .i64 0)) fun e w' =>
      e = .returned (.int .i64 2) ∧ Below (askW w B most 2 2 (.int .i64 0)).heap.size (askW w B most 2 2 (.int .i64 0)) w' := by
  have hB := h.lt
  have ha := rdAt_below h (@askW_below w B most 2 2 (.int .i64 0))
  have hr := @ready_ask w B most 2 2 (.int .i64 0) hB
  exact took_arg enters45 ha (dnum_arg hr h0)
set_option maxRecDepth 100000 in
set_option maxHeartbeats 4000000 in
/-- take, handed the closure that reads a text -/
theorem Sm.ttext_ok {w : World} {B m k : Nat} {l : List (BitVec 8)} {most : Int} (h : RdAt w B l) (h0 : 0 ≤ most) (hg : getN l = .num m k) (hm : (m : Int) ≤ most) (hl : m ≤ l.length - k) :
    Calls Tryd.prog 44 #[.pointer (some ⟨B, 0, none⟩), .func (.func 53) #[] #[.pointer (some ⟨w.heap.size, 0, none⟩), .pointer (some ⟨w.heap.size + 1, 0, none⟩), .pointer (some ⟨w.heap.size + 1 + 1, 0, none⟩)]] (askW w B most 3 9 (.string ⟨#[]⟩)) fun e w' =>
      e = .returned (.int .i64 0) ∧ DeedOk (askW w B most 3 9 (.string ⟨#[]⟩)) w' B (w.heap.size + 1 + 1) ((l.drop k).drop m) (.string (strB ((l.drop k).take m))) := by
  have hB := h.lt
  have ha := rdAt_below h (@askW_below w B most 3 9 (.string ⟨#[]⟩))
  obtain ⟨A, n, c, h1, h2⟩ := rdAt_took ha
  have hr := @ready_ask w B most 3 9 (.string ⟨#[]⟩) hB
  refine took_ok enters53 ha (by rw [askW_size]; omega) ((dtext_ok h2 hr h0 hg hm (by rw [← h2.len]; exact hl) (by omega) (by omega)).mono ?_)
  rintro e w' ⟨hv, w1, hm1, ⟨A', hr1⟩, rfl⟩
  have hd1 : (tookW (askW w B most 3 9 (.string ⟨#[]⟩)) B).drew.heap[B]? = some (.cells #[.slice A n c, .int .i64 0, .bool true] 59 (0, 0)) := h1
  have hk := DeedOk.of (y := .string (strB ((l.drop k).take m))) hd1 (V := w.heap.size + 1 + 1) (by omega) (x := .string ⟨#[]⟩) hr.v hr.vf hm1 hr1
  exact ⟨hv, hk.rd, (But.refl _ _).drew.trans hk.but (fun _ _ e => e), hk.cell, hk.frozen⟩
set_option maxRecDepth 100000 in
set_option maxHeartbeats 4000000 in
theorem Sm.ttext_bad {w : World} {B : Nat} {l : List (BitVec 8)} {most : Int} (h : RdAt w B l) (h0 : 0 ≤ most) (hb : NoNum l most) :
    Calls Tryd.prog 44 #[.pointer (some ⟨B, 0, none⟩), .func (.func 53) #[] #[.pointer (some ⟨w.heap.size, 0, none⟩), .pointer (some ⟨w.heap.size + 1, 0, none⟩), .pointer (some ⟨w.heap.size + 1 + 1, 0, none⟩)]] (askW w B most 3 9 (.string ⟨#[]⟩)) fun e w' =>
      e = .returned (.int .i64 120) ∧ RdBad w' B ∧ But (fun b => b = B) (askW w B most 3 9 (.string ⟨#[]⟩)) w' := by
  have hB := h.lt
  have ha := rdAt_below h (@askW_below w B most 3 9 (.string ⟨#[]⟩))
  obtain ⟨A, n, c, h1, h2⟩ := rdAt_took ha
  have hr := @ready_ask w B most 3 9 (.string ⟨#[]⟩) hB
  refine took_bad enters53 ha ((dtext_bad h2 hr h0 hb).mono ?_)
  rintro e w' ⟨hv, hm1⟩
  have hd1 : (tookW (askW w B most 3 9 (.string ⟨#[]⟩)) B).drew.heap[B]? = some (.cells #[.slice A n c, .int .i64 0, .bool true] 59 (0, 0)) := h1
  exact ⟨hv, hm1.heap hd1, (But.refl _ _).drew.trans hm1.but (fun _ _ e => e)⟩
set_option maxRecDepth 100000 in
set_option maxHeartbeats 4000000 in
theorem Sm.ttext_arg {w : World} {B : Nat} {l : List (BitVec 8)} {most : Int} (h : RdAt w B l) (h0 : most < 0) :
    Calls Tryd.prog 44 #[.pointer (some ⟨B, 0, none⟩), .func (.func 53) #[] #[.pointer (some ⟨w.heap.size, 0, none⟩), .pointer (some ⟨w.heap.size + 1, 0, none⟩), .pointer (some ⟨w.heap.size + 1 + 1, 0, none⟩)]] (askW w B most 3 9 (.string ⟨#[]⟩)) fun e w' =>
      e = .returned (.int .i64 2) ∧ Below (askW w B most 3 9 (.string ⟨#[]⟩)).heap.size (askW w B most 3 9 (.string ⟨#[]⟩)) w' := by
  have hB := h.lt
  have ha := rdAt_below h (@askW_below w B most 3 9 (.string ⟨#[]⟩))
  have hr := @ready_ask w B most 3 9 (.string ⟨#[]⟩) hB
  exact took_arg enters53 ha (dtext_arg hr h0)
set_option maxRecDepth 100000 in
set_option maxHeartbeats 4000000 in
theorem Sm.ttext_long {w : World} {B m k : Nat} {l : List (BitVec 8)} {most : Int} (h : RdAt w B l) (h0 : 0 ≤ most) (hg : getN l = .num m k) (hm : (m : Int) ≤ most) (hl : l.length - k < m) :
    Calls Tryd.prog 44 #[.pointer (some ⟨B, 0, none⟩), .func (.func 53) #[] #[.pointer (some ⟨w.heap.size, 0, none⟩), .pointer (some ⟨w.heap.size + 1, 0, none⟩), .pointer (some ⟨w.heap.size + 1 + 1, 0, none⟩)]] (askW w B most 3 9 (.string ⟨#[]⟩)) fun e w' =>
      e = .returned (.int .i64 120) ∧ RdBad w' B ∧ But (fun b => b = B) (askW w B most 3 9 (.string ⟨#[]⟩)) w' := by
  have hB := h.lt
  have ha := rdAt_below h (@askW_below w B most 3 9 (.string ⟨#[]⟩))
  obtain ⟨A, n, c, h1, h2⟩ := rdAt_took ha
  have hr := @ready_ask w B most 3 9 (.string ⟨#[]⟩) hB
  refine took_bad enters53 ha ((dtext_long h2 hr h0 hg hm (by rw [← h2.len]; exact hl)).mono ?_)
  rintro e w' ⟨hv, hm1⟩
  have hd1 : (tookW (askW w B most 3 9 (.string ⟨#[]⟩)) B).drew.heap[B]? = some (.cells #[.slice A n c, .int .i64 0, .bool true] 59 (0, 0)) := h1
  exact ⟨hv, hm1.heap hd1, (But.refl _ _).drew.trans hm1.but (fun _ _ e => e)⟩
set_option maxRecDepth 100000 in
set_option maxHeartbeats 4000000 in
/-- Number, by what take answers -/
theorem Sm.Number_by {w : World} {B : Nat} {most : Int} {v : Value} (n : Int) (no : Int) (Q : World → Prop)
    (ht : Calls Tryd.prog 44 #[v, .func (.func 45) #[] #[.pointer (some ⟨w.heap.size, 0, none⟩), .pointer (some ⟨w.heap.size + 1, 0, none⟩), .pointer (some ⟨w.heap.size + 1 + 1, 0, none⟩)]] (((w.alloc (.cells #[v] 42)).alloc (.cells #[.int .i64 most] 2)).alloc (.cells #[.int .i64 0] 2)) fun e w' =>
      e = .returned (.int .i64 no) ∧ Q w' ∧ w'.cell? ⟨w.heap.size + 1 + 1, 0, none⟩ = some (.int .i64 n) ∧ w'.frozen? ⟨w.heap.size + 1 + 1, 0, none⟩ = false)
    (hp : v = .pointer none ∨ v = .pointer (some ⟨B, 0, none⟩)) :
    Calls Tryd.prog 22 #[v, .int .i64 most] w fun e w' => e = .returned (.tuple #[.int .i64 n, .int .i64 no]) ∧ ∃ w2, Q w2 ∧ w' = w2.setCell ⟨w.heap.size + 1 + 1, 0, none⟩ (.int .i64 n) := by
  have hmf : ∀ (fn : Fn) (first cap : Array Value) (w : World), (Instr.makeFunc fn first cap).run Tryd.prog w = .ok (.func fn first cap) w := fun _ _ _ _ => rfl
  rcases hp with rfl | rfl
  · go_enter Tryd.func22, Tryd.ntmps22
    go_wp2_with (go_at_call 44; (with_reducible refine ht.mono ?_); rintro e w2 ⟨rfl, hQ, hc, hf⟩)
    have hs := World.cell?_setCell_same w2 ⟨w.heap.size + 1 + 1, 0, none⟩ (.int .i64 n) hc
    exact bodyPost_ret (v := .tuple #[.int .i64 n, .int .i64 no]) (by simp [results, Tryd.results22, go_sem, hs]) rfl ⟨rfl, w2, hQ, rfl⟩
  · go_enter Tryd.func22, Tryd.ntmps22
    go_wp2_with (go_at_call 44; (with_reducible refine ht.mono ?_); rintro e w2 ⟨rfl, hQ, hc, hf⟩)
    have hs := World.cell?_setCell_same w2 ⟨w.heap.size + 1 + 1, 0, none⟩ (.int .i64 n) hc
    exact bodyPost_ret (v := .tuple #[.int .i64 n, .int .i64 no]) (by simp [results, Tryd.results22, go_sem, hs]) rfl ⟨rfl, w2, hQ, rfl⟩
set_option maxRecDepth 100000 in
set_option maxHeartbeats 4000000 in
/-- Text, by what take answers -/
theorem Sm.Text_by {w : World} {B : Nat} {most : Int} {v : Value} (n : ByteArray) (no : Int) (Q : World → Prop)
    (ht : Calls Tryd.prog 44 #[v, .func (.func 53) #[] #[.pointer (some ⟨w.heap.size, 0, none⟩), .pointer (some ⟨w.heap.size + 1, 0, none⟩), .pointer (some ⟨w.heap.size + 1 + 1, 0, none⟩)]] (((w.alloc (.cells #[v] 42)).alloc (.cells #[.int .i64 most] 3)).alloc (.cells #[.string ⟨#[]⟩] 9)) fun e w' =>
      e = .returned (.int .i64 no) ∧ Q w' ∧ w'.cell? ⟨w.heap.size + 1 + 1, 0, none⟩ = some (.string n) ∧ w'.frozen? ⟨w.heap.size + 1 + 1, 0, none⟩ = false)
    (hp : v = .pointer none ∨ v = .pointer (some ⟨B, 0, none⟩)) :
    Calls Tryd.prog 26 #[v, .int .i64 most] w fun e w' => e = .returned (.tuple #[.string n, .int .i64 no]) ∧ ∃ w2, Q w2 ∧ w' = w2.setCell ⟨w.heap.size + 1 + 1, 0, none⟩ (.string n) := by
  have hmf : ∀ (fn : Fn) (first cap : Array Value) (w : World), (Instr.makeFunc fn first cap).run Tryd.prog w = .ok (.func fn first cap) w := fun _ _ _ _ => rfl
  rcases hp with rfl | rfl
  · go_enter Tryd.func26, Tryd.ntmps26
    go_wp2_with (go_at_call 44; (with_reducible refine ht.mono ?_); rintro e w2 ⟨rfl, hQ, hc, hf⟩)
    have hs := World.cell?_setCell_same w2 ⟨w.heap.size + 1 + 1, 0, none⟩ (.string n) hc
    exact bodyPost_ret (v := .tuple #[.string n, .int .i64 no]) (by simp [results, Tryd.results26, go_sem, hs]) rfl ⟨rfl, w2, hQ, rfl⟩
  · go_enter Tryd.func26, Tryd.ntmps26
    go_wp2_with (go_at_call 44; (with_reducible refine ht.mono ?_); rintro e w2 ⟨rfl, hQ, hc, hf⟩)
    have hs := World.cell?_setCell_same w2 ⟨w.heap.size + 1 + 1, 0, none⟩ (.string n) hc
    exact bodyPost_ret (v := .tuple #[.string n, .int .i64 no]) (by simp [results, Tryd.results26, go_sem, hs]) rfl ⟨rfl, w2, hQ, rfl⟩
