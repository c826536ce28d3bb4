/-
  learner: Told's closure; tell; isNobody, may. Conditions: as each theorem names them.
-/
import Derived.Test.YtohidbkhccepnaaDoorLeD
namespace Go.Proofs
open Go Go.RowKit Sm Go.Lib
attribute [local go_sem] Oper.semAt_some
/-- where a learner lies: its block and its map's -/
def Sm.SL (p Mb : Nat) : Nat → Prop := fun q => q = p ∨ q = Mb
theorem Sm.told1_no {w : World} {p Mb b0 b1 : Nat} {s : LSt} {g : HrdM} {n : Nat} (e0 : EntM) (hp : LAt w p Mb s g n) (h0 : w.cell? ⟨b0, 0, none⟩ = some (.pointer (some ⟨p, 0, none⟩))) (h1 : w.heap[b1]? = some (.cells #[.int .i64 e0.k, .int .i64 e0.m, .int .i64 e0.n, .string e0.t] 33 (0, 0))) (hf : fits s e0 = false) :
    Calls Tryd.prog 23 #[.pointer (some ⟨b0, 0, none⟩), .pointer (some ⟨b1, 0, none⟩)] w fun e w' => e = .returned (.int .i64 260) ∧ Below w.heap.size w w' := by
  unfold fits at hf
  simp only [Bool.or_eq_false_iff, Bool.not_eq_false'] at hf
  have h18 := know_no e0 hp hf.1 hf.2
  obtain ⟨⟨c0, c1, c2, c3⟩, -⟩ := four h1
  clear hf hp h1
  go_enter Tryd.func23, Tryd.ntmps23
  go_wp2_with (go_at_call 18; (with_reducible refine h18.mono ?_); rintro e w1 ⟨rfl, hb1⟩)
  go_ret
  exact ⟨rfl, hb1⟩
theorem Sm.told1_yes {w : World} {p Mb b0 b1 : Nat} {s : LSt} {g : HrdM} {n : Nat} (e0 : EntM) (hp : LAt w p Mb s g n) (h0 : w.cell? ⟨b0, 0, none⟩ = some (.pointer (some ⟨p, 0, none⟩))) (h1 : w.heap[b1]? = some (.cells #[.int .i64 e0.k, .int .i64 e0.m, .int .i64 e0.n, .string e0.t] 33 (0, 0))) (hf : fits s e0 = true) (he : e0.ok) :
    Calls Tryd.prog 23 #[.pointer (some ⟨b0, 0, none⟩), .pointer (some ⟨b1, 0, none⟩)] w fun e w' => e = .returned (.int .i64 0) ∧ LAt w' p Mb (s.knows e0) g n ∧ But (SL p Mb) w w' := by
  have h18 := know_yes e0 hp hf he
  obtain ⟨⟨c0, c1, c2, c3⟩, -⟩ := four h1
  clear hf hp h1
  go_enter Tryd.func23, Tryd.ntmps23
  go_wp2_with (go_at_call 18; (with_reducible refine h18.mono ?_); rintro e w1 ⟨rfl, ha1, hb1⟩)
  go_ret
  exact ⟨rfl, ha1, hb1.mono (fun _ _ e => .inl e)⟩
theorem Sm.Contains_any (A : Option Addr) (n c : Nat) (xs : List Bool) (w : World) (h : RowB w A n c xs) : Calls Tryd.prog 32 #[.slice A n c, .bool true] w fun e w' => e = .returned (.bool (xs.any id)) ∧ w = w' := by
  have hi := index_any A n c xs w h
  clear h
  obtain ⟨m, hm⟩ : ∃ m, xs.any id = m := ⟨_, rfl⟩
  rw [hm] at hi ⊢
  clear hm
  go_enter Tryd.func32, Tryd.ntmps32
  go_wp2_with (go_at_call 44; (with_reducible refine hi.mono ?_); rintro e w' ⟨i, rfl, hi2, rfl⟩)
  go_ret
  exact ⟨by rw [← hi2]; rfl, rfl⟩
set_option maxRecDepth 100000 in
theorem Sm.isNobody_any {w : World} {p Mb : Nat} {s : LSt} {g : HrdM} {n : Nat} (pl : Int) (hp : LAt w p Mb s g n) :
    Calls Tryd.prog 20 #[.pointer (some ⟨p, 0, none⟩), .int .i64 pl] w fun e w' => e = .returned (.bool (!ckB s.c 0 pl)) ∧ Below w.heap.size w w' := by
  have h1 := whole_any hp
  have h33 := fun W => CheckB_any s.c 0 pl W
  have hf : ∀ w, (Instr.field 52 (.agg #[.int .i64 s.c, .int .i64 s.s, .int .i64 s.e.k, .int .i64 s.e.m, .int .i64 s.e.n, .string s.e.t, .bool s.kn, .map (some Mb)]) 0).run Tryd.prog w = .ok (.int .i64 s.c) w := fun _ => by kernel_rfl
  clear hp
  cases hc : ckB s.c 0 pl with
  | true =>
    rw [hc] at h33
    simp only [if_true] at h33
    go_enter Tryd.func20, Tryd.ntmps20
    go_wp2_with (first | (go_at_call 14; (with_reducible refine h1.mono ?_); clear h1; rintro e w1 ⟨rfl, hb1⟩) | (go_at_call 33; (with_reducible refine (h33 _).mono ?_); rintro e w2 ⟨rfl, hb2⟩))
    go_ret
    exact ⟨rfl, hb1.trans (hb2.mono hb1.size)⟩
  | false =>
    rw [hc] at h33
    simp only [Bool.false_eq_true, if_false] at h33
    go_enter Tryd.func20, Tryd.ntmps20
    go_wp2_with (first | (go_at_call 14; (with_reducible refine h1.mono ?_); clear h1; rintro e w1 ⟨rfl, hb1⟩) | (go_at_call 33; (with_reducible refine (h33 _).mono ?_); rintro e w2 ⟨rfl, hb2⟩))
    go_ret
    exact ⟨rfl, hb1.trans (hb2.mono hb1.size)⟩
set_option maxRecDepth 100000 in
set_option maxHeartbeats 1000000 in
theorem Sm.may_any {w : World} {p Mb : Nat} {s : LSt} {g : HrdM} {n : Nat} (r q : Int) (hp : LAt w p Mb s g n) :
    Calls Tryd.prog 21 #[.pointer (some ⟨p, 0, none⟩), .agg #[.int .i64 r, .int .i64 q]] w fun e w' => e = .returned (.bool (mayB s.c s.s r q)) ∧ Below w.heap.size w w' := by
  obtain ⟨W1, hW1⟩ : ∃ v, w.alloc (.cells #[.int .i64 r, .int .i64 q] 37) = v := ⟨_, rfl⟩
  have q0 : W1.heap[w.heap.size]? = some (.cells #[.int .i64 r, .int .i64 q] 37 (0, 0)) := by rw [← hW1]; exact World.alloc_heap_new w _
  have hb0 : Below w.heap.size w W1 := by rw [← hW1]; exact (Below.refl _ w).alloc (Nat.le_refl _) _
  have l0 := (Array.getElem?_eq_some_iff.1 q0).1
  have H14 : Hid (∀ W, Below W1.heap.size W1 W → Calls Tryd.prog 14 #[.pointer (some ⟨p, 0, none⟩)] W fun e w' => e = .returned (.agg #[.int .i64 s.c, .int .i64 s.s, .int .i64 s.e.k, .int .i64 s.e.m, .int .i64 s.e.n, .string s.e.t, .bool s.kn, .map (some Mb)]) ∧ Below W1.heap.size W1 w') := Lib.hid fun W hb =>
    (whole_any ((hp.keep hb0).keep hb)).mono fun e w' ⟨h1, h2⟩ => ⟨h1, hb.trans (h2.mono hb.size)⟩
  have H34 : Hid (∀ W, Below W1.heap.size W1 W → Calls Tryd.prog 34 #[.int .i64 s.c, .int .i64 s.s, .agg #[.int .i64 r, .int .i64 q]] W fun e w' => e = .returned (.bool (mayB s.c s.s r q)) ∧ Below W1.heap.size W1 w') := Lib.hid fun W hb =>
    (May_any s.c s.s r q W).mono fun e w' ⟨h1, h2⟩ => ⟨h1, hb.trans (h2.mono hb.size)⟩
  have hf : ∀ w, (Instr.field 52 (.agg #[.int .i64 s.c, .int .i64 s.s, .int .i64 s.e.k, .int .i64 s.e.m, .int .i64 s.e.n, .string s.e.t, .bool s.kn, .map (some Mb)]) 0).run Tryd.prog w = .ok (.int .i64 s.c) w := fun _ => by kernel_rfl
  have hf1 : ∀ w, (Instr.field 52 (.agg #[.int .i64 s.c, .int .i64 s.s, .int .i64 s.e.k, .int .i64 s.e.m, .int .i64 s.e.n, .string s.e.t, .bool s.kn, .map (some Mb)]) 1).run Tryd.prog w = .ok (.int .i64 s.s) w := fun _ => by kernel_rfl
  have HF : Hid (∀ W, Below W1.heap.size W1 W → W.cell? ⟨w.heap.size, 0, none⟩ = some (.int .i64 r) ∧ W.cell? ⟨w.heap.size, 1, none⟩ = some (.int .i64 q)) := Lib.hid fun W hb => (two ((hb.block _ l0).trans q0)).1
  have HB0 := Lib.hid hb0
  have z0 := HF.out _ (Below.refl _ W1)
  clear hp q0 hb0
  obtain ⟨v, hv⟩ : ∃ v, mayB s.c s.s r q = v := ⟨_, rfl⟩
  rw [hv] at H34 ⊢
  clear hv
  go_enter Tryd.func21, Tryd.ntmps21
  go_upto_region 1 with fail
  clear hW1
  go_region_held_law (fun W => W.cell? ⟨w.heap.size, 0, none⟩ = some (.int .i64 r) ∧ W.cell? ⟨w.heap.size, 1, none⟩ = some (.int .i64 q))
    (first | with_reducible exact z0 | (refine HF.out _ ?_; (first | with_reducible assumption | with_reducible exact (Below.refl _ _).drew | with_reducible exact Below.refl _ _ | with_reducible exact Below.drew (by assumption))))
    (first
      | (go_at_call 14; (with_reducible refine (H14.out _ (by first | with_reducible assumption | with_reducible exact (Below.refl _ _).drew | with_reducible exact Below.refl _ _)).mono ?_); rintro e w2 ⟨rfl, hb2⟩)
      | (go_at_call 34; (with_reducible refine (H34.out _ (by assumption)).mono ?_); rintro e w3 ⟨rfl, hb3⟩))
  all_goals
    go_wp2
    go_ret
    exact ⟨rfl, HB0.out.trans (hb3.mono HB0.out.size)⟩
end Go.Proofs
