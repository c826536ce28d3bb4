/-
  ballot: the chapter's rows: works. No condition.
-/
import Derived.Test.YtjdmnajjfikehaaBaN
namespace Go.Proofs
open Go Go.RowKit Sm Go.Lib
attribute [local go_sem] Oper.semAt_some
theorem Sm.up1 {W W2 : World} {A o : Obj} {x : Nat} (hb : Below (W.alloc A).heap.size (W.alloc A) W2) (h : W.heap[x]? = some o) : W2.heap[x]? = some o := by
  have hl := (Array.getElem?_eq_some_iff.1 h).1
  exact (hb.block _ (by simp; omega)).trans ((Below.heap_alloc _ _ _ hl).trans h)
theorem Sm.new1 {W W2 : World} {A : Obj} (hb : Below (W.alloc A).heap.size (W.alloc A) W2) : W2.heap[W.heap.size]? = some A :=
  (hb.block _ (by simp)).trans (World.alloc_heap_new W A)
theorem Sm.up2 {W W2 : World} {A B o : Obj} {x : Nat} (hb : Below ((W.alloc A).alloc B).heap.size ((W.alloc A).alloc B) W2) (h : W.heap[x]? = some o) : W2.heap[x]? = some o :=
  up1 hb ((Below.heap_alloc _ _ _ (Array.getElem?_eq_some_iff.1 h).1).trans h)
theorem Sm.new2 {W W2 : World} {A B : Obj} (hb : Below ((W.alloc A).alloc B).heap.size ((W.alloc A).alloc B) W2) : W2.heap[W.heap.size]? = some A :=
  up1 hb (World.alloc_heap_new W A)
theorem Sm.bel1 {n : Nat} {w W W2 : World} {A : Obj} (h : Below n w W) (hn : n ≤ W.heap.size) (hb : Below (W.alloc A).heap.size (W.alloc A) W2) : Below n w W2 :=
  (h.alloc hn A).trans (hb.mono (by simp; omega))
theorem Sm.bel2 {n : Nat} {w W W2 : World} {A B : Obj} (h : Below n w W) (hn : n ≤ W.heap.size) (hb : Below ((W.alloc A).alloc B).heap.size ((W.alloc A).alloc B) W2) : Below n w W2 :=
  bel1 (h.alloc hn A) (by simp; omega) hb
theorem Sm.row1 (W : World) (r p : Int) : RowP (W.alloc (.cells #[.int .i64 r, .int .i64 p] 23)) (some ⟨W.heap.size, 0, none⟩) 1 1 [(r, p)] := by
  refine ⟨rfl, Nat.le_refl _, by omega, .inr ⟨W.heap.size, 0, rfl, by simp, fun j hj => ?_⟩⟩
  obtain rfl : j = 0 := by simpa using hj
  exact ⟨cell_of_heap (World.alloc_heap_new W _) 0, cell_of_heap (World.alloc_heap_new W _) 1⟩
/-- what stands for the rows: votes, and the four ballots -/
structure Sm.WkS (w W : World) (b x1 x3 x5 x7 : Nat) (f : Nat → Bool) : Prop where
  v : W.heap[b]? = some (.cells #[.int .i64 3, .bool (f 0), .bool (f 1), .bool (f 2), .bool (f 3), .bool (f 4), .bool (f 5), .bool (f 6), .bool (f 7), .bool (f 8)] 54 (0, 0))
  a : W.heap[x1]? = some (.cells #[.int .i64 0, .int .i64 1] 23 (0, 0))
  b2 : W.heap[x3]? = some (.cells #[.int .i64 3, .int .i64 0] 23 (0, 0))
  c : W.heap[x5]? = some (.cells #[.int .i64 2, .int .i64 2] 23 (0, 0))
  d : W.heap[x7]? = some (.cells #[.int .i64 1, .int .i64 1] 23 (0, 0))
  n : x1 ≠ b ∧ x3 ≠ b ∧ x5 ≠ b ∧ x7 ≠ b ∧ w.heap.size ≤ b
  l : Below w.heap.size w W
theorem Sm.WkS.keep {w W W2 : World} {b x1 x3 x5 x7 : Nat} {f : Nat → Bool} (h : WkS w W b x1 x3 x5 x7 f) (hb : Below W.heap.size W W2) : WkS w W2 b x1 x3 x5 x7 f :=
  ⟨(hb.block _ (Array.getElem?_eq_some_iff.1 h.v).1).trans h.v, (hb.block _ (Array.getElem?_eq_some_iff.1 h.a).1).trans h.a, (hb.block _ (Array.getElem?_eq_some_iff.1 h.b2).1).trans h.b2, (hb.block _ (Array.getElem?_eq_some_iff.1 h.c).1).trans h.c, (hb.block _ (Array.getElem?_eq_some_iff.1 h.d).1).trans h.d, h.n, h.l.trans (hb.mono h.l.size)⟩
theorem Sm.WkS.add {w W W2 : World} {b x1 x3 x5 x7 : Nat} {f g : Nat → Bool} (h : WkS w W b x1 x3 x5 x7 f) (hb : But (fun q => q = b) W W2) (hv : W2.heap[b]? = some (.cells #[.int .i64 3, .bool (g 0), .bool (g 1), .bool (g 2), .bool (g 3), .bool (g 4), .bool (g 5), .bool (g 6), .bool (g 7), .bool (g 8)] 54 (0, 0))) : WkS w W2 b x1 x3 x5 x7 g :=
  ⟨hv, hb.box h.a h.n.1, hb.box h.b2 h.n.2.1, hb.box h.c h.n.2.2.1, hb.box h.d h.n.2.2.2.1, h.n, h.l.trans (hb.to_below h.l.size (fun q e => by rw [e]; exact h.n.2.2.2.2))⟩
def Sm.bvp (b : Nat) : Value := .pointer (some ⟨b, 0, none⟩)
set_option maxRecDepth 100000 in
set_option maxHeartbeats 4000000 in
theorem Sm.works_any (w : World) : Calls Try.prog 15 #[] w fun e w' => e = .returned (.bool true) ∧ Below w.heap.size w w' := by
  have h16 : ∀ W : World, Calls Try.prog 16 #[.int .i64 3, .int .i64 7] W fun e w' => e = .returned (.tuple #[.agg #[.int .i64 0, .int .i64 1], .int .i64 0]) ∧ Below W.heap.size W w' := fun W => by
    have h := First_any 3 7 W
    rw [show slotV 3 7 (7 % 3) = (1, 0) by decide +kernel] at h
    exact h
  have ha1 : ∀ (W : World) (X : Nat), X = W.heap.size → Calls Try.prog 21 #[.int .i64 3, .int .i64 0, .slice (some ⟨X, 0, none⟩) 1 1] (W.alloc (.cells #[.int .i64 2, .int .i64 1] 23)) fun e w' => e = .returned (.tuple #[.agg #[.int .i64 3, .int .i64 0], .int .i64 0]) ∧ Below (W.alloc (.cells #[.int .i64 2, .int .i64 1] 23)).heap.size (W.alloc (.cells #[.int .i64 2, .int .i64 1] 23)) w' := fun W X hX => by
    subst hX
    have h := Above_any 3 0 _ 1 1 [(2, 1)] _ (row1 W 2 1)
    rw [show aboV 3 0 [(2, 1)] = ((3, 0), 0) by decide +kernel] at h
    exact h
  have ha2 : ∀ (W : World) (X : Nat), X = W.heap.size → Calls Try.prog 21 #[.int .i64 3, .int .i64 2, .slice (some ⟨X, 0, none⟩) 1 1] (W.alloc (.cells #[.int .i64 2, .int .i64 1] 23)) fun e w' => e = .returned (.tuple #[.agg #[.int .i64 2, .int .i64 2], .int .i64 0]) ∧ Below (W.alloc (.cells #[.int .i64 2, .int .i64 1] 23)).heap.size (W.alloc (.cells #[.int .i64 2, .int .i64 1] 23)) w' := fun W X hX => by
    subst hX
    have h := Above_any 3 2 _ 1 1 [(2, 1)] _ (row1 W 2 1)
    rw [show aboV 3 2 [(2, 1)] = ((2, 2), 0) by decide +kernel] at h
    exact h
  have ha3 : ∀ W : World, Calls Try.prog 21 #[.int .i64 3, .int .i64 1, .slice none 0 0] W fun e w' => e = .returned (.tuple #[.agg #[.int .i64 1, .int .i64 1], .int .i64 0]) ∧ Below W.heap.size W w' := fun W => by
    have h := Above_any 3 1 none 0 0 [] W ⟨rfl, Nat.le_refl _, by omega, .inl rfl⟩
    rw [show aboV 3 1 [] = ((1, 1), 0) by decide +kernel] at h
    exact h
  have h23 := fun W => New_yes 3 W (by decide +kernel)
  have hA : ∀ (b : Nat) (f : Nat → Bool) (W : World), W.heap[b]? = some (.cells #[.int .i64 3, .bool (f 0), .bool (f 1), .bool (f 2), .bool (f 3), .bool (f 4), .bool (f 5), .bool (f 6), .bool (f 7), .bool (f 8)] 54 (0, 0)) → ∀ p : Nat, p < 3 → Calls Try.prog 24 #[.pointer (some ⟨b, 0, none⟩), .int .i64 (p : Int)] W fun e w' => e = .returned (.tuple #[.bool (!f p), .int .i64 0]) ∧ w'.heap[b]? = some (.cells #[.int .i64 3, .bool ((setF f p) 0), .bool ((setF f p) 1), .bool ((setF f p) 2), .bool ((setF f p) 3), .bool ((setF f p) 4), .bool ((setF f p) 5), .bool ((setF f p) 6), .bool ((setF f p) 7), .bool ((setF f p) 8)] 54 (0, 0)) ∧ But (fun q => q = b) W w' := fun b f W hW p hp => by
    have h := Add_any b 3 (p : Int) f W hW (by decide +kernel)
    have hr : rpB 3 (p : Int) = true := by unfold rpB; simp; omega
    unfold adB adE adF at h
    rw [hr] at h
    simp only [if_true, Int.toNat_natCast] at h
    exact h
  have hWo : ∀ (b : Nat) (f : Nat → Bool) (W : World), W.heap[b]? = some (.cells #[.int .i64 3, .bool (f 0), .bool (f 1), .bool (f 2), .bool (f 3), .bool (f 4), .bool (f 5), .bool (f 6), .bool (f 7), .bool (f 8)] 54 (0, 0)) → Calls Try.prog 28 #[.pointer (some ⟨b, 0, none⟩)] W fun e w' => e = .returned (.bool (wonB 3 f)) ∧ Below W.heap.size W w' := fun b f W hW => Won_any _ 3 f W (.inr ⟨b, rfl, hW⟩)
  have hm1 : ∀ W : World, Calls Try.prog 17 #[.int .i64 3, .int .i64 7, .agg #[.int .i64 0, .int .i64 2]] W fun e w' => e = .returned (.bool false) ∧ Below W.heap.size W w' := fun W => by
    have h := May_any 3 7 0 2 W
    rw [show mayB 3 7 0 2 = false by decide +kernel] at h
    exact h
  have hm2 : ∀ W : World, Calls Try.prog 17 #[.int .i64 3, .int .i64 7, .agg #[.int .i64 1, .int .i64 2]] W fun e w' => e = .returned (.bool true) ∧ Below W.heap.size W w' := fun W => by
    have h := May_any 3 7 1 2 W
    rw [show mayB 3 7 1 2 = true by decide +kernel] at h
    exact h
  have hn := fun x W => num_any x W
  have F0 : Nat → Bool := fun _ => false
  have HA := Lib.hid hA
  have HWo := Lib.hid hWo
  have e1 : wonB 3 (setF (setF (fun _ => false) 0) 0) = false := by decide +kernel
  have e2 : wonB 3 (setF (setF (setF (fun _ => false) 0) 0) 2) = true := by decide +kernel
  have HE := Lib.hid (And.intro e1 e2)
  clear hA hWo e1 e2 F0
  go_enter Try.func15, Try.ntmps15
  go_wp2_with (first
    | (go_at_call 13; (with_reducible refine (hn _ _).mono ?_); rintro e w' ⟨rfl, rfl⟩)
    | (go_at_call 16; (with_reducible refine (h16 _).mono ?_); rintro e w1 ⟨rfl, hb1⟩; have HB1 := Lib.hid hb1; have hz1 := hb1.size; clear hb1)
    | (go_at_call 21; (with_reducible refine (ha1 _ _ (by simp)).mono ?_); clear ha1; rintro e w2 ⟨rfl, hb2⟩; have HX1 := Lib.hid (new2 hb2); have HB2 := Lib.hid (bel2 HB1.out hz1 hb2); have hz2 := HB2.out.size; clear hb2)
    | (go_at_call 21; (with_reducible refine (ha2 _ _ (by simp)).mono ?_); clear ha2; rintro e w3 ⟨rfl, hb3⟩; have HX3 := Lib.hid (new2 hb3); replace HX1 := Lib.hid (up2 hb3 HX1.out); have HB3 := Lib.hid (bel2 HB2.out hz2 hb3); have hz3 := HB3.out.size; clear hb3)
    | (go_at_call 21; (with_reducible refine (ha3 _).mono ?_); clear ha3; rintro e w4 ⟨rfl, hb4⟩; have HX5 := Lib.hid (new1 hb4); replace HX1 := Lib.hid (up1 hb4 HX1.out); replace HX3 := Lib.hid (up1 hb4 HX3.out); have HB4 := Lib.hid (bel1 HB3.out hz3 hb4); have hz4 := HB4.out.size; clear hb4)
    | (go_at_call 23; (with_reducible refine (h23 _).mono ?_); clear h23; rintro e w5 ⟨b, rfl, hbz, hbc, hb5⟩; have l1 := (Array.getElem?_eq_some_iff.1 HX1.out).1; have l3 := (Array.getElem?_eq_some_iff.1 HX3.out).1; have l5 := (Array.getElem?_eq_some_iff.1 HX5.out).1; have HX7 := Lib.hid (new1 hb5); replace HX1 := Lib.hid (up1 hb5 HX1.out); replace HX3 := Lib.hid (up1 hb5 HX3.out); replace HX5 := Lib.hid (up1 hb5 HX5.out); have HB5 := Lib.hid (bel1 HB4.out hz4 hb5); have HS5 : Hid (WkS w w5 b w1.heap.size w2.heap.size w3.heap.size w4.heap.size (fun _ => false)) := Lib.hid ⟨hbc, HX1.out, HX3.out, HX5.out, HX7.out, by simp at hbz; omega, HB5.out⟩; have hA1 := HA.out b (fun _ => false) w5 hbc 0 (by omega); clear hb5 hbz hbc l1 l3 l5)
    | (go_at_call 24; refine hA1.mono ?_; clear hA1; rintro e w6 ⟨rfl, hv6, hb6⟩; have HS6 := Lib.hid (HS5.out.add hb6 hv6); have hA2 := HA.out b _ w6 hv6 0 (by omega); clear hv6 hb6)
    | (go_at_call 24; refine hA2.mono ?_; clear hA2; rintro e w7 ⟨rfl, hv7, hb7⟩; have HS7 := Lib.hid (HS6.out.add hb7 hv7); have hW7 := HWo.out b _ w7 hv7; rw [HE.out.1] at hW7; clear hv7 hb7)
    | (go_at_call 28; (with_reducible refine hW7.mono ?_); clear hW7; rintro e w8 ⟨rfl, hb8⟩; have HS8 := Lib.hid (HS7.out.keep hb8); have hA3 := HA.out b _ w8 HS8.out.v 2 (by omega); clear hb8)
    | (go_at_call 24; refine hA3.mono ?_; clear hA3; rintro e w9 ⟨rfl, hv9, hb9⟩; have HS9 := Lib.hid (HS8.out.add hb9 hv9); have hW9 := HWo.out b _ w9 hv9; rw [HE.out.2] at hW9; clear hv9 hb9; have a0 := cell_of_heap HS9.out.a 0; have a1 := cell_of_heap HS9.out.a 1; have b0 := cell_of_heap HS9.out.b2 0; have b1 := cell_of_heap HS9.out.b2 1; have c0 := cell_of_heap HS9.out.c 0; have c1 := cell_of_heap HS9.out.c 1; have d0 := cell_of_heap HS9.out.d 0; have d1 := cell_of_heap HS9.out.d 1; simp only [List.getElem?_toArray, List.getElem?_cons_zero, List.getElem?_cons_succ] at a0 a1 b0 b1 c0 c1 d0 d1)
    | (go_at_call 28; (with_reducible refine hW9.mono ?_); clear hW9; rintro e w10 ⟨rfl, hb10⟩; have HB10 := Lib.hid (HS9.out.l.trans (hb10.mono HS9.out.l.size)); clear hb10)
    | (go_at_call 17; (with_reducible refine (hm1 _).mono ?_); clear hm1; rintro e w11 ⟨rfl, hb11⟩; have HB11 := Lib.hid (HB10.out.trans (hb11.mono HB10.out.size)); clear hb11)
    | (go_at_call 17; (with_reducible refine (hm2 _).mono ?_); clear hm2; rintro e w12 ⟨rfl, hb12⟩; have HB12 := Lib.hid (HB11.out.trans (hb12.mono HB11.out.size)); clear hb12))
  go_ret
  exact ⟨rfl, HB12.out⟩
end Go.Proofs
