/-
  learner: Told, Skipped, New. Conditions: as each theorem names them.
-/
import Derived.Test.YtohidbkhccepnaaDoorLeH
namespace Go.Proofs
open Go Go.RowKit Sm Go.Lib Go.Maps Go.WideMaps
attribute [local go_sem] Oper.semAt_some
/-- what Told's closure leaves: state, its answer -/
def Sm.toldD (s : LSt) (e0 : EntM) : LSt × Int := if fits s e0 = false then (s, 260) else (s.knows e0, 0)
theorem Sm.told1_any {w : World} {p Mb b0 b1 : Nat} {s : LSt} {g : HrdM} {n : Nat} (e0 : EntM) (hp : LAt w p Mb s g n) (h0 : w.cell? ⟨b0, 0, none⟩ = some (.pointer (some ⟨p, 0, none⟩))) (h1 : w.heap[b1]? = some (.cells #[.int .i64 e0.k, .int .i64 e0.m, .int .i64 e0.n, .string e0.t] 33 (0, 0))) (he : e0.ok) :
    Calls Tryd.prog 23 #[.pointer (some ⟨b0, 0, none⟩), .pointer (some ⟨b1, 0, none⟩)] w fun e w' => e = .returned (.int .i64 (toldD s e0).2) ∧ LAt w' p Mb (toldD s e0).1 g n ∧ But (SL p Mb) w w' := by
  unfold toldD
  cases hf : fits s e0 with
  | false => exact (told1_no e0 hp h0 h1 hf).mono fun e w' ⟨k1, k2⟩ => ⟨k1, hp.keep k2, But.of_all k2 _⟩
  | true => exact told1_yes e0 hp h0 h1 hf he
set_option maxRecDepth 100000 in
set_option maxHeartbeats 2000000 in
theorem Sm.Told_wrong {w : World} {p Mb : Nat} {s : LSt} {g : HrdM} {n : Nat} {e0 : EntM} (hp : LAt w p Mb s g n) (he : e0.ok) (hL : LaysT w) (hx : e0.right = false) :
    Calls Tryd.prog 10 #[.pointer (some ⟨p, 0, none⟩), .agg #[.int .i64 e0.k, .int .i64 e0.m, .int .i64 e0.n, .string e0.t]] w fun e w' => e = .returned (.tuple #[.bool false, .int .i64 2]) ∧ Below w.heap.size w w' := by
  obtain ⟨W1, hW1⟩ : ∃ v, (w.alloc (.cells #[.pointer (some ⟨p, 0, none⟩)] 25)).alloc (.cells #[.int .i64 e0.k, .int .i64 e0.m, .int .i64 e0.n, .string e0.t] 33) = v := ⟨_, rfl⟩
  have hb0 : Below w.heap.size w W1 := by rw [← hW1]; exact ((Below.refl _ w).alloc (Nat.le_refl _) _).alloc (by simp) _
  have q0 : W1.heap[w.heap.size]? = some (.cells #[.pointer (some ⟨p, 0, none⟩)] 25 (0, 0)) := by rw [← hW1]; exact (Below.heap_alloc _ _ _ (by simp)).trans (World.alloc_heap_new w _)
  have q3 : W1.heap[w.heap.size + 1]? = some (.cells #[.int .i64 e0.k, .int .i64 e0.m, .int .i64 e0.n, .string e0.t] 33 (0, 0)) := by rw [← hW1]; have := World.alloc_heap_new (w.alloc (.cells #[.pointer (some ⟨p, 0, none⟩)] 25)) (.cells #[.int .i64 e0.k, .int .i64 e0.m, .int .i64 e0.n, .string e0.t] 33); rwa [World.size_alloc] at this
  have l3 := (Array.getElem?_eq_some_iff.1 q3).1
  have hpl := hp.lt
  have HF : Hid (∀ W, Below W1.heap.size W1 W → W.cell? ⟨w.heap.size, 0, none⟩ = some (.pointer (some ⟨p, 0, none⟩)) ∧ (W.cell? ⟨w.heap.size + 1, 0, none⟩ = some (.int .i64 e0.k) ∧ W.cell? ⟨w.heap.size + 1, 1, none⟩ = some (.int .i64 e0.m) ∧ W.cell? ⟨w.heap.size + 1, 2, none⟩ = some (.int .i64 e0.n) ∧ W.cell? ⟨w.heap.size + 1, 3, none⟩ = some (.string e0.t))) := Lib.hid fun W hb =>
    ⟨cell_of_heap ((hb.block _ (by omega)).trans q0) 0, (four ((hb.block _ (by omega)).trans q3)).1⟩
  have H22 : Hid (∀ W, Below W1.heap.size W1 W → Calls Tryd.prog 22 #[.agg #[.int .i64 e0.k, .int .i64 e0.m, .int .i64 e0.n, .string e0.t]] W fun e w' => e = .returned (.bool e0.right) ∧ Below W1.heap.size W1 w') := Lib.hid fun W hb => (right_any e0.k e0.m e0.n e0.t W he.1 he.2.2.2 ((hL.keep hb0).keep hb)).mono fun e w' ⟨h1, h2⟩ => ⟨h1, hb.trans (h2.mono hb.size)⟩
  have H19 : Hid (∀ W A a, RowB W A 1 1 [a] → Below W1.heap.size W1 W → a = true → Calls Tryd.prog 19 #[.pointer (some ⟨p, 0, none⟩), .func (.func 23) #[] #[.pointer (some ⟨w.heap.size, 0, none⟩), .pointer (some ⟨w.heap.size + 1, 0, none⟩)], .slice A 1 1] W fun e w' => e = .returned (.tuple #[.bool false, .int .i64 2]) ∧ Below W1.heap.size W1 w') := Lib.hid fun W A a hr' hb hx => (tell_wrong _ A 1 1 _ ((hp.keep hb0).keep hb) hr' (by rw [hx]; rfl)).mono fun e w' ⟨h1, h2⟩ => ⟨h1, hb.trans (h2.mono hb.size)⟩
  rw [hx] at H22
  have z0 := HF.out _ (Below.refl _ W1)
  have HB0 := Lib.hid hb0
  clear hp hL he q0 q3 hb0 hx
  go_enter Tryd.func10, Tryd.ntmps10
  go_upto_region 1 with fail
  clear hW1
  go_region_held_law (fun W => W.cell? ⟨w.heap.size, 0, none⟩ = some (.pointer (some ⟨p, 0, none⟩)) ∧ (W.cell? ⟨w.heap.size + 1, 0, none⟩ = some (.int .i64 e0.k) ∧ W.cell? ⟨w.heap.size + 1, 1, none⟩ = some (.int .i64 e0.m) ∧ W.cell? ⟨w.heap.size + 1, 2, none⟩ = some (.int .i64 e0.n) ∧ W.cell? ⟨w.heap.size + 1, 3, none⟩ = some (.string e0.t)))
    (first | with_reducible exact z0 | (refine HF.out _ ?_; (first | with_reducible assumption | with_reducible exact (Below.refl _ _).drew | with_reducible exact Below.refl _ _ | with_reducible exact Below.drew (by assumption) | exact hb4.alloc hb4.size _ | exact (hb4.alloc hb4.size _).drew)) | with_reducible exact zE)
    (first
      | (go_at_call 22; (with_reducible refine (H22.out _ (by first | with_reducible assumption | with_reducible exact (Below.refl _ _).drew | with_reducible exact Below.refl _ _)).mono ?_); rintro e w4 ⟨rfl, hb4⟩)
      | (go_at_call 19; (with_reducible refine (H19.out _ _ _ (by first | exact row1 _ _ _ | exact (row1 _ _ _).keep (Below.refl _ _).drew) (by first | exact hb4.alloc hb4.size _ | exact (hb4.alloc hb4.size _).drew | exact hb4.drew.alloc hb4.size _) rfl).mono ?_); rintro e w5 ⟨rfl, HR⟩; have zE := HF.out _ HR))
  all_goals
    go_wp2
    go_ret2
    exact ⟨rfl, HB0.out.trans (HR.mono HB0.out.size)⟩
set_option maxRecDepth 100000 in
set_option maxHeartbeats 2000000 in
theorem Sm.Told_do {w : World} {p Mb : Nat} {s : LSt} {g : HrdM} {n : Nat} {e0 : EntM} (hp : LAt w p Mb s g n) (he : e0.ok) (hL : LaysT w) (hx : e0.right = true) :
    Calls Tryd.prog 10 #[.pointer (some ⟨p, 0, none⟩), .agg #[.int .i64 e0.k, .int .i64 e0.m, .int .i64 e0.n, .string e0.t]] w fun e w' => e = .returned (.tuple #[.bool ((toldD s e0).1.kn != s.kn), .int .i64 (toldD s e0).2]) ∧ LAt w' p Mb (toldD s e0).1 g n ∧ But (SL p Mb) w w' := by
  obtain ⟨W1, hW1⟩ : ∃ v, (w.alloc (.cells #[.pointer (some ⟨p, 0, none⟩)] 25)).alloc (.cells #[.int .i64 e0.k, .int .i64 e0.m, .int .i64 e0.n, .string e0.t] 33) = v := ⟨_, rfl⟩
  have hb0 : Below w.heap.size w W1 := by rw [← hW1]; exact ((Below.refl _ w).alloc (Nat.le_refl _) _).alloc (by simp) _
  have q0 : W1.heap[w.heap.size]? = some (.cells #[.pointer (some ⟨p, 0, none⟩)] 25 (0, 0)) := by rw [← hW1]; exact (Below.heap_alloc _ _ _ (by simp)).trans (World.alloc_heap_new w _)
  have q3 : W1.heap[w.heap.size + 1]? = some (.cells #[.int .i64 e0.k, .int .i64 e0.m, .int .i64 e0.n, .string e0.t] 33 (0, 0)) := by rw [← hW1]; have := World.alloc_heap_new (w.alloc (.cells #[.pointer (some ⟨p, 0, none⟩)] 25)) (.cells #[.int .i64 e0.k, .int .i64 e0.m, .int .i64 e0.n, .string e0.t] 33); rwa [World.size_alloc] at this
  have l3 := (Array.getElem?_eq_some_iff.1 q3).1
  have hpl := hp.lt
  have HF : Hid (∀ W, Below W1.heap.size W1 W → W.cell? ⟨w.heap.size, 0, none⟩ = some (.pointer (some ⟨p, 0, none⟩)) ∧ (W.cell? ⟨w.heap.size + 1, 0, none⟩ = some (.int .i64 e0.k) ∧ W.cell? ⟨w.heap.size + 1, 1, none⟩ = some (.int .i64 e0.m) ∧ W.cell? ⟨w.heap.size + 1, 2, none⟩ = some (.int .i64 e0.n) ∧ W.cell? ⟨w.heap.size + 1, 3, none⟩ = some (.string e0.t))) := Lib.hid fun W hb =>
    ⟨cell_of_heap ((hb.block _ (by omega)).trans q0) 0, (four ((hb.block _ (by omega)).trans q3)).1⟩
  have H22 : Hid (∀ W, Below W1.heap.size W1 W → Calls Tryd.prog 22 #[.agg #[.int .i64 e0.k, .int .i64 e0.m, .int .i64 e0.n, .string e0.t]] W fun e w' => e = .returned (.bool e0.right) ∧ Below W1.heap.size W1 w') := Lib.hid fun W hb => (right_any e0.k e0.m e0.n e0.t W he.1 he.2.2.2 ((hL.keep hb0).keep hb)).mono fun e w' ⟨h1, h2⟩ => ⟨h1, hb.trans (h2.mono hb.size)⟩
  have H19 : Hid (∀ W A a, RowB W A 1 1 [a] → Below W1.heap.size W1 W → a = false → Calls Tryd.prog 19 #[.pointer (some ⟨p, 0, none⟩), .func (.func 23) #[] #[.pointer (some ⟨w.heap.size, 0, none⟩), .pointer (some ⟨w.heap.size + 1, 0, none⟩)], .slice A 1 1] W fun e w' => e = .returned (.tuple #[.bool ((toldD s e0).1.kn != s.kn), .int .i64 (toldD s e0).2]) ∧ Hid (LAt w' p Mb (toldD s e0).1 g n ∧ But (SL p Mb) w w') ∧ (w'.cell? ⟨w.heap.size, 0, none⟩ = some (.pointer (some ⟨p, 0, none⟩)) ∧ (w'.cell? ⟨w.heap.size + 1, 0, none⟩ = some (.int .i64 e0.k) ∧ w'.cell? ⟨w.heap.size + 1, 1, none⟩ = some (.int .i64 e0.m) ∧ w'.cell? ⟨w.heap.size + 1, 2, none⟩ = some (.int .i64 e0.n) ∧ w'.cell? ⟨w.heap.size + 1, 3, none⟩ = some (.string e0.t)))) := Lib.hid fun W A a hr' hb ha => by
    subst ha
    have hpW := (hp.keep hb0).keep hb
    have hc0 := fun (W2 : World) (hb2 : Below W.heap.size W W2) => cell_of_heap ((hb2.block _ (Nat.lt_of_lt_of_le (by omega) hb.size)).trans ((hb.block _ (by omega)).trans q0)) 0
    refine (tell_do 23 _ (enters_of Tryd.func23 (by kernel_rfl) rfl) A 1 1 _ hpW hr' rfl (fun W2 hb2 => told1_any e0 (hpW.keep hb2) (hc0 W2 hb2) ((hb2.block _ (Nat.lt_of_lt_of_le (by omega) hb.size)).trans ((hb.block _ (by omega)).trans q3)) he)).mono fun e w' ⟨h1, h2, h3⟩ => ⟨h1, Lib.hid ⟨h2, (But.of_all (hb0.trans (hb.mono hb0.size)) _).trans h3 (fun _ _ e => e)⟩, ?_⟩
    have hq0 := h3.box ((hb.block _ (by omega)).trans q0) (by show ¬ (_ = _ ∨ _ = _); omega)
    have hq3 := h3.box ((hb.block _ (by omega)).trans q3) (by show ¬ (_ = _ ∨ _ = _); omega)
    exact ⟨cell_of_heap hq0 0, (four hq3).1⟩
  rw [hx] at H22
  obtain ⟨kk, hkk⟩ : ∃ kk, ((toldD s e0).1.kn != s.kn) = kk := ⟨_, rfl⟩
  obtain ⟨xx, hxx⟩ : ∃ xx, (toldD s e0).2 = xx := ⟨_, rfl⟩
  rw [hkk, hxx] at H19 ⊢
  clear hkk hxx
  have z0 := HF.out _ (Below.refl _ W1)
  have HB0 := Lib.hid hb0
  clear hp hL he q0 q3 hb0 hx
  go_enter Tryd.func10, Tryd.ntmps10
  go_upto_region 1 with fail
  clear hW1
  go_region_held_law (fun W => W.cell? ⟨w.heap.size, 0, none⟩ = some (.pointer (some ⟨p, 0, none⟩)) ∧ (W.cell? ⟨w.heap.size + 1, 0, none⟩ = some (.int .i64 e0.k) ∧ W.cell? ⟨w.heap.size + 1, 1, none⟩ = some (.int .i64 e0.m) ∧ W.cell? ⟨w.heap.size + 1, 2, none⟩ = some (.int .i64 e0.n) ∧ W.cell? ⟨w.heap.size + 1, 3, none⟩ = some (.string e0.t)))
    (first | with_reducible exact z0 | (refine HF.out _ ?_; (first | with_reducible assumption | with_reducible exact (Below.refl _ _).drew | with_reducible exact Below.refl _ _ | with_reducible exact Below.drew (by assumption) | exact hb4.alloc hb4.size _ | exact (hb4.alloc hb4.size _).drew)) | with_reducible exact zE)
    (first
      | (go_at_call 22; (with_reducible refine (H22.out _ (by first | with_reducible assumption | with_reducible exact (Below.refl _ _).drew | with_reducible exact Below.refl _ _)).mono ?_); rintro e w4 ⟨rfl, hb4⟩)
      | (go_at_call 19; (with_reducible refine (H19.out _ _ _ (by first | exact row1 _ _ _ | exact (row1 _ _ _).keep (Below.refl _ _).drew) (by first | exact hb4.alloc hb4.size _ | exact (hb4.alloc hb4.size _).drew | exact hb4.drew.alloc hb4.size _) rfl).mono ?_); rintro e w5 ⟨rfl, HR, zE⟩))
  all_goals
    go_wp2
    go_ret2
    exact ⟨rfl, HR.out⟩
/-- no entry is chosen -/
def Sm.skipE : EntM := ⟨1, 0, 0, ⟨#[]⟩⟩
theorem Sm.ok_small (k m n : Int) (t : ByteArray) (h : 0 ≤ k ∧ k ≤ 100 ∧ 0 ≤ m ∧ m ≤ 100 ∧ 0 ≤ n ∧ n ≤ 100 ∧ t.size ≤ 1000000) : EntM.ok ⟨k, m, n, t⟩ := by
  refine ⟨?_, ?_, ?_, h.2.2.2.2.2.2⟩
  · show I64 k; unfold I64; omega
  · show I64 m; unfold I64; omega
  · show I64 n; unfold I64; omega
theorem Sm.skip_ok : skipE.ok := ok_small 1 0 0 ⟨#[]⟩ (by decide)
theorem Sm.skip_right : skipE.right = true := by unfold EntM.right skipE entB; simp
set_option maxRecDepth 100000 in
theorem Sm.Skipped_any {w : World} {p Mb : Nat} {s : LSt} {g : HrdM} {n : Nat} (hp : LAt w p Mb s g n) (hL : LaysT w) :
    Calls Tryd.prog 11 #[.pointer (some ⟨p, 0, none⟩)] w fun e w' => e = .returned (.tuple #[.bool ((toldD s skipE).1.kn != s.kn), .int .i64 (toldD s skipE).2]) ∧ LAt w' p Mb (toldD s skipE).1 g n ∧ But (SL p Mb) w w' := by
  have h10 : Calls Tryd.prog 10 #[.pointer (some ⟨p, 0, none⟩), .agg #[.int .i64 1, .int .i64 0, .int .i64 0, .string ⟨#[]⟩]] w _ := Told_do (e0 := skipE) hp skip_ok hL skip_right
  obtain ⟨kk, hkk⟩ : ∃ kk, ((toldD s skipE).1.kn != s.kn) = kk := ⟨_, rfl⟩
  obtain ⟨xx, hxx⟩ : ∃ xx, (toldD s skipE).2 = xx := ⟨_, rfl⟩
  rw [hkk, hxx] at h10 ⊢
  clear hp hL hkk hxx
  go_enter Tryd.func11, Tryd.ntmps11
  go_wp2_with (go_at_call 10; (with_reducible refine h10.mono ?_); rintro e w1 ⟨rfl, ha, hb⟩)
  go_ret2
  exact ⟨rfl, ha, hb⟩
theorem Sm.slotV_no (c s v : Int) (h : ¬ (chB c = true ∧ slB s = true)) : (slotV c s v).2 ≠ 0 := fun e => h (by rwa [slotV_e] at e)
set_option maxRecDepth 100000 in
theorem Sm.New_no (c s : Int) (w : World) (h : ¬ (chB c = true ∧ slB s = true)) : Calls Tryd.prog 6 #[.int .i64 c, .int .i64 s] w fun e w' => ∃ x : Int, e = .returned (.tuple #[.pointer none, .int .i64 x]) ∧ x ≠ 0 ∧ Below w.heap.size w w' := by
  have h1 := Owner_any c s w
  have h2 := slotV_no c s (s % c) h
  obtain ⟨x, hx⟩ : ∃ x, (slotV c s (s % c)).1 = x := ⟨_, rfl⟩
  obtain ⟨y, hy⟩ : ∃ x, (slotV c s (s % c)).2 = x := ⟨_, rfl⟩
  rw [hx, hy] at h1
  rw [hy] at h2
  clear hx hy h
  have h3 : (y != 0) = true := by simpa using h2
  go_enter Tryd.func6, Tryd.ntmps6
  go_wp2_with (go_at_call 13; (with_reducible refine h1.mono ?_); clear h1; rintro e w1 ⟨rfl, hb1⟩)
  go_ret2
  exact ⟨y, rfl, h2, hb1⟩
theorem Sm.new_alloc (w : World) {o : Obj} {b : Nat} (hb : b = w.heap.size) : (w.alloc o).heap[b]? = some o := by subst hb; exact World.alloc_heap_new w o
theorem Sm.lrn_new (c s : Int) (v : World) (h : chB c = true ∧ slB s = true) :
    LAt ((v.alloc (.map #[] 0)).alloc (.cells #[.int .i64 c, .int .i64 s, .int .i64 0, .int .i64 0, .int .i64 0, .string ⟨#[]⟩, .bool false, .map (some v.heap.size)] 52)) (v.heap.size + 1) v.heap.size ⟨c, s, noE, false⟩ (fun _ _ => none) 0 := by
  have hm := World.ownsMap_made v Tryd.prog 37 heldElem
  exact ⟨new_alloc _ (by simp), ⟨_, [], hm.alloc _, HrdIs.nil, Nat.le_refl _⟩, by omega, h, ok_small 0 0 0 ⟨#[]⟩ (by decide)⟩
set_option maxRecDepth 100000 in
theorem Sm.New_yes (c s : Int) (w : World) (h : chB c = true ∧ slB s = true) : Calls Tryd.prog 6 #[.int .i64 c, .int .i64 s] w fun e w' => ∃ p Mb, e = .returned (.tuple #[.pointer (some ⟨p, 0, none⟩), .int .i64 0]) ∧ LAt w' p Mb ⟨c, s, noE, false⟩ (fun _ _ => none) 0 ∧ w.heap.size ≤ p ∧ w.heap.size ≤ Mb ∧ Below w.heap.size w w' := by
  have h1 := Owner_any c s w
  rw [slotV_v c s _ h.1 h.2] at h1
  have hmm := @run_makeMap Tryd.prog
  go_enter Tryd.func6, Tryd.ntmps6
  go_wp2_with (go_at_call 13; (with_reducible refine h1.mono ?_); clear h1; rintro e w1 ⟨rfl, hb⟩)
  exact bodyPost_ret (v := .tuple #[.pointer (some ⟨w1.heap.size + 1, 0, none⟩), .int .i64 0]) (by simp [results, Tryd.results6, go_sem]) rfl
    ⟨w1.heap.size + 1, w1.heap.size, rfl, lrn_new c s w1 h, by have := hb.size; omega, hb.size, (hb.alloc hb.size _).alloc (hb.alloc hb.size _).size _⟩
end Go.Proofs
