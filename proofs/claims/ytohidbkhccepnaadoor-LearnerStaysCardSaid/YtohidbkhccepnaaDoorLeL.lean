/-
  learner: what is known stays. Conditions: as each theorem names them.
-/
import Derived.Test.YtohidbkhccepnaaDoorLeK
namespace Go.Proofs
open Go Go.RowKit Sm Go.Lib Go.Maps Go.WideMaps
attribute [local go_sem] Oper.semAt_some
/-- what a call tells, and what stays -/
def Sm.stepOK (s s' : LSt) (b : Bool) : Prop := b = (s'.kn && !s.kn) ∧ (s.kn = true → s'.kn = true ∧ s'.e = s.e)
theorem Sm.stepOK_same (s : LSt) : stepOK s s (s.kn != s.kn) := ⟨by cases s.kn <;> rfl, fun h => ⟨h, rfl⟩⟩
theorem Sm.stepOK_no (s : LSt) : stepOK s s false := ⟨by cases s.kn <;> rfl, fun h => ⟨h, rfl⟩⟩
theorem Sm.stepOK_knows {s : LSt} {e0 : EntM} (h : ¬ fits s e0 = false) : stepOK s (s.knows e0) ((s.knows e0).kn != s.kn) := by
  refine ⟨?_, fun hk => ⟨rfl, ?_⟩⟩
  · show (true != s.kn) = (true && !s.kn)
    cases s.kn <;> rfl
  · unfold fits at h
    rw [hk] at h
    simp at h
    exact (sameE_eq h).symm
theorem Sm.toldD_ok (s : LSt) (e0 : EntM) : stepOK s (toldD s e0).1 ((toldD s e0).1.kn != s.kn) := by
  unfold toldD
  split
  · exact stepOK_same s
  · exact stepOK_knows (by assumption)
theorem Sm.hearD_ok (s : LSt) (g : HrdM) (r q : Int) (pl : Nat) (e0 : EntM) : stepOK s (hearD s g r q pl e0).1 ((hearD s g r q pl e0).1.kn != s.kn) := by
  unfold hearD
  repeat' split
  all_goals first | exact stepOK_same s | exact stepOK_knows (by assumption)
theorem Sm.Hear_step {w : World} {p Mb : Nat} {s : LSt} {g : HrdM} {n : Nat} {r q pl : Int} {e0 : EntM} (hp : LAt w p Mb s g n) (hn : n < 1000000) (hr : I64 r) (hq : I64 q) (he : e0.ok) (hL : LaysT w) :
    Calls Tryd.prog 9 #[.pointer (some ⟨p, 0, none⟩), .int .i64 pl, .agg #[.int .i64 r, .int .i64 q], .agg #[.int .i64 e0.k, .int .i64 e0.m, .int .i64 e0.n, .string e0.t]] w fun e w' => ∃ s' g' b x, e = .returned (.tuple #[.bool b, .int .i64 x]) ∧ LAt w' p Mb s' g' (n + 1) ∧ But (SL p Mb) w w' ∧ stepOK s s' b := by
  cases hx : (!ckB s.c 0 pl || !mayB s.c s.s r q || !e0.right) with
  | true => exact (Hear_wrong hp hn hr hq he hL hx).mono fun e w' ⟨h1, h2⟩ => ⟨s, g, false, 2, h1, (hp.keep h2).more (by omega), But.of_all h2 _, stepOK_no s⟩
  | false => exact (Hear_do hp hn hr hq he hL hx).mono fun e w' ⟨h1, h2, h3⟩ => ⟨_, _, _, _, h1, h2, h3, hearD_ok s g r q pl.toNat e0⟩
theorem Sm.Told_step {w : World} {p Mb : Nat} {s : LSt} {g : HrdM} {n : Nat} {e0 : EntM} (hp : LAt w p Mb s g n) (he : e0.ok) (hL : LaysT w) :
    Calls Tryd.prog 10 #[.pointer (some ⟨p, 0, none⟩), .agg #[.int .i64 e0.k, .int .i64 e0.m, .int .i64 e0.n, .string e0.t]] w fun e w' => ∃ s' g' b x, e = .returned (.tuple #[.bool b, .int .i64 x]) ∧ LAt w' p Mb s' g' (n + 1) ∧ But (SL p Mb) w w' ∧ stepOK s s' b := by
  cases hx : e0.right with
  | false => exact (Told_wrong hp he hL hx).mono fun e w' ⟨h1, h2⟩ => ⟨s, g, false, 2, h1, (hp.keep h2).more (by omega), But.of_all h2 _, stepOK_no s⟩
  | true => exact (Told_do hp he hL hx).mono fun e w' ⟨h1, h2, h3⟩ => ⟨_, _, _, _, h1, h2.more (by omega), h3, toldD_ok s e0⟩
theorem Sm.Skipped_step {w : World} {p Mb : Nat} {s : LSt} {g : HrdM} {n : Nat} (hp : LAt w p Mb s g n) (hL : LaysT w) :
    Calls Tryd.prog 11 #[.pointer (some ⟨p, 0, none⟩)] w fun e w' => ∃ s' g' b x, e = .returned (.tuple #[.bool b, .int .i64 x]) ∧ LAt w' p Mb s' g' (n + 1) ∧ But (SL p Mb) w w' ∧ stepOK s s' b :=
  (Skipped_any hp hL).mono fun e w' ⟨h1, h2, h3⟩ => ⟨_, _, _, _, h1, h2.more (by omega), h3, toldD_ok s skipE⟩
theorem Sm.LaysT.butM {w w' : World} {p Mb : Nat} (h : LaysT w) (hb : But (SL p Mb) w w') (hp : 3 ≤ p) (hM : 3 ≤ Mb) : LaysT w' := by
  have hs := h.size
  have k : ∀ b o, b < 3 → w'.cell? ⟨b, o, none⟩ = w.cell? ⟨b, o, none⟩ := fun b o hlt => hb.cell (p := ⟨b, o, none⟩) (by show b < _; omega) (by show ¬ (b = p ∨ b = Mb); omega)
  exact ⟨Nat.le_trans hs hb.size, ⟨fun c hc => (k 0 c (by omega)).trans (h.tabs.1 c hc), fun i hi => ⟨(k 1 _ (by omega)).trans (h.tabs.2 i hi).1, (k 1 _ (by omega)).trans (h.tabs.2 i hi).2⟩⟩⟩
theorem Sm.num7_any (x : Int) (w : World) : Calls Tryd.prog 7 #[.int .i64 x] w fun e w' => e = .returned (.int .i64 x) ∧ w = w' := by
  go_enter Tryd.func7, Tryd.ntmps7
  go_wp2
  go_ret
  exact ⟨rfl, rfl⟩
set_option maxRecDepth 100000 in
set_option maxHeartbeats 4000000 in
theorem Sm.stays_many (c s0 : Int) (A : Option Addr) (n cap : Nat) (xs : List XV) (w : World) (hn : xs.length = n) (hnc : n ≤ cap) (hc9 : cap ≤ 9223372036854775807) (hx : RdX w A xs) (hcm : ∀ y ∈ xs, XV.came y) (hL : LaysT w) (hW5 : ∀ W, LaysT W → Calls Tryd.prog 5 #[] W fun e w' => e = .returned (.bool true) ∧ Below W.heap.size W w') (hf : fewB xs 40 = false) : Calls Tryd.prog 3 #[.int .i64 c, .int .i64 s0, .slice A n cap] w fun e w' => e = .returned (.bool true) ∧ Below w.heap.size w w' := by
  have h1 := few_any A n cap xs 40 w hn hnc hc9 hx hcm
  rw [hf] at h1
  have h5 := hW5 w hL
  clear hn hx hcm hL hf
  go_enter Tryd.func3, Tryd.ntmps3
  go_wp2_with (first
    | (go_at_call 4; (with_reducible refine h1.mono ?_); clear h1; rintro e w1 ⟨rfl, rfl⟩)
    | (go_at_call 5; (with_reducible refine h5.mono ?_); rintro e w2 ⟨rfl, hb2⟩))
  go_ret
  exact ⟨rfl, hb2⟩
set_option maxRecDepth 100000 in
set_option maxHeartbeats 4000000 in
theorem Sm.stays_err (c s0 : Int) (A : Option Addr) (n cap : Nat) (xs : List XV) (w : World) (hn : xs.length = n) (hnc : n ≤ cap) (hc9 : cap ≤ 9223372036854775807) (hx : RdX w A xs) (hcm : ∀ y ∈ xs, XV.came y) (hL : LaysT w) (hW5 : ∀ W, LaysT W → Calls Tryd.prog 5 #[] W fun e w' => e = .returned (.bool true) ∧ Below W.heap.size W w') (hf : fewB xs 40 = true) (hv : ¬ (chB c = true ∧ slB s0 = true)) : Calls Tryd.prog 3 #[.int .i64 c, .int .i64 s0, .slice A n cap] w fun e w' => e = .returned (.bool true) ∧ Below w.heap.size w w' := by
  have h1 := few_any A n cap xs 40 w hn hnc hc9 hx hcm
  rw [hf] at h1
  have H5 := Lib.hid (fun W (hb : Below w.heap.size w W) => hW5 W (hL.keep hb))
  have h6 := New_no c s0 w hv
  have hnum := fun x W => num7_any x W
  clear hn hx hcm hL hf hv
  go_enter Tryd.func3, Tryd.ntmps3
  go_wp2_with (first
    | (go_at_call 4; (with_reducible refine h1.mono ?_); clear h1; rintro e w1 ⟨rfl, rfl⟩)
    | (go_at_call 6; (with_reducible refine h6.mono ?_); clear h6; rintro e w2 ⟨x, rfl, hx0, hb2⟩; have hx1 : (x != 0) = true := (by simpa using hx0))
    | (go_at_call 7; (with_reducible refine (hnum _ _).mono ?_); rintro e w' ⟨rfl, rfl⟩)
    | (go_at_call 5; (with_reducible refine (H5.out _ hb2).mono ?_); rintro e w3 ⟨rfl, hb3⟩))
  go_ret
  exact ⟨rfl, hb2.trans (hb3.mono hb2.size)⟩
set_option maxRecDepth 100000 in
set_option maxHeartbeats 4000000 in
theorem Sm.stays_good (c s0 : Int) (A : Option Addr) (n cap : Nat) (xs : List XV) (w : World) (hn : xs.length = n) (hnc : n ≤ cap) (hc9 : cap ≤ 9223372036854775807) (hx : RdX w A xs) (hcm : ∀ y ∈ xs, XV.came y) (hL : LaysT w) (hW5 : ∀ W, LaysT W → Calls Tryd.prog 5 #[] W fun e w' => e = .returned (.bool true) ∧ Below W.heap.size W w') (hf : fewB xs 40 = true) (hv : chB c = true ∧ slB s0 = true) : Calls Tryd.prog 3 #[.int .i64 c, .int .i64 s0, .slice A n cap] w fun e w' => e = .returned (.bool true) ∧ Below w.heap.size w w' := by
  have h1 := few_any A n cap xs 40 w hn hnc hc9 hx hcm
  rw [hf] at h1
  have hf2 : xs.any lg = false ∧ (n : Int) ≤ 40 := by
    unfold fewB at hf
    rw [Bool.and_eq_true, Bool.not_eq_true', decide_eq_true_eq, hn] at hf
    exact hf
  have H5 := Lib.hid (fun W (hL : LaysT W) => hW5 W hL)
  have h6 := New_yes c s0 w hv
  have hnum := fun x W => num7_any x W
  have HX := Lib.hid hx
  have HN := Lib.hid hn
  have HOK : Hid (∀ y ∈ xs, y.e.ok ∧ I64 y.r ∧ I64 y.q) := Lib.hid fun y hy => ⟨⟨(hcm y hy).kd, (hcm y hy).km, (hcm y hy).kn, by
    have := List.any_eq_false.1 hf2.1 y hy
    unfold lg at this
    simp at this
    omega⟩, (hcm y hy).kr, (hcm y hy).kq⟩
  have hn40 : n ≤ 40 := by omega
  have HL := Lib.hid hL
  have h3 := hL.size
  clear hn hx hcm hL hf hf2 hv hW5
  go_enter Tryd.func3, Tryd.ntmps3
  go_upto_region 7 with (first
    | (go_at_call 4; (with_reducible refine h1.mono ?_); clear h1; rintro e w1 ⟨rfl, rfl⟩)
    | (go_at_call 6; (with_reducible refine h6.mono ?_); clear h6; rintro e w2 ⟨p, Mb, rfl, hA2, hp, hM, hb2⟩)
    | (go_at_call 7; (with_reducible refine (hnum _ _).mono ?_); rintro e w' ⟨rfl, rfl⟩))
  have hpl := hA2.lt
  have hs2 := hb2.size
  have HB2 := Lib.hid hb2
  have HL2 := Lib.hid (HL.out.keep hb2)
  have h3p : 3 ≤ p := by omega
  have h3M : 3 ≤ Mb := by omega
  have HREL0 : Hid (∃ s g m, LAt w2 p Mb s g m ∧ m ≤ 0 ∧ But (SL p Mb) w2 w2) := Lib.hid ⟨_, _, _, hA2, Nat.le_refl _, But.refl _ _⟩
  have HEND : Hid (∀ W, But (SL p Mb) w2 W → LaysT W ∧ Below w.heap.size w W) := Lib.hid fun W hB => ⟨HL2.out.butM hB h3p h3M, HB2.out.trans (hB.to_below hs2 (fun b e => by rcases e with e | e <;> omega))⟩
  clear hb2 hA2 HL
  go_loopw [9] (fun v9 wr => ∃ k : Nat, k ≤ n ∧ v9 = .int .i64 (k : Int) ∧ Hid (∃ s g m, LAt wr p Mb s g m ∧ m ≤ k ∧ But (SL p Mb) w2 wr)) (fun v9 _ => n - (RowKit.intOf v9).toNat)
  case atStart => exact ⟨0, Nat.zero_le _, rfl, HREL0⟩
  case round =>
    obtain ⟨wo, rfl⟩ : ∃ wo : World, wo = wr := ⟨_, rfl⟩
    obtain ⟨k, hk, rfl, HR⟩ := hrel
    clear HREL0
    by_cases hlt : k < n
    · have hkx : k < xs.length := by rw [HN.out]; exact hlt
      obtain ⟨s, g, m, hA, hm, hB⟩ := HR.out
      obtain ⟨b, off, rfl, hbl, hcl⟩ := HX.out.one hkx
      obtain ⟨hye, hyr, hyq⟩ := HOK.out _ (List.getElem_mem hkx)
      have HXA : Hid (∀ W, But (SL p Mb) w2 W → ((W.cell? ⟨b, off + k * 8, none⟩ = some (.int .i64 xs[k].x) ∧ W.cell? ⟨b, off + k * 8 + 1, none⟩ = some (.int .i64 xs[k].pl)) ∧ (W.cell? ⟨b, off + k * 8 + 2, none⟩ = some (.int .i64 xs[k].r) ∧ W.cell? ⟨b, off + k * 8 + 3, none⟩ = some (.int .i64 xs[k].q)) ∧ W.cell? ⟨b, off + k * 8 + 4, none⟩ = some (.int .i64 xs[k].e.k) ∧ W.cell? ⟨b, off + k * 8 + 5, none⟩ = some (.int .i64 xs[k].e.m) ∧ W.cell? ⟨b, off + k * 8 + 6, none⟩ = some (.int .i64 xs[k].e.n) ∧ W.cell? ⟨b, off + k * 8 + 7, none⟩ = some (.string xs[k].e.t))) := Lib.hid fun W hB2 => hcl W fun i => (hB2.cell (p := ⟨b, i, none⟩) (Nat.lt_of_lt_of_le hbl hs2) (by show ¬ (b = p ∨ b = Mb); omega)).trans (HB2.out.cell (p := ⟨b, i, none⟩) hbl)
      obtain ⟨y, hy⟩ : ∃ y, xs[k] = y := ⟨_, rfl⟩
      rw [hy] at hye hyr hyq HXA
      clear hcl hy
      have hCh := Chosen_any hA
      have HA := Lib.hid hA
      have HB := Lib.hid hB
      clear hA hB
      go_upto_region 10 with (go_at_call 8; (with_reducible refine hCh.mono ?_); clear hCh; rintro e w3 ⟨rfl, hb3⟩)
      obtain ⟨w4, hw4⟩ : ∃ v, w3.alloc (.cells #[.int .i64 s.e.k, .int .i64 s.e.m, .int .i64 s.e.n, .string s.e.t] 33) = v := ⟨_, rfl⟩
      have qx : w4.heap[w3.heap.size]? = some (.cells #[.int .i64 s.e.k, .int .i64 s.e.m, .int .i64 s.e.n, .string s.e.t] 33 (0, 0)) := by rw [← hw4]; exact World.alloc_heap_new w3 _
      have hb4 : Below wo.heap.size wo w4 := by rw [← hw4]; exact hb3.alloc hb3.size _
      try rw [hw4]
      have hs3 := hb3.size
      have hxl := (Array.getElem?_eq_some_iff.1 qx).1
      have hA4 := HA.out.keep hb4
      have hB4 : But (SL p Mb) w2 w4 := HB.out.trans (But.of_all hb4 _) (fun _ _ e => e)
      have hwo := HB.out.size
      have HQX : Hid (∀ W, But (SL p Mb) w4 W → W.heap[w3.heap.size]? = some (.cells #[.int .i64 s.e.k, .int .i64 s.e.m, .int .i64 s.e.n, .string s.e.t] 33 (0, 0))) := Lib.hid fun W hB => hB.box qx (by show ¬ (_ = _ ∨ _ = _); omega)
      have hL4 := (HEND.out _ hB4).1
      have hmb : m < 1000000 := by omega
      have H9 := Hear_step (pl := y.pl) hA4 hmb hyr hyq hye hL4
      have H10 := Told_step hA4 hye hL4
      have H11 := Skipped_step hA4 hL4
      have z0 := HXA.out _ hB4
      have zd : ((w4.drew.cell? ⟨b, off + k * 8, none⟩ = some (.int .i64 y.x) ∧ w4.drew.cell? ⟨b, off + k * 8 + 1, none⟩ = some (.int .i64 y.pl)) ∧ (w4.drew.cell? ⟨b, off + k * 8 + 2, none⟩ = some (.int .i64 y.r) ∧ w4.drew.cell? ⟨b, off + k * 8 + 3, none⟩ = some (.int .i64 y.q)) ∧ w4.drew.cell? ⟨b, off + k * 8 + 4, none⟩ = some (.int .i64 y.e.k) ∧ w4.drew.cell? ⟨b, off + k * 8 + 5, none⟩ = some (.int .i64 y.e.m) ∧ w4.drew.cell? ⟨b, off + k * 8 + 6, none⟩ = some (.int .i64 y.e.n) ∧ w4.drew.cell? ⟨b, off + k * 8 + 7, none⟩ = some (.string y.e.t)) := z0
      have H9d : Calls Tryd.prog 9 #[.pointer (some ⟨p, 0, none⟩), .int .i64 y.pl, .agg #[.int .i64 y.r, .int .i64 y.q], .agg #[.int .i64 y.e.k, .int .i64 y.e.m, .int .i64 y.e.n, .string y.e.t]] w4.drew fun e w' => ∃ s' g' b x, e = .returned (.tuple #[.bool b, .int .i64 x]) ∧ LAt w' p Mb s' g' (m + 1) ∧ But (SL p Mb) w4 w' ∧ stepOK s s' b := (Hear_step (pl := y.pl) (hA4.keep (Below.refl _ w4).drew) hmb hyr hyq hye (hL4.keep (Below.refl _ w4).drew)).mono fun e w' ⟨s', g', b, x, e1, e2, e3, e4⟩ => ⟨s', g', b, x, e1, e2, (But.of_all (Below.refl _ w4).drew (SL p Mb)).trans e3 (fun _ _ e => e), e4⟩
      have HB4 := Lib.hid hB4
      have HXZ : Hid (∀ W, But (SL p Mb) w4 W → ((W.cell? ⟨b, off + k * 8, none⟩ = some (.int .i64 y.x) ∧ W.cell? ⟨b, off + k * 8 + 1, none⟩ = some (.int .i64 y.pl)) ∧ (W.cell? ⟨b, off + k * 8 + 2, none⟩ = some (.int .i64 y.r) ∧ W.cell? ⟨b, off + k * 8 + 3, none⟩ = some (.int .i64 y.q)) ∧ W.cell? ⟨b, off + k * 8 + 4, none⟩ = some (.int .i64 y.e.k) ∧ W.cell? ⟨b, off + k * 8 + 5, none⟩ = some (.int .i64 y.e.m) ∧ W.cell? ⟨b, off + k * 8 + 6, none⟩ = some (.int .i64 y.e.n) ∧ W.cell? ⟨b, off + k * 8 + 7, none⟩ = some (.string y.e.t))) := Lib.hid fun W hB => HXA.out W (HB4.out.trans hB (fun _ _ e => e))
      have hm1 : m + 1 ≤ k + 1 := by omega
      clear hw4 hA4 hB4 hL4 qx hb4 HA HB hye hyr hyq HR
      obtain ⟨⟨c0, c1⟩, ⟨c2, c3⟩, c4, c5, c6, c7⟩ := z0
      by_cases e0 : y.x = 0
      · have e1 : (y.x == 0) = true := by simpa using e0
        clear e0
        go_upto_region 14 with fail
        go_region_held_law (fun W => ((W.cell? ⟨b, off + k * 8, none⟩ = some (.int .i64 y.x) ∧ W.cell? ⟨b, off + k * 8 + 1, none⟩ = some (.int .i64 y.pl)) ∧ (W.cell? ⟨b, off + k * 8 + 2, none⟩ = some (.int .i64 y.r) ∧ W.cell? ⟨b, off + k * 8 + 3, none⟩ = some (.int .i64 y.q)) ∧ W.cell? ⟨b, off + k * 8 + 4, none⟩ = some (.int .i64 y.e.k) ∧ W.cell? ⟨b, off + k * 8 + 5, none⟩ = some (.int .i64 y.e.m) ∧ W.cell? ⟨b, off + k * 8 + 6, none⟩ = some (.int .i64 y.e.n) ∧ W.cell? ⟨b, off + k * 8 + 7, none⟩ = some (.string y.e.t)))
          (first | with_reducible exact (⟨⟨c0, c1⟩, ⟨c2, c3⟩, c4, c5, c6, c7⟩ : ((w4.cell? ⟨b, off + k * 8, none⟩ = some (.int .i64 y.x) ∧ w4.cell? ⟨b, off + k * 8 + 1, none⟩ = some (.int .i64 y.pl)) ∧ (w4.cell? ⟨b, off + k * 8 + 2, none⟩ = some (.int .i64 y.r) ∧ w4.cell? ⟨b, off + k * 8 + 3, none⟩ = some (.int .i64 y.q)) ∧ w4.cell? ⟨b, off + k * 8 + 4, none⟩ = some (.int .i64 y.e.k) ∧ w4.cell? ⟨b, off + k * 8 + 5, none⟩ = some (.int .i64 y.e.m) ∧ w4.cell? ⟨b, off + k * 8 + 6, none⟩ = some (.int .i64 y.e.n) ∧ w4.cell? ⟨b, off + k * 8 + 7, none⟩ = some (.string y.e.t))) | with_reducible exact zd | with_reducible exact zs)
          (first | (go_at_call 9; (with_reducible refine H9d.mono ?_); rintro e w5 ⟨s', g', b1, x1, rfl, hA5, hB5, hst⟩; have zs := HXZ.out _ hB5) | (go_at_call 9; (with_reducible refine H9.mono ?_); rintro e w5 ⟨s', g', b1, x1, rfl, hA5, hB5, hst⟩; have zs := HXZ.out _ hB5))
        all_goals
          clear zs
          have HA5 := Lib.hid hA5
          have HB5 := Lib.hid (HB4.out.trans hB5 (fun _ _ e => e))
          have qx5 := HQX.out _ hB5
          have HX5 := Lib.hid qx5
          have hCh := Chosen_any hA5
          obtain ⟨hst1, hst2⟩ := hst
          clear hA5 hB5 qx5 HQX HXZ
          clear H9 H10 H11 H9d zd c0 c1 c2 c3 c4 c5 c6 c7
          go_upto_region 18 with (go_at_call 8; (with_reducible refine hCh.mono ?_); clear hCh; rintro e w6 ⟨rfl, hb6⟩)
          obtain ⟨w7, hw7⟩ : ∃ v, w6.alloc (.cells #[.int .i64 s'.e.k, .int .i64 s'.e.m, .int .i64 s'.e.n, .string s'.e.t] 33) = v := ⟨_, rfl⟩
          have qy : w7.heap[w6.heap.size]? = some (.cells #[.int .i64 s'.e.k, .int .i64 s'.e.m, .int .i64 s'.e.n, .string s'.e.t] 33 (0, 0)) := by rw [← hw7]; exact World.alloc_heap_new w6 _
          have hb7 : Below w5.heap.size w5 w7 := by rw [← hw7]; exact hb6.alloc hb6.size _
          try rw [hw7]
          obtain ⟨⟨x0, x1, x2, x3⟩, -⟩ := four ((hb7.block _ (Array.getElem?_eq_some_iff.1 HX5.out).1).trans HX5.out)
          obtain ⟨⟨y0, y1, y2, y3⟩, -⟩ := four qy
          have HREL : Hid (∃ s g m, LAt w7 p Mb s g m ∧ m ≤ k + 1 ∧ But (SL p Mb) w2 w7) := Lib.hid ⟨_, _, _, HA5.out.keep hb7, hm1, HB5.out.trans (But.of_all hb7 _) (fun _ _ e => e)⟩
          clear hw7 qy hb7 HX5 HA5 HB5 hb6
          have hqe := neqE s'.e s.e
          obtain ⟨kk, hkk⟩ : ∃ kk, s.kn = kk := ⟨_, rfl⟩
          obtain ⟨k2, hk2⟩ : ∃ k2, s'.kn = k2 := ⟨_, rfl⟩
          rw [hkk, hk2] at hst1
          rw [hkk, hk2] at hst2
          try rw [hkk]
          try rw [hk2]
          cases kk with
          | true =>
            obtain ⟨e1, e2⟩ := hst2 rfl
            subst e1
            simp only [Bool.not_true, Bool.and_false] at hst1
            subst hst1
            rw [e2, sameE_self] at hqe
            simp only [Bool.not_true] at hqe
            rw [e2] at y0 y1 y2 y3
            clear e2 hst2 hkk hk2
            go_wp2
            go_roundw
            case rel => exact ⟨k + 1, by omega, by go_num, HREL⟩
            case measure => simp [RowKit.intOf]; omega
          | false =>
            simp only [Bool.not_false, Bool.and_true] at hst1
            subst hst1
            clear hst2 hqe hkk hk2
            cases b1 with
            | true =>
              go_wp2
              go_roundw
              case rel => exact ⟨k + 1, by omega, by go_num, HREL⟩
              case measure => simp [RowKit.intOf]; omega
            | false =>
              go_wp2
              go_roundw
              case rel => exact ⟨k + 1, by omega, by go_num, HREL⟩
              case measure => simp [RowKit.intOf]; omega
      · have e1 : (y.x == 0) = false := by simpa using e0
        by_cases e2 : y.x = 1
        · have e3 : (y.x == 1) = true := by simpa using e2
          clear e0 e2
          go_upto_region 17 with (go_at_call 10; (with_reducible refine H10.mono ?_); rintro e w5 ⟨s', g', b1, x1, rfl, hA5, hB5, hst⟩)
          have HA5 := Lib.hid hA5
          have HB5 := Lib.hid (HB4.out.trans hB5 (fun _ _ e => e))
          have qx5 := HQX.out _ hB5
          have HX5 := Lib.hid qx5
          have hCh := Chosen_any hA5
          obtain ⟨hst1, hst2⟩ := hst
          clear hA5 hB5 qx5 HQX HXZ
          clear H9 H10 H11 H9d zd c0 c1 c2 c3 c4 c5 c6 c7
          go_upto_region 18 with (go_at_call 8; (with_reducible refine hCh.mono ?_); clear hCh; rintro e w6 ⟨rfl, hb6⟩)
          obtain ⟨w7, hw7⟩ : ∃ v, w6.alloc (.cells #[.int .i64 s'.e.k, .int .i64 s'.e.m, .int .i64 s'.e.n, .string s'.e.t] 33) = v := ⟨_, rfl⟩
          have qy : w7.heap[w6.heap.size]? = some (.cells #[.int .i64 s'.e.k, .int .i64 s'.e.m, .int .i64 s'.e.n, .string s'.e.t] 33 (0, 0)) := by rw [← hw7]; exact World.alloc_heap_new w6 _
          have hb7 : Below w5.heap.size w5 w7 := by rw [← hw7]; exact hb6.alloc hb6.size _
          try rw [hw7]
          obtain ⟨⟨x0, x1, x2, x3⟩, -⟩ := four ((hb7.block _ (Array.getElem?_eq_some_iff.1 HX5.out).1).trans HX5.out)
          obtain ⟨⟨y0, y1, y2, y3⟩, -⟩ := four qy
          have HREL : Hid (∃ s g m, LAt w7 p Mb s g m ∧ m ≤ k + 1 ∧ But (SL p Mb) w2 w7) := Lib.hid ⟨_, _, _, HA5.out.keep hb7, hm1, HB5.out.trans (But.of_all hb7 _) (fun _ _ e => e)⟩
          clear hw7 qy hb7 HX5 HA5 HB5 hb6
          have hqe := neqE s'.e s.e
          obtain ⟨kk, hkk⟩ : ∃ kk, s.kn = kk := ⟨_, rfl⟩
          obtain ⟨k2, hk2⟩ : ∃ k2, s'.kn = k2 := ⟨_, rfl⟩
          rw [hkk, hk2] at hst1
          rw [hkk, hk2] at hst2
          try rw [hkk]
          try rw [hk2]
          cases kk with
          | true =>
            obtain ⟨e1, e2⟩ := hst2 rfl
            subst e1
            simp only [Bool.not_true, Bool.and_false] at hst1
            subst hst1
            rw [e2, sameE_self] at hqe
            simp only [Bool.not_true] at hqe
            rw [e2] at y0 y1 y2 y3
            clear e2 hst2 hkk hk2
            go_wp2
            go_roundw
            case rel => exact ⟨k + 1, by omega, by go_num, HREL⟩
            case measure => simp [RowKit.intOf]; omega
          | false =>
            simp only [Bool.not_false, Bool.and_true] at hst1
            subst hst1
            clear hst2 hqe hkk hk2
            cases b1 with
            | true =>
              go_wp2
              go_roundw
              case rel => exact ⟨k + 1, by omega, by go_num, HREL⟩
              case measure => simp [RowKit.intOf]; omega
            | false =>
              go_wp2
              go_roundw
              case rel => exact ⟨k + 1, by omega, by go_num, HREL⟩
              case measure => simp [RowKit.intOf]; omega
        · have e3 : (y.x == 1) = false := by simpa using e2
          clear e0 e2
          go_upto_region 17 with (go_at_call 11; (with_reducible refine H11.mono ?_); rintro e w5 ⟨s', g', b1, x1, rfl, hA5, hB5, hst⟩)
          have HA5 := Lib.hid hA5
          have HB5 := Lib.hid (HB4.out.trans hB5 (fun _ _ e => e))
          have qx5 := HQX.out _ hB5
          have HX5 := Lib.hid qx5
          have hCh := Chosen_any hA5
          obtain ⟨hst1, hst2⟩ := hst
          clear hA5 hB5 qx5 HQX HXZ
          clear H9 H10 H11 H9d zd c0 c1 c2 c3 c4 c5 c6 c7
          go_upto_region 18 with (go_at_call 8; (with_reducible refine hCh.mono ?_); clear hCh; rintro e w6 ⟨rfl, hb6⟩)
          obtain ⟨w7, hw7⟩ : ∃ v, w6.alloc (.cells #[.int .i64 s'.e.k, .int .i64 s'.e.m, .int .i64 s'.e.n, .string s'.e.t] 33) = v := ⟨_, rfl⟩
          have qy : w7.heap[w6.heap.size]? = some (.cells #[.int .i64 s'.e.k, .int .i64 s'.e.m, .int .i64 s'.e.n, .string s'.e.t] 33 (0, 0)) := by rw [← hw7]; exact World.alloc_heap_new w6 _
          have hb7 : Below w5.heap.size w5 w7 := by rw [← hw7]; exact hb6.alloc hb6.size _
          try rw [hw7]
          obtain ⟨⟨x0, x1, x2, x3⟩, -⟩ := four ((hb7.block _ (Array.getElem?_eq_some_iff.1 HX5.out).1).trans HX5.out)
          obtain ⟨⟨y0, y1, y2, y3⟩, -⟩ := four qy
          have HREL : Hid (∃ s g m, LAt w7 p Mb s g m ∧ m ≤ k + 1 ∧ But (SL p Mb) w2 w7) := Lib.hid ⟨_, _, _, HA5.out.keep hb7, hm1, HB5.out.trans (But.of_all hb7 _) (fun _ _ e => e)⟩
          clear hw7 qy hb7 HX5 HA5 HB5 hb6
          have hqe := neqE s'.e s.e
          obtain ⟨kk, hkk⟩ : ∃ kk, s.kn = kk := ⟨_, rfl⟩
          obtain ⟨k2, hk2⟩ : ∃ k2, s'.kn = k2 := ⟨_, rfl⟩
          rw [hkk, hk2] at hst1
          rw [hkk, hk2] at hst2
          try rw [hkk]
          try rw [hk2]
          cases kk with
          | true =>
            obtain ⟨e1, e2⟩ := hst2 rfl
            subst e1
            simp only [Bool.not_true, Bool.and_false] at hst1
            subst hst1
            rw [e2, sameE_self] at hqe
            simp only [Bool.not_true] at hqe
            rw [e2] at y0 y1 y2 y3
            clear e2 hst2 hkk hk2
            go_wp2
            go_roundw
            case rel => exact ⟨k + 1, by omega, by go_num, HREL⟩
            case measure => simp [RowKit.intOf]; omega
          | false =>
            simp only [Bool.not_false, Bool.and_true] at hst1
            subst hst1
            clear hst2 hqe hkk hk2
            cases b1 with
            | true =>
              go_wp2
              go_roundw
              case rel => exact ⟨k + 1, by omega, by go_num, HREL⟩
              case measure => simp [RowKit.intOf]; omega
            | false =>
              go_wp2
              go_roundw
              case rel => exact ⟨k + 1, by omega, by go_num, HREL⟩
              case measure => simp [RowKit.intOf]; omega
    · obtain rfl : k = n := by omega
      obtain ⟨s, g, m, hA, hm, hB⟩ := HR.out
      obtain ⟨hLe, hbe⟩ := HEND.out _ hB
      have h5 := H5.out _ hLe
      clear hA hB hLe HR
      go_wp2_with (go_at_call 5; (with_reducible refine h5.mono ?_); rintro e w8 ⟨rfl, hb8⟩)
      go_ret
      exact ⟨rfl, hbe.trans (hb8.mono hbe.size)⟩
end Go.Proofs
