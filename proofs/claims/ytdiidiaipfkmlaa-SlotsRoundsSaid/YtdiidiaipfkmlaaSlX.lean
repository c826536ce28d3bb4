/-
  The walk of SlotsRounds. Conditions: as the theorem names them.
-/
import Derived.LoopN
import Derived.Test.YtdiidiaipfkmlaaSlW
namespace Go.Proofs
open Go Go.RowKit Sm Go.Lib
attribute [local go_sem] Oper.semAt_some
theorem Sm.wpIn_range2b {P : Program} {g : Operand} {ps : Array Tmp} {assign body : Code} {Q : Exit → Act → World → Prop} {a : Act} {w : World} {n : Nat} {gf : Nat} {lb : Array Value}
    (hg : a.eval g = .func (.func gf) #[] lb) (eg : ∀ args w, (callFunc gf args).run P w = .ok (.enter gf args) w)
    {X : Nat → Prop} {H : Nat → Nat → Array Value → World → Prop} {row : Array Value → Nat → Prop} {Go S Sp : Nat → Prop} (hseq : SeqX P gf lb X H row Go S Sp w)
    (hX : ∀ b, X b → b < w.heap.size) (hH : ∀ k args W W', H (w.heap.size + 2) k args W → But (fun b => b < w.heap.size + 2) W W' → H (w.heap.size + 2) k args W')
    (hrow : ∀ k args W b, H (w.heap.size + 2) k args W → row args b → w.heap.size + 2 ≤ b) (p1 p2 q1 q2 : Nat) (hps : ps = #[p1, p2]) (hargs : ∀ k args W, H (w.heap.size + 2) k args W → ∃ x v, args = #[x, v])
    (I Ix : Nat → World → Prop) (id : Nat) (hI : LowJ w.heap.size I) (hIx : LowJ w.heap.size Ix) (h0 : I 0 w)
    (hassign : ∀ (l : Nat) (x v : Value) (W : World) (K : Act → World → Prop), K { tmps := (((a.tmps.setIfInBounds p1 x).setIfInBounds p2 v).setIfInBounds q1 x).setIfInBounds q2 v, defers := [] } W →
      assign.wpIn (Fence.wide.inRound l) (n - 1 - 1) P (Exit.then K (fun _ _ _ => False)) { tmps := (a.tmps.setIfInBounds p1 x).setIfInBounds p2 v, defers := [] } W)
    (hbody : ∀ (l k : Nat) (x v : Value) (W : World), w.heap.size + 2 ≤ W.heap.size → I k W → H (w.heap.size + 2) k #[x, v] W → body.wpIn (Fence.wide.inRound l) (n - 1 - 1) P (postX Go X row #[x, v] I (fun c k W => c = .exit id ∧ Ix k W) k W) { tmps := (((a.tmps.setIfInBounds p1 x).setIfInBounds p2 v).setIfInBounds q1 x).setIfInBounds q2 v, defers := [] } W)
    (R : Act → World → Prop) (hQn : ∀ a w, R a w → Q .normal a w) (hQx : ∀ a w, R a w → Q (.exit id) a w)
    (hrest : ∀ (W : World), ((∃ k, S k ∧ I k W) ∨ ∃ k, Sp k ∧ Ix k W) → W.heap[w.heap.size]? = some (.deferred (some [])) → R { a with defers := { target := .collected w.heap.size, args := #[] } :: a.defers } W) :
    (Code.rangeFunc g ps assign body).wpIn Fence.wide n P Q a w :=
  wpIn_range2 hg eg hseq hX hH hrow p1 p2 q1 q2 hps hargs I (fun c k W => c = .exit id ∧ Ix k W) hI (fun c k W W' h hb => ⟨h.1, hIx k W W' h.2 hb⟩) h0 hassign hbody
    (fun k W hS hi hD => hQn _ _ (hrest W (.inl ⟨k, hS, hi⟩) hD))
    (fun c k W hSp hx hD => by
      obtain ⟨rfl, hx⟩ := hx
      exact wpIn_exit (hQx _ _ (hrest W (.inr ⟨k, hSp, hx⟩) hD)))
/-- what lies in a row from a place on -/
def Sm.LeftG (W : World) (g n k : Nat) (b : Int) : Prop := ∃ cur, W.heap[g]? = some (.cells cur 3 (0, 0)) ∧ ∀ j, k ≤ j → j < n → cur[j]? = some (.int .i64 (b + (j : Int)))
theorem Sm.RowG.left {W : World} {L n : Nat} {v : Value} {b : Int} (h : RowG W L v n (rowB b n)) : ∃ g, v = .slice (some ⟨g, 0, none⟩) n n ∧ L ≤ g ∧ g < W.heap.size ∧ LeftG W g n 0 b := by
  obtain ⟨_, g, cur, rfl, h2, h3, h4⟩ := h
  refine ⟨g, rfl, h2, (Array.getElem?_eq_some_iff.1 h3).1, cur, h3, fun j _ hj => ?_⟩
  have h5 := rowB_get b hj
  rw [← h4, List.getElem?_take, if_pos hj, Array.getElem?_toList] at h5
  exact h5
theorem Sm.LeftG.cell {W : World} {g n k j : Nat} {b : Int} (h : LeftG W g n k b) (hk : k ≤ j) (hj : j < n) : W.cell? ⟨g, j, none⟩ = some (.int .i64 (b + (j : Int))) ∧ W.frozen? ⟨g, j, none⟩ = false := by
  obtain ⟨cur, h1, h2⟩ := h
  exact ⟨(cell_of_heap h1 j).trans (h2 j hk hj), frozen_of_heap h1 j⟩
theorem Sm.LeftG.set {W : World} {g n k : Nat} {b : Int} (h : LeftG W g n k b) (u : Value) : LeftG (W.setCell ⟨g, k, none⟩ u) g n (k + 1) b := by
  obtain ⟨cur, h1, h2⟩ := h
  refine ⟨_, heap_setCells (i := k) (u := u) h1, fun j hk hj => ?_⟩
  rw [Array.getElem?_setIfInBounds_ne (by omega)]
  exact h2 j (by omega) hj
theorem Sm.LeftG.on {W W' : World} {g n k : Nat} {b : Int} (h : LeftG W g n k b) (hb : Below W.heap.size W W') : LeftG W' g n k b := by
  obtain ⟨cur, h1, h2⟩ := h
  exact ⟨cur, (hb.block _ (Array.getElem?_eq_some_iff.1 h1).1).trans h1, h2⟩
/-- how all stands while rounds are gone over -/
structure Sm.RrI (c many : Int) (R B Ba bx : Nat) (w W : World) : Prop where
  cc : W.heap[B]? = some (.cells #[.int .i64 c] 3 (0, 0))
  cm : W.heap[B + 1]? = some (.cells #[.int .i64 many] 3 (0, 0))
  res : W.heap[B + 1 + 1]? = some (.cells #[.bool false] 4 (0, 0))
  al : W.heap[Ba]? = some (.cells #[.int .i64 (R : Int)] 3 (0, 0))
  bx_ : W.heap[bx]? = some (.cells #[.int .i64 c] 25 (0, 0))
  below : Below w.heap.size w W
theorem Sm.RrI.on {c many : Int} {R B Ba bx : Nat} {w W W' : World} (h : RrI c many R B Ba bx w W) (hb : Below W.heap.size W W') : RrI c many R B Ba bx w W' :=
  have hk : ∀ {b : Nat} {o : Obj}, W.heap[b]? = some o → W'.heap[b]? = some o := fun h => (hb.block _ (Array.getElem?_eq_some_iff.1 h).1).trans h
  ⟨hk h.cc, hk h.cm, hk h.res, hk h.al, hk h.bx_, h.below.trans (hb.mono h.below.size)⟩
set_option maxRecDepth 100000 in
set_option maxHeartbeats 8000000 in
theorem Sm.rounds_law (c many : Int) (w : World) : Calls Try.prog 7 #[.int .i64 c, .int .i64 many] w fun e w' => e = .returned (.bool true) ∧ Below w.heap.size w w' := by
  obtain ⟨wA, hwA⟩ : ∃ wA, ((w.alloc (.cells #[.int .i64 c] 3)).alloc (.cells #[.int .i64 many] 3)).alloc (.cells #[.bool false] 4) = wA := ⟨_, rfl⟩
  obtain ⟨hbA, hsA, _⟩ := cells_new3 w _ _ _ _ _ _ wA hwA
  have a0 : wA.heap[w.heap.size]? = some (.cells #[.int .i64 c] 3 (0, 0)) := by
    rw [← hwA]; exact (Below.heap_alloc _ _ _ (by simp <;> omega)).trans ((Below.heap_alloc _ _ _ (by simp <;> omega)).trans (World.alloc_heap_new w _))
  have a1 : wA.heap[w.heap.size + 1]? = some (.cells #[.int .i64 many] 3 (0, 0)) := by
    have h := World.alloc_heap_new (w.alloc (.cells #[.int .i64 c] 3)) (.cells #[.int .i64 many] 3)
    rw [World.size_alloc] at h
    rw [← hwA]; exact (Below.heap_alloc _ _ _ (by simp <;> omega)).trans h
  have a2 : wA.heap[w.heap.size + 1 + 1]? = some (.cells #[.bool false] 4 (0, 0)) := by
    have h := World.alloc_heap_new ((w.alloc (.cells #[.int .i64 c] 3)).alloc (.cells #[.int .i64 many] 3)) (.cells #[.bool false] 4)
    simp only [World.size_alloc] at h
    rw [← hwA]; exact h
  refine (callsIn_wide (n := 3)).1 (callsIn_of_wp_marks Try.func7 rfl trivial ?_ rfl)
  refine wpIn_wide.2 ?_
  simp only [Try.ntmps7, List.size_toArray, List.length_cons, List.length_nil, Nat.reduceAdd, Nat.reduceSub, Array.replicate_succ, Array.replicate_zero, List.push_toArray, List.append_toArray, List.nil_append, List.cons_append]
  obtain ⟨w1, hw1⟩ : ∃ v, wA.alloc (.cells #[.int .i64 0] 3) = v := ⟨_, rfl⟩
  have hb1 : Below wA.heap.size wA w1 := by rw [← hw1]; exact (Below.refl _ _).alloc (Nat.le_refl _) _
  have hs1 : w1.heap.size = w.heap.size + 4 := by rw [← hw1, World.size_alloc]; omega
  have n1 : w1.heap[wA.heap.size]? = some (.cells #[.int .i64 0] 3 (0, 0)) := by rw [← hw1]; exact World.alloc_heap_new _ _
  have b0 := (hb1.block _ (by omega)).trans a0
  have b1 := (hb1.block _ (by omega)).trans a1
  have b2 := (hb1.block _ (by omega)).trans a2
  have k0 := cell_of_heap b0 0
  have kn := cell_of_heap n1 0
  have fn := frozen_of_heap n1 0
  simp only [List.getElem?_toArray, List.getElem?_cons_zero] at k0 kn
  have hR := fun W => Right_any c W
  have HW1 := Lib.hid hw1
  have hAl : w.heap.size < wA.heap.size := by omega
  have ka := cell_of_heap a0 0
  simp only [List.getElem?_toArray, List.getElem?_cons_zero] at ka
  have HK0 := Lib.hid k0
  have HKN := Lib.hid kn
  have HFR := Lib.hid fn
  have HBW1 : Hid (Below w.heap.size w w1 ∧ w1.heap.size = wA.heap.size + 1 ∧ wA.heap.size = w.heap.size + 3) := Lib.hid ⟨hbA.trans (hb1.mono (by omega)), by omega, hsA⟩
  have HB0 := Lib.hid b0
  have HB1 := Lib.hid b1
  have HB2 := Lib.hid b2
  have HN1 := Lib.hid n1
  have hfnil : ∀ (b : Nat) (wx : World), (binOp .eql 47 (.func (.func 45) #[] #[.pointer (some ⟨b, 0, none⟩)]) .nilFunc).run Try.prog wx = .ok (.bool false) wx := fun _ _ => by kernel_rfl
  have HFN := Lib.hid hfnil
  clear a0 a1 a2 hbA hsA hfnil hb1 b0 b1 b2 n1 hs1 hw1 k0 kn fn
  go_upto_if 14 with (go_at_call 11; (with_reducible refine (hR _).mono ?_); rintro e w' ⟨rfl, rfl⟩)
  rw [HW1.out]
  have k0 := HK0.out
  have kn := HKN.out
  have fn := HFR.out
  clear hwA ka HW1
  go_cut [13] from 14 to 19 (fun s13 wx => s13 = .int .i64 c ∧ Hid (wx.heap[wA.heap.size]? = some (.cells #[.int .i64 (rdN c : Int)] 3 (0, 0)) ∧ But (fun b => b = wA.heap.size) w1 wx))
  case first =>
    cases hc : chB c with
    | true =>
      obtain ⟨cn, rfl⟩ : ∃ cn : Nat, c = (cn : Int) := ⟨c.toNat, by rcases chB_iff.1 hc with e | e | e | e <;> omega⟩
      have h1 := (rdN_yes hc).1
      have h3 : rdN (cn : Int) ≤ 1366 := (rdN_yes hc).2.2
      obtain ⟨R, hRe⟩ : ∃ R, rdN (cn : Int) = R := ⟨_, rfl⟩
      rw [hRe] at h1 h3
      have HRE := Lib.hid hRe
      have h2 := chB_iff.1 hc
      obtain rfl | rfl | rfl | rfl : cn = 3 ∨ cn = 5 ∨ cn = 7 ∨ cn = 9 := by omega
      · have HV : Hid ((rdN (((3 : Nat)) : Int) : Int) = 1366) := Lib.hid (by rw [HRE.out]; omega)
        have kn := HKN.out
        have fn := HFR.out
        clear h1 h2 hRe hc hR
        go_wp2
        go_meet
        have h5 := heap_setCells (i := 0) (u := .int .i64 1366) HN1.out
        refine ⟨rfl, Lib.hid ⟨?_, (But.refl _ w1).set ⟨wA.heap.size, 0, none⟩ _ (.inl rfl)⟩⟩
        rw [HV.out]
        exact h5
      · have HV : Hid ((rdN (((5 : Nat)) : Int) : Int) = 820) := Lib.hid (by rw [HRE.out]; omega)
        have kn := HKN.out
        have fn := HFR.out
        clear h1 h2 hRe hc hR
        go_wp2
        go_meet
        have h5 := heap_setCells (i := 0) (u := .int .i64 820) HN1.out
        refine ⟨rfl, Lib.hid ⟨?_, (But.refl _ w1).set ⟨wA.heap.size, 0, none⟩ _ (.inl rfl)⟩⟩
        rw [HV.out]
        exact h5
      · have HV : Hid ((rdN (((7 : Nat)) : Int) : Int) = 586) := Lib.hid (by rw [HRE.out]; omega)
        have kn := HKN.out
        have fn := HFR.out
        clear h1 h2 hRe hc hR
        go_wp2
        go_meet
        have h5 := heap_setCells (i := 0) (u := .int .i64 586) HN1.out
        refine ⟨rfl, Lib.hid ⟨?_, (But.refl _ w1).set ⟨wA.heap.size, 0, none⟩ _ (.inl rfl)⟩⟩
        rw [HV.out]
        exact h5
      · have HV : Hid ((rdN (((9 : Nat)) : Int) : Int) = 456) := Lib.hid (by rw [HRE.out]; omega)
        have kn := HKN.out
        have fn := HFR.out
        clear h1 h2 hRe hc hR
        go_wp2
        go_meet
        have h5 := heap_setCells (i := 0) (u := .int .i64 456) HN1.out
        refine ⟨rfl, Lib.hid ⟨?_, (But.refl _ w1).set ⟨wA.heap.size, 0, none⟩ _ (.inl rfl)⟩⟩
        rw [HV.out]
        exact h5
    | false =>
      have HR0 := Lib.hid (rdN_no hc).1
      clear hc hR
      go_wp2
      go_meet
      exact ⟨rfl, Lib.hid ⟨by rw [HR0.out]; exact HN1.out, But.refl _ _⟩⟩
  case rest =>
    obtain ⟨rfl, HC⟩ := hcut
    have hbc := HC.out.2
    have hcz := hbc.size
    obtain ⟨hbw1, hz1, hzA⟩ := HBW1.out
    have kc := cell_of_heap (hbc.box HB0.out (by omega)) 0
    simp only [List.getElem?_toArray, List.getElem?_cons_zero] at kc
    have hRo := fun W => rounds_any c W
    obtain ⟨R, hRe⟩ : ∃ R, rdN c = R := ⟨_, rfl⟩
    obtain ⟨w3, hw3⟩ : ∃ v, wc.alloc (.cells #[.int .i64 c] 25) = v := ⟨_, rfl⟩
    have hb3 : Below wc.heap.size wc w3 := by rw [← hw3]; exact (Below.refl _ _).alloc (Nat.le_refl _) _
    have hS3 : RrI c many R w.heap.size wA.heap.size wc.heap.size w w3 := ⟨(hb3.block _ (by omega)).trans (hbc.box HB0.out (by omega)), (hb3.block _ (by omega)).trans (hbc.box HB1.out (by omega)), (hb3.block _ (by omega)).trans (hbc.box HB2.out (by omega)), by rw [← hRe]; exact (hb3.block _ (by omega)).trans HC.out.1,
      by rw [← hw3]; exact World.alloc_heap_new _ _, (hbw1.trans (hbc.to_below (by omega) (fun b e => by omega))).trans (hb3.mono (by omega))⟩
    obtain ⟨w6, hw6⟩ : ∃ v, w3.alloc (.cells #[.int .i64 0] 3) = v := ⟨_, rfl⟩
    have hs3 : w3.heap.size = wc.heap.size + 1 := by rw [← hw3]; simp
    have hb6 : Below w3.heap.size w3 w6 := by rw [← hw6]; exact (Below.refl _ _).alloc (Nat.le_refl _) _
    have HS6 : Hid (RrI c many R w.heap.size wA.heap.size wc.heap.size w w6) := Lib.hid (hS3.on hb6)
    have HT6 : Hid (w6.heap[wc.heap.size + 1]? = some (.cells #[.int .i64 0] 3 (0, 0))) := Lib.hid (by rw [← hw6, ← hs3]; exact World.alloc_heap_new w3 _)
    have HC0 : Hid (w.heap.size + 3 = wA.heap.size ∧ wA.heap.size < wc.heap.size ∧ w6.heap.size = wc.heap.size + 2) := Lib.hid ⟨by omega, by omega, by rw [← hw6]; simp; omega⟩
    have HRE := Lib.hid hRe
    have HC1 : Hid (w3.heap.size ≤ w6.heap.size ∧ w.heap.size + 3 ≤ w3.heap.size) := Lib.hid ⟨hb6.size, by omega⟩
    have HW3 := Lib.hid hw3
    have HW6 := Lib.hid hw6
    have hAc : wA.heap.size < wc.heap.size := by omega
    have hwA0 : w.heap.size + 3 ≤ wA.heap.size := by omega
    clear hbc hcz hbw1 hz1 hzA hb3 hS3 hs3 hb6 hw3 hw6 hRe k0 kn fn HC HKN HFR HN1 HB0 HB1 HB2 HBW1 HK0 hR
    go_wp2_with (go_at_call 27; (with_reducible refine (hRo _).mono ?_); clear hRo; rintro e w' ⟨rfl, rfl⟩)
    rw [HW3.out, HW6.out]
    clear kc
    refine wp_loop_rounds 3 ?_
    rw [rounds_succ]
    have HSr0 : Hid (RrI c many R w.heap.size wA.heap.size wc.heap.size w w6) := HS6
    have kt0 := cell_of_heap (HT6).out 0
    simp only [List.getElem?_toArray, List.getElem?_cons_zero] at kt0
    have hlB0 : (wc.heap.size + 1) < w6.heap.size := (Array.getElem?_eq_some_iff.1 (HT6).out).1
    have hlm0 : w.heap.size < w6.heap.size := by have := (Array.getElem?_eq_some_iff.1 HSr0.out.cc).1; omega
    have hlx0 : wc.heap.size < w6.heap.size := (Array.getElem?_eq_some_iff.1 HSr0.out.bx_).1
    obtain ⟨v0, hv0⟩ : ∃ v0, w6.alloc (.cells #[.int .i64 0] 3) = v0 := ⟨_, rfl⟩
    have hsv0 : v0.heap.size = w6.heap.size + 1 := by rw [← hv0]; simp
    have hbv0 : Below w6.heap.size w6 v0 := by rw [← hv0]; exact (Below.refl _ _).alloc (Nat.le_refl _) _
    have hn0 : v0.heap[w6.heap.size]? = some (.cells #[.int .i64 0] 3 (0, 0)) := by rw [← hv0]; exact World.alloc_heap_new _ _
    have HBV0 := Lib.hid hbv0
    have HV0 := Lib.hid hv0
    have HN0 := Lib.hid hn0
    have hfn0 := HFN.out wc.heap.size
    clear hv0 hbv0 hn0
    go_wp2
    clear hfn0
    rw [HV0.out]
    refine (wpIn_wide (n := 3)).1 ?_
    refine wpIn_range2b (gf := 45) (lb := #[.pointer (some ⟨wc.heap.size, 0, none⟩)]) rfl (enters_of Try.func45 (by kernel_rfl) rfl)
      (rounds_seq v0 ((HBV0.out.block _ hlx0).trans HSr0.out.bx_) (fun b => b = w6.heap.size) (fun b e => by have e2 : b = _ := e; omega))
      (fun b e => by omega) ?hH ?hrow 29 30 9 10 rfl ?hargs
      (fun q W => But (fun b => b = w6.heap.size) v0 W ∧ W.heap[w6.heap.size]? = some (.cells #[.int .i64 (q : Int)] 3 (0, 0)) ∧ q ≤ R ∧ (q = 0 ∨ (q : Int) < many))
      (fun q W => But (fun b => b = w6.heap.size) v0 W ∧ W.heap[w6.heap.size]? = some (.cells #[.int .i64 (q : Int)] 3 (0, 0)) ∧ q ≤ R ∧ 1 ≤ q ∧ many ≤ (q : Int) ∧ (q = 1 ∨ (q : Int) - 1 < many))
      2 ?hI ?hIx ⟨But.refl _ _, HN0.out, Nat.zero_le _, .inl rfl⟩ ?assign ?body _ (fun _ _ h => h) (fun _ _ h => h) ?rest
    case hH =>
      rintro k args W1 W' ⟨h1, vv, h2, h3⟩ hb
      exact ⟨h1, vv, h2, h3.but hb (fun g e h => by obtain ⟨_, g', cur, rfl, h5, _⟩ := h3; cases e; have h7 : g' < v0.heap.size + 2 := h; omega)⟩
    case hrow =>
      rintro k args W1 b ⟨_, vv, rfl, h3⟩ ⟨x, v', e, e2⟩
      simp only [Array.mk.injEq, List.cons.injEq, and_true] at e
      obtain ⟨_, rfl⟩ := e
      obtain ⟨_, g', cur, rfl, h5, _⟩ := h3
      cases e2
      exact h5
    case hargs =>
      rintro k args W1 ⟨_, vv, rfl, _⟩
      exact ⟨_, _, rfl⟩
    case hI =>
      rintro q W1 W' ⟨i1, i2, i3⟩ hb
      exact ⟨i1.trans (But.of_below hb) (fun b h1 h2 => by omega), (hb.block _ (by omega)).trans i2, i3⟩
    case hIx =>
      rintro q W1 W' ⟨i1, i2, i3⟩ hb
      exact ⟨i1.trans (But.of_below hb) (fun b h1 h2 => by omega), (hb.block _ (by omega)).trans i2, i3⟩
    case assign =>
      intro l0 x v W1 K hK
      simp only [List.setIfInBounds_toArray, List.set_cons_zero, List.set_cons_succ] at hK ⊢
      gi_wp2
      exact hK
    case body =>
      rintro l0 q x v W1 hsz ⟨i1, i2, i3, i4⟩ ⟨hq, vv, e, hrow⟩
      simp only [Array.mk.injEq, List.cons.injEq, and_true] at e
      obtain ⟨rfl, rfl⟩ := e
      simp only [List.setIfInBounds_toArray, List.set_cons_zero, List.set_cons_succ]
      have hqR : q < R := by rw [HRE.out] at hq; exact hq
      have hch : chB c = true := by
        cases hc : chB c with
        | true => rfl
        | false => have h1 := (rdN_no hc).1; omega
      obtain ⟨cn, rfl⟩ : ∃ cn : Nat, c = (cn : Int) := ⟨c.toNat, by rcases chB_iff.1 hch with e | e | e | e <;> omega⟩
      obtain ⟨_, hbg⟩ := rd_at hch hq
      have hcr : 1 ≤ cn ∧ cn ≤ 9 := by rcases chB_iff.1 hch with e | e | e | e <;> omega
      rw [show (cn : Int).toNat = cn from rfl] at hrow
      obtain ⟨g, rfl, hgL, hgz, hleft⟩ := hrow.left
      obtain ⟨bg, hbe⟩ : ∃ bg, q * cn = bg := ⟨_, rfl⟩
      rw [hbe] at hbg hleft ⊢
      obtain ⟨nq, hnq⟩ : ∃ nq, min cn (4096 - bg) = nq := ⟨_, rfl⟩
      have hbW : Below w6.heap.size w6 W1 := HBV0.out.trans (i1.to_below (n := w6.heap.size) (by omega) (fun b e => by omega))
      have hSW := HSr0.out.on hbW
      have hTW : W1.heap[(wc.heap.size + 1)]? = some (.cells #[.int .i64 0] 3 (0, 0)) := (hbW.block _ hlB0).trans (HT6).out
      have hqR4 : q ≤ 4096 := by have := (rdN_yes hch).2.2; omega
      have h28 := rRound_any cn q bg W1 hcr.1 hcr.2 hbg hbe hqR4
      rw [hnq] at hleft h28 ⊢
      have hnq9 : nq ≤ 9 := by omega
      have hsz2 : w6.heap.size + 1 < g := by omega
      have HX1 : Hid (∀ W, Below W1.heap.size W1 W → W.cell? ⟨w6.heap.size, 0, none⟩ = some (.int .i64 (q : Int)) ∧ W.cell? ⟨w.heap.size, 0, none⟩ = some (.int .i64 (cn : Int)) ∧ W.cell? ⟨wA.heap.size, 0, none⟩ = some (.int .i64 (R : Int)) ∧ LeftG W g nq 0 (bg : Int)) := Lib.hid fun W hb => by
        have h := hSW.on hb
        exact ⟨cell_of_heap ((hb.block _ (by omega)).trans i2) 0, cell_of_heap h.cc 0, cell_of_heap h.al 0, hleft.on hb⟩
      obtain ⟨k1, k3, k4, _⟩ := HX1.out W1 (Below.refl _ _)
      have HI1 := Lib.hid i1
      have HI2 := Lib.hid i2
      have HI4 := Lib.hid i4
      have HSW := Lib.hid hSW
      have HTW := Lib.hid hTW
      have HBW := Lib.hid hbW
      have hqi : (q : Int) ≤ 4096 := by omega
      have HBGB := Lib.hid hbg
      have hd1 : decide ((R : Int) ≤ (q : Int)) = false := decide_eq_false (by omega)
      have hd2 : decide (R ≤ q) = false := decide_eq_false (by omega)
      have hd3 : ((q : Int) != (q : Int)) = false := by simp
      have hd4 : ((nq : Int) != (nq : Int)) = false := by simp
      have hqRi : (q : Int) < (R : Int) := by omega
      clear i1 i2 i4 hSW hTW hbW hleft hrow hnq hbe hch hq hbg hcr
      gi_wp2_with ((try refine ⟨trivial, ?_⟩); gi_at_call 28; refine (CallsIn.inRound l0 (callsIn_wide.2 h28)).mono ?_; clear h28; rintro e W2 ⟨vw, rfl, hown, hb2⟩; obtain ⟨Aw, cw, rfl⟩ := own_slice hown; obtain ⟨m1, m3, m4, m5⟩ := HX1.out W2 hb2)
      have HLF := Lib.hid m5
      have HOW := Lib.hid hown
      have HB2 := Lib.hid hb2
      clear m5 hown hb2 k1 k3 k4 HX1
      have hz2 := HB2.out.size
      have hbI : Hid (But (fun b => b = g) W2 W2) := Lib.hid (But.refl _ _)
      gi_loopw [12] (fun v12 wr => ∃ k : Nat, k ≤ nq ∧ v12 = .int .i64 (k : Int) ∧ Hid (LeftG wr g nq k (bg : Int)) ∧ Hid (But (fun b => b = g) W2 wr)) (fun v12 _ => nq - (RowKit.intOf v12).toNat)
      case atStart => exact ⟨0, Nat.zero_le _, rfl, HLF, hbI⟩
      case round =>
        obtain ⟨wq, rfl⟩ : ∃ wq : World, wq = wr := ⟨_, rfl⟩
        obtain ⟨k, hk, rfl, HL, HBG⟩ := hrel
        clear HLF hbI
        by_cases hkn : k < nq
        · obtain ⟨l1, l2⟩ := HL.out.cell (Nat.le_refl _) hkn
          obtain ⟨gw, capw, ew, hwb, hwl⟩ := HOW.out.form (by omega)
          injection ew with ew1 ew2 ew3
          subst ew1 ew3
          clear ew2
          have hgw : gw ≠ g := by have : W1.heap.size ≤ gw := hwb; omega
          have lw : wq.cell? ⟨gw, k, none⟩ = some (.int .i64 ((bg : Int) + (k : Int))) := by
            have h1 := (HBG.out.cell (p := ⟨gw, k, none⟩) hwl hgw).trans (HOW.out.cellAt k (by omega))
            rw [h1]
            exact rowB_get _ hkn
          obtain ⟨sv, hsv⟩ : ∃ sv, (bg : Int) + (k : Int) = sv := ⟨_, rfl⟩
          rw [hsv] at l1 lw
          have hsvb : 0 ≤ sv ∧ sv ≤ 8200 := by have := HBGB.out; omega
          have l1d : ∀ m, (wq.drewN m).cell? ⟨g, k, none⟩ = some (.int .i64 sv) := fun _ => l1
          have lwd : ∀ m, (wq.drewN m).cell? ⟨gw, k, none⟩ = some (.int .i64 sv) := fun _ => lw
          have HL1 := Lib.hid l1
          have HL2 := Lib.hid l2
          have hki : (k : Int) < (nq : Int) := by omega
          clear hsv hwb
          gi_wp2
          refine wpIn_round_quiet (by kernel_rfl) (by kernel_rfl) (by kernel_rfl) ?_
          repeat (go_big_quiet_step (fail))
          refine wpQuiet_nil ?_
          rintro w' ⟨nd, rfl⟩
          have HLz : Hid (LeftG (wq.drewN nd) g nq k (bg : Int)) := Lib.hid HL.out
          have HBz : Hid (But (fun b => b = g) W2 (wq.drewN nd)) := Lib.hid (HBG.out.trans (⟨rfl, rfl, rfl, Nat.le_refl _, fun _ _ _ => rfl⟩ : But (fun b => b = g) wq (wq.drewN nd)) (fun b _ e => e))
          have z1 : (wq.drewN nd).cell? ⟨g, k, none⟩ = some (.int .i64 sv) := l1
          have z2 : (wq.drewN nd).frozen? ⟨g, k, none⟩ = false := l2
          obtain ⟨wz, hwz⟩ : ∃ wz, wq.drewN nd = wz := ⟨_, rfl⟩
          rw [hwz] at HLz HBz z1 z2 ⊢
          clear hwz l1 l2 lw l1d lwd HL1 HL2
          have HSL := Lib.hid (HLz.out.set (.int .i64 (sv + 1)))
          have HSB : Hid (But (fun b => b = g) W2 (wz.setCell ⟨g, k, none⟩ (.int .i64 (sv + 1)))) := Lib.hid (HBz.out.set ⟨g, k, none⟩ _ (.inl rfl))
          gi_wp2
          go_roundw
          case rel => exact ⟨k + 1, by omega, by go_num, HSL, HSB⟩
          case measure => simp [RowKit.intOf]; omega
        · obtain rfl : k = nq := by omega
          have hno : ∀ b, b < g → ¬ b = g := fun b h e => by omega
          have b2 : ∀ (b : Nat) (o : Obj), b < W1.heap.size → b < g → W1.heap[b]? = some o → wq.heap[b]? = some o := fun b o h1 h2 h3 => HBG.out.box ((HB2.out.block _ h1).trans h3) (by omega)
          have z1 := b2 w6.heap.size _ (by omega) (by omega) HI2.out
          have zT := b2 (wc.heap.size + 1) _ (by omega) (by omega) HTW.out
          have zM := b2 (w.heap.size + 1) _ (by omega) (by omega) HSW.out.cm
          obtain ⟨wn, hwn⟩ : ∃ wn, wq.setCell ⟨w6.heap.size, 0, none⟩ (.int .i64 ((q : Int) + 1)) = wn := ⟨_, rfl⟩
          have y1 : wn.heap[w6.heap.size]? = some (.cells #[.int .i64 ((q : Int) + 1)] 3 (0, 0)) := by rw [← hwn]; exact heap_setCells (i := 0) (u := .int .i64 ((q : Int) + 1)) z1
          have yT : wn.heap[(wc.heap.size + 1)]? = some (.cells #[.int .i64 0] 3 (0, 0)) := by rw [← hwn]; exact (Below.heap_setCell _ ⟨w6.heap.size, 0, none⟩ _ _ (by simp <;> omega)).trans zT
          have yM : wn.heap[w.heap.size + 1]? = some (.cells #[.int .i64 many] 3 (0, 0)) := by rw [← hwn]; exact (Below.heap_setCell _ ⟨w6.heap.size, 0, none⟩ _ _ (by simp <;> omega)).trans zM
          have hb1n : But (fun b => b = w6.heap.size ∨ b = g) W1 wn := by
            rw [← hwn]
            exact ((But.of_all HB2.out _).trans (HBG.out.mono fun b _ e => Or.inr e) (fun _ _ e => e)).set ⟨w6.heap.size, 0, none⟩ _ (.inl (.inl rfl))
          have HB1 : Hid (But (fun b => b = w6.heap.size ∨ rowR2 #[.int .i64 (q : Int), .slice (some ⟨g, 0, none⟩) k k] b) W1 wn) := Lib.hid (hb1n.mono fun b _ e => e.imp id fun e => ⟨_, _, rfl, by rw [e]; rfl⟩)
          have HB3 : Hid (But (fun b => b = w6.heap.size) v0 wn) := Lib.hid (HI1.out.trans hb1n (fun b hb e => by
            rcases e with e | e
            · exact e
            · omega))
          have t1 := cell_of_heap z1 0
          have t2 := frozen_of_heap z1 0
          have t3 := cell_of_heap y1 0
          have t4 := cell_of_heap yT 0
          have t5 := cell_of_heap yM 0
          simp only [List.getElem?_toArray, List.getElem?_cons_zero] at t1 t3 t4 t5
          have HY1 : Hid (wn.heap[w6.heap.size]? = some (.cells #[.int .i64 ((q + 1 : Nat) : Int)] 3 (0, 0))) := Lib.hid (by rw [show ((q + 1 : Nat) : Int) = (q : Int) + 1 by omega]; exact y1)
          have HQ : Hid (q + 1 ≤ R) := Lib.hid (by omega)
          clear y1 yT yM z1 zT zM hno b2 hb1n HL
          by_cases hmq : many ≤ (q : Int) + 1
          · gi_wp2
            exact ⟨HB1.out, rfl, HB3.out, HY1.out, HQ.out, by omega, by omega, by have := HI4.out; omega⟩
          · gi_wp2
            exact ⟨trivial, HB1.out, HB3.out, HY1.out, HQ.out, Or.inr (by omega)⟩
    case rest =>
      intro X0 hor hD
      obtain ⟨M, i1, i2, hM⟩ : ∃ M : Nat, But (fun b => b = w6.heap.size) v0 X0 ∧ X0.heap[w6.heap.size]? = some (.cells #[.int .i64 (M : Int)] 3 (0, 0)) ∧ (M : Int) = min (R : Int) (max 1 many) := by
        rcases hor with ⟨q, hS, i1, i2, i3, i4⟩ | ⟨q, hSp, i1, i2, i3, i5, i6, i7⟩
        · exact ⟨q, i1, i2, by rw [HRE.out] at hS; omega⟩
        · exact ⟨q, i1, i2, by rw [HRE.out] at hSp; omega⟩
      have hMb : ((M : Int) != min (R : Int) (max 1 many)) = false := by simp [hM]
      clear hM
      have hbW : Below w6.heap.size w6 X0 := HBV0.out.trans (i1.to_below (n := w6.heap.size) (by omega) (fun b e => by omega))
      have hSW := HSr0.out.on hbW
      have hTW : X0.heap[(wc.heap.size + 1)]? = some (.cells #[.int .i64 0] 3 (0, 0)) := (hbW.block _ hlB0).trans (HT6).out
      have k1 := cell_of_heap i2 0
      have k3 := cell_of_heap hSW.al 0
      have k4 := cell_of_heap hTW 0
      have k5 := cell_of_heap hSW.cm 0
      simp only [List.getElem?_toArray, List.getElem?_cons_zero] at k1 k3 k4 k5
      obtain ⟨Y0, hY0⟩ : ∃ Y, X0.alloc (.cells #[.int .i64 1] 3) = Y := ⟨_, rfl⟩
      have hbY : Below X0.heap.size X0 Y0 := by rw [← hY0]; exact (Below.refl _ _).alloc (Nat.le_refl _) _
      have HSY0 : Hid (RrI c many R w.heap.size wA.heap.size wc.heap.size w Y0) := Lib.hid (hSW.on hbY)
      have HTY0 : Hid (Y0.heap[X0.heap.size]? = some (.cells #[.int .i64 1] 3 (0, 0))) := Lib.hid (by rw [← hY0]; exact World.alloc_heap_new _ _)
      have HM0 : Hid (Marks [v0.heap.size] w3.heap.size Y0) := Lib.hid ((Marks.push (show Marks [] w3.heap.size w6 from ⟨by simp, fun D hD => by simp at hD⟩) hbW (by omega) (by have := HC1.out; omega) hD).on hbY)
      have HY0 := Lib.hid hY0
      have HSV0 := Lib.hid hsv0
      have hlz0 : w6.heap.size < X0.heap.size := (Array.getElem?_eq_some_iff.1 i2).1
      clear hor hD i1 i2 hbW hSW hTW hbY hY0 hsv0
      go_wp2
      rw [HY0.out, rounds_succ]
      clear k1 k3 k4 k5 hMb
      have HSr1 : Hid (RrI c many R w.heap.size wA.heap.size wc.heap.size w Y0) := HSY0
      have kt1 := cell_of_heap (HTY0).out 0
      simp only [List.getElem?_toArray, List.getElem?_cons_zero] at kt1
      have hlB1 : X0.heap.size < Y0.heap.size := (Array.getElem?_eq_some_iff.1 (HTY0).out).1
      have hlm1 : w.heap.size < Y0.heap.size := by have := (Array.getElem?_eq_some_iff.1 HSr1.out.cc).1; omega
      have hlx1 : wc.heap.size < Y0.heap.size := (Array.getElem?_eq_some_iff.1 HSr1.out.bx_).1
      obtain ⟨v1, hv1⟩ : ∃ v1, Y0.alloc (.cells #[.int .i64 0] 3) = v1 := ⟨_, rfl⟩
      have hsv1 : v1.heap.size = Y0.heap.size + 1 := by rw [← hv1]; simp
      have hbv1 : Below Y0.heap.size Y0 v1 := by rw [← hv1]; exact (Below.refl _ _).alloc (Nat.le_refl _) _
      have hn1 : v1.heap[Y0.heap.size]? = some (.cells #[.int .i64 0] 3 (0, 0)) := by rw [← hv1]; exact World.alloc_heap_new _ _
      have HBV1 := Lib.hid hbv1
      have HV1 := Lib.hid hv1
      have HN1 := Lib.hid hn1
      have hfn1 := HFN.out wc.heap.size
      clear hv1 hbv1 hn1
      go_wp2
      clear hfn1
      rw [HV1.out]
      refine (wpIn_wide (n := 3)).1 ?_
      refine wpIn_range2b (gf := 45) (lb := #[.pointer (some ⟨wc.heap.size, 0, none⟩)]) rfl (enters_of Try.func45 (by kernel_rfl) rfl)
        (rounds_seq v1 ((HBV1.out.block _ hlx1).trans HSr1.out.bx_) (fun b => b = Y0.heap.size) (fun b e => by have e2 : b = _ := e; omega))
        (fun b e => by omega) ?hH ?hrow 29 30 9 10 rfl ?hargs
        (fun q W => But (fun b => b = Y0.heap.size) v1 W ∧ W.heap[Y0.heap.size]? = some (.cells #[.int .i64 (q : Int)] 3 (0, 0)) ∧ q ≤ R ∧ True)
        (fun q W => But (fun b => b = Y0.heap.size) v1 W ∧ W.heap[Y0.heap.size]? = some (.cells #[.int .i64 (q : Int)] 3 (0, 0)) ∧ q ≤ R ∧ False)
        2 ?hI ?hIx ⟨But.refl _ _, HN1.out, Nat.zero_le _, trivial⟩ ?assign ?body _ (fun _ _ h => h) (fun _ _ h => h) ?rest
      case hH =>
        rintro k args W1 W' ⟨h1, vv, h2, h3⟩ hb
        exact ⟨h1, vv, h2, h3.but hb (fun g e h => by obtain ⟨_, g', cur, rfl, h5, _⟩ := h3; cases e; have h7 : g' < v1.heap.size + 2 := h; omega)⟩
      case hrow =>
        rintro k args W1 b ⟨_, vv, rfl, h3⟩ ⟨x, v', e, e2⟩
        simp only [Array.mk.injEq, List.cons.injEq, and_true] at e
        obtain ⟨_, rfl⟩ := e
        obtain ⟨_, g', cur, rfl, h5, _⟩ := h3
        cases e2
        exact h5
      case hargs =>
        rintro k args W1 ⟨_, vv, rfl, _⟩
        exact ⟨_, _, rfl⟩
      case hI =>
        rintro q W1 W' ⟨i1, i2, i3⟩ hb
        exact ⟨i1.trans (But.of_below hb) (fun b h1 h2 => by omega), (hb.block _ (by omega)).trans i2, i3⟩
      case hIx =>
        rintro q W1 W' ⟨i1, i2, i3⟩ hb
        exact ⟨i1.trans (But.of_below hb) (fun b h1 h2 => by omega), (hb.block _ (by omega)).trans i2, i3⟩
      case assign =>
        intro l0 x v W1 K hK
        simp only [List.setIfInBounds_toArray, List.set_cons_zero, List.set_cons_succ] at hK ⊢
        gi_wp2
        exact hK
      case body =>
        rintro l0 q x v W1 hsz ⟨i1, i2, i3, i4⟩ ⟨hq, vv, e, hrow⟩
        simp only [Array.mk.injEq, List.cons.injEq, and_true] at e
        obtain ⟨rfl, rfl⟩ := e
        simp only [List.setIfInBounds_toArray, List.set_cons_zero, List.set_cons_succ]
        have hqR : q < R := by rw [HRE.out] at hq; exact hq
        have hch : chB c = true := by
          cases hc : chB c with
          | true => rfl
          | false => have h1 := (rdN_no hc).1; omega
        obtain ⟨cn, rfl⟩ : ∃ cn : Nat, c = (cn : Int) := ⟨c.toNat, by rcases chB_iff.1 hch with e | e | e | e <;> omega⟩
        obtain ⟨_, hbg⟩ := rd_at hch hq
        have hcr : 1 ≤ cn ∧ cn ≤ 9 := by rcases chB_iff.1 hch with e | e | e | e <;> omega
        rw [show (cn : Int).toNat = cn from rfl] at hrow
        obtain ⟨g, rfl, hgL, hgz, hleft⟩ := hrow.left
        obtain ⟨bg, hbe⟩ : ∃ bg, q * cn = bg := ⟨_, rfl⟩
        rw [hbe] at hbg hleft ⊢
        obtain ⟨nq, hnq⟩ : ∃ nq, min cn (4096 - bg) = nq := ⟨_, rfl⟩
        have hbW : Below Y0.heap.size Y0 W1 := HBV1.out.trans (i1.to_below (n := Y0.heap.size) (by omega) (fun b e => by omega))
        have hSW := HSr1.out.on hbW
        have hTW : W1.heap[X0.heap.size]? = some (.cells #[.int .i64 1] 3 (0, 0)) := (hbW.block _ hlB1).trans (HTY0).out
        have hqR4 : q ≤ 4096 := by have := (rdN_yes hch).2.2; omega
        have h28 := rRound_any cn q bg W1 hcr.1 hcr.2 hbg hbe hqR4
        rw [hnq] at hleft h28 ⊢
        have hnq9 : nq ≤ 9 := by omega
        have hsz2 : Y0.heap.size + 1 < g := by omega
        have HX1 : Hid (∀ W, Below W1.heap.size W1 W → W.cell? ⟨Y0.heap.size, 0, none⟩ = some (.int .i64 (q : Int)) ∧ W.cell? ⟨w.heap.size, 0, none⟩ = some (.int .i64 (cn : Int)) ∧ W.cell? ⟨wA.heap.size, 0, none⟩ = some (.int .i64 (R : Int)) ∧ LeftG W g nq 0 (bg : Int)) := Lib.hid fun W hb => by
          have h := hSW.on hb
          exact ⟨cell_of_heap ((hb.block _ (by omega)).trans i2) 0, cell_of_heap h.cc 0, cell_of_heap h.al 0, hleft.on hb⟩
        obtain ⟨k1, k3, k4, _⟩ := HX1.out W1 (Below.refl _ _)
        have HI1 := Lib.hid i1
        have HI2 := Lib.hid i2
        have HI4 := Lib.hid i4
        have HSW := Lib.hid hSW
        have HTW := Lib.hid hTW
        have HBW := Lib.hid hbW
        have hqi : (q : Int) ≤ 4096 := by omega
        have HBGB := Lib.hid hbg
        have hd1 : decide ((R : Int) ≤ (q : Int)) = false := decide_eq_false (by omega)
        have hd2 : decide (R ≤ q) = false := decide_eq_false (by omega)
        have hd3 : ((q : Int) != (q : Int)) = false := by simp
        have hd4 : ((nq : Int) != (nq : Int)) = false := by simp
        have hqRi : (q : Int) < (R : Int) := by omega
        clear i1 i2 i4 hSW hTW hbW hleft hrow hnq hbe hch hq hbg hcr
        gi_wp2_with ((try refine ⟨trivial, ?_⟩); gi_at_call 28; refine (CallsIn.inRound l0 (callsIn_wide.2 h28)).mono ?_; clear h28; rintro e W2 ⟨vw, rfl, hown, hb2⟩; obtain ⟨Aw, cw, rfl⟩ := own_slice hown; obtain ⟨m1, m3, m4, m5⟩ := HX1.out W2 hb2)
        have HLF := Lib.hid m5
        have HOW := Lib.hid hown
        have HB2 := Lib.hid hb2
        clear m5 hown hb2 k1 k3 k4 HX1
        have hz2 := HB2.out.size
        have hbI : Hid (But (fun b => b = g) W2 W2) := Lib.hid (But.refl _ _)
        gi_loopw [12] (fun v12 wr => ∃ k : Nat, k ≤ nq ∧ v12 = .int .i64 (k : Int) ∧ Hid (LeftG wr g nq k (bg : Int)) ∧ Hid (But (fun b => b = g) W2 wr)) (fun v12 _ => nq - (RowKit.intOf v12).toNat)
        case atStart => exact ⟨0, Nat.zero_le _, rfl, HLF, hbI⟩
        case round =>
          obtain ⟨wq, rfl⟩ : ∃ wq : World, wq = wr := ⟨_, rfl⟩
          obtain ⟨k, hk, rfl, HL, HBG⟩ := hrel
          clear HLF hbI
          by_cases hkn : k < nq
          · obtain ⟨l1, l2⟩ := HL.out.cell (Nat.le_refl _) hkn
            obtain ⟨gw, capw, ew, hwb, hwl⟩ := HOW.out.form (by omega)
            injection ew with ew1 ew2 ew3
            subst ew1 ew3
            clear ew2
            have hgw : gw ≠ g := by have : W1.heap.size ≤ gw := hwb; omega
            have lw : wq.cell? ⟨gw, k, none⟩ = some (.int .i64 ((bg : Int) + (k : Int))) := by
              have h1 := (HBG.out.cell (p := ⟨gw, k, none⟩) hwl hgw).trans (HOW.out.cellAt k (by omega))
              rw [h1]
              exact rowB_get _ hkn
            obtain ⟨sv, hsv⟩ : ∃ sv, (bg : Int) + (k : Int) = sv := ⟨_, rfl⟩
            rw [hsv] at l1 lw
            have hsvb : 0 ≤ sv ∧ sv ≤ 8200 := by have := HBGB.out; omega
            have l1d : ∀ m, (wq.drewN m).cell? ⟨g, k, none⟩ = some (.int .i64 sv) := fun _ => l1
            have lwd : ∀ m, (wq.drewN m).cell? ⟨gw, k, none⟩ = some (.int .i64 sv) := fun _ => lw
            have HL1 := Lib.hid l1
            have HL2 := Lib.hid l2
            have hki : (k : Int) < (nq : Int) := by omega
            clear hsv hwb
            gi_wp2
            refine wpIn_round_quiet (by kernel_rfl) (by kernel_rfl) (by kernel_rfl) ?_
            repeat (go_big_quiet_step (fail))
            refine wpQuiet_nil ?_
            rintro w' ⟨nd, rfl⟩
            have HLz : Hid (LeftG (wq.drewN nd) g nq k (bg : Int)) := Lib.hid HL.out
            have HBz : Hid (But (fun b => b = g) W2 (wq.drewN nd)) := Lib.hid (HBG.out.trans (⟨rfl, rfl, rfl, Nat.le_refl _, fun _ _ _ => rfl⟩ : But (fun b => b = g) wq (wq.drewN nd)) (fun b _ e => e))
            have z1 : (wq.drewN nd).cell? ⟨g, k, none⟩ = some (.int .i64 sv) := l1
            have z2 : (wq.drewN nd).frozen? ⟨g, k, none⟩ = false := l2
            obtain ⟨wz, hwz⟩ : ∃ wz, wq.drewN nd = wz := ⟨_, rfl⟩
            rw [hwz] at HLz HBz z1 z2 ⊢
            clear hwz l1 l2 lw l1d lwd HL1 HL2
            have HSL := Lib.hid (HLz.out.set (.int .i64 (sv + 1)))
            have HSB : Hid (But (fun b => b = g) W2 (wz.setCell ⟨g, k, none⟩ (.int .i64 (sv + 1)))) := Lib.hid (HBz.out.set ⟨g, k, none⟩ _ (.inl rfl))
            gi_wp2
            go_roundw
            case rel => exact ⟨k + 1, by omega, by go_num, HSL, HSB⟩
            case measure => simp [RowKit.intOf]; omega
          · obtain rfl : k = nq := by omega
            have hno : ∀ b, b < g → ¬ b = g := fun b h e => by omega
            have b2 : ∀ (b : Nat) (o : Obj), b < W1.heap.size → b < g → W1.heap[b]? = some o → wq.heap[b]? = some o := fun b o h1 h2 h3 => HBG.out.box ((HB2.out.block _ h1).trans h3) (by omega)
            have z1 := b2 Y0.heap.size _ (by omega) (by omega) HI2.out
            have zT := b2 X0.heap.size _ (by omega) (by omega) HTW.out
            have zM := b2 (w.heap.size + 1) _ (by omega) (by omega) HSW.out.cm
            obtain ⟨wn, hwn⟩ : ∃ wn, wq.setCell ⟨Y0.heap.size, 0, none⟩ (.int .i64 ((q : Int) + 1)) = wn := ⟨_, rfl⟩
            have y1 : wn.heap[Y0.heap.size]? = some (.cells #[.int .i64 ((q : Int) + 1)] 3 (0, 0)) := by rw [← hwn]; exact heap_setCells (i := 0) (u := .int .i64 ((q : Int) + 1)) z1
            have yT : wn.heap[X0.heap.size]? = some (.cells #[.int .i64 1] 3 (0, 0)) := by rw [← hwn]; exact (Below.heap_setCell _ ⟨Y0.heap.size, 0, none⟩ _ _ (by simp <;> omega)).trans zT
            have yM : wn.heap[w.heap.size + 1]? = some (.cells #[.int .i64 many] 3 (0, 0)) := by rw [← hwn]; exact (Below.heap_setCell _ ⟨Y0.heap.size, 0, none⟩ _ _ (by simp <;> omega)).trans zM
            have hb1n : But (fun b => b = Y0.heap.size ∨ b = g) W1 wn := by
              rw [← hwn]
              exact ((But.of_all HB2.out _).trans (HBG.out.mono fun b _ e => Or.inr e) (fun _ _ e => e)).set ⟨Y0.heap.size, 0, none⟩ _ (.inl (.inl rfl))
            have HB1 : Hid (But (fun b => b = Y0.heap.size ∨ rowR2 #[.int .i64 (q : Int), .slice (some ⟨g, 0, none⟩) k k] b) W1 wn) := Lib.hid (hb1n.mono fun b _ e => e.imp id fun e => ⟨_, _, rfl, by rw [e]; rfl⟩)
            have HB3 : Hid (But (fun b => b = Y0.heap.size) v1 wn) := Lib.hid (HI1.out.trans hb1n (fun b hb e => by
              rcases e with e | e
              · exact e
              · omega))
            have t1 := cell_of_heap z1 0
            have t2 := frozen_of_heap z1 0
            have t3 := cell_of_heap y1 0
            have t4 := cell_of_heap yT 0
            have t5 := cell_of_heap yM 0
            simp only [List.getElem?_toArray, List.getElem?_cons_zero] at t1 t3 t4 t5
            have HY1 : Hid (wn.heap[Y0.heap.size]? = some (.cells #[.int .i64 ((q + 1 : Nat) : Int)] 3 (0, 0))) := Lib.hid (by rw [show ((q + 1 : Nat) : Int) = (q : Int) + 1 by omega]; exact y1)
            have HQ : Hid (q + 1 ≤ R) := Lib.hid (by omega)
            clear y1 yT yM z1 zT zM hno b2 hb1n HL
            gi_wp2
            exact ⟨trivial, HB1.out, HB3.out, HY1.out, HQ.out, trivial⟩
      case rest =>
        intro X1 hor hD
        obtain ⟨i1, i2⟩ : But (fun b => b = Y0.heap.size) v1 X1 ∧ X1.heap[Y0.heap.size]? = some (.cells #[.int .i64 (R : Int)] 3 (0, 0)) := by
          rcases hor with ⟨q, hS, i1, i2, i3, i4⟩ | ⟨q, hSp, i1, i2, i3, i5⟩
          · rw [HRE.out] at hS
            subst hS
            exact ⟨i1, i2⟩
          · exact i5.elim
        have hMb : ((R : Int) != (R : Int)) = false := by simp
        have hbW : Below Y0.heap.size Y0 X1 := HBV1.out.trans (i1.to_below (n := Y0.heap.size) (by omega) (fun b e => by omega))
        have hSW := HSr1.out.on hbW
        have hTW : X1.heap[X0.heap.size]? = some (.cells #[.int .i64 1] 3 (0, 0)) := (hbW.block _ hlB1).trans (HTY0).out
        have k1 := cell_of_heap i2 0
        have k3 := cell_of_heap hSW.al 0
        have k4 := cell_of_heap hTW 0
        have k5 := cell_of_heap hSW.cm 0
        simp only [List.getElem?_toArray, List.getElem?_cons_zero] at k1 k3 k4 k5
        obtain ⟨Y1, hY1⟩ : ∃ Y, X1.alloc (.cells #[.int .i64 2] 3) = Y := ⟨_, rfl⟩
        have hbY : Below X1.heap.size X1 Y1 := by rw [← hY1]; exact (Below.refl _ _).alloc (Nat.le_refl _) _
        have HSY1 : Hid (RrI c many R w.heap.size wA.heap.size wc.heap.size w Y1) := Lib.hid (hSW.on hbY)
        have HTY1 : Hid (Y1.heap[X1.heap.size]? = some (.cells #[.int .i64 2] 3 (0, 0))) := Lib.hid (by rw [← hY1]; exact World.alloc_heap_new _ _)
        have HM1 : Hid (Marks [v1.heap.size, v0.heap.size] w3.heap.size Y1) := Lib.hid ((Marks.push HM0.out hbW (by omega) (by have := HC1.out; omega) hD).on hbY)
        have HY1 := Lib.hid hY1
        have HSV1 := Lib.hid hsv1
        have hlz1 : Y0.heap.size < X1.heap.size := (Array.getElem?_eq_some_iff.1 i2).1
        clear hor hD i1 i2 hbW hSW hTW hbY hY1 hsv1
        go_wp2
        rw [HY1.out, rounds_succ]
        clear k1 k3 k4 k5 hMb
        have kt2 := cell_of_heap HTY1.out 0
        simp only [List.getElem?_toArray, List.getElem?_cons_zero] at kt2
        have hw14 := works_any Y1
        have hres2 := HSY1.out.res
        have hbl2 := HSY1.out.below
        have HR2 := Lib.hid hres2
        have HB2 := Lib.hid hbl2
        clear hres2 hbl2
        go_wp2_with (go_at_call 14; (with_reducible refine hw14.mono ?_); clear hw14; rintro e w9 ⟨rfl, hb9⟩; have hr9 := (hb9.block _ (Array.getElem?_eq_some_iff.1 HR2.out).1).trans HR2.out; have HM9 := Lib.hid (HM1.out.on hb9); have HB9 := Lib.hid (HB2.out.trans (hb9.mono HB2.out.size)); have f9 := frozen_of_heap hr9 0; have c9 := cell_of_heap hr9 0; simp only [List.getElem?_toArray, List.getElem?_cons_zero] at c9)
        have hset := heap_setCells (i := 0) (u := .bool true) hr9
        obtain ⟨hnd, hmd⟩ := HM9.out
        have m1 := hmd v1.heap.size (by simp)
        have m0 := hmd v0.heap.size (by simp)
        have hne : v1.heap.size ≠ v0.heap.size := by simpa using hnd
        have hc2 := HC1.out
        have n1 := (Below.heap_setCell w9 ⟨w.heap.size + 1 + 1, 0, none⟩ (.bool true) v1.heap.size (by simp <;> omega)).trans m1.2
        have n0 := (Below.heap_setCell w9 ⟨w.heap.size + 1 + 1, 0, none⟩ (.bool true) v0.heap.size (by simp <;> omega)).trans m0.2
        obtain ⟨wf, hwf⟩ : ∃ wf, w9.setCell ⟨w.heap.size + 1 + 1, 0, none⟩ (.bool true) = wf := ⟨_, rfl⟩
        have hbf : Below w.heap.size w wf := by rw [← hwf]; exact HB9.out.setCell (p := ⟨w.heap.size + 1 + 1, 0, none⟩) (by simp <;> omega) _
        rw [hwf] at hset n1 n0 ⊢
        have h4 : ((wf.putObj v1.heap.size (.deferred none)).putObj v0.heap.size (.deferred none)).cell? ⟨w.heap.size + 1 + 1, 0, none⟩ = some (.bool true) :=
          cell_of_heap ((World.putObj_heap_other (by omega)).trans ((World.putObj_heap_other (by omega)).trans hset)) 0
        have hbz : Below w.heap.size w ((wf.putObj v1.heap.size (.deferred none)).putObj v0.heap.size (.deferred none)) := by
          have h6 := hbf.trans ((put_but _ v1.heap.size (.deferred none)).to_below hbf.size (fun b e => by omega))
          exact h6.trans ((put_but _ v0.heap.size (.deferred none)).to_below h6.size (fun b e => by omega))
        exact retM2 (v := .bool true) rfl hne n1 n0 (by simp [results, Try.results7, go_sem, h4]) ⟨rfl, hbz⟩
end Go.Proofs
