/-
  place and Len: where a sign begins, and how many there are. Condition: a text that is not too long.
-/
import Derived.Test.YtneaenplbccpmaaGreatDoorTxC
namespace Go.Proofs
open Go Go.RowKit Sm Go.Lib
attribute [local go_sem] Oper.semAt_some
set_option maxHeartbeats 1000000 in
/-- **the law of a loop of two variables, the first of which is kept** -/
theorem Sm.wpIn_range21 {P : Program} {g : Operand} {ps : Array Tmp} {assign body : Code} {Q : Exit → Act → World → Prop} {a : Act} {w : World} {n : Nat} {gf : Nat} {lb : Array Value}
    (hg : a.eval g = .func (.func gf) #[] lb) (eg : ∀ args w, (callFunc gf args).run P w = .ok (.enter gf args) w)
    {X : Nat → Prop} {H : Nat → Nat → Array Value → World → Prop} {row : Array Value → Nat → Prop} {Go S Sp : Nat → Prop} (hseq : SeqX P gf lb X H row Go S Sp w)
    (hX : ∀ b, X b → b < w.heap.size) (hH : ∀ k args W W', H (w.heap.size + 2) k args W → But (fun b => b < w.heap.size + 2) W W' → H (w.heap.size + 2) k args W')
    (hrow : ∀ k args W b, H (w.heap.size + 2) k args W → row args b → w.heap.size + 2 ≤ b) (p1 p2 q1 : Nat) (hps : ps = #[p1, p2]) (hargs : ∀ k args W, H (w.heap.size + 2) k args W → ∃ x v, args = #[x, v])
    (I : Nat → World → Prop) (Ix : Code → Nat → World → Prop) (hI : LowJ w.heap.size I) (hIx : ∀ c, LowJ w.heap.size (Ix c)) (h0 : I 0 w)
    (hassign : ∀ (l : Nat) (x v : Value) (W : World) (K : Act → World → Prop), K { tmps := ((a.tmps.setIfInBounds p1 x).setIfInBounds p2 v).setIfInBounds q1 x, defers := [] } W →
      assign.wpIn (Fence.wide.inRound l) (n - 1 - 1) P (Exit.then K (fun _ _ _ => False)) { tmps := (a.tmps.setIfInBounds p1 x).setIfInBounds p2 v, defers := [] } W)
    (hbody : ∀ (l k : Nat) (x v : Value) (W : World), w.heap.size + 2 ≤ W.heap.size → I k W → H (w.heap.size + 2) k #[x, v] W → body.wpIn (Fence.wide.inRound l) (n - 1 - 1) P (postX Go X row #[x, v] I Ix k W) { tmps := ((a.tmps.setIfInBounds p1 x).setIfInBounds p2 v).setIfInBounds q1 x, defers := [] } W)
    (hdone : ∀ (k : Nat) (W : World), S k → I k W → W.heap[w.heap.size]? = some (.deferred (some [])) → Q .normal { a with defers := { target := .collected w.heap.size, args := #[] } :: a.defers } W)
    (hstop : ∀ (c : Code) (k : Nat) (W : World), Sp k → Ix c k W → W.heap[w.heap.size]? = some (.deferred (some [])) → c.wpIn Fence.wide n P Q { a with defers := { target := .collected w.heap.size, args := #[] } :: a.defers } W) :
    (Code.rangeFunc g ps assign body).wpIn Fence.wide n P Q a w := by
  subst hps
  refine wpIn_range hg eg hseq hX hH hrow (fun k args W h => by obtain ⟨x, v, rfl⟩ := hargs k args W h; rfl) I Ix hI hIx h0
    (fun args a' _ => ∀ x v, args = #[x, v] → a' = { tmps := ((a.tmps.setIfInBounds p1 x).setIfInBounds p2 v).setIfInBounds q1 x, defers := [] }) (fun _ _ _ _ h _ => h) ?_ ?_ hdone hstop
  · intro l k args W K _ _ hh hK
    obtain ⟨x, v, rfl⟩ := hargs k args W hh
    have := hassign l x v W K (hK _ _ (Below.refl _ _) (fun x' v' e => by simp at e; obtain ⟨rfl, rfl⟩ := e; rfl))
    simpa using this
  · intro l k args a' W hs hi hh hax
    obtain ⟨x, v, rfl⟩ := hargs k args W hh
    rw [hax x v rfl]
    exact hbody l k x v W hs hi hh
theorem Sm.retM1 {n : Nat} {P : Program} {fn : Func} {R : Ending → World → Prop} {a : Act} {w : World} {v : Value} {D : Nat} (hd : a.defers = [{ target := .collected D, args := #[] }]) (hD : w.heap[D]? = some (.deferred (some []))) (hr : (results fn a.tmps).run P (w.putObj D (.deferred none)) = .ok v (w.putObj D (.deferred none))) (hR : R (.returned v) (w.putObj D (.deferred none))) : bodyPostM Fence.wide n P fn R .ret a w := by
  show LeavesInM Fence.wide n P fn a.tmps R a.defers .returning w
  rw [hd]
  exact ⟨by simp, .inl ⟨_, _, rfl, run_takeDeferred hD, v, hr, hR⟩⟩
theorem Sm.heap_setCells {w : World} {B i : Nat} {cs : Array Value} {u : Value} {t : TypeId} {fr : Nat × Nat} (h : w.heap[B]? = some (.cells cs t fr)) : (w.setCell ⟨B, i, none⟩ u).heap[B]? = some (.cells (cs.setIfInBounds i u) t fr) := by
  show (w.heap.modify B _)[B]? = _
  rw [Array.getElem?_modify, if_pos rfl, h]
  rfl
/-- how place's two cells stand -/
structure Sm.PlI (s : ByteArray) (n : Int) (w w3 W : World) (k : Nat) (r : Int) : Prop where
  but : But (fun b => b = w.heap.size ∨ b = w.heap.size + 1) w3 W
  n_ : W.heap[w.heap.size]? = some (.cells #[.int .i64 (n - (k : Int))] 3 (0, 0))
  r_ : W.heap[w.heap.size + 1]? = some (.cells #[.int .i64 r] 3 (0, 0))
  le : k ≤ cntS s
  to_ : k = 0 ∨ (k : Int) ≤ n
set_option maxRecDepth 100000 in
set_option maxHeartbeats 4000000 in
theorem Sm.place_any (s : ByteArray) (n : Int) (w : World) (hm : s.size ≤ 1000000) (h0 : -9223372036854775808 ≤ n) (h1 : n ≤ 9223372036854775807) :
    Calls Tryz.prog 36 #[.string s, .int .i64 n] w fun e w' => e = .returned (.int .i64 (posK s (min n.toNat (cntS s)) : Int)) ∧ Below w.heap.size w w' := by
  obtain ⟨w3, hw3⟩ : ∃ w3, ((w.alloc (.cells #[.int .i64 n] 3)).alloc (.cells #[.int .i64 0] 3)).alloc (.cells #[.string s] 9) = w3 := ⟨_, rfl⟩
  have hb3 : Below w.heap.size w w3 := by rw [← hw3]; exact (((Below.refl _ w).alloc (Nat.le_refl _) _).alloc (by simp) _).alloc (by simp; omega) _
  have hn3 : w3.heap[w.heap.size]? = some (.cells #[.int .i64 n] 3 (0, 0)) := by
    rw [← hw3]
    exact (Below.heap_alloc _ _ _ (by simp; omega)).trans ((Below.heap_alloc _ _ _ (by simp)).trans (World.alloc_heap_new w _))
  have hr3 : w3.heap[w.heap.size + 1]? = some (.cells #[.int .i64 0] 3 (0, 0)) := by
    rw [← hw3]
    have := World.alloc_heap_new (w.alloc (.cells #[.int .i64 n] 3)) (.cells #[.int .i64 0] 3)
    rw [World.size_alloc] at this
    exact (Below.heap_alloc _ _ _ (by simp)).trans this
  have hx3 : w3.heap[w.heap.size + 1 + 1]? = some (.cells #[.string s] 9 (0, 0)) := by
    rw [← hw3]
    have := World.alloc_heap_new ((w.alloc (.cells #[.int .i64 n] 3)).alloc (.cells #[.int .i64 0] 3)) (.cells #[.string s] 9)
    rwa [World.size_alloc, World.size_alloc] at this
  have hl3 : w.heap.size + 1 + 1 < w3.heap.size := (Array.getElem?_eq_some_iff.1 hx3).1
  have hI0 : PlI s n w w3 w3 0 0 := ⟨But.refl _ _, by simpa using hn3, hr3, Nat.zero_le _, .inl rfl⟩
  have HI0 := Lib.hid hI0
  have HX3 := Lib.hid hx3
  have HB3 := Lib.hid hb3
  clear hI0 hx3 hr3 hn3 hb3
  refine (callsIn_wide (n := 3)).1 (callsIn_of_wp_marks Tryz.func36 rfl trivial ?_ rfl)
  refine wpIn_wide.2 ?_
  simp only [Tryz.ntmps36, List.size_toArray, List.length_cons, List.length_nil, Nat.reduceAdd, Nat.reduceSub, Array.replicate_succ, Array.replicate_zero, List.push_toArray, List.append_toArray, List.nil_append, List.cons_append]
  go_wp2_with (go_at_call 14; (with_reducible refine (Each_any s _).mono ?_); rintro e w' ⟨rfl, rfl⟩)
  try rw [hw3]
  refine (wpIn_wide (n := 3)).1 ?_
  refine wpIn_range21 (gf := 33) (lb := #[.pointer (some ⟨w.heap.size + 1 + 1, 0, none⟩)]) rfl (enters_of Tryz.func33 (by kernel_rfl) rfl)
    (each_seq s _ w3 (fun b => b = w.heap.size ∨ b = w.heap.size + 1) HX3.out (fun b e => by omega))
    (fun b e => by omega) ?hH ?hrow 8 9 5 rfl ?hargs
    (fun k W => PlI s n w w3 W k 0)
    (fun c k W => c = .ret ∧ ∃ q, k = q + 1 ∧ q < cntS s ∧ q = n.toNat ∧ But (fun b => b = w.heap.size ∨ b = w.heap.size + 1) w3 W ∧ W.heap[w.heap.size + 1]? = some (.cells #[.int .i64 (posK s q : Int)] 3 (0, 0)))
    ?hI ?hIx HI0.out ?assign ?body ?done ?stop
  case hH =>
    rintro k args W1 W' h hb
    exact h
  case hrow =>
    rintro k args W1 b _ h
    exact h.elim
  case hargs =>
    rintro k args W1 ⟨_, rfl⟩
    exact ⟨_, _, rfl⟩
  case hI =>
    rintro k W1 W' h hb
    exact ⟨h.but.trans (But.of_below hb) (fun b h1 h2 => by omega), (hb.block _ (by omega)).trans h.n_, (hb.block _ (by omega)).trans h.r_, h.le, h.to_⟩
  case hIx =>
    rintro c k W1 W' ⟨e, q, e1, e2, e3, h1, h2⟩ hb
    exact ⟨e, q, e1, e2, e3, h1.trans (But.of_below hb) (fun b h1 h2 => by omega), (hb.block _ (by omega)).trans h2⟩
  case assign =>
    intro l0 x v W1 K hK
    simp only [List.setIfInBounds_toArray, List.set_cons_zero, List.set_cons_succ] at hK ⊢
    gi_wp2
    exact hK
  case body =>
    rintro l0 q x v W1 hsz hI ⟨hq, e⟩
    simp only [Array.mk.injEq, List.cons.injEq, and_true] at e
    obtain ⟨rfl, rfl⟩ := e
    simp only [List.setIfInBounds_toArray, List.set_cons_zero, List.set_cons_succ]
    have k1 : W1.cell? ⟨w.heap.size, 0, none⟩ = some (.int .i64 (n - (q : Int))) := cell_of_heap hI.n_ 0
    have f1 := frozen_of_heap hI.n_ 0
    have k2 : W1.cell? ⟨w.heap.size + 1, 0, none⟩ = some (.int .i64 0) := cell_of_heap hI.r_ 0
    have f2 := frozen_of_heap hI.r_ 0
    have hc1 := cntS_le s
    have hto := hI.to_
    by_cases hz : n - (q : Int) ≤ 0
    · have hb : But (fun b => b = w.heap.size ∨ b = w.heap.size + 1) W1 (W1.setCell ⟨w.heap.size + 1, 0, none⟩ (.int .i64 (posK s q : Int))) := (But.refl _ _).set ⟨w.heap.size + 1, 0, none⟩ _ (.inl (.inr rfl))
      have hr := heap_setCells (i := 0) (u := .int .i64 (posK s q : Int)) hI.r_
      have HBb := Lib.hid (hb.mono (fun b _ e => Or.inl e) : But (fun b => (b = w.heap.size ∨ b = w.heap.size + 1) ∨ rowE #[.int .i64 (posK s q : Int), .int .i32 (runeK s q : Int)] b) W1 _)
      have HBt := Lib.hid (hI.but.trans hb (fun b _ e => e))
      have HRr := Lib.hid hr
      clear hb hr
      gi_wp2
      exact ⟨HBb.out, rfl, q, rfl, hq, by omega, HBt.out, HRr.out⟩
    · have hb : But (fun b => b = w.heap.size ∨ b = w.heap.size + 1) W1 (W1.setCell ⟨w.heap.size, 0, none⟩ (.int .i64 (n - (q : Int) - 1))) := (But.refl _ _).set ⟨w.heap.size, 0, none⟩ _ (.inl (.inl rfl))
      have hr := heap_setCells (i := 0) (u := .int .i64 (n - (q : Int) - 1)) hI.n_
      have HBb := Lib.hid (hb.mono (fun b _ e => Or.inl e) : But (fun b => (b = w.heap.size ∨ b = w.heap.size + 1) ∨ rowE #[.int .i64 (posK s q : Int), .int .i32 (runeK s q : Int)] b) W1 _)
      have HP : Hid (PlI s n w w3 (W1.setCell ⟨w.heap.size, 0, none⟩ (.int .i64 (n - (q : Int) - 1))) (q + 1) 0) := Lib.hid ⟨hI.but.trans hb (fun b _ e => e), by rw [show n - ((q + 1 : Nat) : Int) = n - (q : Int) - 1 by omega]; exact hr, (Below.heap_setCell _ ⟨w.heap.size, 0, none⟩ _ _ (by simp)).trans hI.r_, hq, .inr (by omega)⟩
      clear hb hr
      gi_wp2
      exact ⟨trivial, HBb.out, HP.out⟩
  case done =>
    rintro k W1 hk hI hD
    have hf := frozen_of_heap hI.r_ 0
    have hrc : W1.cell? ⟨w.heap.size + 1, 0, none⟩ = some (.int .i64 0) := cell_of_heap hI.r_ 0
    have hr := heap_setCells (i := 0) (u := .int .i64 (s.size : Int)) hI.r_
    have hto := hI.to_
    have hmin : min n.toNat (cntS s) = cntS s := by subst hk; omega
    have hbw : Below w.heap.size w W1 := HB3.out.trans (hI.but.to_below (n := w.heap.size) HB3.out.size (fun b e => by omega))
    have hlD : w3.heap.size < W1.heap.size := (Array.getElem?_eq_some_iff.1 hD).1
    have HH := Lib.hid hI
    have HMIN := Lib.hid hmin
    clear hI hk hto hmin
    go_wp2
    have hD9 : (W1.setCell ⟨w.heap.size + 1, 0, none⟩ (.int .i64 (s.size : Int))).heap[w3.heap.size]? = some (.deferred (some [])) := (Below.heap_setCell _ ⟨w.heap.size + 1, 0, none⟩ _ _ (by simp; omega)).trans hD
    have h4 : ((W1.setCell ⟨w.heap.size + 1, 0, none⟩ (.int .i64 (s.size : Int))).putObj w3.heap.size (.deferred none)).cell? ⟨w.heap.size + 1, 0, none⟩ = some (.int .i64 (s.size : Int)) := cell_of_heap ((World.putObj_heap_other (by omega)).trans hr) 0
    have h5 := hbw.setCell (p := ⟨w.heap.size + 1, 0, none⟩) (by simp) (.int .i64 (s.size : Int))
    exact retM1 (v := .int .i64 (s.size : Int)) rfl hD9 (by simp [results, Tryz.results36, go_sem, h4]) ⟨by rw [HMIN.out, cntS_end], h5.trans ((put_but _ _ _).to_below h5.size (fun b e => by omega))⟩
  case stop =>
    rintro c k W1 _ ⟨rfl, q, rfl, hq, hn, hb, hr⟩ hD
    have hmin : min n.toNat (cntS s) = q := by omega
    have hbw : Below w.heap.size w W1 := HB3.out.trans (hb.to_below (n := w.heap.size) HB3.out.size (fun b e => by omega))
    have HMIN := Lib.hid hmin
    clear hmin hn hq
    gi_wp2
    have h4 : (W1.putObj w3.heap.size (.deferred none)).cell? ⟨w.heap.size + 1, 0, none⟩ = some (.int .i64 (posK s q : Int)) := cell_of_heap ((World.putObj_heap_other (by omega)).trans hr) 0
    exact retM1 (v := .int .i64 (posK s q : Int)) rfl hD (by simp [results, Tryz.results36, go_sem, h4]) ⟨by rw [HMIN.out], hbw.trans ((put_but _ _ _).to_below hbw.size (fun b e => by omega))⟩
end Go.Proofs
