/-
  A range over a function whose rounds keep memory that they made (a row that grows, say): what an iterator promises then, and the laws of the loop. Conditions: what each theorem names.
-/
import Derived.Test.YtnobmejcbgocoaaItr1
namespace Go.Proofs
open Go Go.RowKit Sm
/-- what does not turn where the blocks below L, and those of M, stay -/
def Sm.LowM (L : Nat) (J : (Nat → Prop) → Nat → World → Prop) : Prop := ∀ M k W W', J M k W → (∀ b, M b → b < W.heap.size) → But (fun b => ¬ (b < L ∨ M b)) W W' → J M k W'
/-- blocks of M, and new ones -/
def Sm.Sub (M M' : Nat → Prop) (W W' : World) : Prop := ∀ b, M' b → M b ∨ (W.heap.size ≤ b ∧ b < W'.heap.size)
/-- **what an iterator promises, where rounds keep what they made** -/
def Sm.SeqY (P : Program) (g : Nat) (lb : Array Value) (X : Nat → Prop) (H : Nat → Nat → Array Value → World → Prop) (row : Array Value → Nat → Prop) (Go : Nat → Prop) (S Sp : Nat → Prop) (w : World) : Prop :=
  ∀ (l : Nat) (J Jx : (Nat → Prop) → Nat → World → Prop) (W : World), Below w.heap.size w W → LowM W.heap.size J → LowM W.heap.size Jx →
    (∀ M k args W1, (∀ b, M b → W.heap.size ≤ b ∧ b < W1.heap.size) → J M k W1 → H W.heap.size k args W1 → YieldAt Fence.wide 1 P l args W1 fun e W' =>
      (e = .returned (.bool true) ∧ Go k ∧ (∃ M', Sub M M' W1 W' ∧ J M' (k + 1) W') ∧ But (fun b => RoundMay X w.heap.size W.heap.size row args b ∨ M b) W1 W') ∨
      (e = .returned (.bool false) ∧ (∃ M', Sub M M' W1 W' ∧ Jx M' (k + 1) W') ∧ But (fun b => RoundMay X w.heap.size W.heap.size row args b ∨ M b) W1 W')) →
    J (fun _ => False) 0 W → Calls P g (#[.func (.yield l) #[] #[]] ++ lb) W fun e W' => (∃ v, e = .returned v) ∧ ((∃ M k, S k ∧ (∀ b, M b → W.heap.size ≤ b ∧ b < W'.heap.size) ∧ J M k W') ∨ (∃ M k, Sp k ∧ (∀ b, M b → W.heap.size ≤ b ∧ b < W'.heap.size) ∧ Jx M k W'))
/-- how the body of a round may be left -/
def Sm.postY (Go : Nat → Prop) (X : Nat → Prop) (row : Array Value → Nat → Prop) (args : Array Value) (I : (Nat → Prop) → Nat → World → Prop) (Ix : Code → (Nat → Prop) → Nat → World → Prop) (M : Nat → Prop) (k : Nat) (W : World) : Exit → Act → World → Prop
  | .normal, _, W' => Go k ∧ But (fun b => (X b ∨ row args b) ∨ M b) W W' ∧ ∃ M', Sub M M' W W' ∧ I M' (k + 1) W'
  | .ret, _, W' => But (fun b => (X b ∨ row args b) ∨ M b) W W' ∧ ∃ M', Sub M M' W W' ∧ Ix .ret M' (k + 1) W'
  | .exit id, _, W' => But (fun b => (X b ∨ row args b) ∨ M b) W W' ∧ ∃ M', Sub M M' W W' ∧ Ix (.exit id) M' (k + 1) W'
  | .goto t, _, W' => But (fun b => (X b ∨ row args b) ∨ M b) W W' ∧ ∃ M', Sub M M' W W' ∧ Ix (.goto t) M' (k + 1) W'
  | .panic _, _, _ => False
  | .outgrown, _, _ => False
theorem Sm.LowM.below {L : Nat} {J : (Nat → Prop) → Nat → World → Prop} (h : LowM L J) {M : Nat → Prop} {k : Nat} {W W' : World} (hJ : J M k W) (hM : ∀ b, M b → b < W.heap.size) (hb : Below W.heap.size W W') : J M k W' :=
  h M k W W' hJ hM (But.of_all hb _)
theorem Sm.LowM.put {L : Nat} {J : (Nat → Prop) → Nat → World → Prop} (h : LowM L J) {M : Nat → Prop} {k r : Nat} {W : World} (hJ : J M k W) (hM : ∀ b, M b → b < W.heap.size) (hr : L ≤ r) (hn : ¬ M r) (o : Obj) : J M k (W.putObj r o) :=
  h M k W _ hJ hM ((put_but W r o).mono (fun b _ e => by rintro (e2 | e2); omega; exact hn (e ▸ e2)))
set_option maxHeartbeats 1000000 in
/-- **the law of the loop** -/
theorem Sm.wpIn_rangeY {P : Program} {g : Operand} {ps : Array Tmp} {assign body : Code} {Q : Exit → Act → World → Prop} {a : Act} {w : World} {n : Nat} {gf : Nat} {lb : Array Value}
    (hg : a.eval g = .func (.func gf) #[] lb) (eg : ∀ args w, (callFunc gf args).run P w = .ok (.enter gf args) w)
    {X : Nat → Prop} {H : Nat → Nat → Array Value → World → Prop} {row : Array Value → Nat → Prop} {Go S Sp : Nat → Prop} (hseq : SeqY P gf lb X H row Go S Sp w)
    (hX : ∀ b, X b → b < w.heap.size) (hH : ∀ k args W W', H (w.heap.size + 2) k args W → But (fun b => b < w.heap.size + 2) W W' → H (w.heap.size + 2) k args W')
    (hrow : ∀ k args W b, H (w.heap.size + 2) k args W → row args b → w.heap.size + 2 ≤ b) (hps : ∀ k args W, H (w.heap.size + 2) k args W → args.size = ps.size)
    (I : (Nat → Prop) → Nat → World → Prop) (Ix : Code → (Nat → Prop) → Nat → World → Prop) (hI : LowM w.heap.size I) (hIx : ∀ c, LowM w.heap.size (Ix c)) (h0 : I (fun _ => False) 0 w) (Ax : Array Value → Act → World → Prop)
    (hAx : ∀ args a' W W', Ax args a' W → But (fun b => b < w.heap.size + 2) W W' → Ax args a' W')
    (hassign : ∀ (l : Nat) (M : Nat → Prop) (k : Nat) (args : Array Value) (W : World) (K : Act → World → Prop), w.heap.size + 2 ≤ W.heap.size → I M k W → H (w.heap.size + 2) k args W → (∀ a' W', Below W.heap.size W W' → Ax args a' W' → K a' W') →
      assign.wpIn (Fence.wide.inRound l) (n - 1 - 1) P (Exit.then K (fun _ _ _ => False)) { tmps := (ps.zip args).foldl (fun t (p, v) => t.setIfInBounds p v) a.tmps, defers := [] } W)
    (hbody : ∀ (l : Nat) (M : Nat → Prop) (k : Nat) (args : Array Value) (a' : Act) (W : World), w.heap.size + 2 ≤ W.heap.size → (∀ b, M b → w.heap.size + 2 ≤ b ∧ b < W.heap.size) → I M k W → H (w.heap.size + 2) k args W → Ax args a' W → body.wpIn (Fence.wide.inRound l) (n - 1 - 1) P (postY Go X row args I Ix M k W) a' W)
    (hdone : ∀ (M : Nat → Prop) (k : Nat) (W : World), S k → (∀ b, M b → w.heap.size + 2 ≤ b ∧ b < W.heap.size) → I M k W → W.heap[w.heap.size]? = some (.deferred (some [])) → Q .normal { a with defers := { target := .collected w.heap.size, args := #[] } :: a.defers } W)
    (hstop : ∀ (c : Code) (M : Nat → Prop) (k : Nat) (W : World), Sp k → (∀ b, M b → w.heap.size + 2 ≤ b ∧ b < W.heap.size) → Ix c M k W → W.heap[w.heap.size]? = some (.deferred (some [])) → c.wpIn Fence.wide n P Q { a with defers := { target := .collected w.heap.size, args := #[] } :: a.defers } W) :
    (Code.rangeFunc g ps assign body).wpIn Fence.wide n P Q a w := by
  refine wpIn_rangeFunc ?_
  intro fn hfn
  obtain ⟨rec, hrec⟩ : ∃ rec : LoopState → Option Code → Loop, rec = fun st pe => { state := st, pending := pe, fn, tmps := a.tmps, params := ps, assign, body, defers := w.heap.size } := ⟨_, rfl⟩
  obtain ⟨W1, hW1⟩ : ∃ W1, (w.alloc (.deferred (some []))).alloc (.loop (rec .ready none)) = W1 := ⟨_, rfl⟩
  have hs1 : W1.heap.size = w.heap.size + 2 := by rw [← hW1]; simp
  have hb1 : Below w.heap.size w W1 := by rw [← hW1]; exact ((Below.refl _ w).alloc (Nat.le_refl _) _).alloc (by simp) _
  have hL1 : W1.heap[w.heap.size + 1]? = some (.loop (rec .ready none)) := by
    rw [← hW1]; have := World.alloc_heap_new (w.alloc (.deferred (some []))) (.loop (rec .ready none)); rwa [World.size_alloc] at this
  have hK1 : W1.heap[w.heap.size]? = some (.deferred (some [])) := by
    rw [← hW1]; exact (Below.heap_alloc _ _ _ (by simp)).trans (World.alloc_heap_new w _)
  refine ⟨w.heap.size + 1, [{ target := .collected w.heap.size, args := #[] }], W1, { target := .fn (.func gf) lb, args := #[.func (.yield (w.heap.size + 1)) #[] #[]] }, W1, gf,
    #[.func (.yield (w.heap.size + 1)) #[] #[]] ++ lb, W1, ?_, ?_, ?_, ?_, (fun h => by cases h), callsIn_wide.2 ?_⟩
  · rw [← hW1, hrec]; exact run_enterLoop_outer _ _ _ _ _
  · simp only [resolve, hg]
    simp [go_sem]
  · intro f' hf'; trivial
  · simp [invoke, go_sem, eg]
  · have keep : ∀ {st : LoopState} {pe : Option Code} {W W' : World}, W.heap[w.heap.size + 1]? = some (.loop (rec st pe)) ∧ W.heap[w.heap.size]? = some (.deferred (some [])) → Below (w.heap.size + 2) W W' → W'.heap[w.heap.size + 1]? = some (.loop (rec st pe)) ∧ W'.heap[w.heap.size]? = some (.deferred (some [])) :=
      fun h hb => ⟨(hb.block _ (by omega)).trans h.1, (hb.block _ (by omega)).trans h.2⟩
    refine (hseq (w.heap.size + 1)
      (fun M k W => I M k W ∧ w.heap.size + 2 ≤ W.heap.size ∧ (∀ b, M b → w.heap.size + 2 ≤ b) ∧ (W.heap[w.heap.size + 1]? = some (.loop (rec .ready none)) ∧ W.heap[w.heap.size]? = some (.deferred (some []))))
      (fun M k W => ∃ c, Ix c M k W ∧ (∀ b, M b → w.heap.size + 2 ≤ b) ∧ (W.heap[w.heap.size + 1]? = some (.loop (rec .done (some c))) ∧ W.heap[w.heap.size]? = some (.deferred (some []))))
      W1 hb1
      (fun M k W W' h hM hb => by
        rw [hs1] at hb
        have hlt := (Array.getElem?_eq_some_iff.1 h.2.2.2.1).1
        exact ⟨hI M k W W' h.1 hM (hb.mono (fun b _ e => by rintro (e2 | e2); exact e (.inl (by omega)); exact e (.inr e2))), Nat.le_trans h.2.1 hb.size, h.2.2.1, hb.box h.2.2.2.1 (fun e => e (.inl (by omega))), hb.box h.2.2.2.2 (fun e => e (.inl (by omega)))⟩)
      (fun M k W W' h hM hb => by
        rw [hs1] at hb
        obtain ⟨c, hc, h1, h2⟩ := h
        exact ⟨c, hIx c M k W W' hc hM (hb.mono (fun b _ e => by rintro (e2 | e2); exact e (.inl (by omega)); exact e (.inr e2))), h1, hb.box h2.1 (fun e => e (.inl (by omega))), hb.box h2.2 (fun e => e (.inl (by omega)))⟩)
      ?_ ⟨hI.below h0 (fun b e => e.elim) hb1, by omega, (fun b e => e.elim), hL1, hK1⟩).mono ?_
    · rintro M k args W hMB ⟨hi, hsz, hMl, hl, hk⟩ hh
      rw [hs1] at hh hMB ⊢
      have hMs : ∀ b, M b → b < W.heap.size := fun b e => (hMB b e).2
      have hlt : w.heap.size + 1 < W.heap.size := (Array.getElem?_eq_some_iff.1 hl).1
      have hy := run_yield (P := P) (args := args) hl (by rw [hrec]; exact hps _ _ _ hh)
      rw [hrec] at hy
      refine ⟨fn, _, assign, body, hy, roundIn_any (m := n - 1 - 1) (roundIn_of_wpIn hfn (hassign _ M k args W _ hsz hi hh ?_))⟩
      intro a' Wa hba hax
      have hla : Wa.heap[w.heap.size + 1]? = some (.loop (rec .ready none)) := (hba.block _ hlt).trans hl
      have hka : Wa.heap[w.heap.size]? = some (.deferred (some [])) := (hba.block _ (by omega)).trans hk
      have hlta : w.heap.size + 1 < Wa.heap.size := (Array.getElem?_eq_some_iff.1 hla).1
      refine ⟨_, run_beginRound hla (by rw [hrec]), ?_⟩
      have hb2 := put_but Wa (w.heap.size + 1) (.loop { rec .ready none with state := .busy })
      have hl2 : (Wa.putObj (w.heap.size + 1) (.loop { rec .ready none with state := .busy })).heap[w.heap.size + 1]? = some (.loop { rec .ready none with state := .busy }) := World.putObj_heap_same hlta
      have hk2 : (Wa.putObj (w.heap.size + 1) (.loop { rec .ready none with state := .busy })).heap[w.heap.size]? = some (.deferred (some [])) := (World.putObj_heap_other (by omega)).trans hka
      have hMa : ∀ b, M b → b < Wa.heap.size := fun b e => Nat.lt_of_lt_of_le (hMs b e) hba.size
      have hia : I M k Wa := hI.below hi hMs hba
      have hi2 : I M k (Wa.putObj (w.heap.size + 1) (.loop { rec .ready none with state := .busy })) := hI.put hia hMa (by omega) (fun e => by have := hMl _ e; omega) _
      have hha : H (w.heap.size + 2) k args Wa := hH k args W Wa hh (But.of_all hba _)
      have hh2 := hH k args Wa _ hha (hb2.mono fun b _ e => by omega)
      have hax2 := hAx args a' Wa _ hax (hb2.mono fun b _ e => by omega)
      refine wpIn_mono (hbody _ M k args a' _ (by simp; omega) (fun b e => ⟨hMl b e, by have := hMa b e; simpa using this⟩) hi2 hh2 hax2) ?_
      have fin : ∀ (jump : Option Code) (W3 : World), But (fun b => (X b ∨ row args b) ∨ M b) (Wa.putObj (w.heap.size + 1) (.loop { rec .ready none with state := .busy })) W3 →
          (Instr.endRound (w.heap.size + 1) jump).run P W3 = .ok (.bool jump.isNone) (W3.putObj (w.heap.size + 1) (.loop (rec (if jump.isNone then .ready else .done) jump))) ∧
          w.heap.size + 2 ≤ W3.heap.size ∧
          ((W3.putObj (w.heap.size + 1) (.loop (rec (if jump.isNone then .ready else .done) jump))).heap[w.heap.size + 1]? = some (.loop (rec (if jump.isNone then .ready else .done) jump)) ∧
          (W3.putObj (w.heap.size + 1) (.loop (rec (if jump.isNone then .ready else .done) jump))).heap[w.heap.size]? = some (.deferred (some []))) ∧
          But (fun b => RoundMay X w.heap.size (w.heap.size + 2) row args b ∨ M b) W (W3.putObj (w.heap.size + 1) (.loop (rec (if jump.isNone then .ready else .done) jump))) := fun jump W3 hk3 => by
        have hno : ∀ b, b = w.heap.size + 1 ∨ b = w.heap.size → ¬ ((X b ∨ row args b) ∨ M b) := fun b hb e => by
          rcases e with (e | e) | e
          · have := hX b e; omega
          · have := hrow _ _ _ _ hh2 e; omega
          · have := hMl b e; omega
        have hl3 := hk3.box hl2 (hno _ (.inl rfl))
        have hk4 := hk3.box hk2 (hno _ (.inr rfl))
        have hlt3 := (Array.getElem?_eq_some_iff.1 hl3).1
        have := run_endRound (P := P) jump hl3
        rw [hrec] at this ⊢
        refine ⟨this, by omega, ⟨World.putObj_heap_same hlt3, (World.putObj_heap_other (by omega)).trans hk4⟩, ?_⟩
        have hmay : ∀ b, b = w.heap.size + 1 → RoundMay X w.heap.size (w.heap.size + 2) row args b ∨ M b := fun b e => .inl (.inr (.inl (by omega)))
        have c1 : But (fun b => RoundMay X w.heap.size (w.heap.size + 2) row args b ∨ M b) W (Wa.putObj (w.heap.size + 1) (.loop { rec .ready none with state := .busy })) := (But.of_all hba _).trans hb2 (fun b _ e => hmay b e)
        have c2 := c1.trans hk3 (fun b _ e => by
          rcases e with (e | e) | e
          · exact .inl (.inl e)
          · exact .inl (.inr (.inr e))
          · exact .inr e)
        exact c2.trans (put_but W3 _ _) (fun b _ e => hmay b e)
      have hsub : ∀ {M' : Nat → Prop} {W3 : World} {o : Obj}, Sub M M' (Wa.putObj (w.heap.size + 1) (.loop { rec .ready none with state := .busy })) W3 → Wa.heap.size ≤ W3.heap.size → Sub M M' W (W3.putObj (w.heap.size + 1) o) ∧ (∀ b, M' b → w.heap.size + 2 ≤ b) ∧ (∀ b, M' b → b < W3.heap.size) := fun {M' W3 o} h hz3 => by
        have hsa := hba.size
        have hs3 : ∀ b, M' b → M b ∨ (Wa.heap.size ≤ b ∧ b < W3.heap.size) := fun b e => by simpa using h b e
        refine ⟨fun b e => (hs3 b e).imp id (fun e => ⟨by omega, by simpa using e.2⟩), fun b e => ?_, fun b e => ?_⟩
        · rcases hs3 b e with e | e
          · exact hMl b e
          · omega
        · rcases hs3 b e with e2 | e2
          · have := hMa b e2; omega
          · exact e2.2
      rintro e a3 W3 hp
      cases e with
      | normal =>
        obtain ⟨hgo, hk3, M', hs', hi3⟩ := hp
        obtain ⟨hr, hz, hlk, hbt⟩ := fin none W3 hk3
        obtain ⟨q1, q2, q3⟩ := hsub (o := .loop (rec (if (none : Option Code).isNone then .ready else .done) none)) hs' (by simpa using hk3.size)
        exact ⟨_, _, hr, .inl ⟨rfl, hgo, ⟨M', q1, hI.put hi3 q3 (by omega) (fun e => by have := q2 _ e; omega) _, by simpa using hz, q2, hlk⟩, hbt⟩⟩
      | ret =>
        obtain ⟨hk3, M', hs', hi3⟩ := hp
        obtain ⟨hr, hz, hlk, hbt⟩ := fin (some .ret) W3 hk3
        obtain ⟨q1, q2, q3⟩ := hsub (o := .loop (rec (if (some Code.ret).isNone then .ready else .done) (some .ret))) hs' (by simpa using hk3.size)
        exact ⟨_, _, hr, .inr ⟨rfl, ⟨M', q1, .ret, (hIx _).put hi3 q3 (by omega) (fun e => by have := q2 _ e; omega) _, q2, hlk⟩, hbt⟩⟩
      | exit id =>
        obtain ⟨hk3, M', hs', hi3⟩ := hp
        obtain ⟨hr, hz, hlk, hbt⟩ := fin (some (.exit id)) W3 hk3
        obtain ⟨q1, q2, q3⟩ := hsub (o := .loop (rec (if (some (Code.exit id)).isNone then .ready else .done) (some (.exit id)))) hs' (by simpa using hk3.size)
        exact ⟨_, _, hr, .inr ⟨rfl, ⟨M', q1, .exit id, (hIx _).put hi3 q3 (by omega) (fun e => by have := q2 _ e; omega) _, q2, hlk⟩, hbt⟩⟩
      | goto t =>
        obtain ⟨hk3, M', hs', hi3⟩ := hp
        obtain ⟨hr, hz, hlk, hbt⟩ := fin (some (.goto t)) W3 hk3
        obtain ⟨q1, q2, q3⟩ := hsub (o := .loop (rec (if (some (Code.goto t)).isNone then .ready else .done) (some (.goto t)))) hs' (by simpa using hk3.size)
        exact ⟨_, _, hr, .inr ⟨rfl, ⟨M', q1, .goto t, (hIx _).put hi3 q3 (by omega) (fun e => by have := q2 _ e; omega) _, q2, hlk⟩, hbt⟩⟩
      | panic ch => exact hp.elim
      | outgrown => exact hp.elim
    · rintro e W2 ⟨⟨v, rfl⟩, (⟨M, k, hS, hMB, hi, hz, hMl, hl, hk⟩ | ⟨M, k, hSp, hMB, c, hi, hMl, hl, hk⟩)⟩
      · have hlt : w.heap.size + 1 < W2.heap.size := (Array.getElem?_eq_some_iff.1 hl).1
        exact ⟨none, _, by have := run_endLoop (P := P) hl (by rw [hrec]; simp); rw [hrec] at this; exact this, hdone M k _ hS (fun b e => ⟨hMl b e, by simpa using (hMB b e).2⟩) (hI.put hi (fun b e => (hMB b e).2) (by omega) (fun e => by have := hMl _ e; omega) _) ((World.putObj_heap_other (by omega)).trans hk)⟩
      · have hlt : w.heap.size + 1 < W2.heap.size := (Array.getElem?_eq_some_iff.1 hl).1
        exact ⟨some c, _, by have := run_endLoop (P := P) hl (by rw [hrec]; simp); rw [hrec] at this; exact this, hstop c M k _ hSp (fun b e => ⟨hMl b e, by simpa using (hMB b e).2⟩) ((hIx c).put hi (fun b e => (hMB b e).2) (by omega) (fun e => by have := hMl _ e; omega) _) ((World.putObj_heap_other (by omega)).trans hk)⟩
/-- **one variable that is not boxed** -/
theorem Sm.wpIn_rangeY1 {P : Program} {g : Operand} {ps : Array Tmp} {assign body : Code} {Q : Exit → Act → World → Prop} {a : Act} {w : World} {n : Nat} {gf : Nat} {lb : Array Value}
    (hg : a.eval g = .func (.func gf) #[] lb) (eg : ∀ args w, (callFunc gf args).run P w = .ok (.enter gf args) w)
    {X : Nat → Prop} {H : Nat → Nat → Array Value → World → Prop} {row : Array Value → Nat → Prop} {Go S Sp : Nat → Prop} (hseq : SeqY P gf lb X H row Go S Sp w)
    (hX : ∀ b, X b → b < w.heap.size) (hH : ∀ k args W W', H (w.heap.size + 2) k args W → But (fun b => b < w.heap.size + 2) W W' → H (w.heap.size + 2) k args W')
    (hrow : ∀ k args W b, H (w.heap.size + 2) k args W → row args b → w.heap.size + 2 ≤ b) (p1 q1 : Nat) (hps : ps = #[p1]) (hargs : ∀ k args W, H (w.heap.size + 2) k args W → ∃ x, args = #[x])
    (I : (Nat → Prop) → Nat → World → Prop) (Ix : Code → (Nat → Prop) → Nat → World → Prop) (hI : LowM w.heap.size I) (hIx : ∀ c, LowM w.heap.size (Ix c)) (h0 : I (fun _ => False) 0 w)
    (hassign : ∀ (l : Nat) (x : Value) (W : World) (K : Act → World → Prop), K { tmps := (a.tmps.setIfInBounds p1 x).setIfInBounds q1 x, defers := [] } W →
      assign.wpIn (Fence.wide.inRound l) (n - 1 - 1) P (Exit.then K (fun _ _ _ => False)) { tmps := a.tmps.setIfInBounds p1 x, defers := [] } W)
    (hbody : ∀ (l : Nat) (M : Nat → Prop) (k : Nat) (x : Value) (W : World), w.heap.size + 2 ≤ W.heap.size → (∀ b, M b → w.heap.size + 2 ≤ b ∧ b < W.heap.size) → I M k W → H (w.heap.size + 2) k #[x] W → body.wpIn (Fence.wide.inRound l) (n - 1 - 1) P (postY Go X row #[x] I Ix M k W) { tmps := (a.tmps.setIfInBounds p1 x).setIfInBounds q1 x, defers := [] } W)
    (hdone : ∀ (M : Nat → Prop) (k : Nat) (W : World), S k → (∀ b, M b → w.heap.size + 2 ≤ b ∧ b < W.heap.size) → I M k W → W.heap[w.heap.size]? = some (.deferred (some [])) → Q .normal { a with defers := { target := .collected w.heap.size, args := #[] } :: a.defers } W)
    (hstop : ∀ (c : Code) (M : Nat → Prop) (k : Nat) (W : World), Sp k → (∀ b, M b → w.heap.size + 2 ≤ b ∧ b < W.heap.size) → Ix c M k W → W.heap[w.heap.size]? = some (.deferred (some [])) → c.wpIn Fence.wide n P Q { a with defers := { target := .collected w.heap.size, args := #[] } :: a.defers } W) :
    (Code.rangeFunc g ps assign body).wpIn Fence.wide n P Q a w := by
  subst hps
  refine wpIn_rangeY hg eg hseq hX hH hrow (fun k args W h => by obtain ⟨x, rfl⟩ := hargs k args W h; rfl) I Ix hI hIx h0
    (fun args a' _ => ∀ x, args = #[x] → a' = { tmps := (a.tmps.setIfInBounds p1 x).setIfInBounds q1 x, defers := [] }) (fun _ _ _ _ h _ => h) ?_ ?_ hdone hstop
  · intro l M k args W K _ _ hh hK
    obtain ⟨x, rfl⟩ := hargs k args W hh
    have := hassign l x W K (hK _ _ (Below.refl _ _) (fun x' e => by simp at e; obtain rfl := e; rfl))
    simpa using this
  · intro l M k args a' W hs hM hi hh hax
    obtain ⟨x, rfl⟩ := hargs k args W hh
    rw [hax x rfl]
    exact hbody l M k x W hs hM hi hh
/-- **two variables that are not boxed** -/
theorem Sm.wpIn_rangeY2 {P : Program} {g : Operand} {ps : Array Tmp} {assign body : Code} {Q : Exit → Act → World → Prop} {a : Act} {w : World} {n : Nat} {gf : Nat} {lb : Array Value}
    (hg : a.eval g = .func (.func gf) #[] lb) (eg : ∀ args w, (callFunc gf args).run P w = .ok (.enter gf args) w)
    {X : Nat → Prop} {H : Nat → Nat → Array Value → World → Prop} {row : Array Value → Nat → Prop} {Go S Sp : Nat → Prop} (hseq : SeqY P gf lb X H row Go S Sp w)
    (hX : ∀ b, X b → b < w.heap.size) (hH : ∀ k args W W', H (w.heap.size + 2) k args W → But (fun b => b < w.heap.size + 2) W W' → H (w.heap.size + 2) k args W')
    (hrow : ∀ k args W b, H (w.heap.size + 2) k args W → row args b → w.heap.size + 2 ≤ b) (p1 p2 q1 q2 : Nat) (hps : ps = #[p1, p2]) (hargs : ∀ k args W, H (w.heap.size + 2) k args W → ∃ x v, args = #[x, v])
    (I : (Nat → Prop) → Nat → World → Prop) (Ix : Code → (Nat → Prop) → Nat → World → Prop) (hI : LowM w.heap.size I) (hIx : ∀ c, LowM w.heap.size (Ix c)) (h0 : I (fun _ => False) 0 w)
    (hassign : ∀ (l : Nat) (x v : Value) (W : World) (K : Act → World → Prop), K { tmps := (((a.tmps.setIfInBounds p1 x).setIfInBounds p2 v).setIfInBounds q1 x).setIfInBounds q2 v, defers := [] } W →
      assign.wpIn (Fence.wide.inRound l) (n - 1 - 1) P (Exit.then K (fun _ _ _ => False)) { tmps := (a.tmps.setIfInBounds p1 x).setIfInBounds p2 v, defers := [] } W)
    (hbody : ∀ (l : Nat) (M : Nat → Prop) (k : Nat) (x v : Value) (W : World), w.heap.size + 2 ≤ W.heap.size → (∀ b, M b → w.heap.size + 2 ≤ b ∧ b < W.heap.size) → I M k W → H (w.heap.size + 2) k #[x, v] W → body.wpIn (Fence.wide.inRound l) (n - 1 - 1) P (postY Go X row #[x, v] I Ix M k W) { tmps := (((a.tmps.setIfInBounds p1 x).setIfInBounds p2 v).setIfInBounds q1 x).setIfInBounds q2 v, defers := [] } W)
    (hdone : ∀ (M : Nat → Prop) (k : Nat) (W : World), S k → (∀ b, M b → w.heap.size + 2 ≤ b ∧ b < W.heap.size) → I M k W → W.heap[w.heap.size]? = some (.deferred (some [])) → Q .normal { a with defers := { target := .collected w.heap.size, args := #[] } :: a.defers } W)
    (hstop : ∀ (c : Code) (M : Nat → Prop) (k : Nat) (W : World), Sp k → (∀ b, M b → w.heap.size + 2 ≤ b ∧ b < W.heap.size) → Ix c M k W → W.heap[w.heap.size]? = some (.deferred (some [])) → c.wpIn Fence.wide n P Q { a with defers := { target := .collected w.heap.size, args := #[] } :: a.defers } W) :
    (Code.rangeFunc g ps assign body).wpIn Fence.wide n P Q a w := by
  subst hps
  refine wpIn_rangeY hg eg hseq hX hH hrow (fun k args W h => by obtain ⟨x, v, rfl⟩ := hargs k args W h; rfl) I Ix hI hIx h0
    (fun args a' _ => ∀ x v, args = #[x, v] → a' = { tmps := (((a.tmps.setIfInBounds p1 x).setIfInBounds p2 v).setIfInBounds q1 x).setIfInBounds q2 v, defers := [] }) (fun _ _ _ _ h _ => h) ?_ ?_ hdone hstop
  · intro l M k args W K _ _ hh hK
    obtain ⟨x, v, rfl⟩ := hargs k args W hh
    have := hassign l x v W K (hK _ _ (Below.refl _ _) (fun x' v' e => by simp at e; obtain ⟨rfl, rfl⟩ := e; rfl))
    simpa using this
  · intro l M k args a' W hs hM hi hh hax
    obtain ⟨x, v, rfl⟩ := hargs k args W hh
    rw [hax x v rfl]
    exact hbody l M k x v W hs hM hi hh
end Go.Proofs
