/-
  The iterator over a stream's frames, round by round. Conditions: what the theorems name.
-/
import Derived.Test.YteeponciegmlcaaDoorItrP
namespace Go.Proofs
open Go.RowKit Go.Shelf Sm
attribute [local go_sem] Oper.semAt_some
set_option maxHeartbeats 400000 in
theorem Sm.pieces_any (A : Option Addr) (n c : Nat) (w : World) : Calls Tryd.prog 64 #[.slice A n c] w fun e w' => e = .returned (.func (.func 71) #[] #[.pointer (some ⟨w.heap.size, 0, none⟩)]) ∧ w.alloc (.cells #[.slice A n c] 27) = w' := by
  go_enter Tryd.func64, Tryd.ntmps64
  go_wp2
  go_ret
  exact ⟨rfl, rfl⟩
/-- with what frame k is told -/
def Sm.HF (l : List (BitVec 8)) (L k : Nat) (args : Array Value) (W : World) : Prop :=
  k < cntK l ∧ ∃ Av cv, args = #[.int .i64 (offK l (k + 1) : Int), .slice Av (bodyK l k).length cv] ∧ W.ownsRow L 5 1 (.slice Av (bodyK l k).length cv) (bodyK l k).length ((bodyK l k).map byteCell)
def Sm.rowF (args : Array Value) (b : Nat) : Prop := ∃ x v, args = #[x, v] ∧ v.ownBlock = some b
/-- what the loop over pieces keeps -/
def Sm.FrI (J : Nat → World → Prop) (l : List (BitVec 8)) (L L0 k : Nat) (W : World) : Prop := J k W ∧ k ≤ cntK l ∧ W.heap[L]? = some (.cells #[.func (.yield L0) #[] #[]] 108 (0, 0)) ∧ L < W.heap.size
def Sm.FrX (J Jx : Nat → World → Prop) (l : List (BitVec 8)) (c : Code) (k : Nat) (W : World) : Prop := c = .exit 0 ∧ (J (cntK l) W ∨ Jx k W)
/-- how the loop's two variables stand -/
def Sm.FrA (Bx L L0 lo : Nat) (y5 y6 : Value) (args : Array Value) (a' : Act) (W : World) : Prop :=
  ∃ x Av m cv y z Pb, args = #[x, .agg #[.slice Av m cv, y, z]] ∧ lo ≤ Pb ∧ W.heap[Pb]? = some (.cells #[.slice Av m cv, y, z] 105 (0, 0)) ∧
    a' = { tmps := #[.func (.yield L0) #[] #[], .pointer (some ⟨Bx, 0, none⟩), .pointer (some ⟨L, 0, none⟩), x, .pointer (some ⟨Pb, 0, none⟩), y5, y6, x, .agg #[.slice Av m cv, y, z], undef, undef, undef, undef, undef, undef, undef, undef, undef, undef, undef], defers := [] }
set_option maxRecDepth 100000 in
set_option maxHeartbeats 4000000 in
theorem Sm.frames_seq (l : List (BitVec 8)) (A : Option Addr) (n c Bx : Nat) (w : World) (X : Nat → Prop) (hcap : Cap w w.heap.size Bx A n c l) (hn : n ≤ 1000000) (hX : ∀ b, X b → b < w.heap.size) (h2 : ∀ b off, A = some ⟨b, off, none⟩ → ¬ X b) (h3 : ¬ X 0) :
    SeqX Tryd.prog 63 #[.pointer (some ⟨Bx, 0, none⟩)] X (HF l) rowF (fun _ => True) (fun k => k = cntK l) (fun _ => True) w := by
  intro L0 J Jx W hW hJ hJx hY hJ0
  have hBx : Bx < w.heap.size := (Array.getElem?_eq_some_iff.1 hcap.box).1
  have hcapW : Cap W w.heap.size Bx A n c l := hcap.below hW
  obtain ⟨L, hL⟩ : ∃ L, W.heap.size = L := ⟨_, rfl⟩
  have hwL : w.heap.size ≤ L := by rw [← hL]; exact hW.size
  rw [hL] at hJ hJx hY
  have hbox := cell_of_heap hcapW.box 0
  simp only [List.getElem?_toArray, List.getElem?_cons_zero] at hbox
  have hA : ∀ b off, A = some ⟨b, off, none⟩ → b < w.heap.size := fun b off e => by
    obtain ⟨b', off', e', hb'⟩ := hcap.form _ e
    cases e'
    exact hb'
  have h0w : 0 < w.heap.size := hcap.tab.1
  have hba : Below W.heap.size W ((W.alloc (.cells #[.func (.yield L0) #[] #[]] 108)).alloc (.cells #[.slice A n c] 27)) := ((Below.refl _ W).alloc (Nat.le_refl _) _).alloc (by simp) _
  have hbox2 : ((W.alloc (.cells #[.func (.yield L0) #[] #[]] 108)).alloc (.cells #[.slice A n c] 27)).heap[L + 1]? = some (.cells #[.slice A n c] 27 (0, 0)) := by
    have := World.alloc_heap_new (W.alloc (.cells #[.func (.yield L0) #[] #[]] 108)) (.cells #[.slice A n c] 27)
    rwa [World.size_alloc, hL] at this
  have hy2 : ((W.alloc (.cells #[.func (.yield L0) #[] #[]] 108)).alloc (.cells #[.slice A n c] 27)).heap[L]? = some (.cells #[.func (.yield L0) #[] #[]] 108 (0, 0)) := by
    have := World.alloc_heap_new W (.cells #[.func (.yield L0) #[] #[]] 108)
    rw [hL] at this
    exact (Below.heap_alloc _ _ _ (by simp; omega)).trans this
  have hs2 : ((W.alloc (.cells #[.func (.yield L0) #[] #[]] 108)).alloc (.cells #[.slice A n c] 27)).heap.size = L + 2 := by simp [hL]
  have hcap2 := hcapW.below hba
  have hbox1 : (W.alloc (.cells #[.func (.yield L0) #[] #[]] 108)).cell? ⟨Bx, 0, none⟩ = some (.slice A n c) := (((Below.refl _ W).alloc (Nat.le_refl _) _).cell (p := ⟨Bx, 0, none⟩) (Nat.lt_of_lt_of_le hBx hW.size)).trans hbox
  refine (callsIn_wide (n := 3)).1 ?_
  refine callsIn_of_wp_marks Tryd.func63 rfl trivial ?_ rfl
  simp only [Tryd.ntmps63, List.size_toArray, List.length_cons, List.length_nil, Nat.reduceAdd, Nat.reduceSub, Array.replicate_succ, Array.replicate_zero, List.push_toArray, List.append_toArray, List.nil_append, List.cons_append]
  gi_wp2
  refine wpIn_wide.2 (wp_scope_straight ((wpIn_wide (n := 3)).1 ?_))
  gi_wp2
  refine wpIn_label ?_
  gi_wp2_with ((try refine ⟨trivial, ?_⟩); gi_at_call 64; refine (callsIn_wide.2 (pieces_any _ _ _ _)).mono ?_; rintro e w' ⟨rfl, rfl⟩)
  obtain ⟨W2, hW2⟩ : ∃ W2, (W.alloc (.cells #[.func (.yield L0) #[] #[]] 108)).alloc (.cells #[.slice A n c] 27) = W2 := ⟨_, rfl⟩
  rw [hW2] at hba hbox2 hy2 hs2 hcap2 ⊢
  have hcapI : Cap W2 W2.heap.size (L + 1) A n c l := ⟨hbox2, hcap2.len, hcap2.room, hcap2.none_, fun a e => by
    obtain ⟨b, off, e1, e2⟩ := hcap2.form a e
    exact ⟨b, off, e1, by omega⟩, hcap2.rd.more hcap2.lt, Nat.le_refl _, hcap2.tab⟩
  have hJW2 : J 0 W2 := hJ 0 W W2 hJ0 (by rw [← hL]; exact hba)
  clear hW2 hbox hbox1 hba hcap hcapW hcap2
  refine wpIn_range (gf := 71) (lb := #[.pointer (some ⟨L + 1, 0, none⟩)]) rfl (enters_of Tryd.func71 (by kernel_rfl) rfl)
    (pieces_seq l A n c (L + 1) W2 (fun b => X b ∨ (w.heap.size ≤ b ∧ b < L)) hcapI hn (fun b e => by rcases e with e | e; (have := hX b e; omega); omega) (fun e => by rcases e with e | e; (have := hX _ e; omega); omega) (fun b off e h => by have := hA b off e; rcases h with h | h; exact h2 b off e h; omega) (fun h => by rcases h with h | h; exact h3 h; omega))
    (fun b e => by rcases e with e | e; (have := hX b e; omega); omega)
    ?hH ?hrow ?hps (FrI J l L L0) (FrX J Jx l) ?hI ?hIx ⟨hJW2, Nat.zero_le _, hy2, by omega⟩ (FrA Bx L L0 (W2.heap.size + 2) (.slice A n c) (.func (.func 71) #[] #[.pointer (some ⟨L + 1, 0, none⟩)])) ?hAx ?assign ?body ?done ?stop
  case hH =>
    rintro k args W1 W' ⟨v, rfl, ho⟩ hb
    exact ⟨v, rfl, hb.row ho (fun g e h => by have := (ho.lt g e).1; omega)⟩
  case hrow =>
    rintro k args W1 b ⟨v, rfl, ho⟩ ⟨x, v', y, z, e, e2⟩
    simp only [Array.mk.injEq, List.cons.injEq, Value.agg.injEq, and_true] at e
    obtain ⟨_, e3, _⟩ := e
    rw [← e3] at e2
    exact (ho.lt b e2).1
  case hps =>
    rintro k args W1 ⟨v, rfl, ho⟩
    rfl
  case hI =>
    rintro k W1 W' ⟨i1, i2, i3, i4⟩ hb
    exact ⟨hJ k W1 W' i1 (hb.mono (by omega)), i2, (hb.block L (by omega)).trans i3, Nat.lt_of_lt_of_le i4 hb.size⟩
  case hIx =>
    rintro c k W1 W' ⟨e, i⟩ hb
    refine ⟨e, ?_⟩
    rcases i with i | i
    · exact .inl (hJ _ W1 W' i (hb.mono (by omega)))
    · exact .inr (hJx _ W1 W' i (hb.mono (by omega)))
  case hAx =>
    rintro args a' W1 W' ⟨x, Av, m, cv, y, z, Pb, e1, e2, e3, e4⟩ hb
    exact ⟨x, Av, m, cv, y, z, Pb, e1, e2, hb.box e3 (by omega), e4⟩
  case assign =>
    rintro l0 k args W1 K hsz ⟨i1, i2, i3, i4⟩ ⟨v, rfl, ho⟩ hK
    obtain ⟨Av, cv, rfl⟩ := own_slice ho
    gi_wp2
    exact hK _ _ ((Below.refl _ W1).alloc (Nat.le_refl _) _) ⟨_, Av, _, cv, _, _, W1.heap.size, rfl, hsz, World.alloc_heap_new W1 _, rfl⟩
  case body =>
    rintro l0 k args a' W1 hsz ⟨i1, i2, i3, i4⟩ ⟨v, rfl, ho⟩ ⟨x, Av, m, cv, y, z, Pb, e1, e2, e3, rfl⟩
    simp only [Array.mk.injEq, List.cons.injEq, Value.agg.injEq, and_true] at e1
    obtain ⟨rfl, rfl, rfl, rfl⟩ := e1
    have p0 := cell_of_heap e3 0
    have p1 := cell_of_heap e3 1
    have y0 := cell_of_heap i3 0
    simp only [List.getElem?_toArray, List.getElem?_cons_zero, List.getElem?_cons_succ] at p0 p1 y0
    obtain ⟨Av2, cv2, es⟩ := own_slice ho
    injection es with es1 es2 es3
    subst es1 es2 es3
    by_cases hz : szK l k = 0
    · have hk : k = cntK l := cntK_of l hz (fun j hj => cntK_pos l (by omega))
      have hz1 : ((szK l k : Int) == 0) = true := by rw [hz]; rfl
      have HX : Hid (J (cntK l) W1) := Lib.hid (hk ▸ i1)
      clear hk hz
      gi_wp2
      exact ⟨But.refl _ _, rfl, .inl HX.out⟩
    · have hk : k < cntK l := by
        by_cases e : k = cntK l
        · rw [e] at hz
          exact absurd (cntK_zero l) hz
        · omega
      have hz1 : ((szK l k : Int) == 0) = false := by simp; exact hz
      have hoL : W1.ownsRow L 5 1 (.slice Av (bodyK l k).length cv) (bodyK l k).length ((bodyK l k).map byteCell) := ⟨ho.1, ho.2.imp id (fun ⟨g, cap, cur, e, h1, r⟩ => ⟨g, cap, cur, e, by omega, r⟩)⟩
      obtain ⟨fn, tmps, assign, body, hy, hR⟩ := hY k _ W1 i1 ⟨hk, Av, cv, rfl, hoL⟩
      have HZ := Lib.hid hz
      clear hz
      have hrows : ∀ b, RoundMay X w.heap.size L rowF #[.int .i64 (offK l (k + 1) : Int), .slice Av (bodyK l k).length cv] b → (X b ∨ (w.heap.size ≤ b ∧ b < L)) ∨ rowP #[.int .i64 (offK l (k + 1) : Int), .agg #[.slice Av (bodyK l k).length cv, .int .i64 (szK l k : Int), .int .i64 (errK l k)]] b := fun b e => by
        rcases e with e | e | ⟨x, v', e, e2⟩
        · exact .inl (.inl e)
        · exact .inl (.inr e)
        · simp only [Array.mk.injEq, List.cons.injEq, and_true] at e
          obtain ⟨_, e3⟩ := e
          exact .inr ⟨_, _, _, _, rfl, by rw [e3]; exact e2⟩
      have hLn : ∀ b, RoundMay X w.heap.size L rowF #[.int .i64 (offK l (k + 1) : Int), .slice Av (bodyK l k).length cv] b → b ≠ L := fun b e => by
        rcases e with e | e | ⟨x, v', e, e2⟩
        · have := hX b e; omega
        · omega
        · simp only [Array.mk.injEq, List.cons.injEq, and_true] at e
          obtain ⟨_, e3⟩ := e
          rw [← e3] at e2
          have := (ho.lt b e2).1
          omega
      gi_wp2
      refine RoundIn.mono (F := Fence.wide.inRound l0) (show RoundIn (Fence.wide.inRound l0) 0 _ _ _ _ _ _ _ _ from roundIn_any hR) ?_
      clear hR hy p0 p1 y0 hz1
      rintro e W3 (⟨rfl, _, hJ3, hbut⟩ | ⟨rfl, hJx3, hbut⟩)
      · have hbt := hbut.mono (fun b _ e => hrows b e)
        have h3' := hbut.box i3 (fun e => hLn L e rfl)
        gi_wp2
        exact ⟨HZ.out, hbt, hJ3, hk, h3', Nat.lt_of_lt_of_le i4 hbut.size⟩
      · have hbt := hbut.mono (fun b _ e => hrows b e)
        gi_wp2
        exact ⟨hbt, rfl, .inr hJx3⟩
  case done =>
    rintro k W1 h
    exact h.elim
  case stop =>
    rintro c k W1 _ ⟨rfl, hx⟩ hD
    gi_wp2
    refine ⟨by simp, .inl ⟨_, _, rfl, run_takeDeferred hD, ?_⟩⟩
    refine ⟨_, results_none rfl _ _ _, ⟨_, rfl⟩, ?_⟩
    have hlow : Below L W1 (W1.putObj W2.heap.size (.deferred none)) := (put_but W1 _ _).to_below (by have := (Array.getElem?_eq_some_iff.1 hD).1; omega) (fun b e => by omega)
    rcases hx with hx | hx
    · exact .inl ⟨_, rfl, hJ _ _ _ hx hlow⟩
    · exact .inr ⟨_, trivial, hJx _ _ _ hx hlow⟩
end Go.Proofs
