/-
  The contract of Spell.
-/
import Derived.Test.YtbnemingkdofmaaDoorQ19
import Derived.Test.YtbnemingkdofmaaDoorQ26
namespace Go.Proofs
open Go.RowKit Sm
attribute [local go_sem] Oper.semAt_some
set_option maxHeartbeats 1000000 in
/-- **the law of a loop of two variables, the first of which is kept** -/
theorem Sm.wpIn_range21 {P : Program} {g : Operand} {ps : Array Tmp} {assign body : Code} {Q : Exit → Act → World → Prop} {a : Act} {w : World} {n : Nat} {gf : Nat} {lb : Array Value}
    (hg : a.eval g = .func (.func gf) #[] lb) (eg : ∀ args w, (callFunc gf args).run P w = .ok (.enter gf args) w)
    {X : Nat → Prop} {H : Nat → Nat → Array Value → World → Prop} {row : Array Value → Nat → Prop} {Go S Sp : Nat → Prop} (hseq : SeqX P gf lb X H row Go S Sp w)
    (hX : ∀ b, X b → b < w.heap.size) (hH : ∀ k args W W', H (w.heap.size + 2) k args W → But (fun b => b < w.heap.size + 2) W W' → H (w.heap.size + 2) k args W')
    (hrow : ∀ k args W b, H (w.heap.size + 2) k args W → row args b → w.heap.size + 2 ≤ b) (p1 p2 q1 : Nat) (hps : ps = #[p1, p2]) (hargs : ∀ k args W, H (w.heap.size + 2) k args W → ∃ x v, args = #[x, v])
    (I : Nat → World → Prop) (Ix : Code → Nat → World → Prop) (hI : LowJ w.heap.size I) (hIx : ∀ c, LowJ w.heap.size (Ix c)) (h0 : I 0 w)
    (hassign : ∀ (l : Nat) (x v : Value) (W : World) (K : Act → World → Prop), K { tmps := ((a.tmps.setIfInBounds p1 x).setIfInBounds p2 v).setIfInBounds q1 x, defers := [] } W →
      assign.wpIn (Fence.wide.inRound l) (n - 1 - 1) P (Exit.then K (fun _ _ _ => False)) { tmps := (a.tmps.setIfInBounds p1 x).setIfInBounds p2 v, defers := [] } W)
    (hbody : ∀ (l k : Nat) (x v : Value) (W : World), w.heap.size + 2 ≤ W.heap.size → I k W → H (w.heap.size + 2) k #[x, v] W → body.wpIn (Fence.wide.inRound l) (n - 1 - 1) P (postX Go X row #[x, v] I Ix k W) { tmps := ((a.tmps.setIfInBounds p1 x).setIfInBounds p2 v).setIfInBounds q1 x, defers := [] } W)
    (hdone : ∀ (k : Nat) (W : World), S k → I k W → W.heap[w.heap.size]? = some (.deferred (some [])) → Q .normal { a with defers := { target := .collected w.heap.size, args := #[] } :: a.defers } W)
    (hstop : ∀ (c : Code) (k : Nat) (W : World), Sp k → Ix c k W → W.heap[w.heap.size]? = some (.deferred (some [])) → c.wpIn Fence.wide n P Q { a with defers := { target := .collected w.heap.size, args := #[] } :: a.defers } W) :
    (Code.rangeFunc g ps assign body).wpIn Fence.wide n P Q a w := by
  subst hps
  refine wpIn_range hg eg hseq hX hH hrow (fun k args W h => by obtain ⟨x, v, rfl⟩ := hargs k args W h; rfl) I Ix hI hIx h0
    (fun args a' _ => ∀ x v, args = #[x, v] → a' = { tmps := ((a.tmps.setIfInBounds p1 x).setIfInBounds p2 v).setIfInBounds q1 x, defers := [] }) (fun _ _ _ _ h _ => h) ?_ ?_ hdone hstop
  · intro l k args W K _ _ hh hK
    obtain ⟨x, v, rfl⟩ := hargs k args W hh
    have := hassign l x v W K (hK _ _ (Below.refl _ _) (fun x' v' e => by simp at e; obtain ⟨rfl, rfl⟩ := e; rfl))
    simpa using this
  · intro l k args a' W hs hi hh hax
    obtain ⟨x, v, rfl⟩ := hargs k args W hh
    rw [hax x v rfl]
    exact hbody l k x v W hs hi hh
/-- the world in which the groups' iterator has its variables -/
def Sm.grpW (w : World) (A : Option Addr) (n c : Nat) (wide size : Int) : World := ((w.alloc (.cells #[.slice A n c] 0x16)).alloc (.cells #[.int .i64 wide] 3)).alloc (.cells #[.int .i64 size] 3)
set_option maxHeartbeats 400000 in
theorem Sm.groups_any (n c : Nat) (A : Option Addr) (wide size : Int) (w : World) : Calls Tryd.prog 18 #[.slice A n c, .int .i64 wide, .int .i64 size] w fun e w' =>
    e = .returned (.func (.func 34) #[] #[.pointer (some ⟨w.heap.size, 0, none⟩), .pointer (some ⟨w.heap.size + 1, 0, none⟩), .pointer (some ⟨w.heap.size + 1 + 1, 0, none⟩)]) ∧ grpW w A n c wide size = w' := by
  have hmf : ∀ (fn : Fn) (first cap : Array Value) (w : World), (Instr.makeFunc fn first cap).run Tryd.prog w = .ok (.func fn first cap) w := fun _ _ _ _ => rfl
  go_enter Tryd.func18, Tryd.ntmps18
  go_wp2
  go_ret
  exact ⟨rfl, rfl⟩
theorem Sm.grpW_below (w : World) (A : Option Addr) (n c : Nat) (wide size : Int) : Below w.heap.size w (grpW w A n c wide size) := (((Below.refl _ w).alloc (Nat.le_refl _) _).alloc (by simp) _).alloc (by simp; omega) _
theorem Sm.grpW_size (w : World) (A : Option Addr) (n c : Nat) (wide size : Int) : (grpW w A n c wide size).heap.size = w.heap.size + 1 + 1 + 1 := by simp [grpW]
theorem Sm.grpW_cap (w : World) (X : Nat → Prop) (A : Option Addr) (n c : Nat) (l : List (BitVec 8)) (wide size : Nat) (hX : ∀ b, X b → b < w.heap.size) (hr : Rds w X A (l.map byteCell)) : CapG (grpW w A n c wide size) X w.heap.size (w.heap.size + 1) (w.heap.size + 1 + 1) A n c l wide size := by
  have hs := grpW_size w A n c wide size
  refine ⟨?_, ?_, ?_, fun b hb => ?_, by omega, by omega, by omega, ?_⟩
  · unfold grpW
    rw [World.cell?_alloc_lt _ _ _ (by simp; omega), World.cell?_alloc_lt _ _ _ (by simp)]
    simp [World.cell?_alloc_new]
  · unfold grpW
    rw [World.cell?_alloc_lt _ _ _ (by simp)]
    have := World.cell?_alloc_new (w.alloc (.cells #[.slice A n c] 0x16)) #[.int .i64 (wide : Int)] 3 0
    rw [World.size_alloc] at this
    exact this
  · have := World.cell?_alloc_new ((w.alloc (.cells #[.slice A n c] 0x16)).alloc (.cells #[.int .i64 (wide : Int)] 3)) #[.int .i64 (size : Int)] 3 0
    rw [World.size_alloc, World.size_alloc] at this
    exact this
  · have := hX b hb
    omega
  · exact hr.but (But.of_all (grpW_below w A n c wide size) (fun _ => False)) (fun b e => e.elim)
/-- how spelled stands behind k groups -/
structure Sm.SpI (base : Nat) (w5 W : World) (Db Rb N k : Nat) (l : List (BitVec 8)) : Prop where
  db : Blk W Db 0x16 #[.slice (some ⟨Rb, 0, none⟩) k N]
  own : W.ownsRow base 5 1 (.slice (some ⟨Rb, 0, none⟩) k N) k ((l.take k).map byteCell)
  but : But (fun b => b = Db ∨ b = Rb) w5 W
def Sm.signsB : ByteArray := ⟨#[97, 98, 99, 100, 101, 102, 103, 104, 105, 106, 107, 108, 109, 110, 111, 112, 113, 114, 115, 116, 117, 118, 119, 120, 121, 122, 50, 51, 52, 53, 54, 55]⟩
theorem Sm.signs_v : ∀ k : Fin 32, (((({ data := #[97, 98, 99, 100, 101, 102, 103, 104, 105, 106, 107, 108, 109, 110, 111, 112, 113, 114, 115, 116, 117, 118, 119, 120, 121, 122, 50, 51, 52, 53, 54, 55] } : ByteArray)[k.val]'(by exact k.isLt)).toNat : Nat) : Int) = ib (sgn k.val) := by decide +kernel
theorem Sm.signs_at (k : Nat) (h : k < 32) (w : World) : (Instr.index 9 (.string { data := #[97, 98, 99, 100, 101, 102, 103, 104, 105, 106, 107, 108, 109, 110, 111, 112, 113, 114, 115, 116, 117, 118, 119, 120, 121, 122, 50, 51, 52, 53, 54, 55] }) (.int .u8 (k : Int))).run Tryd.prog w = .ok (.int .u8 (ib (sgn k))) w := by
  have hs : ({ data := #[97, 98, 99, 100, 101, 102, 103, 104, 105, 106, 107, 108, 109, 110, 111, 112, 113, 114, 115, 116, 117, 118, 119, 120, 121, 122, 50, 51, 52, 53, 54, 55] } : ByteArray).size = 32 := rfl
  rw [run_index_string _ _ _ _ _ Tryd.underlying9, dif_pos ⟨by omega, by rw [hs]; omega⟩]
  have hv := signs_v ⟨k, h⟩
  simp only [Int.toNat_natCast]
  rw [← hv]
set_option maxRecDepth 100000 in
set_option maxHeartbeats 4000000 in
theorem Sm.Spell_any (n c : Nat) (A : Option Addr) (b : List (BitVec 8)) (w : World) (hb : b.length = n) (hn : n ≤ 100000) (hr : Rd w w.heap.size A b) :
    Calls Tryd.prog 7 #[.slice A n c] w fun e w' => e = .returned (.string (strB (spellS b))) ∧ Below w.heap.size w w' := by
  obtain ⟨i0, hi, hz0, hz1, hz2⟩ := info_parts info5
  obtain ⟨N, hN⟩ : ∃ N, cntW 8 5 n = N := ⟨_, rfl⟩
  have hN2 : (8 * n + 4) / 5 = N := hN
  have HQ : Hid (((n : Int) * 8 + 5 - 1) / 5 = (N : Int)) := Lib.hid (by omega)
  refine (callsIn_wide (n := 3)).1 ?_
  refine callsIn_of_wp_marks Tryd.func7 rfl trivial ?_ rfl
  simp only [Tryd.ntmps7, List.size_toArray, List.length_cons, List.length_nil, Nat.reduceAdd, Nat.reduceSub, Array.replicate_succ, Array.replicate_zero, List.push_toArray, List.append_toArray, List.nil_append, List.cons_append]
  gi_wp2_with (gi_at_make; refine wpListIn_make_own _ rfl _ _ 0x16 rfl w.heap.size 5 i0 (.int .u8 0) 1 Tryd.underlying22 hi hz0 hz1 .i64 .i64 _ N rfl rfl HQ.out (by rw [hz2]; omega) (by unfold maxLen; omega) (Nat.le_refl _) ?_; intro w2 hown2 hg2)
  obtain ⟨Db, hDb⟩ : ∃ b, w2.heap.size = b := ⟨_, rfl⟩
  obtain ⟨w3, hw3⟩ : ∃ v, w2.alloc (.cells #[.slice (some ⟨w.heap.size, 0, none⟩) 0 N] 0x16) = v := ⟨_, rfl⟩
  have hb2 : Below w.heap.size w w2 := (Below.refl _ _).grown hg2 (Nat.le_refl _) (fun g e => by cases e)
  have hD3 : Blk w3 Db 0x16 #[.slice (some ⟨w.heap.size, 0, none⟩) 0 N] := by rw [← hw3, ← hDb]; exact Blk.new w2 0x16 _
  have ho3 : w3.ownsRow w.heap.size 5 1 (.slice (some ⟨w.heap.size, 0, none⟩) 0 N) 0 [] := by rw [← hw3]; exact own_below hown2 ((Below.refl _ _).alloc (Nat.le_refl _) _)
  have hb3 : Below w.heap.size w w3 := by rw [← hw3]; exact hb2.alloc hb2.size _
  have hrl : w.heap.size < w2.heap.size := (hown2.lt _ rfl).2
  obtain ⟨Rb, hRb⟩ : ∃ b, w.heap.size = b := ⟨_, rfl⟩
  have hRl3 : Rb < w3.heap.size := by rw [← hRb]; exact (ho3.lt _ rfl).2
  have hRD : Rb ≠ Db := by rw [← hRb, ← hDb]; omega
  have hRDl : Rb ≤ Db := by rw [← hRb, ← hDb]; omega
  have hDl3 := hD3.lt
  have hrd3 : Rds w3 (fun b => b = Db ∨ b = Rb) A (b.map byteCell) := fun h0 => by
    obtain ⟨pb, off, e, hlt, hc⟩ := hr (by simpa using h0)
    refine ⟨pb, off, e, by omega, by rintro (e | e) <;> omega, fun j v hj => ?_⟩
    rw [List.getElem?_map] at hj
    obtain ⟨x, hx, rfl⟩ := Option.map_eq_some_iff.1 hj
    exact (hb3.cell (p := ⟨pb, off + j, none⟩) hlt).trans (hc j x hx)
  have hXl : ∀ b, (b = Db ∨ b = Rb) → b < w3.heap.size := by rintro b (rfl | rfl) <;> omega
  have hcap := grpW_cap w3 (fun b => b = Db ∨ b = Rb) A n c b 8 5 hXl hrd3
  rw [hw3, hDb]
  gi_wp2_with ((try refine ⟨trivial, ?_⟩); gi_at_call 18; refine (callsIn_wide.2 (groups_any n c A 8 5 w3)).mono ?_; rintro e w5 ⟨rfl, hw5⟩)
  have hs5 : w3.heap.size + 3 = w5.heap.size := by rw [← hw5, grpW_size]
  rw [show (8 : Int) = ((8 : Nat) : Int) from rfl, show (5 : Int) = ((5 : Nat) : Int) from rfl] at hw5
  have hb35 : Below w3.heap.size w3 w5 := by rw [← hw5]; exact grpW_below _ _ _ _ _ _
  rw [hw5] at hcap
  have hseq := groups_seq w3.heap.size (w3.heap.size + 1) (w3.heap.size + 1 + 1) A n c b 8 5 w5 (fun b => b = Db ∨ b = Rb) hcap hb (by omega) (by omega) (by omega) (by omega) (by omega) (nat8_lt b)
  have hb05 : Below w.heap.size w w5 := hb3.trans (hb35.mono hb3.size)
  have hI0 : SpI w.heap.size w5 w5 Db Rb N 0 (spellS b) := ⟨by rw [← hRb]; exact hD3.keep hb35, by rw [← hRb]; exact own_below ho3 hb35, But.refl _ _⟩
  have HSEQ := Lib.hid hseq
  have HI0 := Lib.hid hI0
  have HB05 := Lib.hid hb05
  have HBL := Lib.hid hb
  have HCN := Lib.hid hN
  have HRB := Lib.hid hRb
  have hRl5 : Rb < w5.heap.size := by omega
  have hDl5 : Db < w5.heap.size := by omega
  clear hseq hI0 hb05 hb35 hcap hXl hrd3 hD3 ho3 hb3 hrl hw3 hDb hb2 hown2 hg2 hr hb hN hw5 hN2
  gi_wp2
  refine wpIn_range21 (gf := 34) (lb := #[.pointer (some ⟨w3.heap.size, 0, none⟩), .pointer (some ⟨w3.heap.size + 1, 0, none⟩), .pointer (some ⟨w3.heap.size + 1 + 1, 0, none⟩)]) rfl (enters_of Tryd.func34 (by kernel_rfl) rfl)
    HSEQ.out (by rintro b (rfl | rfl) <;> omega) ?hH ?hrow 14 15 4 rfl ?hps
    (fun k W => SpI w.heap.size w5 W Db Rb N k (spellS b)) (fun _ _ _ => False) ?hI ?hIx HI0.out ?assign ?body ?done ?stop
  case hH => exact fun k args W W' hh _ => hh
  case hrow => exact fun k args W b _ e => e.elim
  case hps =>
    rintro k args W ⟨_, rfl⟩
    exact ⟨_, _, rfl⟩
  case hI =>
    rintro k W W' ⟨i1, i2, i3⟩ hb
    exact ⟨i1.but (But.of_below hb) (by omega), (But.of_below hb).row i2 (fun g e => by cases e; exact Nat.not_le.2 hRl5), i3.trans (But.of_below hb) (fun b hb' e => absurd hb' (Nat.not_lt.2 e))⟩
  case hIx => exact fun c k W W' h _ => h.elim
  case stop => exact fun c k W _ h _ => h.elim
  case assign =>
    intro l0 x v W K hK
    gi_wp2
    exact hK
  case body =>
    rintro l0 k x v W hsz ⟨i1, i2, i3⟩ ⟨hk, e1⟩
    simp only [Array.mk.injEq, List.cons.injEq, and_true] at e1
    obtain ⟨rfl, rfl⟩ := e1
    have hyl := valW_lt 8 (nat8 b) (5 * k) 5
    have hsk : (spellS b)[k]? = some (sgn (valW 8 (nat8 b) (5 * k) 5)) := by
      unfold spellS fiveS
      rw [List.getElem?_map, List.getElem?_map, List.getElem?_range hk]
      rfl
    obtain ⟨y, hy0⟩ : ∃ y, valW 8 (nat8 b) (5 * k) 5 = y := ⟨_, rfl⟩
    rw [hy0] at hyl hsk
    rw [hy0]
    have hidx := fun (w : World) => signs_at y hyl w
    obtain ⟨q, hq⟩ : ∃ q, sgn y = q := ⟨_, rfl⟩
    rw [hq] at hidx hsk
    have hdb := i1.cell 0
    have hdf := i1.frozen 0
    simp only [List.getElem?_toArray, List.getElem?_cons_zero] at hdb
    have hDW := i1.lt
    have hNk : k < N := by rw [← HCN.out, ← HBL.out]; exact hk
    have HO := Lib.hid i2
    have HBT := Lib.hid i3
    have HD2 := Lib.hid i1
    have HSK := Lib.hid hsk
    clear i1 i2 i3 hk hsk hy0 hq
    have hbtW := HBT.out.size
    gi_wp2
    refine wpIn_round_held (S := fun _ => True) rfl (by kernel_rfl) (by rintro ⟨_, _, h⟩; exact h) trivial (fun hHeld => ?_)
    simp only [List.size_toArray, List.length_cons, List.length_nil, Nat.reduceAdd]
    have hdb7 : W.drew.cell? ⟨Db, 0, none⟩ = some (.slice (some ⟨Rb, 0, none⟩) k N) := hdb
    have hdf7 : W.drew.frozen? ⟨Db, 0, none⟩ = false := hdf
    have HO7 := Lib.hid (HO.out.drew)
    have HD7 := Lib.hid (HD2.out.drew)
    have HB7 : Hid (But (fun b => b = Db ∨ b = Rb) W W.drew) := Lib.hid (But.refl _ W).drew
    have HS7 : Hid (W.drew.heap.size = W.heap.size) := Lib.hid rfl
    obtain ⟨W7, hW7⟩ : ∃ V, W.drew = V := ⟨_, rfl⟩
    rw [hW7] at hdb7 hdf7 HO7 HD7 HB7 HS7 ⊢
    clear hW7 hdb hdf
    refine wpAnyH_take (i := 1) (v := .int .u8 (y : Int)) rfl (by kernel_rfl) (by kernel_rfl) (by kernel_rfl) (fun _ _ _ h => h) (Or.inl ⟨by rfl, ?_⟩) trivial ?_
    · intro wx _; go_simp
    try simp only [Act.put]
    refine wpAnyH_take (i := 2) (v := .int .u8 (ib q)) rfl (by kernel_rfl) (by kernel_rfl) (by kernel_rfl) (fun _ _ _ h => h) (Or.inl ⟨by rfl, ?_⟩) trivial ?_
    · intro wx _; go_simp
    try simp only [Act.put]
    refine wpAnyH_ready (rs := [0, 3]) (by kernel_rfl) (by simp) (AllReadyH.cons rfl (fun K hK => ?ca) (AllReadyH.cons rfl (fun K hK => ?cb) AllReadyH.nil))
    case ca =>
      go_simp
      refine hK.out _ _ trivial (fun _ => ?_)
      clear hK K
      try simp only [Act.put]
      refine wpAnyH_ready (rs := [3]) (by kernel_rfl) (by simp) (AllReadyH.cons rfl (fun K hK => ?_) AllReadyH.nil)
      go_simp
      obtain ⟨W8, hW8⟩ : ∃ V, W7.alloc (.cells #[.int .u8 (ib q)] 5) = V := ⟨_, rfl⟩
      have hb78 : Below W7.heap.size W7 W8 := by rw [← hW8]; exact (Below.refl _ _).alloc (Nat.le_refl _) _
      have hlt7 : W7.heap.size < W8.heap.size := by rw [← hW8]; simp
      have hc8 : W8.cell? ⟨W7.heap.size, 0, none⟩ = some (.int .u8 (ib q)) := by rw [← hW8]; exact World.cell?_alloc_new W7 #[.int .u8 (ib q)] 5 0
      have hdl7 : Db < W7.heap.size := HD7.out.lt
      have hrl7 : Rb < W7.heap.size := (HO7.out.lt _ rfl).2
      have HO8 := Lib.hid (own_below HO7.out hb78)
      have HD8 := Lib.hid (HD7.out.keep hb78)
      have HB8 : Hid (But (fun b => b = Db ∨ b = Rb) W W8) := Lib.hid (HB7.out.trans (But.of_all hb78 (fun b => b = Db ∨ b = Rb)) (fun _ _ e => e))
      rw [hW8]
      clear hW8
      refine hK.out _ _ trivial (fun _ => ?_)
      clear hK K
      try simp only [Act.put]
      refine wpAnyH_ready (rs := [4]) (by kernel_rfl) (by simp) (AllReadyH.cons rfl (fun K hK => ?_) AllReadyH.nil)
      rw [if_pos (by rfl)]
      refine oper_append_fit (.tmp 16) (.tmp 19) 0x16 rfl w.heap.size 5 i0 Tryd.underlying22 hi hz1 Rb k N _ rfl HO8.out ⟨W7.heap.size, 0, none⟩ 1 1 [q] rfl rfl (fun j u hj => ?_) (by omega) ?_
      · rcases j with _ | j <;> simp at hj
        subst hj
        exact hc8
      intro w9 hown9 hg9
      have hb89 := But.grown hg9
      have HD9 := Lib.hid (HD8.out.but hb89 (fun e => hRD (Option.some.inj e)))
      have HB9 : Hid (But (fun b => b = Db ∨ b = Rb) W w9) := Lib.hid (HB8.out.trans hb89 (fun b _ e => by cases e; exact .inr rfl))
      have HO9 := Lib.hid hown9
      clear hown9 hg9 hb89 hc8 hb78 hdb7 hdf7
      have hdb9 := HD9.out.cell 0
      have hdf9 := HD9.out.frozen 0
      simp only [List.getElem?_toArray, List.getElem?_cons_zero] at hdb9
      refine hK.out _ _ trivial (fun _ => ?_)
      clear hK K
      try simp only [Act.put]
      refine wpAnyH_ready (rs := [5]) (by kernel_rfl) (by simp) (AllReadyH.cons rfl (fun K hK => ?_) AllReadyH.nil)
      go_simp
      refine hK.out _ _ trivial (fun _ => ?_)
      clear hK K
      try simp only [Act.put]
      refine wpAnyH_done (by kernel_rfl) ?_ _
      try simp only [List.getElem_toArray, List.getElem_cons_succ, List.getElem_cons_zero]
      have hsd : But (fun b => b = Db) w9 (w9.setCell ⟨Db, 0, none⟩ (.slice (some ⟨Rb, 0, none⟩) (k + 1) N)) := (But.refl _ w9).set _ _ (.inl rfl)
      have hblk := heap_setCell_same w9 Db 0 _ 0x16 (.slice (some ⟨Rb, 0, none⟩) (k + 1) N) HD9.out
      simp only [List.setIfInBounds_toArray, List.set_cons_zero] at hblk
      have hrow := hsd.row HO9.out (fun g e => by cases e; exact hRD)
      have hfin := HB9.out.trans hsd (fun b _ e => .inl e)
      have htk : ((spellS b).take k).map byteCell ++ [q].map byteCell = ((spellS b).take (k + 1)).map byteCell := by
        rw [← List.map_append, List.take_add_one, HSK.out]
        rfl
      rw [htk] at hrow
      have HFIN : Hid (SpI w.heap.size w5 (w9.setCell ⟨Db, 0, none⟩ (.slice (some ⟨Rb, 0, none⟩) (k + 1) N)) Db Rb N (k + 1) (spellS b)) := Lib.hid ⟨hblk, hrow, HBT.out.trans hfin (fun _ _ e => e)⟩
      have HF2 := Lib.hid hfin
      clear hsd hblk hrow hfin htk
      obtain ⟨V9, hV9⟩ : ∃ V, w9.setCell ⟨Db, 0, none⟩ (.slice (some ⟨Rb, 0, none⟩) (k + 1) N) = V := ⟨_, rfl⟩
      rw [hV9] at HFIN HF2 ⊢
      clear hV9 hdb9 hdf9 HD9 HB9 HO9 HO8 HD8 HB8 HO7 HD7 HB7 hidx
      gi_wp2
      exact ⟨trivial, HF2.out.mono (fun b _ e => .inl e), HFIN.out⟩
    case cb =>
      go_simp
      have hcl : ∀ wx, Below W7.heap.size W7 wx → wx.cell? ⟨Db, 0, none⟩ = some (.slice (some ⟨Rb, 0, none⟩) k N) := fun wx hb => (hb.cell (p := ⟨Db, 0, none⟩) HD7.out.lt).trans hdb7
      refine hK.out _ _ trivial (fun _ => ?_)
      clear hK K
      try simp only [Act.put]
      refine wpAnyH_ready (rs := [0]) (by kernel_rfl) (by simp) (AllReadyH.cons rfl (fun K hK => ?_) AllReadyH.nil)
      have hcl8 := hcl _ ((Below.refl _ W7).alloc (Nat.le_refl _) (.cells #[.int .u8 (ib q)] 5))
      go_simp
      clear hcl8 hcl
      obtain ⟨W8, hW8⟩ : ∃ V, W7.alloc (.cells #[.int .u8 (ib q)] 5) = V := ⟨_, rfl⟩
      have hb78 : Below W7.heap.size W7 W8 := by rw [← hW8]; exact (Below.refl _ _).alloc (Nat.le_refl _) _
      have hlt7 : W7.heap.size < W8.heap.size := by rw [← hW8]; simp
      have hc8 : W8.cell? ⟨W7.heap.size, 0, none⟩ = some (.int .u8 (ib q)) := by rw [← hW8]; exact World.cell?_alloc_new W7 #[.int .u8 (ib q)] 5 0
      have hdl7 : Db < W7.heap.size := HD7.out.lt
      have hrl7 : Rb < W7.heap.size := (HO7.out.lt _ rfl).2
      have HO8 := Lib.hid (own_below HO7.out hb78)
      have HD8 := Lib.hid (HD7.out.keep hb78)
      have HB8 : Hid (But (fun b => b = Db ∨ b = Rb) W W8) := Lib.hid (HB7.out.trans (But.of_all hb78 (fun b => b = Db ∨ b = Rb)) (fun _ _ e => e))
      rw [hW8]
      clear hW8
      refine hK.out _ _ trivial (fun _ => ?_)
      clear hK K
      try simp only [Act.put]
      refine wpAnyH_ready (rs := [4]) (by kernel_rfl) (by simp) (AllReadyH.cons rfl (fun K hK => ?_) AllReadyH.nil)
      rw [if_pos (by rfl)]
      refine oper_append_fit (.tmp 16) (.tmp 19) 0x16 rfl w.heap.size 5 i0 Tryd.underlying22 hi hz1 Rb k N _ rfl HO8.out ⟨W7.heap.size, 0, none⟩ 1 1 [q] rfl rfl (fun j u hj => ?_) (by omega) ?_
      · rcases j with _ | j <;> simp at hj
        subst hj
        exact hc8
      intro w9 hown9 hg9
      have hb89 := But.grown hg9
      have HD9 := Lib.hid (HD8.out.but hb89 (fun e => hRD (Option.some.inj e)))
      have HB9 : Hid (But (fun b => b = Db ∨ b = Rb) W w9) := Lib.hid (HB8.out.trans hb89 (fun b _ e => by cases e; exact .inr rfl))
      have HO9 := Lib.hid hown9
      clear hown9 hg9 hb89 hc8 hb78 hdb7 hdf7
      have hdb9 := HD9.out.cell 0
      have hdf9 := HD9.out.frozen 0
      simp only [List.getElem?_toArray, List.getElem?_cons_zero] at hdb9
      refine hK.out _ _ trivial (fun _ => ?_)
      clear hK K
      try simp only [Act.put]
      refine wpAnyH_ready (rs := [5]) (by kernel_rfl) (by simp) (AllReadyH.cons rfl (fun K hK => ?_) AllReadyH.nil)
      go_simp
      refine hK.out _ _ trivial (fun _ => ?_)
      clear hK K
      try simp only [Act.put]
      refine wpAnyH_done (by kernel_rfl) ?_ _
      try simp only [List.getElem_toArray, List.getElem_cons_succ, List.getElem_cons_zero]
      have hsd : But (fun b => b = Db) w9 (w9.setCell ⟨Db, 0, none⟩ (.slice (some ⟨Rb, 0, none⟩) (k + 1) N)) := (But.refl _ w9).set _ _ (.inl rfl)
      have hblk := heap_setCell_same w9 Db 0 _ 0x16 (.slice (some ⟨Rb, 0, none⟩) (k + 1) N) HD9.out
      simp only [List.setIfInBounds_toArray, List.set_cons_zero] at hblk
      have hrow := hsd.row HO9.out (fun g e => by cases e; exact hRD)
      have hfin := HB9.out.trans hsd (fun b _ e => .inl e)
      have htk : ((spellS b).take k).map byteCell ++ [q].map byteCell = ((spellS b).take (k + 1)).map byteCell := by
        rw [← List.map_append, List.take_add_one, HSK.out]
        rfl
      rw [htk] at hrow
      have HFIN : Hid (SpI w.heap.size w5 (w9.setCell ⟨Db, 0, none⟩ (.slice (some ⟨Rb, 0, none⟩) (k + 1) N)) Db Rb N (k + 1) (spellS b)) := Lib.hid ⟨hblk, hrow, HBT.out.trans hfin (fun _ _ e => e)⟩
      have HF2 := Lib.hid hfin
      clear hsd hblk hrow hfin htk
      obtain ⟨V9, hV9⟩ : ∃ V, w9.setCell ⟨Db, 0, none⟩ (.slice (some ⟨Rb, 0, none⟩) (k + 1) N) = V := ⟨_, rfl⟩
      rw [hV9] at HFIN HF2 ⊢
      clear hV9 hdb9 hdf9 HD9 HB9 HO9 HO8 HD8 HB8 HO7 HD7 HB7 hidx
      gi_wp2
      exact ⟨trivial, HF2.out.mono (fun b _ e => .inl e), HFIN.out⟩
  case done =>
    rintro k W rfl ⟨i1, i2, i3⟩ hD
    rw [HCN.out] at i1 i2
    rw [List.take_of_length_le (by rw [spellS_length, HBL.out, HCN.out]; exact Nat.le_refl _)] at i2
    have hdc := i1.cell 0
    simp only [List.getElem?_toArray, List.getElem?_cons_zero] at hdc
    have hbw : Below w.heap.size w W := HB05.out.trans ((i3.to_below (n := w.heap.size) (by omega) (fun b e => by rcases e with e | e <;> omega)).mono (Nat.le_refl _))
    have hcv := conv_rd (c := N) (l := spellS b) (by rw [spellS_length, HBL.out, HCN.out]) (Rd.of_own i2 (Nat.le_refl _))
    have HBW := Lib.hid hbw
    have HDD := Lib.hid hD
    clear hbw hD i1 i2 i3
    gi_wp2
    have hput := put_but W w5.heap.size (.deferred none)
    refine retM1 (D := w5.heap.size) (v := .string (strB (spellS b))) rfl HDD.out ?_ ⟨rfl, But.below HBW.out hput (fun b e => by have e : b = w5.heap.size := e; omega)⟩
    simp [results, Tryd.results7, go_sem]
end Go.Proofs
