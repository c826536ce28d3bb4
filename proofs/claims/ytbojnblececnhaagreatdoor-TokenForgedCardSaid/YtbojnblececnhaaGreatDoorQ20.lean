/-
  The contract of Spell.
  The contract of unspelled.
  The contract of Unspell.
  The contracts of the small calls on keys: all, newest, there, next, Newest.
-/
import Derived.Test.YtbojnblececnhaaGreatDoorQ14
import Derived.Test.YtbojnblececnhaaGreatDoorQ19
namespace Go.Proofs
open Go.RowKit Sm
attribute [local go_sem] Oper.semAt_some
set_option maxHeartbeats 1000000 in
/-- **the law of a loop of two variables, the first of which is kept** -/
theorem Sm.wpIn_range21 {P : Program} {g : Operand} {ps : Array Tmp} {assign body : Code} {Q : Exit → Act → World → Prop} {a : Act} {w : World} {n : Nat} {gf : Nat} {lb : Array Value}
    (hg : a.eval g = .func (.func gf) #[] lb) (eg : ∀ args w, (callFunc gf args).run P w = .ok (.enter gf args) w)
    {X : Nat → Prop} {H : Nat → Nat → Array Value → World → Prop} {row : Array Value → Nat → Prop} {Go S Sp : Nat → Prop} (hseq : SeqX P gf lb X H row Go S Sp w)
    (hX : ∀ b, X b → b < w.heap.size) (hH : ∀ k args W W', H (w.heap.size + 2) k args W → But (fun b => b < w.heap.size + 2) W W' → H (w.heap.size + 2) k args W')
    (hrow : ∀ k args W b, H (w.heap.size + 2) k args W → row args b → w.heap.size + 2 ≤ b) (p1 p2 q1 : Nat) (hps : ps = #[p1, p2]) (hargs : ∀ k args W, H (w.heap.size + 2) k args W → ∃ x v, args = #[x, v])
    (I : Nat → World → Prop) (Ix : Code → Nat → World → Prop) (hI : LowJ w.heap.size I) (hIx : ∀ c, LowJ w.heap.size (Ix c)) (h0 : I 0 w)
    (hassign : ∀ (l : Nat) (x v : Value) (W : World) (K : Act → World → Prop), K { tmps := ((a.tmps.setIfInBounds p1 x).setIfInBounds p2 v).setIfInBounds q1 x, defers := [] } W →
      assign.wpIn (Fence.wide.inRound l) (n - 1 - 1) P (Exit.then K (fun _ _ _ => False)) { tmps := (a.tmps.setIfInBounds p1 x).setIfInBounds p2 v, defers := [] } W)
    (hbody : ∀ (l k : Nat) (x v : Value) (W : World), w.heap.size + 2 ≤ W.heap.size → I k W → H (w.heap.size + 2) k #[x, v] W → body.wpIn (Fence.wide.inRound l) (n - 1 - 1) P (postX Go X row #[x, v] I Ix k W) { tmps := ((a.tmps.setIfInBounds p1 x).setIfInBounds p2 v).setIfInBounds q1 x, defers := [] } W)
    (hdone : ∀ (k : Nat) (W : World), S k → I k W → W.heap[w.heap.size]? = some (.deferred (some [])) → Q .normal { a with defers := { target := .collected w.heap.size, args := #[] } :: a.defers } W)
    (hstop : ∀ (c : Code) (k : Nat) (W : World), Sp k → Ix c k W → W.heap[w.heap.size]? = some (.deferred (some [])) → c.wpIn Fence.wide n P Q { a with defers := { target := .collected w.heap.size, args := #[] } :: a.defers } W) :
    (Code.rangeFunc g ps assign body).wpIn Fence.wide n P Q a w := by
  subst hps
  refine wpIn_range hg eg hseq hX hH hrow (fun k args W h => by obtain ⟨x, v, rfl⟩ := hargs k args W h; rfl) I Ix hI hIx h0
    (fun args a' _ => ∀ x v, args = #[x, v] → a' = { tmps := ((a.tmps.setIfInBounds p1 x).setIfInBounds p2 v).setIfInBounds q1 x, defers := [] }) (fun _ _ _ _ h _ => h) ?_ ?_ hdone hstop
  · intro l k args W K _ _ hh hK
    obtain ⟨x, v, rfl⟩ := hargs k args W hh
    have := hassign l x v W K (hK _ _ (Below.refl _ _) (fun x' v' e => by simp at e; obtain ⟨rfl, rfl⟩ := e; rfl))
    simpa using this
  · intro l k args a' W hs hi hh hax
    obtain ⟨x, v, rfl⟩ := hargs k args W hh
    rw [hax x v rfl]
    exact hbody l k x v W hs hi hh
/-- the world in which the groups' iterator has its variables -/
def Sm.grpW (w : World) (A : Option Addr) (n c : Nat) (wide size : Int) : World := ((w.alloc (.cells #[.slice A n c] 0x38)).alloc (.cells #[.int .i64 wide] 3)).alloc (.cells #[.int .i64 size] 3)
set_option maxHeartbeats 400000 in
theorem Sm.groups_any (n c : Nat) (A : Option Addr) (wide size : Int) (w : World) : Calls Tryz.prog 50 #[.slice A n c, .int .i64 wide, .int .i64 size] w fun e w' =>
    e = .returned (.func (.func 73) #[] #[.pointer (some ⟨w.heap.size, 0, none⟩), .pointer (some ⟨w.heap.size + 1, 0, none⟩), .pointer (some ⟨w.heap.size + 1 + 1, 0, none⟩)]) ∧ grpW w A n c wide size = w' := by
  have hmf : ∀ (fn : Fn) (first cap : Array Value) (w : World), (Instr.makeFunc fn first cap).run Tryz.prog w = .ok (.func fn first cap) w := fun _ _ _ _ => rfl
  go_enter Tryz.func50, Tryz.ntmps50
  go_wp2
  go_ret
  exact ⟨rfl, rfl⟩
theorem Sm.grpW_below (w : World) (A : Option Addr) (n c : Nat) (wide size : Int) : Below w.heap.size w (grpW w A n c wide size) := (((Below.refl _ w).alloc (Nat.le_refl _) _).alloc (by simp) _).alloc (by simp; omega) _
theorem Sm.grpW_size (w : World) (A : Option Addr) (n c : Nat) (wide size : Int) : (grpW w A n c wide size).heap.size = w.heap.size + 1 + 1 + 1 := by simp [grpW]
theorem Sm.grpW_cap (w : World) (X : Nat → Prop) (A : Option Addr) (n c : Nat) (l : List (BitVec 8)) (wide size : Nat) (hX : ∀ b, X b → b < w.heap.size) (hr : Rds w X A (l.map byteCell)) : CapG (grpW w A n c wide size) X w.heap.size (w.heap.size + 1) (w.heap.size + 1 + 1) A n c l wide size := by
  have hs := grpW_size w A n c wide size
  refine ⟨?_, ?_, ?_, fun b hb => ?_, by omega, by omega, by omega, ?_⟩
  · unfold grpW
    rw [World.cell?_alloc_lt _ _ _ (by simp; omega), World.cell?_alloc_lt _ _ _ (by simp)]
    simp [World.cell?_alloc_new]
  · unfold grpW
    rw [World.cell?_alloc_lt _ _ _ (by simp)]
    have := World.cell?_alloc_new (w.alloc (.cells #[.slice A n c] 0x38)) #[.int .i64 (wide : Int)] 3 0
    rw [World.size_alloc] at this
    exact this
  · have := World.cell?_alloc_new ((w.alloc (.cells #[.slice A n c] 0x38)).alloc (.cells #[.int .i64 (wide : Int)] 3)) #[.int .i64 (size : Int)] 3 0
    rw [World.size_alloc, World.size_alloc] at this
    exact this
  · have := hX b hb
    omega
  · exact hr.but (But.of_all (grpW_below w A n c wide size) (fun _ => False)) (fun b e => e.elim)
/-- how spelled stands behind k groups -/
structure Sm.SpI (base : Nat) (w5 W : World) (Db Rb N k : Nat) (l : List (BitVec 8)) : Prop where
  db : Blk W Db 0x38 #[.slice (some ⟨Rb, 0, none⟩) k N]
  own : W.ownsRow base 5 1 (.slice (some ⟨Rb, 0, none⟩) k N) k ((l.take k).map byteCell)
  but : But (fun b => b = Db ∨ b = Rb) w5 W
def Sm.signsB : ByteArray := ⟨#[97, 98, 99, 100, 101, 102, 103, 104, 105, 106, 107, 108, 109, 110, 111, 112, 113, 114, 115, 116, 117, 118, 119, 120, 121, 122, 50, 51, 52, 53, 54, 55]⟩
theorem Sm.signs_v : ∀ k : Fin 32, (((({ data := #[97, 98, 99, 100, 101, 102, 103, 104, 105, 106, 107, 108, 109, 110, 111, 112, 113, 114, 115, 116, 117, 118, 119, 120, 121, 122, 50, 51, 52, 53, 54, 55] } : ByteArray)[k.val]'(by exact k.isLt)).toNat : Nat) : Int) = ib (sgn k.val) := by decide +kernel
theorem Sm.signs_at (k : Nat) (h : k < 32) (w : World) : (Instr.index 9 (.string { data := #[97, 98, 99, 100, 101, 102, 103, 104, 105, 106, 107, 108, 109, 110, 111, 112, 113, 114, 115, 116, 117, 118, 119, 120, 121, 122, 50, 51, 52, 53, 54, 55] }) (.int .u8 (k : Int))).run Tryz.prog w = .ok (.int .u8 (ib (sgn k))) w := by
  have hs : ({ data := #[97, 98, 99, 100, 101, 102, 103, 104, 105, 106, 107, 108, 109, 110, 111, 112, 113, 114, 115, 116, 117, 118, 119, 120, 121, 122, 50, 51, 52, 53, 54, 55] } : ByteArray).size = 32 := rfl
  rw [run_index_string _ _ _ _ _ Tryz.underlying9, dif_pos ⟨by omega, by rw [hs]; omega⟩]
  have hv := signs_v ⟨k, h⟩
  simp only [Int.toNat_natCast]
  rw [← hv]
set_option maxRecDepth 100000 in
set_option maxHeartbeats 4000000 in
theorem Sm.Spell_any (n c : Nat) (A : Option Addr) (b : List (BitVec 8)) (w : World) (hb : b.length = n) (hn : n ≤ 100000) (hr : Rd w w.heap.size A b) :
    Calls Tryz.prog 26 #[.slice A n c] w fun e w' => e = .returned (.string (strB (spellS b))) ∧ Below w.heap.size w w' := by
  obtain ⟨i0, hi, hz0, hz1, hz2⟩ := info_parts info5
  obtain ⟨N, hN⟩ : ∃ N, cntW 8 5 n = N := ⟨_, rfl⟩
  have hN2 : (8 * n + 4) / 5 = N := hN
  have HQ : Hid (((n : Int) * 8 + 5 - 1) / 5 = (N : Int)) := Lib.hid (by omega)
  refine (callsIn_wide (n := 3)).1 ?_
  refine callsIn_of_wp_marks Tryz.func26 rfl trivial ?_ rfl
  simp only [Tryz.ntmps26, List.size_toArray, List.length_cons, List.length_nil, Nat.reduceAdd, Nat.reduceSub, Array.replicate_succ, Array.replicate_zero, List.push_toArray, List.append_toArray, List.nil_append, List.cons_append]
  gi_wp2_with (gi_at_make; refine wpListIn_make_own _ rfl _ _ 0x38 rfl w.heap.size 5 i0 (.int .u8 0) 1 Tryz.underlying56 hi hz0 hz1 .i64 .i64 _ N rfl rfl HQ.out (by rw [hz2]; omega) (by unfold maxLen; omega) (Nat.le_refl _) ?_; intro w2 hown2 hg2)
  obtain ⟨Db, hDb⟩ : ∃ b, w2.heap.size = b := ⟨_, rfl⟩
  obtain ⟨w3, hw3⟩ : ∃ v, w2.alloc (.cells #[.slice (some ⟨w.heap.size, 0, none⟩) 0 N] 0x38) = v := ⟨_, rfl⟩
  have hb2 : Below w.heap.size w w2 := (Below.refl _ _).grown hg2 (Nat.le_refl _) (fun g e => by cases e)
  have hD3 : Blk w3 Db 0x38 #[.slice (some ⟨w.heap.size, 0, none⟩) 0 N] := by rw [← hw3, ← hDb]; exact Blk.new w2 0x38 _
  have ho3 : w3.ownsRow w.heap.size 5 1 (.slice (some ⟨w.heap.size, 0, none⟩) 0 N) 0 [] := by rw [← hw3]; exact own_below hown2 ((Below.refl _ _).alloc (Nat.le_refl _) _)
  have hb3 : Below w.heap.size w w3 := by rw [← hw3]; exact hb2.alloc hb2.size _
  have hrl : w.heap.size < w2.heap.size := (hown2.lt _ rfl).2
  obtain ⟨Rb, hRb⟩ : ∃ b, w.heap.size = b := ⟨_, rfl⟩
  have hRl3 : Rb < w3.heap.size := by rw [← hRb]; exact (ho3.lt _ rfl).2
  have hRD : Rb ≠ Db := by rw [← hRb, ← hDb]; omega
  have hRDl : Rb ≤ Db := by rw [← hRb, ← hDb]; omega
  have hDl3 := hD3.lt
  have hrd3 : Rds w3 (fun b => b = Db ∨ b = Rb) A (b.map byteCell) := fun h0 => by
    obtain ⟨pb, off, e, hlt, hc⟩ := hr (by simpa using h0)
    refine ⟨pb, off, e, by omega, by rintro (e | e) <;> omega, fun j v hj => ?_⟩
    rw [List.getElem?_map] at hj
    obtain ⟨x, hx, rfl⟩ := Option.map_eq_some_iff.1 hj
    exact (hb3.cell (p := ⟨pb, off + j, none⟩) hlt).trans (hc j x hx)
  have hXl : ∀ b, (b = Db ∨ b = Rb) → b < w3.heap.size := by rintro b (rfl | rfl) <;> omega
  have hcap := grpW_cap w3 (fun b => b = Db ∨ b = Rb) A n c b 8 5 hXl hrd3
  rw [hw3, hDb]
  gi_wp2_with ((try refine ⟨trivial, ?_⟩); gi_at_call 50; refine (callsIn_wide.2 (groups_any n c A 8 5 w3)).mono ?_; rintro e w5 ⟨rfl, hw5⟩)
  have hs5 : w3.heap.size + 3 = w5.heap.size := by rw [← hw5, grpW_size]
  rw [show (8 : Int) = ((8 : Nat) : Int) from rfl, show (5 : Int) = ((5 : Nat) : Int) from rfl] at hw5
  have hb35 : Below w3.heap.size w3 w5 := by rw [← hw5]; exact grpW_below _ _ _ _ _ _
  rw [hw5] at hcap
  have hseq := groups_seq w3.heap.size (w3.heap.size + 1) (w3.heap.size + 1 + 1) A n c b 8 5 w5 (fun b => b = Db ∨ b = Rb) hcap hb (by omega) (by omega) (by omega) (by omega) (by omega) (nat8_lt b)
  have hb05 : Below w.heap.size w w5 := hb3.trans (hb35.mono hb3.size)
  have hI0 : SpI w.heap.size w5 w5 Db Rb N 0 (spellS b) := ⟨by rw [← hRb]; exact hD3.keep hb35, by rw [← hRb]; exact own_below ho3 hb35, But.refl _ _⟩
  have HSEQ := Lib.hid hseq
  have HI0 := Lib.hid hI0
  have HB05 := Lib.hid hb05
  have HBL := Lib.hid hb
  have HCN := Lib.hid hN
  have HRB := Lib.hid hRb
  have hRl5 : Rb < w5.heap.size := by omega
  have hDl5 : Db < w5.heap.size := by omega
  clear hseq hI0 hb05 hb35 hcap hXl hrd3 hD3 ho3 hb3 hrl hw3 hDb hb2 hown2 hg2 hr hb hN hw5 hN2
  gi_wp2
  refine wpIn_range21 (gf := 73) (lb := #[.pointer (some ⟨w3.heap.size, 0, none⟩), .pointer (some ⟨w3.heap.size + 1, 0, none⟩), .pointer (some ⟨w3.heap.size + 1 + 1, 0, none⟩)]) rfl (enters_of Tryz.func73 (by kernel_rfl) rfl)
    HSEQ.out (by rintro b (rfl | rfl) <;> omega) ?hH ?hrow 14 15 4 rfl ?hps
    (fun k W => SpI w.heap.size w5 W Db Rb N k (spellS b)) (fun _ _ _ => False) ?hI ?hIx HI0.out ?assign ?body ?done ?stop
  case hH => exact fun k args W W' hh _ => hh
  case hrow => exact fun k args W b _ e => e.elim
  case hps =>
    rintro k args W ⟨_, rfl⟩
    exact ⟨_, _, rfl⟩
  case hI =>
    rintro k W W' ⟨i1, i2, i3⟩ hb
    exact ⟨i1.but (But.of_below hb) (by omega), (But.of_below hb).row i2 (fun g e => by cases e; exact Nat.not_le.2 hRl5), i3.trans (But.of_below hb) (fun b hb' e => absurd hb' (Nat.not_lt.2 e))⟩
  case hIx => exact fun c k W W' h _ => h.elim
  case stop => exact fun c k W _ h _ => h.elim
  case assign =>
    intro l0 x v W K hK
    gi_wp2
    exact hK
  case body =>
    rintro l0 k x v W hsz ⟨i1, i2, i3⟩ ⟨hk, e1⟩
    simp only [Array.mk.injEq, List.cons.injEq, and_true] at e1
    obtain ⟨rfl, rfl⟩ := e1
    have hyl := valW_lt 8 (nat8 b) (5 * k) 5
    have hsk : (spellS b)[k]? = some (sgn (valW 8 (nat8 b) (5 * k) 5)) := by
      unfold spellS fiveS
      rw [List.getElem?_map, List.getElem?_map, List.getElem?_range hk]
      rfl
    obtain ⟨y, hy0⟩ : ∃ y, valW 8 (nat8 b) (5 * k) 5 = y := ⟨_, rfl⟩
    rw [hy0] at hyl hsk
    rw [hy0]
    have hidx := fun (w : World) => signs_at y hyl w
    obtain ⟨q, hq⟩ : ∃ q, sgn y = q := ⟨_, rfl⟩
    rw [hq] at hidx hsk
    have hdb := i1.cell 0
    have hdf := i1.frozen 0
    simp only [List.getElem?_toArray, List.getElem?_cons_zero] at hdb
    have hDW := i1.lt
    have hNk : k < N := by rw [← HCN.out, ← HBL.out]; exact hk
    have HO := Lib.hid i2
    have HBT := Lib.hid i3
    have HD2 := Lib.hid i1
    have HSK := Lib.hid hsk
    clear i1 i2 i3 hk hsk hy0 hq
    have hbtW := HBT.out.size
    gi_wp2
    refine wpIn_round_held (S := fun _ => True) rfl (by kernel_rfl) (by rintro ⟨_, _, h⟩; exact h) trivial (fun hHeld => ?_)
    simp only [List.size_toArray, List.length_cons, List.length_nil, Nat.reduceAdd]
    have hdb7 : W.drew.cell? ⟨Db, 0, none⟩ = some (.slice (some ⟨Rb, 0, none⟩) k N) := hdb
    have hdf7 : W.drew.frozen? ⟨Db, 0, none⟩ = false := hdf
    have HO7 := Lib.hid (HO.out.drew)
    have HD7 := Lib.hid (HD2.out.drew)
    have HB7 : Hid (But (fun b => b = Db ∨ b = Rb) W W.drew) := Lib.hid (But.refl _ W).drew
    have HS7 : Hid (W.drew.heap.size = W.heap.size) := Lib.hid rfl
    obtain ⟨W7, hW7⟩ : ∃ V, W.drew = V := ⟨_, rfl⟩
    rw [hW7] at hdb7 hdf7 HO7 HD7 HB7 HS7 ⊢
    clear hW7 hdb hdf
    refine wpAnyH_take (i := 1) (v := .int .u8 (y : Int)) rfl (by kernel_rfl) (by kernel_rfl) (by kernel_rfl) (fun _ _ _ h => h) (Or.inl ⟨by rfl, ?_⟩) trivial ?_
    · intro wx _; go_simp
    try simp only [Act.put]
    refine wpAnyH_take (i := 2) (v := .int .u8 (ib q)) rfl (by kernel_rfl) (by kernel_rfl) (by kernel_rfl) (fun _ _ _ h => h) (Or.inl ⟨by rfl, ?_⟩) trivial ?_
    · intro wx _; go_simp
    try simp only [Act.put]
    refine wpAnyH_ready (rs := [0, 3]) (by kernel_rfl) (by simp) (AllReadyH.cons rfl (fun K hK => ?ca) (AllReadyH.cons rfl (fun K hK => ?cb) AllReadyH.nil))
    case ca =>
      go_simp
      refine hK.out _ _ trivial (fun _ => ?_)
      clear hK K
      try simp only [Act.put]
      refine wpAnyH_ready (rs := [3]) (by kernel_rfl) (by simp) (AllReadyH.cons rfl (fun K hK => ?_) AllReadyH.nil)
      go_simp
      obtain ⟨W8, hW8⟩ : ∃ V, W7.alloc (.cells #[.int .u8 (ib q)] 5) = V := ⟨_, rfl⟩
      have hb78 : Below W7.heap.size W7 W8 := by rw [← hW8]; exact (Below.refl _ _).alloc (Nat.le_refl _) _
      have hlt7 : W7.heap.size < W8.heap.size := by rw [← hW8]; simp
      have hc8 : W8.cell? ⟨W7.heap.size, 0, none⟩ = some (.int .u8 (ib q)) := by rw [← hW8]; exact World.cell?_alloc_new W7 #[.int .u8 (ib q)] 5 0
      have hdl7 : Db < W7.heap.size := HD7.out.lt
      have hrl7 : Rb < W7.heap.size := (HO7.out.lt _ rfl).2
      have HO8 := Lib.hid (own_below HO7.out hb78)
      have HD8 := Lib.hid (HD7.out.keep hb78)
      have HB8 : Hid (But (fun b => b = Db ∨ b = Rb) W W8) := Lib.hid (HB7.out.trans (But.of_all hb78 (fun b => b = Db ∨ b = Rb)) (fun _ _ e => e))
      rw [hW8]
      clear hW8
      refine hK.out _ _ trivial (fun _ => ?_)
      clear hK K
      try simp only [Act.put]
      refine wpAnyH_ready (rs := [4]) (by kernel_rfl) (by simp) (AllReadyH.cons rfl (fun K hK => ?_) AllReadyH.nil)
      rw [if_pos (by rfl)]
      refine oper_append_fit (.tmp 16) (.tmp 19) 0x38 rfl w.heap.size 5 i0 Tryz.underlying56 hi hz1 Rb k N _ rfl HO8.out ⟨W7.heap.size, 0, none⟩ 1 1 [q] rfl rfl (fun j u hj => ?_) (by omega) ?_
      · rcases j with _ | j <;> simp at hj
        subst hj
        exact hc8
      intro w9 hown9 hg9
      have hb89 := But.grown hg9
      have HD9 := Lib.hid (HD8.out.but hb89 (fun e => hRD (Option.some.inj e)))
      have HB9 : Hid (But (fun b => b = Db ∨ b = Rb) W w9) := Lib.hid (HB8.out.trans hb89 (fun b _ e => by cases e; exact .inr rfl))
      have HO9 := Lib.hid hown9
      clear hown9 hg9 hb89 hc8 hb78 hdb7 hdf7
      have hdb9 := HD9.out.cell 0
      have hdf9 := HD9.out.frozen 0
      simp only [List.getElem?_toArray, List.getElem?_cons_zero] at hdb9
      refine hK.out _ _ trivial (fun _ => ?_)
      clear hK K
      try simp only [Act.put]
      refine wpAnyH_ready (rs := [5]) (by kernel_rfl) (by simp) (AllReadyH.cons rfl (fun K hK => ?_) AllReadyH.nil)
      go_simp
      refine hK.out _ _ trivial (fun _ => ?_)
      clear hK K
      try simp only [Act.put]
      refine wpAnyH_done (by kernel_rfl) ?_ _
      try simp only [List.getElem_toArray, List.getElem_cons_succ, List.getElem_cons_zero]
      have hsd : But (fun b => b = Db) w9 (w9.setCell ⟨Db, 0, none⟩ (.slice (some ⟨Rb, 0, none⟩) (k + 1) N)) := (But.refl _ w9).set _ _ (.inl rfl)
      have hblk := heap_setCell_same w9 Db 0 _ 0x38 (.slice (some ⟨Rb, 0, none⟩) (k + 1) N) HD9.out
      simp only [List.setIfInBounds_toArray, List.set_cons_zero] at hblk
      have hrow := hsd.row HO9.out (fun g e => by cases e; exact hRD)
      have hfin := HB9.out.trans hsd (fun b _ e => .inl e)
      have htk : ((spellS b).take k).map byteCell ++ [q].map byteCell = ((spellS b).take (k + 1)).map byteCell := by
        rw [← List.map_append, List.take_add_one, HSK.out]
        rfl
      rw [htk] at hrow
      have HFIN : Hid (SpI w.heap.size w5 (w9.setCell ⟨Db, 0, none⟩ (.slice (some ⟨Rb, 0, none⟩) (k + 1) N)) Db Rb N (k + 1) (spellS b)) := Lib.hid ⟨hblk, hrow, HBT.out.trans hfin (fun _ _ e => e)⟩
      have HF2 := Lib.hid hfin
      clear hsd hblk hrow hfin htk
      obtain ⟨V9, hV9⟩ : ∃ V, w9.setCell ⟨Db, 0, none⟩ (.slice (some ⟨Rb, 0, none⟩) (k + 1) N) = V := ⟨_, rfl⟩
      rw [hV9] at HFIN HF2 ⊢
      clear hV9 hdb9 hdf9 HD9 HB9 HO9 HO8 HD8 HB8 HO7 HD7 HB7 hidx
      gi_wp2
      exact ⟨trivial, HF2.out.mono (fun b _ e => .inl e), HFIN.out⟩
    case cb =>
      go_simp
      have hcl : ∀ wx, Below W7.heap.size W7 wx → wx.cell? ⟨Db, 0, none⟩ = some (.slice (some ⟨Rb, 0, none⟩) k N) := fun wx hb => (hb.cell (p := ⟨Db, 0, none⟩) HD7.out.lt).trans hdb7
      refine hK.out _ _ trivial (fun _ => ?_)
      clear hK K
      try simp only [Act.put]
      refine wpAnyH_ready (rs := [0]) (by kernel_rfl) (by simp) (AllReadyH.cons rfl (fun K hK => ?_) AllReadyH.nil)
      have hcl8 := hcl _ ((Below.refl _ W7).alloc (Nat.le_refl _) (.cells #[.int .u8 (ib q)] 5))
      go_simp
      clear hcl8 hcl
      obtain ⟨W8, hW8⟩ : ∃ V, W7.alloc (.cells #[.int .u8 (ib q)] 5) = V := ⟨_, rfl⟩
      have hb78 : Below W7.heap.size W7 W8 := by rw [← hW8]; exact (Below.refl _ _).alloc (Nat.le_refl _) _
      have hlt7 : W7.heap.size < W8.heap.size := by rw [← hW8]; simp
      have hc8 : W8.cell? ⟨W7.heap.size, 0, none⟩ = some (.int .u8 (ib q)) := by rw [← hW8]; exact World.cell?_alloc_new W7 #[.int .u8 (ib q)] 5 0
      have hdl7 : Db < W7.heap.size := HD7.out.lt
      have hrl7 : Rb < W7.heap.size := (HO7.out.lt _ rfl).2
      have HO8 := Lib.hid (own_below HO7.out hb78)
      have HD8 := Lib.hid (HD7.out.keep hb78)
      have HB8 : Hid (But (fun b => b = Db ∨ b = Rb) W W8) := Lib.hid (HB7.out.trans (But.of_all hb78 (fun b => b = Db ∨ b = Rb)) (fun _ _ e => e))
      rw [hW8]
      clear hW8
      refine hK.out _ _ trivial (fun _ => ?_)
      clear hK K
      try simp only [Act.put]
      refine wpAnyH_ready (rs := [4]) (by kernel_rfl) (by simp) (AllReadyH.cons rfl (fun K hK => ?_) AllReadyH.nil)
      rw [if_pos (by rfl)]
      refine oper_append_fit (.tmp 16) (.tmp 19) 0x38 rfl w.heap.size 5 i0 Tryz.underlying56 hi hz1 Rb k N _ rfl HO8.out ⟨W7.heap.size, 0, none⟩ 1 1 [q] rfl rfl (fun j u hj => ?_) (by omega) ?_
      · rcases j with _ | j <;> simp at hj
        subst hj
        exact hc8
      intro w9 hown9 hg9
      have hb89 := But.grown hg9
      have HD9 := Lib.hid (HD8.out.but hb89 (fun e => hRD (Option.some.inj e)))
      have HB9 : Hid (But (fun b => b = Db ∨ b = Rb) W w9) := Lib.hid (HB8.out.trans hb89 (fun b _ e => by cases e; exact .inr rfl))
      have HO9 := Lib.hid hown9
      clear hown9 hg9 hb89 hc8 hb78 hdb7 hdf7
      have hdb9 := HD9.out.cell 0
      have hdf9 := HD9.out.frozen 0
      simp only [List.getElem?_toArray, List.getElem?_cons_zero] at hdb9
      refine hK.out _ _ trivial (fun _ => ?_)
      clear hK K
      try simp only [Act.put]
      refine wpAnyH_ready (rs := [5]) (by kernel_rfl) (by simp) (AllReadyH.cons rfl (fun K hK => ?_) AllReadyH.nil)
      go_simp
      refine hK.out _ _ trivial (fun _ => ?_)
      clear hK K
      try simp only [Act.put]
      refine wpAnyH_done (by kernel_rfl) ?_ _
      try simp only [List.getElem_toArray, List.getElem_cons_succ, List.getElem_cons_zero]
      have hsd : But (fun b => b = Db) w9 (w9.setCell ⟨Db, 0, none⟩ (.slice (some ⟨Rb, 0, none⟩) (k + 1) N)) := (But.refl _ w9).set _ _ (.inl rfl)
      have hblk := heap_setCell_same w9 Db 0 _ 0x38 (.slice (some ⟨Rb, 0, none⟩) (k + 1) N) HD9.out
      simp only [List.setIfInBounds_toArray, List.set_cons_zero] at hblk
      have hrow := hsd.row HO9.out (fun g e => by cases e; exact hRD)
      have hfin := HB9.out.trans hsd (fun b _ e => .inl e)
      have htk : ((spellS b).take k).map byteCell ++ [q].map byteCell = ((spellS b).take (k + 1)).map byteCell := by
        rw [← List.map_append, List.take_add_one, HSK.out]
        rfl
      rw [htk] at hrow
      have HFIN : Hid (SpI w.heap.size w5 (w9.setCell ⟨Db, 0, none⟩ (.slice (some ⟨Rb, 0, none⟩) (k + 1) N)) Db Rb N (k + 1) (spellS b)) := Lib.hid ⟨hblk, hrow, HBT.out.trans hfin (fun _ _ e => e)⟩
      have HF2 := Lib.hid hfin
      clear hsd hblk hrow hfin htk
      obtain ⟨V9, hV9⟩ : ∃ V, w9.setCell ⟨Db, 0, none⟩ (.slice (some ⟨Rb, 0, none⟩) (k + 1) N) = V := ⟨_, rfl⟩
      rw [hV9] at HFIN HF2 ⊢
      clear hV9 hdb9 hdf9 HD9 HB9 HO9 HO8 HD8 HB8 HO7 HD7 HB7 hidx
      gi_wp2
      exact ⟨trivial, HF2.out.mono (fun b _ e => .inl e), HFIN.out⟩
  case done =>
    rintro k W rfl ⟨i1, i2, i3⟩ hD
    rw [HCN.out] at i1 i2
    rw [List.take_of_length_le (by rw [spellS_length, HBL.out, HCN.out]; exact Nat.le_refl _)] at i2
    have hdc := i1.cell 0
    simp only [List.getElem?_toArray, List.getElem?_cons_zero] at hdc
    have hbw : Below w.heap.size w W := HB05.out.trans ((i3.to_below (n := w.heap.size) (by omega) (fun b e => by rcases e with e | e <;> omega)).mono (Nat.le_refl _))
    have hcv := conv_rd (c := N) (l := spellS b) (by rw [spellS_length, HBL.out, HCN.out]) (Rd.of_own i2 (Nat.le_refl _))
    have HBW := Lib.hid hbw
    have HDD := Lib.hid hD
    clear hbw hD i1 i2 i3
    gi_wp2
    have hput := put_but W w5.heap.size (.deferred none)
    refine retM1 (D := w5.heap.size) (v := .string (strB (spellS b))) rfl HDD.out ?_ ⟨rfl, But.below HBW.out hput (fun b e => by have e : b = w5.heap.size := e; omega)⟩
    simp [results, Tryz.results26, go_sem]
end Go.Proofs
namespace Go.Proofs
open Go.RowKit Sm
attribute [local go_sem] Oper.semAt_some
set_option maxHeartbeats 1000000 in
/-- **the law of a loop of two variables, where a round may give up** -/
theorem Sm.wpE_range2P {P : Program} {g : Operand} {ps : Array Tmp} {assign body : Code} {Q : Exit → Act → World → Prop} {a : Act} {w : World} (n : Nat) {gf : Nat} {lb : Array Value}
    (hg : a.eval g = .func (.func gf) #[] lb) (eg : ∀ args w, (callFunc gf args).run P w = .ok (.enter gf args) w)
    {X : Nat → Prop} {H : Nat → Nat → Array Value → World → Prop} {row : Array Value → Nat → Prop} {Go S Sp : Nat → Prop} (hseq : SeqXP P gf lb X H row Go S Sp w)
    (hX : ∀ b, X b → b < w.heap.size) (hH : ∀ k args W W', H (w.heap.size + 2) k args W → But (fun b => b < w.heap.size + 2) W W' → H (w.heap.size + 2) k args W')
    (hrow : ∀ k args W b, H (w.heap.size + 2) k args W → row args b → w.heap.size + 2 ≤ b) (p1 p2 q1 q2 : Nat) (hps : ps = #[p1, p2]) (hargs : ∀ k args W, H (w.heap.size + 2) k args W → ∃ x v, args = #[x, v])
    (I : Nat → World → Prop) (Ix : Code → Nat → World → Prop) (Ip : List PanicEntry → World → Prop) (hI : LowJ w.heap.size I) (hIx : ∀ c, LowJ w.heap.size (Ix c)) (h0 : I 0 w)
    (hassign : ∀ (l : Nat) (x v : Value) (W : World) (K : Act → World → Prop), K { tmps := (((a.tmps.setIfInBounds p1 x).setIfInBounds p2 v).setIfInBounds q1 x).setIfInBounds q2 v, defers := [] } W →
      assign.wpIn (Fence.wide.inRound l) (n - 1 - 1) P (Exit.then K (fun _ _ _ => False)) { tmps := (a.tmps.setIfInBounds p1 x).setIfInBounds p2 v, defers := [] } W)
    (hbody : ∀ (l k : Nat) (x v : Value) (W : World), w.heap.size + 2 ≤ W.heap.size → I k W → H (w.heap.size + 2) k #[x, v] W → body.wpIn (Fence.wide.inRound l) (n - 1 - 1) P (postXP Go X row #[x, v] I Ix Ip k W) { tmps := (((a.tmps.setIfInBounds p1 x).setIfInBounds p2 v).setIfInBounds q1 x).setIfInBounds q2 v, defers := [] } W)
    (hdone : ∀ (k : Nat) (W : World), S k → I k W → W.heap[w.heap.size]? = some (.deferred (some [])) → Q .normal { a with defers := { target := .collected w.heap.size, args := #[] } :: a.defers } W)
    (hstop : ∀ (c : Code) (k : Nat) (W : World), Sp k → Ix c k W → W.heap[w.heap.size]? = some (.deferred (some [])) → c.wpIn Fence.wide n P Q { a with defers := { target := .collected w.heap.size, args := #[] } :: a.defers } W)
    (hpanic : ∀ (ch : List PanicEntry) (W : World), Ip ch W → W.heap[w.heap.size]? = some (.deferred (some [])) → Q (.panic ch) { a with defers := { target := .collected w.heap.size, args := #[] } :: a.defers } W) :
    WpE P (Code.rangeFunc g ps assign body) Q a w := by
  subst hps
  refine wpIn_rangeP (n := n) hg eg hseq hX hH hrow (fun k args W h => by obtain ⟨x, v, rfl⟩ := hargs k args W h; rfl) I Ix Ip hI hIx h0
    (fun args a' _ => ∀ x v, args = #[x, v] → a' = { tmps := (((a.tmps.setIfInBounds p1 x).setIfInBounds p2 v).setIfInBounds q1 x).setIfInBounds q2 v, defers := [] }) (fun _ _ _ _ h _ => h) ?_ ?_ hdone hstop hpanic
  · intro l k args W K _ _ hh hK
    obtain ⟨x, v, rfl⟩ := hargs k args W hh
    have := hassign l x v W K (hK _ _ (Below.refl _ _) (fun x' v' e => by simp at e; obtain ⟨rfl, rfl⟩ := e; rfl))
    simpa using this
  · intro l k args a' W hs hi hh hax
    obtain ⟨x, v, rfl⟩ := hargs k args W hh
    rw [hax x v rfl]
    exact hbody l k x v W hs hi hh
def Sm.sgnV (u : UInt8) : Int := match sgnN u.toBitVec with
  | some k => k
  | none => -1
theorem Sm.idx_sgn (u : UInt8) : Lib.indexByte ({ data := #[97, 98, 99, 100, 101, 102, 103, 104, 105, 106, 107, 108, 109, 110, 111, 112, 113, 114, 115, 116, 117, 118, 119, 120, 121, 122, 50, 51, 52, 53, 54, 55] } : ByteArray).data.toList u = sgnV u := by
  have h : ∀ k : Fin 256, Lib.indexByte ({ data := #[97, 98, 99, 100, 101, 102, 103, 104, 105, 106, 107, 108, 109, 110, 111, 112, 113, 114, 115, 116, 117, 118, 119, 120, 121, 122, 50, 51, 52, 53, 54, 55] } : ByteArray).data.toList (UInt8.ofNat k.val) = sgnV (UInt8.ofNat k.val) := by decide +kernel
  have := h ⟨u.toNat, u.toNat_lt⟩
  simpa using this
theorem Sm.index_any (u : UInt8) (w : World) : Calls Tryz.prog 65 #[.string { data := #[97, 98, 99, 100, 101, 102, 103, 104, 105, 106, 107, 108, 109, 110, 111, 112, 113, 114, 115, 116, 117, 118, 119, 120, 121, 122, 50, 51, 52, 53, 54, 55] }, .int .u8 (u.toNat : Int)] w fun e w' => e = .returned (.int .i64 (sgnV u)) ∧ w = w' := by
  refine (Tryz.strings_IndexByte _ _ w).mono ?_
  rintro e w' ⟨rfl, rfl⟩
  refine ⟨?_, rfl⟩
  rw [← idx_sgn]
  simp
theorem Sm.sB_get (s : ByteArray) (k : Nat) (hk : k < s.size) : (sB s)[k]? = some s[k].toBitVec := by
  unfold sB
  rw [List.getElem?_map, List.getElem?_eq_getElem (by simpa using hk)]
  rfl
/-- what unspelled answers -/
def Sm.UnPost (l : List (BitVec 8)) (w : World) (e : Ending) (w' : World) : Prop :=
  Below w.heap.size w w' ∧ match unspellS l with
  | some b => ∃ v, e = .returned v ∧ w'.ownsRow w.heap.size 5 1 v b.length (b.map byteCell)
  | none => e = .panicked [pE 160]
theorem Sm.fivesOf_snoc {l : List (BitVec 8)} {k x : Nat} {xs : List Nat} {c : BitVec 8} (h : fivesOf (l.take k) = some xs) (hc : l[k]? = some c) (hx : sgnN c = some x) : fivesOf (l.take (k + 1)) = some (xs ++ [x]) := by
  rw [List.take_add_one, hc]
  exact fivesOf_append _ _ _ _ h (by simp [fivesOf, hx])
def Sm.b8 (xs : List Nat) : List (BitVec 8) := xs.map (BitVec.ofNat 8)
theorem Sm.nat8_b8 {xs : List Nat} (h : ∀ x ∈ xs, x < 32) : nat8 (b8 xs) = xs := by
  unfold nat8 b8
  rw [List.map_map]
  conv => rhs; rw [← List.map_id xs]
  refine List.map_congr_left fun x hx => ?_
  have := h x hx
  simp
  omega
theorem Sm.retP0 {n : Nat} {P : Program} {fn : Func} {R : Ending → World → Prop} {a : Act} {w : World} {ch : List PanicEntry} (hd : a.defers = []) (hR : R (.panicked ch) w) : bodyPostM Fence.wide n P fn R (.panic ch) a w := by
  show LeavesInM Fence.wide n P fn a.tmps R a.defers (.panicking ch) w
  rw [hd]
  exact hR
theorem Sm.u8_small (x : Nat) : IntKind.u8.wrap (x : Int) = ib (BitVec.ofNat 8 x) := by
  unfold ib
  rw [BitVec.toNat_ofNat]
  simp [IntKind.wrap, IntKind.signed, IntKind.bits]
theorem Sm.rds_row {w : World} {base n c : Nat} {A : Option Addr} {l : List (BitVec 8)} (h : w.ownsRow base 5 1 (.slice A n c) n (l.map byteCell)) (S : Nat → Prop) (hS : ∀ g, g < w.heap.size → ¬ S g) : Rds w S A (l.map byteCell) := fun h0 => by
  have hn : 0 < n := by have := h.1; omega
  obtain ⟨g, cap, hv, hb, hlt⟩ := h.form hn
  obtain rfl : A = some ⟨g, 0, none⟩ := by injection hv
  refine ⟨g, 0, rfl, hlt, hS g hlt, fun j v hj => ?_⟩
  have hjl := (List.getElem?_eq_some_iff.1 hj).1
  rw [Nat.zero_add, h.cellAt j (by have := h.1; omega), hj]
/-- how the bytes stand behind k groups -/
structure Sm.UnI (base : Nat) (w5 W : World) (Db Rb M k : Nat) (xs : List Nat) : Prop where
  le : k ≤ M
  db : Blk W Db 0x38 #[.slice (some ⟨Rb, 0, none⟩) k M]
  own : W.ownsRow base 5 1 (.slice (some ⟨Rb, 0, none⟩) k M) k (((byteS xs).take k).map byteCell)
  but : But (fun b => b = Db ∨ b = Rb) w5 W
/-- how all stands where the loop is left -/
def Sm.UnX (base : Nat) (w5 : World) (c : Code) (W : World) (Db Rb M : Nat) (xs : List Nat) : Prop := c = .exit 2 ∧ restS xs = true ∧ UnI base w5 W Db Rb M M xs
/-- how all stands where it gives up -/
def Sm.UnP (w5 : World) (ch : List PanicEntry) (W : World) (Db Rb : Nat) (xs : List Nat) : Prop := ch = [pE 160] ∧ restS xs = false ∧ But (fun b => b = Db ∨ b = Rb) w5 W
set_option maxRecDepth 100000 in
set_option maxHeartbeats 4000000 in
theorem Sm.unspelled_any (s : ByteArray) (w : World) (hs : s.size ≤ 100000) : Calls Tryz.prog 36 #[.string s] w (UnPost (sB s) w) := by
  obtain ⟨i0, hi, hz0, hz1, hz2⟩ := info_parts info5
  obtain ⟨n, hn⟩ : ∃ n, s.size = n := ⟨_, rfl⟩
  have hs' : n ≤ 100000 := by omega
  have hln : (sB s).length = n := by rw [sB_length, hn]
  have HLN := Lib.hid hln
  have HN := Lib.hid hn
  clear hln hs
  refine calls_of_wpE (n := 3) Tryz.func36 rfl ?_
  simp only [Tryz.ntmps36, List.size_toArray, List.length_cons, List.length_nil, Nat.reduceAdd, Nat.reduceSub, Array.replicate_succ, Array.replicate_zero, List.push_toArray, List.append_toArray, List.nil_append, List.cons_append]
  refine wpE_seq (wpE_of ?_)
  go_wp2
  refine wpE_scope (wpE_seq (wpE_of ?_))
  go_wp2_with (at_make; refine wpList_make_own _ rfl _ _ 0x38 rfl w.heap.size 5 i0 (.int .u8 0) 1 Tryz.underlying56 hi hz0 hz1 .i64 .i64 _ n rfl rfl rfl (by rw [hz2]; omega) (by unfold maxLen; omega) (Nat.le_refl _) ?_; intro w2 hown2 hg2)
  have hb2 : Below w.heap.size w w2 := (Below.refl _ _).grown hg2 (Nat.le_refl _) (fun g e => by cases e)
  have HO2 := Lib.hid hown2
  have HB2 := Lib.hid hb2
  clear hown2 hg2 hb2
  refine wpE_seq (wpE_of ?_)
  go_wp2
  go_loopw [3, 14] (fun s3 s14 wr => ∃ (k : Nat) (xs : List Nat) (v : Value), k ≤ n ∧ s14 = .int .i64 (k : Int) ∧ s3 = v ∧ Hid (fivesOf ((sB s).take k) = some xs) ∧ Hid (xs.length = k) ∧ Hid (wr.ownsRow w.heap.size 5 1 v k ((b8 xs).map byteCell)) ∧ Hid (Below w.heap.size w wr)) (fun _ s14 _ => n - (intOf s14).toNat)
  case atStart => exact ⟨0, [], _, by omega, rfl, rfl, Lib.hid rfl, Lib.hid rfl, HO2, HB2⟩
  case round =>
    obtain ⟨wo, rfl⟩ : ∃ wo : World, wo = wr := ⟨_, rfl⟩
    obtain ⟨k, xs, v, hk, rfl, rfl, HX, HXL, HO, HB⟩ := hrel
    clear HO2 HB2
    by_cases hlt : k < n
    · have hls : k < s.size := by rw [HN.out]; exact hlt
      have hsk := sB_get s k hls
      obtain ⟨u, hu⟩ : ∃ u, s[k] = u := ⟨_, rfl⟩
      rw [hu] at hsk
      have HSK := Lib.hid hsk
      have hsz := HB.out.size
      clear hsk
      cases hsg : sgnN u.toBitVec with
      | none =>
        have hsv : sgnV u = -1 := by unfold sgnV; rw [hsg]
        have hix := fun (w : World) => index_any u w
        rw [hsv] at hix
        have HIX := Lib.hid hix
        have HSG := Lib.hid hsg
        clear hsv hsg hix
        go_wp2_with (first
          | (go_at_call 65; (with_reducible refine (HIX.out _).mono ?_); rintro e w3 ⟨rfl, rfl⟩)
          | (go_at_call 31; (with_reducible refine (must_no _ _ _ _ (World.cell?_alloc_new wo #[.bool false] 4 0)).mono ?_); rintro e w4 ⟨rfl, rfl⟩))
        simp only [Exit.noGoto]
        refine retP0 rfl ⟨HB.out.alloc hsz _, ?_⟩
        have hnone : unspellS (sB s) = none := by
          unfold unspellS
          rw [fivesOf_none k _ HSK.out HSG.out]
        rw [hnone]
      | some x =>
        have hx := (sgn_of hsg).1
        have hsv : sgnV u = (x : Int) := by unfold sgnV; rw [hsg]
        have hix := fun (w : World) => index_any u w
        rw [hsv] at hix
        have HIX := Lib.hid hix
        have hx8 := u8_small x
        obtain ⟨q, hq⟩ : ∃ q, BitVec.ofNat 8 x = q := ⟨_, rfl⟩
        rw [hq] at hx8
        have HNX := Lib.hid (fivesOf_snoc HX.out HSK.out hsg)
        have HQ := Lib.hid hq
        have hx0 : (0 : Int) ≤ (x : Int) := by omega
        clear hsv hsg hix hq
        go_upto_region 7 with (first
          | (go_at_call 65; (with_reducible refine (HIX.out _).mono ?_); rintro e w3 ⟨rfl, rfl⟩)
          | (go_at_call 31; (with_reducible refine (must_yes _ _ _ _ (World.cell?_alloc_new wo #[.bool true] 4 0)).mono ?_); rintro e w4 ⟨⟨v4, rfl⟩, rfl⟩))
        obtain ⟨w3, hw3⟩ : ∃ v, wo.alloc (.cells #[.bool true] 4) = v := ⟨_, rfl⟩
        have hb3 : Below w.heap.size w w3 := by rw [← hw3]; exact HB.out.alloc hsz _
        have ho3 : w3.ownsRow w.heap.size 5 1 u3 k ((b8 xs).map byteCell) := by rw [← hw3]; exact own_below HO.out ((Below.refl _ _).alloc (Nat.le_refl _) _)
        have hsz3 := hb3.size
        have HB3 := Lib.hid hb3
        have HO3 := Lib.hid ho3
        rw [hw3]
        clear hb3 ho3 hw3 hsz
        go_wp2_with (at_builtin; refine wpList_append_rd _ rfl (.tmp 25) (.tmp 28) 0x38 rfl w.heap.size 5 i0 _ Tryz.underlying56 hi hz0 hz1 hz2 rfl u3 k _ rfl (own_below HO3.out ((Below.refl _ _).alloc (Nat.le_refl _) _)) (w3.heap.size + 1) (some ⟨w3.heap.size, 0, none⟩) 1 1 [q] rfl rfl (rd_one _ _ rfl _) (by omega) (by simp; omega) ?_; intro v5 w5 hown5 hg5 _)
        have hb8 : (b8 xs).map byteCell ++ [q].map byteCell = (b8 (xs ++ [x])).map byteCell := by
          have e : b8 (xs ++ [x]) = b8 xs ++ [q] := by
            unfold b8
            rw [List.map_append, List.map_cons, List.map_nil, HQ.out]
          rw [e, List.map_append]
        rw [hb8] at hown5
        have hb5 : Below w.heap.size w w5 := (HB3.out.alloc hsz3 _).grown hg5 (by simp; omega) (fun g e => own_ge HO3.out g e)
        exact ⟨⟨k + 1, xs ++ [x], v5, by omega, by go_num, rfl, HNX, Lib.hid (by rw [List.length_append, HXL.out]; rfl), Lib.hid hown5, Lib.hid hb5⟩, by simp [intOf]; omega⟩
    · obtain rfl : k = n := by omega
      have hxl := (fivesOf_some HX.out).2
      have hlf : fivesOf (sB s) = some xs := by
        have := HX.out
        rwa [List.take_of_length_le (by rw [HLN.out]; exact Nat.le_refl _)] at this
      have HLF := Lib.hid hlf
      have HLT := Lib.hid hxl
      clear HX hlf hxl
      go_wp2_with fail
      obtain ⟨M, hM⟩ : ∃ M, 5 * k / 8 = M := ⟨_, rfl⟩
      have HQM : Hid (((k : Int) * 5) / 8 = (M : Int)) := Lib.hid (by omega)
      have HM := Lib.hid hM
      have hMk : M ≤ k := by omega
      clear hM
      have hszo := HB.out.size
      refine wpE_seq (wpE_of ?_)
      go_wp2_with (at_make; refine wpList_make_own _ rfl _ _ 0x38 rfl w.heap.size 5 i0 (.int .u8 0) 1 Tryz.underlying56 hi hz0 hz1 .i64 .i64 _ M rfl rfl HQM.out (by rw [hz2]; omega) (by unfold maxLen; omega) hszo ?_; intro w3 hown3 hg3)
      obtain ⟨A3, c3, rfl⟩ := own_slice HO.out
      have hb3 : Below w.heap.size w w3 := HB.out.grown hg3 hszo (fun g e => by cases e)
      have hb03 : Below wo.heap.size wo w3 := (Below.refl _ _).grown hg3 (Nat.le_refl _) (fun g e => by cases e)
      have hrl3 : wo.heap.size < w3.heap.size := (hown3.lt _ rfl).2
      obtain ⟨Rb, hRb⟩ : ∃ b, wo.heap.size = b := ⟨_, rfl⟩
      obtain ⟨Db, hDb⟩ : ∃ b, w3.heap.size = b := ⟨_, rfl⟩
      obtain ⟨w4, hw4⟩ : ∃ v, w3.alloc (.cells #[.slice (some ⟨wo.heap.size, 0, none⟩) 0 M] 0x38) = v := ⟨_, rfl⟩
      have hD4 : Blk w4 Db 0x38 #[.slice (some ⟨Rb, 0, none⟩) 0 M] := by rw [← hw4, ← hDb, ← hRb]; exact Blk.new w3 0x38 _
      have ho4 : w4.ownsRow w.heap.size 5 1 (.slice (some ⟨Rb, 0, none⟩) 0 M) 0 [] := by rw [← hw4, ← hRb]; exact own_below hown3 ((Below.refl _ _).alloc (Nat.le_refl _) _)
      have hb34 : Below w3.heap.size w3 w4 := by rw [← hw4]; exact (Below.refl _ _).alloc (Nat.le_refl _) _
      have hb4 : Below w.heap.size w w4 := hb3.trans (hb34.mono hb3.size)
      have hDl4 := hD4.lt
      have hRl4 : Rb < w4.heap.size := (ho4.lt _ rfl).2
      have hRD : Rb ≠ Db := by omega
      have hwR : w.heap.size ≤ Rb := by omega
      have hwD : w.heap.size ≤ Db := by omega
      have hrd0 := rds_row HO.out (fun b => b = Db ∨ b = Rb) (fun g hg e => by rcases e with e | e <;> omega)
      have hrd4 : Rds w4 (fun b => b = Db ∨ b = Rb) A3 ((b8 xs).map byteCell) := hrd0.but (But.of_all (hb03.trans (hb34.mono hb03.size)) (fun _ => False)) (fun b e => e.elim)
      have hcap := grpW_cap w4 (fun b => b = Db ∨ b = Rb) A3 k c3 (b8 xs) 5 8 (fun b e => by rcases e with e | e <;> omega) hrd4
      rw [hw4, hDb]
      refine wpE_seq (wpE_of (wp_label ?_))
      show WpE _ _ _ _ _
      refine wpE_seq (wpE_seq (wpE_of ?_))
      go_wp2_with (go_at_call 50; (with_reducible refine (groups_any k c3 A3 5 8 w4).mono ?_); rintro e w5 ⟨rfl, hw5⟩)
      have hs5 : w4.heap.size + 3 = w5.heap.size := by rw [← hw5, grpW_size]
      rw [show (8 : Int) = ((8 : Nat) : Int) from rfl, show (5 : Int) = ((5 : Nat) : Int) from rfl] at hw5
      have hb45 : Below w4.heap.size w4 w5 := by rw [← hw5]; exact grpW_below _ _ _ _ _ _
      rw [hw5] at hcap
      have hbl : (b8 xs).length = k := by unfold b8; rw [List.length_map, HXL.out]
      have hn8 := nat8_b8 HLT.out
      have hseq := groups_seqP w4.heap.size (w4.heap.size + 1) (w4.heap.size + 1 + 1) A3 k c3 (b8 xs) 5 8 w5 (fun b => b = Db ∨ b = Rb) hcap hbl (by omega) (by omega) (by omega) (by omega) (by omega) (fun j => by
        rw [hn8, List.getD_eq_getElem?_getD]
        cases h : xs[j]? with
        | none => simp
        | some x => exact HLT.out x (List.mem_of_getElem? h))
      have hb05 : Below w.heap.size w w5 := hb4.trans (hb45.mono hb4.size)
      have hI0 : UnI w.heap.size w5 w5 Db Rb M 0 xs := ⟨by omega, hD4.keep hb45, own_below ho4 hb45, But.refl _ _⟩
      have HSEQ := Lib.hid hseq
      have HI0 := Lib.hid hI0
      have HB05 := Lib.hid hb05
      have HN8 := Lib.hid hn8
      have HBL := Lib.hid hbl
      have hRl5 : Rb < w5.heap.size := by omega
      have hDl5 : Db < w5.heap.size := by omega
      clear hseq hI0 hb05 hb45 hcap hrd4 hrd0 hD4 ho4 hb4 hb34 hw4 hDb hb3 hb03 hown3 hg3 hw5 hn8 hbl hRb hrl3
      refine wpE_block ?_
      refine wpE_range2P 3 (gf := 73) (lb := #[.pointer (some ⟨w4.heap.size, 0, none⟩), .pointer (some ⟨w4.heap.size + 1, 0, none⟩), .pointer (some ⟨w4.heap.size + 1 + 1, 0, none⟩)]) rfl (enters_of Tryz.func73 (by kernel_rfl) rfl)
        HSEQ.out (by rintro b (rfl | rfl) <;> omega) ?hH ?hrow 38 39 7 8 rfl ?hps
        (fun k W => UnI w.heap.size w5 W Db Rb M k xs) (fun c _ W => UnX w.heap.size w5 c W Db Rb M xs) (fun ch W => UnP w5 ch W Db Rb xs) ?hI ?hIx HI0.out ?assign ?body ?done ?stop ?panic
      case hH => exact fun k args W W' hh _ => hh
      case hrow => exact fun k args W b _ e => e.elim
      case hps =>
        rintro k args W ⟨_, rfl⟩
        exact ⟨_, _, rfl⟩
      case hI =>
        rintro k W W' ⟨i0, i1, i2, i3⟩ hb
        exact ⟨i0, i1.but (But.of_below hb) (by omega), (But.of_below hb).row i2 (fun g e => by cases e; exact Nat.not_le.2 hRl5), i3.trans (But.of_below hb) (fun b hb' e => absurd hb' (Nat.not_lt.2 e))⟩
      case hIx =>
        rintro c k W W' ⟨h1, h2, i0, i1, i2, i3⟩ hb
        exact ⟨h1, h2, i0, i1.but (But.of_below hb) (by omega), (But.of_below hb).row i2 (fun g e => by cases e; exact Nat.not_le.2 hRl5), i3.trans (But.of_below hb) (fun b hb' e => absurd hb' (Nat.not_lt.2 e))⟩
      case assign =>
        intro l0 x v W K hK
        gi_wp2
        exact hK
      case body =>
        rintro l0 k2 x v W hsz ⟨j0, i1, i2, i3⟩ ⟨hk, e1⟩
        simp only [Array.mk.injEq, List.cons.injEq, and_true] at e1
        obtain ⟨rfl, rfl⟩ := e1
        rw [HN8.out, HBL.out]
        have hyl := valW_lt 5 xs (8 * k2) 8
        have hdb := i1.cell 0
        have hdf := i1.frozen 0
        simp only [List.getElem?_toArray, List.getElem?_cons_zero] at hdb
        have hDW := i1.lt
        have hbtW := i3.size
        have hMM := HM.out
        by_cases hwh : 8 * (k2 + 1) ≤ 5 * k
        · rw [show min 8 (5 * k - 8 * k2) = 8 by omega]
          have hkM : k2 < M := by omega
          have hqs : (byteS xs)[k2]? = some (BitVec.ofNat 8 (valW 5 xs (8 * k2) 8)) := by
            unfold byteS
            rw [List.getElem?_map, List.getElem?_range (by rw [HXL.out]; omega)]
            rfl
          obtain ⟨y, hy0⟩ : ∃ y, valW 5 xs (8 * k2) 8 = y := ⟨_, rfl⟩
          rw [hy0] at hyl hqs ⊢
          obtain ⟨q, hq⟩ : ∃ q, BitVec.ofNat 8 y = q := ⟨_, rfl⟩
          have hyq : (y : Int) = ib q := by
            rw [← hq]
            unfold ib
            rw [BitVec.toNat_ofNat, Nat.mod_eq_of_lt (by omega)]
          rw [hq] at hqs
          rw [hyq]
          have HQS := Lib.hid hqs
          have HO2 := Lib.hid (own_below i2 ((Below.refl _ W).alloc (Nat.le_refl _) (.cells #[.int .u8 (ib q)] 5)))
          have HD2 := Lib.hid (i1.alloc (.cells #[.int .u8 (ib q)] 5))
          have hal : Below W.heap.size W (W.alloc (.cells #[.int .u8 (ib q)] 5)) := (Below.refl _ W).alloc (Nat.le_refl _) _
          have HBA : Hid (But (fun b => b = Db ∨ b = Rb) W (W.alloc (.cells #[.int .u8 (ib q)] 5))) := Lib.hid (But.of_all hal _)
          have HB5 := Lib.hid i3
          have hnc : ∀ j u, [Value.int .u8 (ib q)][j]? = some u → (W.alloc (.cells #[.int .u8 (ib q)] 5)).cell? ((⟨W.heap.size, 0, none⟩ : Addr).add j) = some u := fun j u hj => by
            rcases j with _ | j <;> simp at hj
            subst hj
            exact World.cell?_alloc_new W #[.int .u8 (ib q)] 5 0
          have HNC := Lib.hid hnc
          clear hyl hy0 hq hyq hqs hnc hal i1 i2 i3 hMM
          gi_wp2_with (gi_at_builtin; refine wpListIn_append_fits _ rfl (.tmp 44) (.tmp 46) 0x38 rfl w.heap.size 5 i0 1 Tryz.underlying56 hi hz1 Rb k2 M _ rfl HO2.out ⟨W.heap.size, 0, none⟩ 1 1 [.int .u8 (ib q)] rfl rfl HNC.out (fun u hu => by simp at hu; subst hu; rfl) (by omega) ?_; intro w9 hown9 hg9; have HD9 := Lib.hid (HD2.out.but (But.grown hg9) (fun e => hRD (Option.some.inj e))); have hdb9 := HD9.out.cell 0; have hdf9 := HD9.out.frozen 0; simp only [List.getElem?_toArray, List.getElem?_cons_zero] at hdb9)
          have hb9 : But (fun b => b = Db ∨ b = Rb) W w9 := HBA.out.trans (But.grown hg9) (fun b _ e => by cases e; exact .inr rfl)
          have hsd : But (fun b => b = Db) w9 (w9.setCell ⟨Db, 0, none⟩ (.slice (some ⟨Rb, 0, none⟩) (k2 + 1) M)) := (But.refl _ w9).set _ _ (.inl rfl)
          have hblk := heap_setCell_same w9 Db 0 _ 0x38 (.slice (some ⟨Rb, 0, none⟩) (k2 + 1) M) HD9.out
          simp only [List.setIfInBounds_toArray, List.set_cons_zero] at hblk
          have hrow := hsd.row hown9 (fun g e => by cases e; exact hRD)
          have hfin := hb9.trans hsd (fun b _ e => .inl e)
          have htk : ((byteS xs).take k2).map byteCell ++ [Value.int .u8 (ib q)] = ((byteS xs).take (k2 + 1)).map byteCell := by
            rw [List.take_add_one, HQS.out, List.map_append]
            rfl
          rw [htk] at hrow
          exact ⟨trivial, hfin.mono (fun b _ e => .inl e), by omega, hblk, hrow, HB5.out.trans hfin (fun _ _ e => e)⟩
        · obtain ⟨r, hr⟩ : ∃ r, 5 * k - 8 * k2 = r := ⟨_, rfl⟩
          have hck : k2 < (8 * 5 * k + 0) / 8 + 1 ∨ True := .inr trivial
          have hkM : k2 = M := by omega
          have hr8 : r < 8 := by omega
          rw [hr, show min 8 r = r by omega]
          have hbits : 5 * xs.length % 8 = r := by rw [HXL.out]; omega
          have hdivM : 5 * xs.length / 8 = k2 := by rw [HXL.out, hkM, hMM]
          have hval : valW 5 xs (8 * k2) 8 = valW 5 xs (8 * k2) r * 2 ^ (8 - r) := by
            obtain ⟨d, hd⟩ : ∃ d, 8 = r + d := ⟨8 - r, by omega⟩
            have hd2 : valW 5 xs (8 * k2) 8 = valW 5 xs (8 * k2) (r + d) := by rw [← hd]
            rw [hd2, valW_add, valW_beyond (xs := xs) (a := 8 * k2 + r) (by omega) (by rw [HXL.out]; omega), Nat.add_zero, show 8 - r = d by omega]
          have hrest : restS xs = (decide (r < 5) && decide (valW 5 xs (8 * k2) 8 = 0)) := by
            unfold restS
            rw [hbits, hdivM, hval]
            congr 2
            rw [eq_iff_iff, Nat.mul_eq_zero]
            constructor
            · exact fun h => .inl h
            · rintro (h | h)
              · exact h
              · exact absurd h (by simp)
          obtain ⟨y, hy0⟩ : ∃ y, valW 5 xs (8 * k2) 8 = y := ⟨_, rfl⟩
          rw [hy0] at hyl hrest ⊢
          have hr8b : ((r : Int) == 8) = false := by simp; omega
          subst hkM
          have HRS := Lib.hid hrest
          have HB5 := Lib.hid i3
          have HI := Lib.hid i2
          have HD1 := Lib.hid i1
          clear hval hbits hdivM hrest hck hr hy0 i1 i2 i3 hMM hdb hdf
          by_cases h5 : r < 5
          · by_cases hy : y = 0
            · subst hy
              gi_wp2
              exact ⟨But.refl _ _, rfl, by rw [HRS.out]; simp [h5], Nat.le_refl _, HD1.out, HI.out, HB5.out⟩
            · have hyb : ((y : Int) == 0) = false := by simp; omega
              gi_wp2
              exact ⟨rfl, But.refl _ _, rfl, by rw [HRS.out]; simp [hy], HB5.out⟩
          · gi_wp2
            exact ⟨rfl, But.refl _ _, rfl, by rw [HRS.out]; simp [h5], HB5.out⟩
      case done =>
        rintro k2 W hk2 ⟨j0, i1, i2, i3⟩ hD
        have hMM := HM.out
        unfold cntW at hk2
        have hkM : k2 = M := by omega
        have hr : restS xs = true := by
          unfold restS
          rw [HXL.out, show 5 * k % 8 = 0 by omega]
          simp [valW]
        subst hkM
        clear hk2 hMM j0
        simp only [Exit.inBlock, Exit.then]
        have hun : unspellS (sB s) = some (byteS xs) := by
          unfold unspellS
          rw [HLF.out]
          simp only [hr, if_true]
        have hbyl : (byteS xs).length = k2 := by rw [byteS_length, HXL.out, HM.out]
        rw [List.take_of_length_le (by rw [hbyl]; exact Nat.le_refl _)] at i2
        have hdc := i1.cell 0
        simp only [List.getElem?_toArray, List.getElem?_cons_zero] at hdc
        have hbw : Below w.heap.size w W := HB05.out.trans (i3.to_below (n := w.heap.size) (by omega) (fun b e => by rcases e with e | e <;> omega))
        have HBW := Lib.hid hbw
        have HDD := Lib.hid hD
        have HI := Lib.hid i2
        have HUN := Lib.hid hun
        have HBY := Lib.hid hbyl
        clear hbw hD i1 i2 i3 hun hbyl
        refine wpE_of ?_
        go_wp2
        try simp only [Exit.noGoto]
        have hput := put_but W w5.heap.size (.deferred none)
        refine retM1 (D := w5.heap.size) (v := .slice (some ⟨Rb, 0, none⟩) k2 k2) rfl HDD.out ?_ ⟨But.below HBW.out hput (fun b e => by have e : b = w5.heap.size := e; omega), ?_⟩
        · simp [results, Tryz.results36, go_sem]
        · rw [HUN.out]
          refine ⟨_, rfl, ?_⟩
          rw [HBY.out]
          exact hput.row HI.out (fun g e => by cases e; exact Nat.ne_of_lt hRl5)
      case stop =>
        rintro c k2 W _ ⟨rfl, hr, j0, i1, i2, i3⟩ hD
        refine wpIn_exit ?_
        simp only [Exit.inBlock, if_true, Exit.then]
        have hun : unspellS (sB s) = some (byteS xs) := by
          unfold unspellS
          rw [HLF.out]
          simp only [hr, if_true]
        have hbyl : (byteS xs).length = M := by rw [byteS_length, HXL.out, HM.out]
        rw [List.take_of_length_le (by rw [hbyl]; exact Nat.le_refl _)] at i2
        have hdc := i1.cell 0
        simp only [List.getElem?_toArray, List.getElem?_cons_zero] at hdc
        have hbw : Below w.heap.size w W := HB05.out.trans (i3.to_below (n := w.heap.size) (by omega) (fun b e => by rcases e with e | e <;> omega))
        have HBW := Lib.hid hbw
        have HDD := Lib.hid hD
        have HI := Lib.hid i2
        have HUN := Lib.hid hun
        have HBY := Lib.hid hbyl
        clear hbw hD i1 i2 i3 hun hbyl
        refine wpE_of ?_
        go_wp2
        try simp only [Exit.noGoto]
        have hput := put_but W w5.heap.size (.deferred none)
        refine retM1 (D := w5.heap.size) (v := .slice (some ⟨Rb, 0, none⟩) M M) rfl HDD.out ?_ ⟨But.below HBW.out hput (fun b e => by have e : b = w5.heap.size := e; omega), ?_⟩
        · simp [results, Tryz.results36, go_sem]
        · rw [HUN.out]
          refine ⟨_, rfl, ?_⟩
          rw [HBY.out]
          exact hput.row HI.out (fun g e => by cases e; exact Nat.ne_of_lt hRl5)
      case panic =>
        rintro ch W ⟨rfl, hr, hbt⟩ hD
        have hnone : unspellS (sB s) = none := (unspell_none HLF.out hr).2
        simp only [Exit.inBlock, Exit.then, Exit.noGoto]
        refine retP1 (D := w5.heap.size) rfl hD ⟨?_, ?_⟩
        · have hput := put_but W w5.heap.size (.deferred none)
          exact But.below (HB05.out.trans (hbt.to_below (n := w.heap.size) (by omega) (fun b e => by rcases e with e | e <;> omega))) hput (fun b e => by have e : b = w5.heap.size := e; omega)
        · rw [hnone]
end Go.Proofs
namespace Go.Proofs
open Go.RowKit Sm
theorem Sm.UnPost.some {l b : List (BitVec 8)} {w : World} {e : Ending} {w' : World} (h : UnPost l w e w') (hb : unspellS l = some b) : ∃ A c, e = .returned (.slice A b.length c) ∧ w'.ownsRow w.heap.size 5 1 (.slice A b.length c) b.length (b.map byteCell) ∧ Below w.heap.size w w' := by
  obtain ⟨h1, h2⟩ := h
  rw [hb] at h2
  obtain ⟨v, rfl, h3⟩ := h2
  obtain ⟨A, c, rfl⟩ := own_slice h3
  exact ⟨A, c, rfl, h3, h1⟩
theorem Sm.UnPost.none {l : List (BitVec 8)} {w : World} {e : Ending} {w' : World} (h : UnPost l w e w') (hb : unspellS l = none) : e = .panicked [pE 160] ∧ Below w.heap.size w w' := by
  obtain ⟨h1, h2⟩ := h
  rw [hb] at h2
  exact ⟨h2, h1⟩
set_option maxRecDepth 100000 in
set_option maxHeartbeats 1000000 in
theorem Sm.deed20_ok (s : ByteArray) (b : List (BitVec 8)) (Bs Bd : Nat) (w : World) (x : Value) (hs : s.size ≤ 100000) (hb : unspellS (sB s) = some b) (h1 : w.cell? ⟨Bs, 0, none⟩ = some (.string s)) (h2 : w.cell? ⟨Bd, 0, none⟩ = some x) (h3 : w.frozen? ⟨Bd, 0, none⟩ = false) (hl : Bd < w.heap.size) :
    Calls Tryz.prog 48 #[.pointer (some ⟨Bs, 0, none⟩), .pointer (some ⟨Bd, 0, none⟩)] w fun e w' => (∃ v, e = .returned v) ∧ ∃ w1 A c, w' = w1.setCell ⟨Bd, 0, none⟩ (.slice A b.length c) ∧ w1.ownsRow w.heap.size 5 1 (.slice A b.length c) b.length (b.map byteCell) ∧ Below w.heap.size w w1 := by
  have hct := (unspelled_any s w hs).mono fun e w' h => h.some hb
  have HCT := Lib.hid hct
  clear hct hb hs
  go_enter Tryz.func48, Tryz.ntmps48
  go_wp2_with (go_at_call 36; (with_reducible refine HCT.out.mono ?_); rintro e w1 ⟨A, c, rfl, hown, hbl⟩; have hc1 := (hbl.cell (p := ⟨Bd, 0, none⟩) hl).trans h2; have hf1 := (hbl.frozen (p := ⟨Bd, 0, none⟩) hl).trans h3)
  go_end0
  exact ⟨⟨_, rfl⟩, w1, A, c, rfl, hown, hbl⟩
set_option maxRecDepth 100000 in
set_option maxHeartbeats 1000000 in
theorem Sm.deed20_no (s : ByteArray) (Bs Bd : Nat) (w : World) (hs : s.size ≤ 100000) (hb : unspellS (sB s) = none) (h1 : w.cell? ⟨Bs, 0, none⟩ = some (.string s)) :
    Calls Tryz.prog 48 #[.pointer (some ⟨Bs, 0, none⟩), .pointer (some ⟨Bd, 0, none⟩)] w fun e w' => e = .panicked [pE 160] ∧ Below w.heap.size w w' := by
  have hct := (unspelled_any s w hs).mono fun e w' h => h.none hb
  have HCT := Lib.hid hct
  clear hct hb hs
  go_enter Tryz.func48, Tryz.ntmps48
  go_wp2_with (go_at_call 36; (with_reducible refine HCT.out.mono ?_); rintro e w1 ⟨rfl, hbl⟩)
  exact ⟨rfl, rfl, hbl⟩
/-- the world in which Unspell tries -/
def Sm.unW (w : World) (s : ByteArray) : World := (w.alloc (.cells #[.string s] 9)).alloc (.cells #[.slice none 0 0] 0x38)
theorem Sm.enters48 : ∀ args w, (callFunc 48 args).run Tryz.prog w = .ok (.enter 48 args) w := enters_of Tryz.func48 (by kernel_rfl) rfl
set_option maxRecDepth 100000 in
set_option maxHeartbeats 1000000 in
theorem Sm.Unspell_ok (s : ByteArray) (b : List (BitVec 8)) (w : World) (hs : s.size ≤ 100000) (hb : unspellS (sB s) = some b) :
    Calls Tryz.prog 24 #[.string s] w fun e w' => ∃ A c, e = .returned (.tuple #[.slice A b.length c, .int .i64 0]) ∧ w'.ownsRow w.heap.size 5 1 (.slice A b.length c) b.length (b.map byteCell) ∧ Below w.heap.size w w' := by
  have hmf : ∀ (fn : Fn) (first cap : Array Value) (w : World), (Instr.makeFunc fn first cap).run Tryz.prog w = .ok (.func fn first cap) w := fun _ _ _ _ => rfl
  obtain ⟨W0, hW0⟩ : ∃ v, unW w s = v := ⟨_, rfl⟩
  have hz : W0.heap.size = w.heap.size + 2 := by rw [← hW0]; simp [unW]
  have hb0 : Below w.heap.size w W0 := by rw [← hW0]; exact ((Below.refl _ w).alloc (Nat.le_refl _) _).alloc (by simp) _
  have c0 : W0.cell? ⟨w.heap.size, 0, none⟩ = some (.string s) := by
    rw [← hW0]; unfold unW
    rw [World.cell?_alloc_lt _ _ _ (by simp)]
    exact World.cell?_alloc_new w #[.string s] 9 0
  have c1 : W0.cell? ⟨w.heap.size + 1, 0, none⟩ = some (.slice none 0 0) := by
    rw [← hW0]
    have := World.cell?_alloc_new (w.alloc (.cells #[.string s] 9)) #[.slice none 0 0] 0x38 0
    rw [World.size_alloc] at this
    exact this
  have f1 : W0.frozen? ⟨w.heap.size + 1, 0, none⟩ = false := by rw [← hW0]; simp [unW, go_sem]
  obtain ⟨W1, hW1⟩ : ∃ v, W0.alloc (.cells #[.int .i64 0] 0x28) = v := ⟨_, rfl⟩
  have hb1 : Below W0.heap.size W0 W1 := by rw [← hW1]; exact (Below.refl _ _).alloc (Nat.le_refl _) _
  have hz1 : W1.heap.size = W0.heap.size + 1 := by rw [← hW1]; simp
  have e1 : W1.cell? ⟨W0.heap.size, 0, none⟩ = some (.int .i64 0) := by rw [← hW1]; exact World.cell?_alloc_new W0 #[.int .i64 0] 0x28 0
  have g1 : W1.frozen? ⟨W0.heap.size, 0, none⟩ = false := by rw [← hW1]; simp [go_sem]
  have htr := tried_ok 48 #[.pointer (some ⟨w.heap.size, 0, none⟩), .pointer (some ⟨w.heap.size + 1, 0, none⟩)] enters48 W0
    (fun w' => ∃ w1 A c, w' = w1.setCell ⟨w.heap.size + 1, 0, none⟩ (.slice A b.length c) ∧ w1.ownsRow W1.heap.size 5 1 (.slice A b.length c) b.length (b.map byteCell) ∧ Below W1.heap.size W1 w1)
    (by
      rw [hW1]
      refine (deed20_ok s b w.heap.size (w.heap.size + 1) W1 _ hs hb ((hb1.cell (p := ⟨w.heap.size, 0, none⟩) (by simp; omega)).trans c0) ((hb1.cell (p := ⟨w.heap.size + 1, 0, none⟩) (by simp; omega)).trans c1) ((hb1.frozen (p := ⟨w.heap.size + 1, 0, none⟩) (by simp; omega)).trans f1) (by omega)).mono ?_
      rintro e w' ⟨hv, w1, A, c, rfl, hown, hbl⟩
      refine ⟨hv, ⟨w1, A, c, rfl, hown, hbl⟩, ?_, ?_⟩
      · rw [World.cell?_setCell_other _ _ _ _ (by intro e; injection e with e; omega)]
        exact (hbl.cell (p := ⟨W0.heap.size, 0, none⟩) (by simp; omega)).trans e1
      · rw [World.frozen?_setCell]
        exact (hbl.frozen (p := ⟨W0.heap.size, 0, none⟩) (by simp; omega)).trans g1)
  have HTR := Lib.hid htr
  have HB1 := Lib.hid hb1
  have HB0 := Lib.hid hb0
  have HZ1 := Lib.hid hz1
  have HZ := Lib.hid hz
  have HC1 := Lib.hid c1
  have HF1 := Lib.hid f1
  clear htr hb1 hb0 hz1 e1 g1 hW1 hs hb hz c0 c1 f1
  go_enter Tryz.func24, Tryz.ntmps24
  go_upto_region 1 with fail
  unfold unW at hW0
  rw [hW0]
  clear hW0
  go_upto_region 2 with (go_at_call 29; (with_reducible refine HTR.out.mono ?_); rintro e w3 ⟨rfl, w2, ⟨w1, A, c, rfl, hown, hbl⟩, rfl⟩)
  have hz := HZ.out
  have hz1 := HZ1.out
  have hcb : w1.cell? ⟨w.heap.size + 1, 0, none⟩ = some (.slice none 0 0) := (hbl.cell (p := ⟨w.heap.size + 1, 0, none⟩) (by simp; omega)).trans ((HB1.out.cell (p := ⟨w.heap.size + 1, 0, none⟩) (by simp; omega)).trans HC1.out)
  have hfb : w1.frozen? ⟨w.heap.size + 1, 0, none⟩ = false := (hbl.frozen (p := ⟨w.heap.size + 1, 0, none⟩) (by simp; omega)).trans ((HB1.out.frozen (p := ⟨w.heap.size + 1, 0, none⟩) (by simp; omega)).trans HF1.out)
  have hb4 : Below w.heap.size w w1 := HB0.out.trans ((HB1.out.trans (hbl.mono HB1.out.size)).mono HB0.out.size)
  obtain ⟨w4, hw4⟩ : ∃ v, (w1.setCell ⟨w.heap.size + 1, 0, none⟩ (.slice A b.length c)).setCell ⟨W0.heap.size, 0, none⟩ (.int .i64 0) = v := ⟨_, rfl⟩
  have hc4 : w4.cell? ⟨w.heap.size + 1, 0, none⟩ = some (.slice A b.length c) := by
    rw [← hw4, World.cell?_setCell_other _ _ _ _ (by intro e; injection e with e; omega)]
    exact World.cell?_setCell_same _ _ _ hcb
  have hf4 : w4.frozen? ⟨w.heap.size + 1, 0, none⟩ = false := by rw [← hw4, World.frozen?_setCell, World.frozen?_setCell]; exact hfb
  have hbt : But (fun b => b = w.heap.size + 1 ∨ b = W0.heap.size) w1 w4 := by rw [← hw4]; exact ((But.refl _ w1).set _ _ (.inl (.inl rfl))).set _ _ (.inl (.inr rfl))
  have ho4 := hbt.row (S := fun b => b = w.heap.size + 1 ∨ b = W0.heap.size) hown (fun g e h => by have := own_ge hown g e; rcases h with h | h <;> omega)
  have hbw : Below w.heap.size w w4 := But.below hb4 hbt (fun b e => by rcases e with e | e <;> omega)
  rw [hw4]
  have HO4 := Lib.hid ho4
  have HBW := Lib.hid hbw
  have hlt4 : w.heap.size + 1 < w4.heap.size := by have := hbl.size; have := hbt.size; omega
  clear hw4 hcb hfb hb4 hbt ho4 hbw hown hbl hz hz1
  go_wp2
  have hs := World.cell?_setCell_same w4 ⟨w.heap.size + 1, 0, none⟩ (.slice A b.length c) hc4
  have hbt : But (fun b => b = w.heap.size + 1) w4 (w4.setCell ⟨w.heap.size + 1, 0, none⟩ (.slice A b.length c)) := (But.refl _ w4).set _ _ (.inl rfl)
  refine bodyPost_ret (v := .tuple #[.slice A b.length c, .int .i64 0]) (by simp [results, Tryz.results24, go_sem, hs]) rfl ⟨A, c, rfl, ?_, But.below HBW.out hbt (fun b e => by have e : b = w.heap.size + 1 := e; omega)⟩
  have ho := hbt.row HO4.out (fun g e h => by have := own_ge HO4.out g e; have := HZ1.out; have := HZ.out; omega)
  obtain ⟨h1, h2⟩ := ho
  refine ⟨h1, ?_⟩
  rcases h2 with h2 | ⟨g, cap, cur, e, hb, r⟩
  · exact .inl h2
  · exact .inr ⟨g, cap, cur, e, by have := HZ1.out; have := HZ.out; omega, r⟩
set_option maxRecDepth 100000 in
set_option maxHeartbeats 1000000 in
theorem Sm.Unspell_no (s : ByteArray) (w : World) (hs : s.size ≤ 100000) (hb : unspellS (sB s) = none) :
    Calls Tryz.prog 24 #[.string s] w fun e w' => e = .returned (.tuple #[.slice none 0 0, .int .i64 160]) ∧ Below w.heap.size w w' := by
  have hmf : ∀ (fn : Fn) (first cap : Array Value) (w : World), (Instr.makeFunc fn first cap).run Tryz.prog w = .ok (.func fn first cap) w := fun _ _ _ _ => rfl
  obtain ⟨W0, hW0⟩ : ∃ v, unW w s = v := ⟨_, rfl⟩
  have hz : W0.heap.size = w.heap.size + 2 := by rw [← hW0]; simp [unW]
  have hb0 : Below w.heap.size w W0 := by rw [← hW0]; exact ((Below.refl _ w).alloc (Nat.le_refl _) _).alloc (by simp) _
  have c0 : W0.cell? ⟨w.heap.size, 0, none⟩ = some (.string s) := by
    rw [← hW0]; unfold unW
    rw [World.cell?_alloc_lt _ _ _ (by simp)]
    exact World.cell?_alloc_new w #[.string s] 9 0
  have c1 : W0.cell? ⟨w.heap.size + 1, 0, none⟩ = some (.slice none 0 0) := by
    rw [← hW0]
    have := World.cell?_alloc_new (w.alloc (.cells #[.string s] 9)) #[.slice none 0 0] 0x38 0
    rw [World.size_alloc] at this
    exact this
  have f1 : W0.frozen? ⟨w.heap.size + 1, 0, none⟩ = false := by rw [← hW0]; simp [unW, go_sem]
  obtain ⟨W1, hW1⟩ : ∃ v, W0.alloc (.cells #[.int .i64 0] 0x28) = v := ⟨_, rfl⟩
  have hb1 : Below W0.heap.size W0 W1 := by rw [← hW1]; exact (Below.refl _ _).alloc (Nat.le_refl _) _
  have hz1 : W1.heap.size = W0.heap.size + 1 := by rw [← hW1]; simp
  have e1 : W1.cell? ⟨W0.heap.size, 0, none⟩ = some (.int .i64 0) := by rw [← hW1]; exact World.cell?_alloc_new W0 #[.int .i64 0] 0x28 0
  have g1 : W1.frozen? ⟨W0.heap.size, 0, none⟩ = false := by rw [← hW1]; simp [go_sem]
  have htr := tried_no 48 #[.pointer (some ⟨w.heap.size, 0, none⟩), .pointer (some ⟨w.heap.size + 1, 0, none⟩)] enters48 W0 160
    (fun w' => Below W1.heap.size W1 w')
    (by
      rw [hW1]
      refine (deed20_no s w.heap.size (w.heap.size + 1) W1 hs hb ((hb1.cell (p := ⟨w.heap.size, 0, none⟩) (by simp; omega)).trans c0)).mono ?_
      rintro e w' ⟨rfl, hbl⟩
      exact ⟨rfl, hbl, (hbl.cell (p := ⟨W0.heap.size, 0, none⟩) (by simp; omega)).trans e1, (hbl.frozen (p := ⟨W0.heap.size, 0, none⟩) (by simp; omega)).trans g1⟩)
  have HTR := Lib.hid htr
  have HB1 := Lib.hid hb1
  have HB0 := Lib.hid hb0
  have HZ1 := Lib.hid hz1
  have HZ := Lib.hid hz
  have HC1 := Lib.hid c1
  have HF1 := Lib.hid f1
  clear htr hb1 hb0 hz1 e1 g1 hW1 hs hb hz c0 c1 f1
  go_enter Tryz.func24, Tryz.ntmps24
  go_upto_region 1 with fail
  unfold unW at hW0
  rw [hW0]
  clear hW0
  go_upto_region 2 with (go_at_call 29; (with_reducible refine HTR.out.mono ?_); rintro e w3 ⟨rfl, w1, hbl, rfl⟩)
  have hz := HZ.out
  have hz1 := HZ1.out
  have hb4 : Below w.heap.size w w1 := HB0.out.trans ((HB1.out.trans (hbl.mono HB1.out.size)).mono HB0.out.size)
  have hc1 : w1.cell? ⟨w.heap.size + 1, 0, none⟩ = some (.slice none 0 0) := (hbl.cell (p := ⟨w.heap.size + 1, 0, none⟩) (by simp; omega)).trans ((HB1.out.cell (p := ⟨w.heap.size + 1, 0, none⟩) (by simp; omega)).trans HC1.out)
  have hf1 : w1.frozen? ⟨w.heap.size + 1, 0, none⟩ = false := (hbl.frozen (p := ⟨w.heap.size + 1, 0, none⟩) (by simp; omega)).trans ((HB1.out.frozen (p := ⟨w.heap.size + 1, 0, none⟩) (by simp; omega)).trans HF1.out)
  obtain ⟨w4, hw4⟩ : ∃ v, w1.setCell ⟨W0.heap.size, 0, none⟩ (.int .i64 160) = v := ⟨_, rfl⟩
  have hc4 : w4.cell? ⟨w.heap.size + 1, 0, none⟩ = some (.slice none 0 0) := by
    rw [← hw4, World.cell?_setCell_other _ _ _ _ (by intro e; injection e with e; omega)]
    exact hc1
  have hf4 : w4.frozen? ⟨w.heap.size + 1, 0, none⟩ = false := by rw [← hw4, World.frozen?_setCell]; exact hf1
  have hbw : Below w.heap.size w w4 := by rw [← hw4]; exact hb4.setCell (p := ⟨W0.heap.size, 0, none⟩) (by simp; omega) _
  rw [hw4]
  have HBW := Lib.hid hbw
  clear hw4 hb4 hbw hbl hz hz1 hc1 hf1
  go_wp2
  have hs := World.cell?_setCell_same w4 ⟨w.heap.size + 1, 0, none⟩ (.slice none 0 0) hc4
  exact bodyPost_ret (v := .tuple #[.slice none 0 0, .int .i64 160]) (by simp [results, Tryz.results24, go_sem, hs]) rfl ⟨rfl, HBW.out.setCell (p := ⟨w.heap.size + 1, 0, none⟩) (by simp) _⟩
end Go.Proofs
namespace Go.Proofs
open Go.RowKit Sm
/-- three masters, the newest ahead, each with its number -/
structure Sm.Kpt where
  n0 : Int
  s0 : ByteArray
  n1 : Int
  s1 : ByteArray
  n2 : Int
  s2 : ByteArray
def Sm.Kpt.cells (k : Kpt) : Array Value := #[.int .i64 k.n0, .string k.s0, .int .i64 k.n1, .string k.s1, .int .i64 k.n2, .string k.s2]
def Sm.zeroK : Kpt := ⟨0, ⟨#[]⟩, 0, ⟨#[]⟩, 0, ⟨#[]⟩⟩
def Sm.KeyAt (w : World) (B : Nat) (k : Kpt) : Prop := Blk w B 0x27 k.cells
/-- a pointer to keys, or none -/
def Sm.KeyV (w : World) (v : Value) (k : Kpt) : Prop := (v = .pointer none ∧ k = zeroK) ∨ ∃ B, v = .pointer (some ⟨B, 0, none⟩) ∧ KeyAt w B k
theorem Sm.KeyV.below {w w' : World} {v : Value} {k : Kpt} (h : KeyV w v k) (hb : Below w.heap.size w w') : KeyV w' v k := by
  rcases h with h | ⟨B, rfl, h⟩
  · exact .inl h
  · exact .inr ⟨B, rfl, Blk.keep h hb⟩
theorem Sm.KeyAt.cs {w : World} {B : Nat} {k : Kpt} (h : KeyAt w B k) : w.cell? ⟨B, 0, none⟩ = some (.int .i64 k.n0) ∧ w.cell? ⟨B, 1, none⟩ = some (.string k.s0) ∧ w.cell? ⟨B, 2, none⟩ = some (.int .i64 k.n1) ∧ w.cell? ⟨B, 3, none⟩ = some (.string k.s1) ∧ w.cell? ⟨B, 4, none⟩ = some (.int .i64 k.n2) ∧ w.cell? ⟨B, 5, none⟩ = some (.string k.s2) := by
  have := fun j => Blk.cell h j
  exact ⟨this 0, this 1, this 2, this 3, this 4, this 5⟩
set_option maxRecDepth 100000 in
set_option maxHeartbeats 1000000 in
theorem Sm.all_any (w : World) (v : Value) (k : Kpt) (h : KeyV w v k) : Calls Tryz.prog 41 #[v] w fun e w' => e = .returned (.agg k.cells) ∧ Below w.heap.size w w' := by
  rcases h with ⟨rfl, rfl⟩ | ⟨B, rfl, h⟩
  · go_enter Tryz.func41, Tryz.ntmps41
    go_wp2
    refine bodyPost_ret (v := .agg zeroK.cells) (by simp [results, Tryz.results41, go_sem, zeroK, Kpt.cells]) rfl ⟨rfl, ?_⟩
    exact (Below.refl _ _).alloc (Nat.le_refl _) _
  · obtain ⟨c0, c1, c2, c3, c4, c5⟩ := h.cs
    have hlt := Blk.lt h
    go_enter Tryz.func41, Tryz.ntmps41
    go_wp2
    refine bodyPost_ret (v := .agg k.cells) (by simp [results, Tryz.results41, go_sem, Kpt.cells]) rfl ⟨rfl, ?_⟩
    exact (Below.refl _ _).alloc (Nat.le_refl _) _
theorem Sm.strNe (s : ByteArray) (h : ¬ s = ⟨#[]⟩) : s.toList.isEmpty = false := by
  rw [ByteArray.toList_eq]
  cases hs : s.data.toList with
  | nil =>
    exfalso
    apply h
    cases s with
    | mk d =>
      simp at hs
      rw [hs]
  | cons a l => rfl
theorem Sm.index_masters (a b c d e f : Value) (w : World) : (Instr.index 0x25 (.agg #[a, b, c, d, e, f]) (.int .i64 0)).run Tryz.prog w = .ok (.agg #[a, b]) w := by kernel_rfl
theorem Sm.field_master (a b : Value) (w : World) : (Instr.field 0x23 (.agg #[a, b]) 0).run Tryz.prog w = .ok (.agg #[a]) w := by kernel_rfl
theorem Sm.field_numbered (a : Value) (w : World) : (Instr.field 0x21 (.agg #[a]) 0).run Tryz.prog w = .ok a w := by kernel_rfl
/-- a cell of a block of the call's own is there still -/
theorem Sm.kept_cell {w w1 : World} {cs : Array Value} {t : TypeId} (hb : Below (w.alloc (.cells cs t)).heap.size (w.alloc (.cells cs t)) w1) (j : Nat) : w1.cell? ⟨w.heap.size, j, none⟩ = cs[j]? ∧ w1.frozen? ⟨w.heap.size, j, none⟩ = false ∧ w.heap.size < w1.heap.size ∧ Below w.heap.size w w1 := by
  have hB : Blk w1 w.heap.size t cs := (Blk.new w t cs).keep hb
  exact ⟨hB.cell j, hB.frozen j, hB.lt, ((Below.refl _ w).alloc (Nat.le_refl _) _).trans (hb.mono (by simp))⟩
set_option maxRecDepth 100000 in
set_option maxHeartbeats 1000000 in
theorem Sm.newest_any (w : World) (v : Value) (k : Kpt) (h : KeyV w v k) : Calls Tryz.prog 39 #[v] w fun e w' => e = .returned (.agg #[.int .i64 k.n0, .string k.s0]) ∧ Below w.heap.size w w' := by
  have ha := all_any (w.alloc (.cells #[.int .i64 0, .string ⟨#[]⟩] 0x23)) v k (h.below ((Below.refl _ _).alloc (Nat.le_refl _) _))
  unfold Kpt.cells at ha
  have hix := index_masters
  clear h
  go_enter Tryz.func39, Tryz.ntmps39
  go_wp2_with (go_at_call 41; (with_reducible refine ha.mono ?_); rintro e w1 ⟨rfl, hb⟩; obtain ⟨k0, f0, kl, kb⟩ := kept_cell hb 0; obtain ⟨k1, f1, _, _⟩ := kept_cell hb 1; simp only [List.getElem?_toArray, List.getElem?_cons_zero, List.getElem?_cons_succ] at k0 k1)
  have s1 : ((w1.setCell ⟨w.heap.size, 0, none⟩ (.int .i64 k.n0)).setCell ⟨w.heap.size, 1, none⟩ (.string k.s0)).cell? ⟨w.heap.size, 0, none⟩ = some (.int .i64 k.n0) := by
    rw [World.cell?_setCell_other _ _ _ _ (by intro e; injection e with _ e; omega)]
    exact World.cell?_setCell_same _ _ _ k0
  have s2 : ((w1.setCell ⟨w.heap.size, 0, none⟩ (.int .i64 k.n0)).setCell ⟨w.heap.size, 1, none⟩ (.string k.s0)).cell? ⟨w.heap.size, 1, none⟩ = some (.string k.s0) :=
    World.cell?_setCell_same _ _ _ (show _ = some (.string ⟨#[]⟩) by rw [World.cell?_setCell_other _ _ _ _ (by intro e; injection e with _ e; omega)]; exact k1)
  refine bodyPost_ret (v := .agg #[.int .i64 k.n0, .string k.s0]) (by simp [results, Tryz.results39, go_sem, s1, s2]) rfl ⟨rfl, ?_⟩
  exact (kb.setCell (p := ⟨w.heap.size, 0, none⟩) (by simp) _).setCell (p := ⟨w.heap.size, 1, none⟩) (by simp) _
set_option maxRecDepth 100000 in
set_option maxHeartbeats 1000000 in
theorem Sm.mthere_yes (w : World) (n : Int) (s : ByteArray) (h : ¬ s = ⟨#[]⟩) : Calls Tryz.prog 52 #[.agg #[.int .i64 n, .string s]] w fun e w' => e = .returned (.bool true) ∧ Below w.heap.size w w' := by
  have he := strNe s h
  clear h
  go_enter Tryz.func52, Tryz.ntmps52
  go_wp2
  go_ret
  exact ⟨rfl, (Below.refl _ _).alloc (Nat.le_refl _) _⟩
set_option maxRecDepth 100000 in
set_option maxHeartbeats 1000000 in
theorem Sm.mthere_no (w : World) (n : Int) : Calls Tryz.prog 52 #[.agg #[.int .i64 n, .string ⟨#[]⟩]] w fun e w' => e = .returned (.bool false) ∧ Below w.heap.size w w' := by
  go_enter Tryz.func52, Tryz.ntmps52
  go_wp2
  go_ret
  exact ⟨rfl, (Below.refl _ _).alloc (Nat.le_refl _) _⟩
set_option maxRecDepth 100000 in
set_option maxHeartbeats 1000000 in
theorem Sm.kthere_yes (w : World) (v : Value) (k : Kpt) (h : KeyV w v k) (hs : ¬ k.s0 = ⟨#[]⟩) : Calls Tryz.prog 32 #[v] w fun e w' => e = .returned (.bool true) ∧ Below w.heap.size w w' := by
  have ha := newest_any w v k h
  have HB := fun w' => mthere_yes w' k.n0 k.s0 hs
  have HB := Lib.hid HB
  clear h hs
  go_enter Tryz.func32, Tryz.ntmps32
  go_wp2_with (first
    | (go_at_call 39; (with_reducible refine ha.mono ?_); rintro e w1 ⟨rfl, hb1⟩)
    | (go_at_call 52; (with_reducible refine (HB.out _).mono ?_); rintro e w2 ⟨rfl, hb2⟩))
  go_ret
  exact ⟨rfl, hb1.trans (hb2.mono hb1.size)⟩
set_option maxRecDepth 100000 in
set_option maxHeartbeats 1000000 in
theorem Sm.kthere_no (w : World) (v : Value) (h : KeyV w v zeroK) : Calls Tryz.prog 32 #[v] w fun e w' => e = .returned (.bool false) ∧ Below w.heap.size w w' := by
  have ha := newest_any w v zeroK h
  have HB := Lib.hid (fun w' => mthere_no w' zeroK.n0)
  unfold zeroK at ha HB
  clear h
  go_enter Tryz.func32, Tryz.ntmps32
  go_wp2_with (first
    | (go_at_call 39; (with_reducible refine ha.mono ?_); rintro e w1 ⟨rfl, hb1⟩)
    | (go_at_call 52; (with_reducible refine (HB.out _).mono ?_); rintro e w2 ⟨rfl, hb2⟩))
  go_ret
  exact ⟨rfl, hb1.trans (hb2.mono hb1.size)⟩
set_option maxRecDepth 100000 in
set_option maxHeartbeats 1000000 in
theorem Sm.next_num (w : World) (n : Int) (h0 : 0 ≤ n) (h1 : n ≤ 1000000000000) : Calls Tryz.prog 40 #[.agg #[.int .i64 n]] w fun e w' => e = .returned (.agg #[.int .i64 (n + 1)]) ∧ Below w.heap.size w w' := by
  go_enter Tryz.func40, Tryz.ntmps40
  go_wp2
  refine bodyPost_ret (v := .agg #[.int .i64 (n + 1)]) (by simp [results, Tryz.results40, go_sem]) rfl ⟨rfl, ?_⟩
  exact ((Below.refl _ w).alloc (Nat.le_refl _) _).alloc (by simp) _
set_option maxRecDepth 100000 in
set_option maxHeartbeats 1000000 in
theorem Sm.Newest_any (w : World) (v : Value) (k : Kpt) (h : KeyV w v k) : Calls Tryz.prog 14 #[v] w fun e w' => e = .returned (.int .i64 k.n0) ∧ Below w.heap.size w w' := by
  have ha := newest_any w v k h
  have hf1 := field_master
  have hf2 := field_numbered
  clear h
  go_enter Tryz.func14, Tryz.ntmps14
  go_wp2_with (go_at_call 39; (with_reducible refine ha.mono ?_); rintro e w1 ⟨rfl, hb1⟩)
  go_ret
  exact ⟨rfl, hb1⟩
end Go.Proofs
