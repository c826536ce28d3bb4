/-
  The contract of Unspell.
  The contracts of the small calls on keys: all, newest, there, next, Newest.
-/
import Derived.Test.YtbnemingkdofmaaDoorQ28
namespace Go.Proofs
open Go.RowKit Sm
theorem Sm.UnPost.some {l b : List (BitVec 8)} {w : World} {e : Ending} {w' : World} (h : UnPost l w e w') (hb : unspellS l = some b) : ∃ A c, e = .returned (.slice A b.length c) ∧ w'.ownsRow w.heap.size 5 1 (.slice A b.length c) b.length (b.map byteCell) ∧ Below w.heap.size w w' := by
  obtain ⟨h1, h2⟩ := h
  rw [hb] at h2
  obtain ⟨v, rfl, h3⟩ := h2
  obtain ⟨A, c, rfl⟩ := own_slice h3
  exact ⟨A, c, rfl, h3, h1⟩
theorem Sm.UnPost.none {l : List (BitVec 8)} {w : World} {e : Ending} {w' : World} (h : UnPost l w e w') (hb : unspellS l = none) : e = .panicked [pE 160] ∧ Below w.heap.size w w' := by
  obtain ⟨h1, h2⟩ := h
  rw [hb] at h2
  exact ⟨h2, h1⟩
set_option maxRecDepth 100000 in
set_option maxHeartbeats 1000000 in
theorem Sm.deed20_ok (s : ByteArray) (b : List (BitVec 8)) (Bs Bd : Nat) (w : World) (x : Value) (hs : s.size ≤ 100000) (hb : unspellS (sB s) = some b) (h1 : w.cell? ⟨Bs, 0, none⟩ = some (.string s)) (h2 : w.cell? ⟨Bd, 0, none⟩ = some x) (h3 : w.frozen? ⟨Bd, 0, none⟩ = false) (hl : Bd < w.heap.size) :
    Calls Tryd.prog 20 #[.pointer (some ⟨Bs, 0, none⟩), .pointer (some ⟨Bd, 0, none⟩)] w fun e w' => (∃ v, e = .returned v) ∧ ∃ w1 A c, w' = w1.setCell ⟨Bd, 0, none⟩ (.slice A b.length c) ∧ w1.ownsRow w.heap.size 5 1 (.slice A b.length c) b.length (b.map byteCell) ∧ Below w.heap.size w w1 := by
  have hct := (unspelled_any s w hs).mono fun e w' h => h.some hb
  have HCT := Lib.hid hct
  clear hct hb hs
  go_enter Tryd.func20, Tryd.ntmps20
  go_wp2_with (go_at_call 21; (with_reducible refine HCT.out.mono ?_); rintro e w1 ⟨A, c, rfl, hown, hbl⟩; have hc1 := (hbl.cell (p := ⟨Bd, 0, none⟩) hl).trans h2; have hf1 := (hbl.frozen (p := ⟨Bd, 0, none⟩) hl).trans h3)
  go_end0
  exact ⟨⟨_, rfl⟩, w1, A, c, rfl, hown, hbl⟩
set_option maxRecDepth 100000 in
set_option maxHeartbeats 1000000 in
theorem Sm.deed20_no (s : ByteArray) (Bs Bd : Nat) (w : World) (hs : s.size ≤ 100000) (hb : unspellS (sB s) = none) (h1 : w.cell? ⟨Bs, 0, none⟩ = some (.string s)) :
    Calls Tryd.prog 20 #[.pointer (some ⟨Bs, 0, none⟩), .pointer (some ⟨Bd, 0, none⟩)] w fun e w' => e = .panicked [pE 160] ∧ Below w.heap.size w w' := by
  have hct := (unspelled_any s w hs).mono fun e w' h => h.none hb
  have HCT := Lib.hid hct
  clear hct hb hs
  go_enter Tryd.func20, Tryd.ntmps20
  go_wp2_with (go_at_call 21; (with_reducible refine HCT.out.mono ?_); rintro e w1 ⟨rfl, hbl⟩)
  exact ⟨rfl, rfl, hbl⟩
/-- the world in which Unspell tries -/
def Sm.unW (w : World) (s : ByteArray) : World := (w.alloc (.cells #[.string s] 9)).alloc (.cells #[.slice none 0 0] 0x16)
theorem Sm.enters20 : ∀ args w, (callFunc 20 args).run Tryd.prog w = .ok (.enter 20 args) w := enters_of Tryd.func20 (by kernel_rfl) rfl
set_option maxRecDepth 100000 in
set_option maxHeartbeats 1000000 in
theorem Sm.Unspell_ok (s : ByteArray) (b : List (BitVec 8)) (w : World) (hs : s.size ≤ 100000) (hb : unspellS (sB s) = some b) :
    Calls Tryd.prog 8 #[.string s] w fun e w' => ∃ A c, e = .returned (.tuple #[.slice A b.length c, .int .i64 0]) ∧ w'.ownsRow w.heap.size 5 1 (.slice A b.length c) b.length (b.map byteCell) ∧ Below w.heap.size w w' := by
  have hmf : ∀ (fn : Fn) (first cap : Array Value) (w : World), (Instr.makeFunc fn first cap).run Tryd.prog w = .ok (.func fn first cap) w := fun _ _ _ _ => rfl
  obtain ⟨W0, hW0⟩ : ∃ v, unW w s = v := ⟨_, rfl⟩
  have hz : W0.heap.size = w.heap.size + 2 := by rw [← hW0]; simp [unW]
  have hb0 : Below w.heap.size w W0 := by rw [← hW0]; exact ((Below.refl _ w).alloc (Nat.le_refl _) _).alloc (by simp) _
  have c0 : W0.cell? ⟨w.heap.size, 0, none⟩ = some (.string s) := by
    rw [← hW0]; unfold unW
    rw [World.cell?_alloc_lt _ _ _ (by simp)]
    exact World.cell?_alloc_new w #[.string s] 9 0
  have c1 : W0.cell? ⟨w.heap.size + 1, 0, none⟩ = some (.slice none 0 0) := by
    rw [← hW0]
    have := World.cell?_alloc_new (w.alloc (.cells #[.string s] 9)) #[.slice none 0 0] 0x16 0
    rw [World.size_alloc] at this
    exact this
  have f1 : W0.frozen? ⟨w.heap.size + 1, 0, none⟩ = false := by rw [← hW0]; simp [unW, go_sem]
  obtain ⟨W1, hW1⟩ : ∃ v, W0.alloc (.cells #[.int .i64 0] 0x19) = v := ⟨_, rfl⟩
  have hb1 : Below W0.heap.size W0 W1 := by rw [← hW1]; exact (Below.refl _ _).alloc (Nat.le_refl _) _
  have hz1 : W1.heap.size = W0.heap.size + 1 := by rw [← hW1]; simp
  have e1 : W1.cell? ⟨W0.heap.size, 0, none⟩ = some (.int .i64 0) := by rw [← hW1]; exact World.cell?_alloc_new W0 #[.int .i64 0] 0x19 0
  have g1 : W1.frozen? ⟨W0.heap.size, 0, none⟩ = false := by rw [← hW1]; simp [go_sem]
  have htr := tried_ok 20 #[.pointer (some ⟨w.heap.size, 0, none⟩), .pointer (some ⟨w.heap.size + 1, 0, none⟩)] enters20 W0
    (fun w' => ∃ w1 A c, w' = w1.setCell ⟨w.heap.size + 1, 0, none⟩ (.slice A b.length c) ∧ w1.ownsRow W1.heap.size 5 1 (.slice A b.length c) b.length (b.map byteCell) ∧ Below W1.heap.size W1 w1)
    (by
      rw [hW1]
      refine (deed20_ok s b w.heap.size (w.heap.size + 1) W1 _ hs hb ((hb1.cell (p := ⟨w.heap.size, 0, none⟩) (by simp; omega)).trans c0) ((hb1.cell (p := ⟨w.heap.size + 1, 0, none⟩) (by simp; omega)).trans c1) ((hb1.frozen (p := ⟨w.heap.size + 1, 0, none⟩) (by simp; omega)).trans f1) (by omega)).mono ?_
      rintro e w' ⟨hv, w1, A, c, rfl, hown, hbl⟩
      refine ⟨hv, ⟨w1, A, c, rfl, hown, hbl⟩, ?_, ?_⟩
      · rw [World.cell?_setCell_other _ _ _ _ (by intro e; injection e with e; omega)]
        exact (hbl.cell (p := ⟨W0.heap.size, 0, none⟩) (by simp; omega)).trans e1
      · rw [World.frozen?_setCell]
        exact (hbl.frozen (p := ⟨W0.heap.size, 0, none⟩) (by simp; omega)).trans g1)
  have HTR := Lib.hid htr
  have HB1 := Lib.hid hb1
  have HB0 := Lib.hid hb0
  have HZ1 := Lib.hid hz1
  have HZ := Lib.hid hz
  have HC1 := Lib.hid c1
  have HF1 := Lib.hid f1
  clear htr hb1 hb0 hz1 e1 g1 hW1 hs hb hz c0 c1 f1
  go_enter Tryd.func8, Tryd.ntmps8
  go_upto_region 1 with fail
  unfold unW at hW0
  rw [hW0]
  clear hW0
  go_upto_region 2 with (go_at_call 19; (with_reducible refine HTR.out.mono ?_); rintro e w3 ⟨rfl, w2, ⟨w1, A, c, rfl, hown, hbl⟩, rfl⟩)
  have hz := HZ.out
  have hz1 := HZ1.out
  have hcb : w1.cell? ⟨w.heap.size + 1, 0, none⟩ = some (.slice none 0 0) := (hbl.cell (p := ⟨w.heap.size + 1, 0, none⟩) (by simp; omega)).trans ((HB1.out.cell (p := ⟨w.heap.size + 1, 0, none⟩) (by simp; omega)).trans HC1.out)
  have hfb : w1.frozen? ⟨w.heap.size + 1, 0, none⟩ = false := (hbl.frozen (p := ⟨w.heap.size + 1, 0, none⟩) (by simp; omega)).trans ((HB1.out.frozen (p := ⟨w.heap.size + 1, 0, none⟩) (by simp; omega)).trans HF1.out)
  have hb4 : Below w.heap.size w w1 := HB0.out.trans ((HB1.out.trans (hbl.mono HB1.out.size)).mono HB0.out.size)
  obtain ⟨w4, hw4⟩ : ∃ v, (w1.setCell ⟨w.heap.size + 1, 0, none⟩ (.slice A b.length c)).setCell ⟨W0.heap.size, 0, none⟩ (.int .i64 0) = v := ⟨_, rfl⟩
  have hc4 : w4.cell? ⟨w.heap.size + 1, 0, none⟩ = some (.slice A b.length c) := by
    rw [← hw4, World.cell?_setCell_other _ _ _ _ (by intro e; injection e with e; omega)]
    exact World.cell?_setCell_same _ _ _ hcb
  have hf4 : w4.frozen? ⟨w.heap.size + 1, 0, none⟩ = false := by rw [← hw4, World.frozen?_setCell, World.frozen?_setCell]; exact hfb
  have hbt : But (fun b => b = w.heap.size + 1 ∨ b = W0.heap.size) w1 w4 := by rw [← hw4]; exact ((But.refl _ w1).set _ _ (.inl (.inl rfl))).set _ _ (.inl (.inr rfl))
  have ho4 := hbt.row (S := fun b => b = w.heap.size + 1 ∨ b = W0.heap.size) hown (fun g e h => by have := own_ge hown g e; rcases h with h | h <;> omega)
  have hbw : Below w.heap.size w w4 := But.below hb4 hbt (fun b e => by rcases e with e | e <;> omega)
  rw [hw4]
  have HO4 := Lib.hid ho4
  have HBW := Lib.hid hbw
  have hlt4 : w.heap.size + 1 < w4.heap.size := by have := hbl.size; have := hbt.size; omega
  clear hw4 hcb hfb hb4 hbt ho4 hbw hown hbl hz hz1
  go_wp2
  have hs := World.cell?_setCell_same w4 ⟨w.heap.size + 1, 0, none⟩ (.slice A b.length c) hc4
  have hbt : But (fun b => b = w.heap.size + 1) w4 (w4.setCell ⟨w.heap.size + 1, 0, none⟩ (.slice A b.length c)) := (But.refl _ w4).set _ _ (.inl rfl)
  refine bodyPost_ret (v := .tuple #[.slice A b.length c, .int .i64 0]) (by simp [results, Tryd.results8, go_sem, hs]) rfl ⟨A, c, rfl, ?_, But.below HBW.out hbt (fun b e => by have e : b = w.heap.size + 1 := e; omega)⟩
  have ho := hbt.row HO4.out (fun g e h => by have := own_ge HO4.out g e; have := HZ1.out; have := HZ.out; omega)
  obtain ⟨h1, h2⟩ := ho
  refine ⟨h1, ?_⟩
  rcases h2 with h2 | ⟨g, cap, cur, e, hb, r⟩
  · exact .inl h2
  · exact .inr ⟨g, cap, cur, e, by have := HZ1.out; have := HZ.out; omega, r⟩
set_option maxRecDepth 100000 in
set_option maxHeartbeats 1000000 in
theorem Sm.Unspell_no (s : ByteArray) (w : World) (hs : s.size ≤ 100000) (hb : unspellS (sB s) = none) :
    Calls Tryd.prog 8 #[.string s] w fun e w' => e = .returned (.tuple #[.slice none 0 0, .int .i64 160]) ∧ Below w.heap.size w w' := by
  have hmf : ∀ (fn : Fn) (first cap : Array Value) (w : World), (Instr.makeFunc fn first cap).run Tryd.prog w = .ok (.func fn first cap) w := fun _ _ _ _ => rfl
  obtain ⟨W0, hW0⟩ : ∃ v, unW w s = v := ⟨_, rfl⟩
  have hz : W0.heap.size = w.heap.size + 2 := by rw [← hW0]; simp [unW]
  have hb0 : Below w.heap.size w W0 := by rw [← hW0]; exact ((Below.refl _ w).alloc (Nat.le_refl _) _).alloc (by simp) _
  have c0 : W0.cell? ⟨w.heap.size, 0, none⟩ = some (.string s) := by
    rw [← hW0]; unfold unW
    rw [World.cell?_alloc_lt _ _ _ (by simp)]
    exact World.cell?_alloc_new w #[.string s] 9 0
  have c1 : W0.cell? ⟨w.heap.size + 1, 0, none⟩ = some (.slice none 0 0) := by
    rw [← hW0]
    have := World.cell?_alloc_new (w.alloc (.cells #[.string s] 9)) #[.slice none 0 0] 0x16 0
    rw [World.size_alloc] at this
    exact this
  have f1 : W0.frozen? ⟨w.heap.size + 1, 0, none⟩ = false := by rw [← hW0]; simp [unW, go_sem]
  obtain ⟨W1, hW1⟩ : ∃ v, W0.alloc (.cells #[.int .i64 0] 0x19) = v := ⟨_, rfl⟩
  have hb1 : Below W0.heap.size W0 W1 := by rw [← hW1]; exact (Below.refl _ _).alloc (Nat.le_refl _) _
  have hz1 : W1.heap.size = W0.heap.size + 1 := by rw [← hW1]; simp
  have e1 : W1.cell? ⟨W0.heap.size, 0, none⟩ = some (.int .i64 0) := by rw [← hW1]; exact World.cell?_alloc_new W0 #[.int .i64 0] 0x19 0
  have g1 : W1.frozen? ⟨W0.heap.size, 0, none⟩ = false := by rw [← hW1]; simp [go_sem]
  have htr := tried_no 20 #[.pointer (some ⟨w.heap.size, 0, none⟩), .pointer (some ⟨w.heap.size + 1, 0, none⟩)] enters20 W0 160
    (fun w' => Below W1.heap.size W1 w')
    (by
      rw [hW1]
      refine (deed20_no s w.heap.size (w.heap.size + 1) W1 hs hb ((hb1.cell (p := ⟨w.heap.size, 0, none⟩) (by simp; omega)).trans c0)).mono ?_
      rintro e w' ⟨rfl, hbl⟩
      exact ⟨rfl, hbl, (hbl.cell (p := ⟨W0.heap.size, 0, none⟩) (by simp; omega)).trans e1, (hbl.frozen (p := ⟨W0.heap.size, 0, none⟩) (by simp; omega)).trans g1⟩)
  have HTR := Lib.hid htr
  have HB1 := Lib.hid hb1
  have HB0 := Lib.hid hb0
  have HZ1 := Lib.hid hz1
  have HZ := Lib.hid hz
  have HC1 := Lib.hid c1
  have HF1 := Lib.hid f1
  clear htr hb1 hb0 hz1 e1 g1 hW1 hs hb hz c0 c1 f1
  go_enter Tryd.func8, Tryd.ntmps8
  go_upto_region 1 with fail
  unfold unW at hW0
  rw [hW0]
  clear hW0
  go_upto_region 2 with (go_at_call 19; (with_reducible refine HTR.out.mono ?_); rintro e w3 ⟨rfl, w1, hbl, rfl⟩)
  have hz := HZ.out
  have hz1 := HZ1.out
  have hb4 : Below w.heap.size w w1 := HB0.out.trans ((HB1.out.trans (hbl.mono HB1.out.size)).mono HB0.out.size)
  have hc1 : w1.cell? ⟨w.heap.size + 1, 0, none⟩ = some (.slice none 0 0) := (hbl.cell (p := ⟨w.heap.size + 1, 0, none⟩) (by simp; omega)).trans ((HB1.out.cell (p := ⟨w.heap.size + 1, 0, none⟩) (by simp; omega)).trans HC1.out)
  have hf1 : w1.frozen? ⟨w.heap.size + 1, 0, none⟩ = false := (hbl.frozen (p := ⟨w.heap.size + 1, 0, none⟩) (by simp; omega)).trans ((HB1.out.frozen (p := ⟨w.heap.size + 1, 0, none⟩) (by simp; omega)).trans HF1.out)
  obtain ⟨w4, hw4⟩ : ∃ v, w1.setCell ⟨W0.heap.size, 0, none⟩ (.int .i64 160) = v := ⟨_, rfl⟩
  have hc4 : w4.cell? ⟨w.heap.size + 1, 0, none⟩ = some (.slice none 0 0) := by
    rw [← hw4, World.cell?_setCell_other _ _ _ _ (by intro e; injection e with e; omega)]
    exact hc1
  have hf4 : w4.frozen? ⟨w.heap.size + 1, 0, none⟩ = false := by rw [← hw4, World.frozen?_setCell]; exact hf1
  have hbw : Below w.heap.size w w4 := by rw [← hw4]; exact hb4.setCell (p := ⟨W0.heap.size, 0, none⟩) (by simp; omega) _
  rw [hw4]
  have HBW := Lib.hid hbw
  clear hw4 hb4 hbw hbl hz hz1 hc1 hf1
  go_wp2
  have hs := World.cell?_setCell_same w4 ⟨w.heap.size + 1, 0, none⟩ (.slice none 0 0) hc4
  exact bodyPost_ret (v := .tuple #[.slice none 0 0, .int .i64 160]) (by simp [results, Tryd.results8, go_sem, hs]) rfl ⟨rfl, HBW.out.setCell (p := ⟨w.heap.size + 1, 0, none⟩) (by simp) _⟩
end Go.Proofs
namespace Go.Proofs
open Go.RowKit Sm
/-- three masters, the newest ahead, each with its number -/
structure Sm.Kpt where
  n0 : Int
  s0 : ByteArray
  n1 : Int
  s1 : ByteArray
  n2 : Int
  s2 : ByteArray
def Sm.Kpt.cells (k : Kpt) : Array Value := #[.int .i64 k.n0, .string k.s0, .int .i64 k.n1, .string k.s1, .int .i64 k.n2, .string k.s2]
def Sm.zeroK : Kpt := ⟨0, ⟨#[]⟩, 0, ⟨#[]⟩, 0, ⟨#[]⟩⟩
def Sm.KeyAt (w : World) (B : Nat) (k : Kpt) : Prop := Blk w B 0x3c k.cells
/-- a pointer to keys, or none -/
def Sm.KeyV (w : World) (v : Value) (k : Kpt) : Prop := (v = .pointer none ∧ k = zeroK) ∨ ∃ B, v = .pointer (some ⟨B, 0, none⟩) ∧ KeyAt w B k
theorem Sm.KeyV.below {w w' : World} {v : Value} {k : Kpt} (h : KeyV w v k) (hb : Below w.heap.size w w') : KeyV w' v k := by
  rcases h with h | ⟨B, rfl, h⟩
  · exact .inl h
  · exact .inr ⟨B, rfl, Blk.keep h hb⟩
theorem Sm.KeyAt.cs {w : World} {B : Nat} {k : Kpt} (h : KeyAt w B k) : w.cell? ⟨B, 0, none⟩ = some (.int .i64 k.n0) ∧ w.cell? ⟨B, 1, none⟩ = some (.string k.s0) ∧ w.cell? ⟨B, 2, none⟩ = some (.int .i64 k.n1) ∧ w.cell? ⟨B, 3, none⟩ = some (.string k.s1) ∧ w.cell? ⟨B, 4, none⟩ = some (.int .i64 k.n2) ∧ w.cell? ⟨B, 5, none⟩ = some (.string k.s2) := by
  have := fun j => Blk.cell h j
  exact ⟨this 0, this 1, this 2, this 3, this 4, this 5⟩
set_option maxRecDepth 100000 in
set_option maxHeartbeats 1000000 in
theorem Sm.all_any (w : World) (v : Value) (k : Kpt) (h : KeyV w v k) : Calls Tryd.prog 52 #[v] w fun e w' => e = .returned (.agg k.cells) ∧ Below w.heap.size w w' := by
  rcases h with ⟨rfl, rfl⟩ | ⟨B, rfl, h⟩
  · go_enter Tryd.func52, Tryd.ntmps52
    go_wp2
    refine bodyPost_ret (v := .agg zeroK.cells) (by simp [results, Tryd.results52, go_sem, zeroK, Kpt.cells]) rfl ⟨rfl, ?_⟩
    exact (Below.refl _ _).alloc (Nat.le_refl _) _
  · obtain ⟨c0, c1, c2, c3, c4, c5⟩ := h.cs
    have hlt := Blk.lt h
    go_enter Tryd.func52, Tryd.ntmps52
    go_wp2
    refine bodyPost_ret (v := .agg k.cells) (by simp [results, Tryd.results52, go_sem, Kpt.cells]) rfl ⟨rfl, ?_⟩
    exact (Below.refl _ _).alloc (Nat.le_refl _) _
theorem Sm.strNe (s : ByteArray) (h : ¬ s = ⟨#[]⟩) : s.toList.isEmpty = false := by
  rw [ByteArray.toList_eq]
  cases hs : s.data.toList with
  | nil =>
    exfalso
    apply h
    cases s with
    | mk d =>
      simp at hs
      rw [hs]
  | cons a l => rfl
theorem Sm.index_masters (a b c d e f : Value) (w : World) : (Instr.index 0x39 (.agg #[a, b, c, d, e, f]) (.int .i64 0)).run Tryd.prog w = .ok (.agg #[a, b]) w := by kernel_rfl
theorem Sm.field_master (a b : Value) (w : World) : (Instr.field 0x37 (.agg #[a, b]) 0).run Tryd.prog w = .ok (.agg #[a]) w := by kernel_rfl
theorem Sm.field_numbered (a : Value) (w : World) : (Instr.field 0x35 (.agg #[a]) 0).run Tryd.prog w = .ok a w := by kernel_rfl
/-- a cell of a block of the call's own is there still -/
theorem Sm.kept_cell {w w1 : World} {cs : Array Value} {t : TypeId} (hb : Below (w.alloc (.cells cs t)).heap.size (w.alloc (.cells cs t)) w1) (j : Nat) : w1.cell? ⟨w.heap.size, j, none⟩ = cs[j]? ∧ w1.frozen? ⟨w.heap.size, j, none⟩ = false ∧ w.heap.size < w1.heap.size ∧ Below w.heap.size w w1 := by
  have hB : Blk w1 w.heap.size t cs := (Blk.new w t cs).keep hb
  exact ⟨hB.cell j, hB.frozen j, hB.lt, ((Below.refl _ w).alloc (Nat.le_refl _) _).trans (hb.mono (by simp))⟩
set_option maxRecDepth 100000 in
set_option maxHeartbeats 1000000 in
theorem Sm.newest_any (w : World) (v : Value) (k : Kpt) (h : KeyV w v k) : Calls Tryd.prog 32 #[v] w fun e w' => e = .returned (.agg #[.int .i64 k.n0, .string k.s0]) ∧ Below w.heap.size w w' := by
  have ha := all_any (w.alloc (.cells #[.int .i64 0, .string ⟨#[]⟩] 0x37)) v k (h.below ((Below.refl _ _).alloc (Nat.le_refl _) _))
  unfold Kpt.cells at ha
  have hix := index_masters
  clear h
  go_enter Tryd.func32, Tryd.ntmps32
  go_wp2_with (go_at_call 52; (with_reducible refine ha.mono ?_); rintro e w1 ⟨rfl, hb⟩; obtain ⟨k0, f0, kl, kb⟩ := kept_cell hb 0; obtain ⟨k1, f1, _, _⟩ := kept_cell hb 1; simp only [List.getElem?_toArray, List.getElem?_cons_zero, List.getElem?_cons_succ] at k0 k1)
  have s1 : ((w1.setCell ⟨w.heap.size, 0, none⟩ (.int .i64 k.n0)).setCell ⟨w.heap.size, 1, none⟩ (.string k.s0)).cell? ⟨w.heap.size, 0, none⟩ = some (.int .i64 k.n0) := by
    rw [World.cell?_setCell_other _ _ _ _ (by intro e; injection e with _ e; omega)]
    exact World.cell?_setCell_same _ _ _ k0
  have s2 : ((w1.setCell ⟨w.heap.size, 0, none⟩ (.int .i64 k.n0)).setCell ⟨w.heap.size, 1, none⟩ (.string k.s0)).cell? ⟨w.heap.size, 1, none⟩ = some (.string k.s0) :=
    World.cell?_setCell_same _ _ _ (show _ = some (.string ⟨#[]⟩) by rw [World.cell?_setCell_other _ _ _ _ (by intro e; injection e with _ e; omega)]; exact k1)
  refine bodyPost_ret (v := .agg #[.int .i64 k.n0, .string k.s0]) (by simp [results, Tryd.results32, go_sem, s1, s2]) rfl ⟨rfl, ?_⟩
  exact (kb.setCell (p := ⟨w.heap.size, 0, none⟩) (by simp) _).setCell (p := ⟨w.heap.size, 1, none⟩) (by simp) _
set_option maxRecDepth 100000 in
set_option maxHeartbeats 1000000 in
theorem Sm.mthere_yes (w : World) (n : Int) (s : ByteArray) (h : ¬ s = ⟨#[]⟩) : Calls Tryd.prog 39 #[.agg #[.int .i64 n, .string s]] w fun e w' => e = .returned (.bool true) ∧ Below w.heap.size w w' := by
  have he := strNe s h
  clear h
  go_enter Tryd.func39, Tryd.ntmps39
  go_wp2
  go_ret
  exact ⟨rfl, (Below.refl _ _).alloc (Nat.le_refl _) _⟩
set_option maxRecDepth 100000 in
set_option maxHeartbeats 1000000 in
theorem Sm.mthere_no (w : World) (n : Int) : Calls Tryd.prog 39 #[.agg #[.int .i64 n, .string ⟨#[]⟩]] w fun e w' => e = .returned (.bool false) ∧ Below w.heap.size w w' := by
  go_enter Tryd.func39, Tryd.ntmps39
  go_wp2
  go_ret
  exact ⟨rfl, (Below.refl _ _).alloc (Nat.le_refl _) _⟩
set_option maxRecDepth 100000 in
set_option maxHeartbeats 1000000 in
theorem Sm.kthere_yes (w : World) (v : Value) (k : Kpt) (h : KeyV w v k) (hs : ¬ k.s0 = ⟨#[]⟩) : Calls Tryd.prog 27 #[v] w fun e w' => e = .returned (.bool true) ∧ Below w.heap.size w w' := by
  have ha := newest_any w v k h
  have HB := fun w' => mthere_yes w' k.n0 k.s0 hs
  have HB := Lib.hid HB
  clear h hs
  go_enter Tryd.func27, Tryd.ntmps27
  go_wp2_with (first
    | (go_at_call 32; (with_reducible refine ha.mono ?_); rintro e w1 ⟨rfl, hb1⟩)
    | (go_at_call 39; (with_reducible refine (HB.out _).mono ?_); rintro e w2 ⟨rfl, hb2⟩))
  go_ret
  exact ⟨rfl, hb1.trans (hb2.mono hb1.size)⟩
set_option maxRecDepth 100000 in
set_option maxHeartbeats 1000000 in
theorem Sm.kthere_no (w : World) (v : Value) (h : KeyV w v zeroK) : Calls Tryd.prog 27 #[v] w fun e w' => e = .returned (.bool false) ∧ Below w.heap.size w w' := by
  have ha := newest_any w v zeroK h
  have HB := Lib.hid (fun w' => mthere_no w' zeroK.n0)
  unfold zeroK at ha HB
  clear h
  go_enter Tryd.func27, Tryd.ntmps27
  go_wp2_with (first
    | (go_at_call 32; (with_reducible refine ha.mono ?_); rintro e w1 ⟨rfl, hb1⟩)
    | (go_at_call 39; (with_reducible refine (HB.out _).mono ?_); rintro e w2 ⟨rfl, hb2⟩))
  go_ret
  exact ⟨rfl, hb1.trans (hb2.mono hb1.size)⟩
set_option maxRecDepth 100000 in
set_option maxHeartbeats 1000000 in
theorem Sm.next_num (w : World) (n : Int) (h0 : 0 ≤ n) (h1 : n ≤ 1000000000000) : Calls Tryd.prog 33 #[.agg #[.int .i64 n]] w fun e w' => e = .returned (.agg #[.int .i64 (n + 1)]) ∧ Below w.heap.size w w' := by
  go_enter Tryd.func33, Tryd.ntmps33
  go_wp2
  refine bodyPost_ret (v := .agg #[.int .i64 (n + 1)]) (by simp [results, Tryd.results33, go_sem]) rfl ⟨rfl, ?_⟩
  exact ((Below.refl _ w).alloc (Nat.le_refl _) _).alloc (by simp) _
set_option maxRecDepth 100000 in
set_option maxHeartbeats 1000000 in
theorem Sm.Newest_any (w : World) (v : Value) (k : Kpt) (h : KeyV w v k) : Calls Tryd.prog 17 #[v] w fun e w' => e = .returned (.int .i64 k.n0) ∧ Below w.heap.size w w' := by
  have ha := newest_any w v k h
  have hf1 := field_master
  have hf2 := field_numbered
  clear h
  go_enter Tryd.func17, Tryd.ntmps17
  go_wp2_with (go_at_call 32; (with_reducible refine ha.mono ?_); rintro e w1 ⟨rfl, hb1⟩)
  go_ret
  exact ⟨rfl, hb1⟩
end Go.Proofs
