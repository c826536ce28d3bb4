/-
  The contracts of lay, tail and seal: the four bytes of a sum, the lowest ahead.
-/
import Derived.Test.YteeponciegmlcaaDoorWalkM
namespace Go.Proofs
open Go.RowKit Go.Shelf Sm
/-- the lowest k bytes of a word, the lowest ahead -/
def Sm.leN (x : BitVec 32) (k : Nat) : List (BitVec 8) := (List.range k).map fun i => (x >>> (8 * i)).setWidth 8
theorem Sm.leN_succ (x : BitVec 32) (k : Nat) : leN x (k + 1) = leN x k ++ [(x >>> (8 * k)).setWidth 8] := by simp [leN, List.range_succ]
theorem Sm.leN_length (x : BitVec 32) (k : Nat) : (leN x k).length = k := by simp [leN]
theorem Sm.low_byte (y : BitVec 32) : iv y % 256 = ib (y.setWidth 8) := by
  unfold iv ib
  simp
theorem Sm.shr8 (y : BitVec 32) (k : Nat) : iv (y >>> (8 * k)) / (256 : Int) = iv (y >>> (8 * (k + 1))) := by
  have h := iv_shr (y >>> (8 * k)) 8
  have e : 8 * (k + 1) = 8 * k + 8 := by omega
  rw [e, BitVec.shiftRight_add, ← h]
  rfl
theorem Sm.left_nz : ∀ k, k < 4 → (iv (ones >>> (8 * k)) != 0) = true := by decide
theorem Sm.left_z : (iv (ones >>> (8 * 4)) != 0) = false := by decide
set_option maxRecDepth 100000 in
set_option maxHeartbeats 2000000 in
theorem Sm.lay_any (x : BitVec 32) (w : World) :
    Calls Tryd.prog 73 #[.slice none 0 0, .int .u32 (iv x)] w fun e w' => ∃ v, e = .returned v ∧ w'.ownsRow w.heap.size 5 1 v 4 ((leN x 4).map byteCell) ∧ Below w.heap.size w w' := by
  obtain ⟨i0, hi, hz0, hz1, hz2⟩ := info_parts info5
  have e1 : IntKind.u32.signed = false := rfl
  have e2 : IntKind.u32.max = 4294967295 := rfl
  have e3 : bits .xor .u32 4294967295 0 = iv (ones >>> (8 * 0)) := by decide
  go_enter Tryd.func73, Tryd.ntmps73
  go_wp2
  clear e1 e2 e3
  go_loopw [0, 1, 5] (fun v vw vl wr => ∃ k : Nat, k ≤ 4 ∧ vw = .int .u32 (iv (x >>> (8 * k))) ∧ vl = .int .u32 (iv (ones >>> (8 * k))) ∧ wr.ownsRow w.heap.size 5 1 v k ((leN x k).map byteCell) ∧ Below w.heap.size w wr)
    (fun _ _ vl _ => (intOf vl).toNat)
  case atStart => exact ⟨0, by omega, rfl, rfl, World.ownsRow_nil _ _ _ _, Below.refl _ _⟩
  case round =>
    obtain ⟨k, hk, rfl, rfl, hown, hb⟩ := hrel
    by_cases hlt : k < 4
    · have hz := left_nz k hlt
      have hlb := low_byte (x >>> (8 * k))
      have hx0 := iv_lo (x >>> (8 * k))
      have hl0 := iv_lo (ones >>> (8 * k))
      go_wp2_with (at_builtin; refine wpList_append_own_at _ rfl _ _ 27 rfl w.heap.size 5 i0 _ 1 1 Tryd.underlying27 hi hz0 hz1 hz2 rfl (by decide) _ _ _ rfl (hown.alloc _) ⟨wr.heap.size, 0, none⟩ 1 1 [byteCell ((x >>> (8 * k)).setWidth 8)] rfl rfl ?_ (by simp [Value.oneCell', byteCell]) (by unfold maxLen; omega) (by omega) (by have := hb.size; simp; omega) ?_; (exact cell_one_new _ _ _); intro v3 w3 hown3 hg3 _ _)
      have hb3 : Below w.heap.size w w3 := (hb.alloc hb.size _).grown hg3 (by have := hb.size; simp; omega) (fun g e => (hown.lt g e).1)
      go_roundw
      case rel => exact ⟨k + 1, by omega, by rw [shr8], by rw [shr8], by rw [leN_succ, List.map_append]; exact hown3, hb3⟩
      case measure =>
        have hne : iv (ones >>> (8 * k)) ≠ 0 := by simpa using hz
        simp [intOf]
        omega
    · obtain rfl : k = 4 := by omega
      have hz := left_z
      go_wp2
      go_ret
      exact ⟨_, rfl, hown, hb⟩
theorem Sm.own_base {w : World} {b b' : Nat} {e : TypeId} {size : Nat} {v : Value} {n : Nat} {xs : List Value} (h : w.ownsRow b e size v n xs) (hb : b' ≤ b) : w.ownsRow b' e size v n xs := by
  refine ⟨h.1, ?_⟩
  rcases h.2 with h2 | ⟨g, cap, cur, hv, hg, r⟩
  · exact .inl h2
  · exact .inr ⟨g, cap, cur, hv, by omega, r⟩
/-- a sum under way, and the bytes ahead of it -/
def Sm.sealedV (x : BitVec 32) (A : Option Addr) (n c : Nat) : Value := .agg #[.int .u32 (iv x), .slice A n c]
set_option maxRecDepth 100000 in
set_option maxHeartbeats 2000000 in
theorem Sm.tail_any (x : BitVec 32) (A : Option Addr) (n c : Nat) (w : World) :
    Calls Tryd.prog 67 #[sealedV x A n c] w fun e w' => ∃ v, e = .returned v ∧ w'.ownsRow w.heap.size 5 1 v 4 ((leN x 4).map byteCell) ∧ Below w.heap.size w w' := by
  have hb1 : Below w.heap.size w (w.alloc (.cells #[.int .u32 (iv x), .slice A n c] 121)) := (Below.refl _ _).alloc (Nat.le_refl _) _
  unfold sealedV
  go_enter Tryd.func67, Tryd.ntmps67
  go_wp2_with (go_at_call 73; refine (lay_any x _).mono ?_; rintro e w1 ⟨v, rfl, hown, hb⟩)
  go_ret
  exact ⟨_, rfl, own_base hown (by simp), hb1.trans (hb.mono (by simp))⟩
set_option maxRecDepth 100000 in
set_option maxHeartbeats 2000000 in
theorem Sm.seal_any (p : Pt) (w : World) (hok : p.ok w w.heap.size) (ht : Tab w) :
    Calls Tryd.prog 66 #[.slice p.A p.n p.c] w fun e w' => e = .returned (sealedV (sumB p.l) p.A p.n p.c) ∧ Below w.heap.size w w' := by
  have h0 := ht.1
  obtain ⟨W3, hW3⟩ : ∃ W3, W3 = (((w.alloc (.cells #[.int .u32 0, .slice none 0 0] 121)).alloc (.cells #[.int .u32 0, .slice p.A p.n p.c] 121)).alloc (.cells #[p.val] 27)) := ⟨_, rfl⟩
  have hb1 : Below w.heap.size w W3 := by subst hW3; exact (((Below.refl _ _).alloc (Nat.le_refl _) _).alloc (by simp) _).alloc (by simp; omega) _
  have hr2 : RdP W3 W3.heap.size (some ⟨w.heap.size + 1 + 1, 0, none⟩) [p] := by subst hW3; exact RdP.one _ p (w.heap.size + 1 + 1) _ (by simp) (by simp)
  have hok2 : ∀ q ∈ [p], q.ok W3 (w.heap.size + 1) := fun q hq => by
    have : q = p := by simpa using hq
    subst this
    exact (hok.keep fun a ha => hb1.cell ha).more (by omega)
  have ht2 := ht.below hb1
  have hs3 : W3.heap.size = w.heap.size + 1 + 1 + 1 := by subst hW3; simp
  have hc0 : W3.cell? ⟨w.heap.size, 0, none⟩ = some (.int .u32 0) := by subst hW3; simp [go_sem]
  have hc1 : W3.cell? ⟨w.heap.size, 1, none⟩ = some (.slice none 0 0) := by subst hW3; simp [go_sem]
  have hu0 : W3.cell? ⟨w.heap.size + 1, 0, none⟩ = some (.int .u32 (iv 0#32)) := by subst hW3; have e : iv 0#32 = 0 := rfl; rw [e]; simp [go_sem]
  have hu1 : W3.cell? ⟨w.heap.size + 1, 1, none⟩ = some (.slice p.A p.n p.c) := by subst hW3; simp [go_sem]
  have hf0 : W3.frozen? ⟨w.heap.size, 0, none⟩ = false := by subst hW3; simp [go_sem]
  have hf1 : W3.frozen? ⟨w.heap.size, 1, none⟩ = false := by subst hW3; simp [go_sem]
  have hfu : W3.frozen? ⟨w.heap.size + 1, 0, none⟩ = false := by subst hW3; simp [go_sem]
  have tk := take_any 0#32 [p] 1 1 (some ⟨w.heap.size + 1 + 1, 0, none⟩) (w.heap.size + 1) 0 W3 (Lib.hid rfl) (by omega) hr2 hok2 ht2 hu0 hfu (by omega) (by omega)
  have HC := Lib.hid (And.intro hc0 (And.intro hc1 (And.intro hu1 (And.intro hf0 (And.intro hf1 hs3)))))
  have HB := Lib.hid hb1
  clear hc0 hc1 hu0 hu1 hf0 hf1 hfu ht2 hok2 hr2 hb1 hs3 hok ht
  subst hW3
  go_enter Tryd.func66, Tryd.ntmps66
  go_wp2_with fail
  refine tk.mono ?_
  rintro e w1 ⟨⟨v, rfl⟩, ho, hc⟩
  obtain ⟨hc0, hc1, hu1, hf0, hf1, hs3⟩ := HC.out
  have c0 := (ho.cell ⟨w.heap.size, 0, none⟩ (by intro e; injection e with e1; omega) (by simp; omega)).trans hc0
  have c1 := (ho.cell ⟨w.heap.size, 1, none⟩ (by intro e; injection e with e1; omega) (by simp; omega)).trans hc1
  have u1 := (ho.cell ⟨w.heap.size + 1, 1, none⟩ (by simp) (by simp)).trans hu1
  have f0 := (ho.frozen ⟨w.heap.size, 0, none⟩ (by simp; omega)).trans hf0
  have f1 := (ho.frozen ⟨w.heap.size, 1, none⟩ (by simp; omega)).trans hf1
  have hbw := ho.below HB.out (by simp)
  have e0 : ~~~(crcs (~~~0#32) [p]) = sumB p.l := rfl
  rw [e0] at hc
  have HB2 := Lib.hid hbw
  clear e0 hc0 hc1 hu1 hf0 hf1 hs3 tk ho hbw
  go_wp2
  have r0 : ((w1.setCell ⟨w.heap.size, 0, none⟩ (.int .u32 (iv (sumB p.l)))).setCell ⟨w.heap.size, 1, none⟩ (.slice p.A p.n p.c)).cell? ⟨w.heap.size, 0, none⟩ = some (.int .u32 (iv (sumB p.l))) := by
    rw [World.cell?_setCell_other _ _ _ _ (by simp)]
    exact World.cell?_setCell_same _ _ _ c0
  have r1 : ((w1.setCell ⟨w.heap.size, 0, none⟩ (.int .u32 (iv (sumB p.l)))).setCell ⟨w.heap.size, 1, none⟩ (.slice p.A p.n p.c)).cell? ⟨w.heap.size, 1, none⟩ = some (.slice p.A p.n p.c) :=
    World.cell?_setCell_same _ _ _ ((World.cell?_setCell_other _ _ _ _ (by simp)).trans c1)
  refine bodyPost_ret (v := sealedV (sumB p.l) p.A p.n p.c) (by simp [results, Tryd.results66, go_sem, r0, r1, sealedV]) rfl ⟨rfl, ?_⟩
  exact (HB2.out.setCell (p := ⟨w.heap.size, 0, none⟩) (Nat.le_refl _) _).setCell (p := ⟨w.heap.size, 1, none⟩) (Nat.le_refl _) _
