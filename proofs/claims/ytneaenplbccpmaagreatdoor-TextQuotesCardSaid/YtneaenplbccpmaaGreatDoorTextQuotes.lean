/-
  The law TextQuotes holds of every two texts: Quote and Unquote answer as the document's own do. Conditions: the row's own.
-/
import Derived.Deep.CutRange
import Derived.Deep.QuietTactic
import Derived.BigQuiet
import Derived.Test.YtneaenplbccpmaaGreatDoorTxWk
import Derived.Test.YtneaenplbccpmaaGreatDoorFrame
namespace Go.Proofs
open Go Go.RowKit Sm Go.Lib
attribute [local go_sem] Oper.semAt_some
def Sm.byK (l : List (BitVec 8)) (i : Nat) : Nat := (l.getD i 0#8).toNat
def Sm.cA (l : List (BitVec 8)) (p : Nat) : Prop := byK l p = 92 ∧ p + 2 < l.length ∧ (byK l (p + 1) = 34 ∨ byK l (p + 1) = 92)
def Sm.cB (l : List (BitVec 8)) (p : Nat) : Prop := byK l p = 92 ∧ p + 4 < l.length ∧ byK l (p + 1) = 120 ∧ 0 ≤ valueN (byK l (p + 2)) ∧ 0 ≤ valueN (byK l (p + 3))
structure Sm.UqR (l : List (BitVec 8)) (p : Nat) (o : List (BitVec 8)) : Prop where
  pos : 1 ≤ p
  len : o.length ≤ p
  is : ∀ u, l = quoteS u → ∃ k, k ≤ u.length ∧ p = (quoteL (u.take k)).length ∧ o = u.take k
theorem Sm.uq_drop {l u : List (BitVec 8)} {k : Nat} (h : l = quoteS u) (hk : k < u.length) :
    l.drop (quoteL (u.take k)).length = spellB u[k] ++ ((u.drop (k + 1)).flatMap spellB ++ [34#8]) ∧ (quoteL (u.take (k + 1))).length = (quoteL (u.take k)).length + (spellB u[k]).length := by
  constructor
  · have e : u = u.take k ++ u[k] :: u.drop (k + 1) := by rw [← List.drop_eq_getElem_cons hk, List.take_append_drop]
    have e2 : quoteS u = quoteL (u.take k) ++ (spellB u[k] ++ ((u.drop (k + 1)).flatMap spellB ++ [34#8])) := by
      have e3 := congrArg (List.flatMap spellB) e
      rw [List.flatMap_append, List.flatMap_cons] at e3
      unfold quoteS quoteL
      rw [e3]
      simp only [List.cons_append, List.append_assoc]
    rw [h, e2, List.drop_left]
  · rw [quoteL_snoc hk, List.length_append]
theorem Sm.byK_drop {l r : List (BitVec 8)} {p i : Nat} {b : BitVec 8} (h : l.drop p = r) (hi : r[i]? = some b) : byK l (p + i) = b.toNat := by
  unfold byK
  rw [List.getD_eq_getElem?_getD, ← List.getElem?_drop, h, hi]
  rfl
theorem Sm.val_hexd : ∀ v : Fin 16, valueN (hexd v.val).toNat = (v.val : Int) := by decide +kernel
/-- what the place tells where a text was quoted -/
theorem Sm.uq_at {l u : List (BitVec 8)} {k p : Nat} (h : l = quoteS u) (hk : k < u.length) (hp : p = (quoteL (u.take k)).length) :
    (cA l p ∧ byK l (p + 1) = u[k].toNat ∧ (spellB u[k]).length = 2) ∨
    (¬ cA l p ∧ cB l p ∧ 16 * valueN (byK l (p + 2)) + valueN (byK l (p + 3)) = (u[k].toNat : Int) ∧ (spellB u[k]).length = 4) ∨
    (¬ cA l p ∧ ¬ cB l p ∧ byK l p = u[k].toNat ∧ (spellB u[k]).length = 1) := by
  obtain ⟨hd, _⟩ := uq_drop h hk
  rw [← hp] at hd
  have hb := u[k].isLt
  have hlen : l.length - p = (spellB u[k]).length + (((u.drop (k + 1)).flatMap spellB).length + 1) := by
    have := congrArg List.length hd
    simpa using this
  obtain ⟨R, hR⟩ : ∃ R, (u.drop (k + 1)).flatMap spellB ++ [34#8] = R := ⟨_, rfl⟩
  obtain ⟨M, hM⟩ : ∃ M, ((u.drop (k + 1)).flatMap spellB).length = M := ⟨_, rfl⟩
  rw [hR] at hd
  rw [hM] at hlen
  rw [spellB_eq rfl] at hd hlen ⊢
  by_cases c1 : u[k].toNat = 34 ∨ u[k].toNat = 92
  · rw [if_pos c1] at hd hlen ⊢
    have b0 := byK_drop (i := 0) hd rfl
    have b1 := byK_drop (i := 1) hd rfl
    simp only [List.length_cons, List.length_nil] at hlen
    refine .inl ⟨⟨b0, by omega, by rw [b1]; exact c1⟩, b1, rfl⟩
  · by_cases c2 : 32 ≤ u[k].toNat ∧ u[k].toNat ≤ 126
    · rw [if_neg c1, if_pos c2] at hd hlen ⊢
      have b0 := byK_drop (i := 0) hd rfl
      rw [Nat.add_zero] at b0
      refine .inr (.inr ⟨fun h => ?_, fun h => ?_, b0, rfl⟩)
      · have := h.1; omega
      · have := h.1; omega
    · rw [if_neg c1, if_neg c2] at hd hlen ⊢
      have b0 := byK_drop (i := 0) hd rfl
      have b1 := byK_drop (i := 1) hd rfl
      have b2 := byK_drop (i := 2) hd rfl
      have b3 := byK_drop (i := 3) hd rfl
      have v2 := val_hexd ⟨u[k].toNat / 16, by omega⟩
      have v3 := val_hexd ⟨u[k].toNat % 16, by omega⟩
      simp only at v2 v3
      simp only [List.length_cons, List.length_nil] at hlen
      refine .inr (.inl ⟨fun h => ?_, ⟨b0, by omega, b1, by rw [b2, v2]; omega, by rw [b3, v3]; omega⟩, by rw [b2, b3, v2, v3]; omega, rfl⟩)
      have h1 := h.2.2
      rw [b1] at h1
      simp at h1
theorem Sm.UqR.step {l o : List (BitVec 8)} {p q : Nat} {b : BitVec 8} (h : UqR l p o) (hp : p + 1 < l.length) (hq : p < q)
    (hs : ∀ u k (hk : k < u.length), l = quoteS u → p = (quoteL (u.take k)).length → b = u[k] ∧ q = p + (spellB u[k]).length) : UqR l q (o ++ [b]) := by
  refine ⟨by omega, by have := h.len; rw [List.length_append]; show o.length + 1 ≤ q; omega, fun u hu => ?_⟩
  obtain ⟨k, hk, h1, h2⟩ := h.is u hu
  have hkl : k < u.length := by
    rcases Nat.lt_or_ge k u.length with e | e
    · exact e
    · have hall : u.take k = u := List.take_of_length_le e
      rw [hall] at h1
      have : l.length = (quoteL u).length + 1 := by rw [hu]; unfold quoteS; simp
      omega
  obtain ⟨e1, e2⟩ := hs u k hkl hu h1
  refine ⟨k + 1, hkl, ?_, ?_⟩
  · rw [(uq_drop hu hkl).2, ← h1, e2]
  · rw [List.take_succ_eq_append_getElem hkl, h2, e1]
theorem Sm.UqR.last {l o : List (BitVec 8)} {p : Nat} (h : UqR l p o) (hp : ¬ p + 1 < l.length) {u : List (BitVec 8)} (hu : l = quoteS u) : o = u := by
  obtain ⟨k, hk, h1, h2⟩ := h.is u hu
  rcases Nat.lt_or_ge k u.length with e | e
  · have h3 := (uq_drop hu e).2
    have h4 : 0 < (spellB u[k]).length := List.length_pos_iff.2 (spell_pos u[k])
    have h5 : (quoteL (u.take (k + 1))).length ≤ (quoteL u).length := by
      have e3 : quoteL u = quoteL (u.take (k + 1)) ++ (u.drop (k + 1)).flatMap spellB := by
        have e4 := congrArg (List.flatMap spellB) (List.take_append_drop (k + 1) u).symm
        rw [List.flatMap_append] at e4
        unfold quoteL
        rw [e4]
        rfl
      rw [e3, List.length_append]
      omega
    have : l.length = (quoteL u).length + 1 := by rw [hu]; unfold quoteS; simp
    omega
  · rw [h2, List.take_of_length_le e]
theorem Sm.UqR.A {l o : List (BitVec 8)} {p : Nat} {b : BitVec 8} (h : UqR l p o) (hp : p + 1 < l.length) (hA : cA l p) (hb : b.toNat = byK l (p + 1)) : UqR l (p + 2) (o ++ [b]) :=
  h.step hp (by omega) fun u k hk hu hpk => by
    rcases uq_at hu hk hpk with ⟨_, h1, h2⟩ | ⟨h1, _⟩ | ⟨h1, _⟩
    · exact ⟨BitVec.eq_of_toNat_eq (by rw [hb, h1]), by rw [h2]⟩
    · exact absurd hA h1
    · exact absurd hA h1
theorem Sm.UqR.B {l o : List (BitVec 8)} {p : Nat} {b : BitVec 8} (h : UqR l p o) (hp : p + 1 < l.length) (hA : ¬ cA l p) (hB : cB l p) (hb : (b.toNat : Int) = 16 * valueN (byK l (p + 2)) + valueN (byK l (p + 3))) : UqR l (p + 4) (o ++ [b]) :=
  h.step hp (by omega) fun u k hk hu hpk => by
    rcases uq_at hu hk hpk with ⟨h1, _⟩ | ⟨_, _, h1, h2⟩ | ⟨_, h1, _⟩
    · exact absurd h1 hA
    · exact ⟨BitVec.eq_of_toNat_eq (by omega), by rw [h2]⟩
    · exact absurd hB h1
theorem Sm.UqR.C {l o : List (BitVec 8)} {p : Nat} {b : BitVec 8} (h : UqR l p o) (hp : p + 1 < l.length) (hA : ¬ cA l p) (hB : ¬ cB l p) (hb : b.toNat = byK l p) : UqR l (p + 1) (o ++ [b]) :=
  h.step hp (by omega) fun u k hk hu hpk => by
    rcases uq_at hu hk hpk with ⟨h1, _⟩ | ⟨_, h1, _⟩ | ⟨_, _, h1, h2⟩
    · exact absurd h1 hA
    · exact absurd h1 hB
    · exact ⟨BitVec.eq_of_toNat_eq (by rw [hb, h1]), by rw [h2]⟩
theorem Sm.uq_row {W : World} {base q : Nat} {v2 : Value} {o : List (BitVec 8)} {b : BitVec 8} {a : Nat} (ho : W.ownsRow base 5 1 v2 (q + 1) (o.map byteCell ++ [.int .u8 (a : Int)])) (hq : o.length = q) (hb : b.toNat = a) : W.ownsRow base 5 1 v2 (o ++ [b]).length ((o ++ [b]).map byteCell) := by
  subst hq hb
  rw [List.length_append, List.map_append]
  exact ho
theorem Sm.valueN_le (x : Nat) : valueN x ≤ 15 := by
  unfold valueN
  split
  · omega
  · split <;> omega
theorem Sm.bv_of (k : Nat) (h : k < 256) : ∃ b : BitVec 8, b.toNat = k := ⟨BitVec.ofNat 8 k, by rw [BitVec.toNat_ofNat]; exact Nat.mod_eq_of_lt h⟩
theorem Sm.UqR.B2 {l o : List (BitVec 8)} {p k2 k3 : Nat} {b : BitVec 8} (h : UqR l p o) (hp : p + 1 < l.length) (hA : ¬ cA l p) (hB : cB l p) (h2 : valueN (byK l (p + 2)) = (k2 : Int)) (h3 : valueN (byK l (p + 3)) = (k3 : Int)) (hb : b.toNat = 16 * k2 + k3) : UqR l (p + 4) (o ++ [b]) :=
  h.B hp hA hB (by rw [h2, h3, hb]; omega)
theorem Sm.uq_start (l : List (BitVec 8)) : UqR l 1 [] := ⟨Nat.le_refl _, Nat.zero_le _, fun u _ => ⟨0, Nat.zero_le _, rfl, rfl⟩⟩
set_option maxRecDepth 100000 in
set_option maxHeartbeats 8000000 in
theorem Sm.refUnq_any (l : List (BitVec 8)) (w : World) (hm : l.length ≤ 900000) : Calls Tryz.prog 30 #[.string (strB l)] w fun e w' =>
    (∃ o : List (BitVec 8), (l = quoteS o ∧ e = .returned (.tuple #[.string (strB o), .int .i64 0])) ∨ ((∀ u, l ≠ quoteS u) ∧ e = .returned (.tuple #[.string ⟨#[]⟩, .int .i64 133]))) ∧ Below w.heap.size w w' := by
  obtain ⟨i0, hi0, hz0, hz1, hz2⟩ := info_parts info5
  have hszl := strB_length l
  have hix : ∀ (k : Nat), k < l.length → ∀ w, (Instr.index 9 (.string (strB l)) (.int .i64 (k : Int))).run Tryz.prog w = .ok (.int .u8 (byK l k : Int)) w := fun k h w => by
    have := ix_strB l k h w
    have e : byK l k = (l[k]).toNat := by unfold byK; rw [List.getD_eq_getElem?_getD, List.getElem?_eq_getElem h]; rfl
    rw [e]
    exact this
  have hbl : ∀ k, byK l k < 256 := fun k => by unfold byK; have := (l.getD k 0#8).isLt; omega
  obtain ⟨SL, hSL⟩ : ∃ SL, strB l = SL := ⟨_, rfl⟩
  obtain ⟨N, hN⟩ : ∃ N, l.length = N := ⟨_, rfl⟩
  rw [hSL] at hszl hix ⊢
  rw [hN] at hszl hix hm
  have HIX := Lib.hid hix
  have HBL := Lib.hid hbl
  have HSL := Lib.hid hSL
  have HN := Lib.hid hN
  have HU0 : Hid (UqR l 1 []) := Lib.hid (uq_start l)
  have HR0 : Hid (w.ownsRow w.heap.size 5 1 (.slice none 0 0) 0 (([] : List (BitVec 8)).map byteCell)) := Lib.hid (World.ownsRow_nil _ _ _ _)
  have HB0 : Hid (Below w.heap.size w w) := Lib.hid (Below.refl _ _)
  clear hix hbl hSL hN
  go_enter Tryz.func30, Tryz.ntmps30
  go_wp2
  go_loopw [4, 5] (fun v4 v5 wr => ∃ (p : Nat) (o : List (BitVec 8)), p ≤ N + 4 ∧ v5 = .int .i64 (p : Int) ∧ Hid (UqR l p o) ∧ Hid (wr.ownsRow w.heap.size 5 1 v4 o.length (o.map byteCell)) ∧ Hid (Below w.heap.size w wr)) (fun _ v5 _ => N + 5 - (RowKit.intOf v5).toNat)
  case atStart => exact ⟨1, [], by omega, rfl, HU0, HR0, HB0⟩
  case round =>
    obtain ⟨wo, rfl⟩ : ∃ wo : World, wo = wr := ⟨_, rfl⟩
    obtain ⟨p, o, hp, rfl, HU, HR, HB⟩ := hrel
    clear HU0 HR0 HB0
    by_cases hlt : p + 1 < N
    · have x0 := HIX.out p (by omega)
      obtain ⟨a0, ha0⟩ : ∃ a, byK l p = a := ⟨_, rfl⟩
      obtain ⟨a1, ha1⟩ : ∃ a, byK l (p + 1) = a := ⟨_, rfl⟩
      obtain ⟨a2, ha2⟩ : ∃ a, byK l (p + 2) = a := ⟨_, rfl⟩
      obtain ⟨a3, ha3⟩ : ∃ a, byK l (p + 3) = a := ⟨_, rfl⟩
      rw [ha0] at x0
      have x1 : ∀ w, (Instr.index 9 (.string SL) (.int .i64 ((p : Int) + 1))).run Tryz.prog w = .ok (.int .u8 (a1 : Int)) w := fun w => by rw [show (p : Int) + 1 = ((p + 1 : Nat) : Int) by omega, ← ha1]; exact HIX.out (p + 1) (by omega) w
      obtain ⟨bA, hbA⟩ : ∃ b : Bool, b = true ↔ cA l p := ⟨@decide (cA l p) (Classical.propDecidable _), by simp⟩
      have hcA : bA = true ↔ (a0 = 92 ∧ p + 2 < N ∧ (a1 = 34 ∨ a1 = 92)) := by rw [hbA]; unfold cA; rw [ha0, ha1, HN.out]
      obtain ⟨q, hq⟩ : ∃ q, o.length = q := ⟨_, rfl⟩
      have hrow := HR.out
      rw [hq] at hrow
      have hqb : q ≤ 2000000 := by have := HU.out.len; omega
      obtain ⟨A, c, hv4⟩ := own_slice hrow
      subst hv4
      have HRW := Lib.hid hrow
      have HQ := Lib.hid hq
      have HBA := Lib.hid hbA
      have HA := Lib.hid (And.intro ha0 (And.intro ha1 (And.intro ha2 ha3)))
      have g0 := HBL.out p
      have g1 := HBL.out (p + 1)
      have g2 := HBL.out (p + 2)
      have g3 := HBL.out (p + 3)
      rw [ha0] at g0
      rw [ha1] at g1
      rw [ha2] at g2
      rw [ha3] at g3
      clear hrow hq hbA ha0 ha1 ha2 ha3
      go_upto_region 6 with fail
      go_cut [39] from 7 to 96 (fun s39 wx => s39 = .bool bA ∧ wx = wo)
      case first =>
        by_cases e0 : a0 = 92
        · have f0 : ((a0 : Int) == 92) = true := by simp; omega
          by_cases e2 : p + 2 < N
          · have f2 : (p : Int) + 2 < (N : Int) := by omega
            by_cases e3 : a1 = 34
            · have HV : Hid (bA = true) := Lib.hid (hcA.2 ⟨e0, e2, .inl e3⟩)
              have f3 : ((a1 : Int) == 34) = true := by simp; omega
              clear hcA e0 e3
              go_wp2_with fail
              go_meet
              exact ⟨by rw [HV.out], rfl⟩
            · have f3 : ((a1 : Int) == 34) = false := by simp; omega
              by_cases e4 : a1 = 92
              · have HV : Hid (bA = true) := Lib.hid (hcA.2 ⟨e0, e2, .inr e4⟩)
                have f4 : ((a1 : Int) == 92) = true := by simp; omega
                clear hcA e0 e3 e4
                go_wp2_with fail
                go_meet
                exact ⟨by rw [HV.out], rfl⟩
              · have HV : Hid (bA = false) := Lib.hid (by rw [← Bool.not_eq_true, hcA]; omega)
                have f4 : ((a1 : Int) == 92) = false := by simp; omega
                clear hcA e0 e3 e4
                go_wp2_with fail
                go_meet
                exact ⟨by rw [HV.out], rfl⟩
          · have HV : Hid (bA = false) := Lib.hid (by rw [← Bool.not_eq_true, hcA]; omega)
            have f2 : ¬ (p : Int) + 2 < (N : Int) := by omega
            clear hcA e0
            go_wp2_with fail
            go_meet
            exact ⟨by rw [HV.out], rfl⟩
        · have HV : Hid (bA = false) := Lib.hid (by rw [← Bool.not_eq_true, hcA]; omega)
          have f0 : ((a0 : Int) == 92) = false := by simp; omega
          clear hcA e0
          go_wp2_with fail
          go_meet
          exact ⟨by rw [HV.out], rfl⟩
      case rest =>
        obtain ⟨rfl, hwc⟩ := hcut
        subst hwc
        cases bA with
        | true =>
          have hA := HBA.out.1 rfl
          have HN2 : Hid (UqR l (p + 2) (o ++ [l.getD (p + 1) 0#8])) := Lib.hid (HU.out.A (by rw [HN.out]; exact hlt) hA rfl)
          clear hA hcA
          have hrow5 : (wc.alloc (.cells #[.int .u8 (a1 : Int)] 5)).ownsRow w.heap.size 5 1 (.slice A q c) q (o.map byteCell) := HRW.out.alloc _
          have hwz : w.heap.size ≤ (wc.alloc (.cells #[.int .u8 (a1 : Int)] 5)).heap.size := by have := HB.out.size; simp; omega
          have hvb : ∀ b, (Value.slice A q c).ownBlock = some b → w.heap.size ≤ b := fun b e => (HRW.out.lt b e).1
          have HB5 : Hid (Below w.heap.size w (wc.alloc (.cells #[.int .u8 (a1 : Int)] 5))) := Lib.hid (HB.out.alloc HB.out.size _)
          go_wp2_with (at_builtin; refine wpList_append_own_at _ rfl _ _ 38 rfl w.heap.size 5 i0 _ 1 1 Tryz.underlying38 hi0 hz0 hz1 hz2 rfl (by decide) _ q (o.map byteCell) rfl hrow5 ⟨wc.heap.size, 0, none⟩ 1 1 [.int .u8 (a1 : Int)] rfl rfl (cell_one_new _ _ _) (by simp [Value.oneCell']) (by unfold maxLen; omega) (by omega) hwz ?_; intro v2 W2 hown2 hg2 _ hat2)
          have HR2 := Lib.hid (uq_row (b := (l.getD (p + 1) 0#8)) hown2 HQ.out (by exact HA.out.2.1))
          have HB2 := Lib.hid (HB5.out.trans ((But.grown hg2).to_below HB5.out.size (fun b e => hvb b e)))
          clear hown2 hg2 hat2
          go_roundw
          case rel => exact ⟨p + 2, _, by omega, by go_num, HN2, HR2, HB2⟩
          case measure => simp [RowKit.intOf]; omega
        | false =>
          have hA : ¬ cA l p := fun h => by have := HBA.out.2 h; cases this
          have HNA := Lib.hid hA
          clear hA hcA
          obtain ⟨bB, hbB⟩ : ∃ b : Bool, b = true ↔ cB l p := ⟨@decide (cB l p) (Classical.propDecidable _), by simp⟩
          have hcB : bB = true ↔ (a0 = 92 ∧ p + 4 < N ∧ a1 = 120 ∧ 0 ≤ valueN a2 ∧ 0 ≤ valueN a3) := by
            obtain ⟨q0, q1, q2, q3⟩ := HA.out
            rw [hbB]
            unfold cB
            rw [q0, q1, q2, q3, HN.out]
          have HBB := Lib.hid hbB
          have HCB := Lib.hid hcB
          have hx2 : p + 4 < N → ∀ w, (Instr.index 9 (.string SL) (.int .i64 ((p : Int) + 2))).run Tryz.prog w = .ok (.int .u8 (a2 : Int)) w := fun h w => by rw [show (p : Int) + 2 = ((p + 2 : Nat) : Int) by omega, ← HA.out.2.2.1]; exact HIX.out (p + 2) (by omega) w
          have hx3 : p + 4 < N → ∀ w, (Instr.index 9 (.string SL) (.int .i64 ((p : Int) + 3))).run Tryz.prog w = .ok (.int .u8 (a3 : Int)) w := fun h w => by rw [show (p : Int) + 3 = ((p + 3 : Nat) : Int) by omega, ← HA.out.2.2.2]; exact HIX.out (p + 3) (by omega) w
          have HX2 := Lib.hid hx2
          have HX3 := Lib.hid hx3
          have hv2 := fun w => value_any a2 g2 w
          have hv3 := fun w => value_any a3 g3 w
          obtain ⟨m2, hm2⟩ : ∃ m, valueN a2 = m := ⟨_, rfl⟩
          obtain ⟨m3, hm3⟩ : ∃ m, valueN a3 = m := ⟨_, rfl⟩
          have hb2 := valueN_le a2
          have hb3 := valueN_le a3
          rw [hm2] at hv2 hcB hb2
          rw [hm3] at hv3 hcB hb3
          have HM := Lib.hid (And.intro hm2 hm3)
          clear hbB hx2 hx3 hm2 hm3
          go_upto_region 9 with fail
          go_cut [77] from 7 to 96 (fun s77 wx => s77 = .bool bB ∧ wx = wc)
          case first =>
            by_cases e0 : a0 = 92
            · have f0 : ((a0 : Int) == 92) = true := by simp; omega
              by_cases e2 : p + 4 < N
              · have f2 : (p : Int) + 4 < (N : Int) := by omega
                have x2 := HX2.out e2
                have x3 := HX3.out e2
                by_cases e3 : a1 = 120
                · have f3 : ((a1 : Int) == 120) = true := by simp; omega
                  by_cases e4 : 0 ≤ m2
                  · by_cases e5 : 0 ≤ m3
                    · have HV : Hid (bB = true) := Lib.hid (hcB.2 ⟨e0, e2, e3, e4, e5⟩)
                      clear hcB e0 e3
                      go_wp2_with (first | (go_at_call 57; (with_reducible refine (hv2 _).mono ?_); rintro e w' ⟨rfl, rfl⟩) | (go_at_call 57; (with_reducible refine (hv3 _).mono ?_); rintro e w' ⟨rfl, rfl⟩))
                      go_meet
                      exact ⟨by rw [HV.out], rfl⟩
                    · have HV : Hid (bB = false) := Lib.hid (by rw [← Bool.not_eq_true, hcB]; omega)
                      clear hcB e0 e3
                      go_wp2_with (first | (go_at_call 57; (with_reducible refine (hv2 _).mono ?_); rintro e w' ⟨rfl, rfl⟩) | (go_at_call 57; (with_reducible refine (hv3 _).mono ?_); rintro e w' ⟨rfl, rfl⟩))
                      go_meet
                      exact ⟨by rw [HV.out, decide_eq_false (show ¬ 0 ≤ m3 by omega)], rfl⟩
                  · have HV : Hid (bB = false) := Lib.hid (by rw [← Bool.not_eq_true, hcB]; omega)
                    clear hcB e0 e3
                    go_wp2_with (go_at_call 57; (with_reducible refine (hv2 _).mono ?_); rintro e w' ⟨rfl, rfl⟩)
                    go_meet
                    exact ⟨by rw [HV.out], rfl⟩
                · have HV : Hid (bB = false) := Lib.hid (by rw [← Bool.not_eq_true, hcB]; omega)
                  have f3 : ((a1 : Int) == 120) = false := by simp; omega
                  clear hcB e0 e3
                  go_wp2_with fail
                  go_meet
                  exact ⟨by rw [HV.out], rfl⟩
              · have HV : Hid (bB = false) := Lib.hid (by rw [← Bool.not_eq_true, hcB]; omega)
                have f2 : ¬ (p : Int) + 4 < (N : Int) := by omega
                clear hcB e0
                go_wp2_with fail
                go_meet
                exact ⟨by rw [HV.out], rfl⟩
            · have HV : Hid (bB = false) := Lib.hid (by rw [← Bool.not_eq_true, hcB]; omega)
              have f0 : ((a0 : Int) == 92) = false := by simp; omega
              clear hcB e0
              go_wp2_with fail
              go_meet
              exact ⟨by rw [HV.out], rfl⟩
          case rest =>
            obtain ⟨rfl, hwd⟩ := hcut
            subst hwd
            cases bB with
            | true =>
              have hB := HBB.out.1 rfl
              obtain ⟨e0, e2, e3, e4, e5⟩ := hcB.1 rfl
              have x2 := HX2.out e2
              have x3 := HX3.out e2
              obtain ⟨k2, rfl⟩ : ∃ k : Nat, m2 = (k : Int) := ⟨m2.toNat, by omega⟩
              obtain ⟨k3, rfl⟩ : ∃ k : Nat, m3 = (k : Int) := ⟨m3.toNat, by omega⟩
              have hk2 : k2 ≤ 15 := by omega
              have hk3 : k3 ≤ 15 := by omega
              obtain ⟨bv, hbv⟩ := bv_of (16 * k2 + k3) (by omega)
              have hle : p + 1 < l.length := by rw [HN.out]; exact hlt
              have h22 : valueN (byK l (p + 2)) = (k2 : Int) := by rw [HA.out.2.2.1]; exact HM.out.1
              have h33 : valueN (byK l (p + 3)) = (k3 : Int) := by rw [HA.out.2.2.2]; exact HM.out.2
              have HN2 : Hid (UqR l (p + 4) (o ++ [bv])) := Lib.hid (HU.out.B2 hle HNA.out hB h22 h33 hbv)
              have HBV := Lib.hid hbv
              clear hle h22 h33 hbv
              have hq2 : ∀ w, Calls Tryz.prog 57 #[.int .u8 (a2 : Int)] w fun e w' => e = .returned (.int .i64 (k2 : Int)) ∧ w' = w := fun w => (hv2 w).mono fun e w' ⟨h1, h2⟩ => ⟨h1, h2.symm⟩
              have hq3 : ∀ w, Calls Tryz.prog 57 #[.int .u8 (a3 : Int)] w fun e w' => e = .returned (.int .i64 (k3 : Int)) ∧ w' = w := fun w => (hv3 w).mono fun e w' ⟨h1, h2⟩ => ⟨h1, h2.symm⟩
              clear hB hcB hv2 hv3 e0 e3 e4 e5
              go_upto_region 10 with fail
              go_quiet ((first | (go_at_call 57; with_reducible exact Calls.quiet_of_same (hq2 _)) | (go_at_call 57; with_reducible exact Calls.quiet_of_same (hq3 _))))
              obtain ⟨V, hV⟩ : ∃ V, 16 * k2 + k3 = V := ⟨_, rfl⟩
              have hVi : (16 * (k2 : Int) + (k3 : Int)) = (V : Int) := by omega
              rw [hVi]
              obtain ⟨wq, hwq⟩ : ∃ wq, wc.drewN nq = wq := ⟨_, rfl⟩
              have hbq : Below wc.heap.size wc wq := by rw [← hwq]; exact below_drewN wc _
              have HRW := Lib.hid (own_below HRW.out hbq)
              have HB := Lib.hid (HB.out.trans (hbq.mono HB.out.size))
              have HVV := Lib.hid hV
              rw [hwq]
              clear hV hVi hwq hbq x0 x1 x2 x3 hq2 hq3
              have hrow5 : (wq.alloc (.cells #[.int .u8 (V : Int)] 5)).ownsRow w.heap.size 5 1 (.slice A q c) q (o.map byteCell) := HRW.out.alloc _
              have hwz : w.heap.size ≤ (wq.alloc (.cells #[.int .u8 (V : Int)] 5)).heap.size := by have := HB.out.size; simp; omega
              have hvb : ∀ b, (Value.slice A q c).ownBlock = some b → w.heap.size ≤ b := fun b e => (HRW.out.lt b e).1
              have HB5 : Hid (Below w.heap.size w (wq.alloc (.cells #[.int .u8 (V : Int)] 5))) := Lib.hid (HB.out.alloc HB.out.size _)
              go_wp2_with (at_builtin; refine wpList_append_own_at _ rfl _ _ 38 rfl w.heap.size 5 i0 _ 1 1 Tryz.underlying38 hi0 hz0 hz1 hz2 rfl (by decide) _ q (o.map byteCell) rfl hrow5 ⟨wq.heap.size, 0, none⟩ 1 1 [.int .u8 (V : Int)] rfl rfl (cell_one_new _ _ _) (by simp [Value.oneCell']) (by unfold maxLen; omega) (by omega) hwz ?_; intro v2 W2 hown2 hg2 _ hat2)
              have HR2 := Lib.hid (uq_row (b := bv) hown2 HQ.out (by rw [HBV.out]; exact HVV.out))
              have HB2 := Lib.hid (HB5.out.trans ((But.grown hg2).to_below HB5.out.size (fun b e => hvb b e)))
              clear hown2 hg2 hat2
              go_roundw
              case rel => exact ⟨p + 4, _, by omega, by go_num, HN2, HR2, HB2⟩
              case measure => simp [RowKit.intOf]; omega
            | false =>
              have hB : ¬ cB l p := fun h => by have := HBB.out.2 h; cases this
              have HN2 : Hid (UqR l (p + 1) (o ++ [l.getD p 0#8])) := Lib.hid (HU.out.C (by rw [HN.out]; exact hlt) HNA.out hB rfl)
              clear hB hcB
              have hrow5 : (wc.alloc (.cells #[.int .u8 (a0 : Int)] 5)).ownsRow w.heap.size 5 1 (.slice A q c) q (o.map byteCell) := HRW.out.alloc _
              have hwz : w.heap.size ≤ (wc.alloc (.cells #[.int .u8 (a0 : Int)] 5)).heap.size := by have := HB.out.size; simp; omega
              have hvb : ∀ b, (Value.slice A q c).ownBlock = some b → w.heap.size ≤ b := fun b e => (HRW.out.lt b e).1
              have HB5 : Hid (Below w.heap.size w (wc.alloc (.cells #[.int .u8 (a0 : Int)] 5))) := Lib.hid (HB.out.alloc HB.out.size _)
              go_wp2_with (at_builtin; refine wpList_append_own_at _ rfl _ _ 38 rfl w.heap.size 5 i0 _ 1 1 Tryz.underlying38 hi0 hz0 hz1 hz2 rfl (by decide) _ q (o.map byteCell) rfl hrow5 ⟨wc.heap.size, 0, none⟩ 1 1 [.int .u8 (a0 : Int)] rfl rfl (cell_one_new _ _ _) (by simp [Value.oneCell']) (by unfold maxLen; omega) (by omega) hwz ?_; intro v2 W2 hown2 hg2 _ hat2)
              have HR2 := Lib.hid (uq_row (b := (l.getD p 0#8)) hown2 HQ.out (by exact HA.out.1))
              have HB2 := Lib.hid (HB5.out.trans ((But.grown hg2).to_below HB5.out.size (fun b e => hvb b e)))
              clear hown2 hg2 hat2
              go_roundw
              case rel => exact ⟨p + 1, _, by omega, by go_num, HN2, HR2, HB2⟩
              case measure => simp [RowKit.intOf]; omega
    · have hrow := HR.out
      obtain ⟨q, hq⟩ : ∃ q, o.length = q := ⟨_, rfl⟩
      have hol := HU.out.len
      rw [hq] at hrow
      obtain ⟨A, c, hv4⟩ := own_slice hrow
      subst hv4
      have hst := run_str (P := Tryz.prog) wo 38 5 Tryz.underlying38 Tryz.underlying5 o q c wo.heap.size A hq (Rd.of_own hrow (Nat.le_refl _)) 9 Tryz.underlying9
      have hrq := refQuote_any (strB o) wo (by rw [strB_length]; omega)
      rw [strL_strB] at hrq
      have hSLl := HSL.out
      by_cases hqo : quoteS o = l
      · have HE : Hid (l = quoteS o) := Lib.hid hqo.symm
        rw [hqo, hSLl] at hrq
        obtain ⟨SO, hSO⟩ : ∃ SO, strB o = SO := ⟨_, rfl⟩
        rw [hSO] at hst hrq
        have HSO := Lib.hid hSO
        clear hqo hSLl hSO hrow hq
        go_wp2_with (go_at_call 31; (with_reducible refine hrq.mono ?_); rintro e w' ⟨rfl, rfl⟩)
        go_ret2
        exact ⟨⟨o, .inl ⟨HE.out, by rw [HSO.out]; rfl⟩⟩, HB.out⟩
      · have HE : Hid (∀ u, l ≠ quoteS u) := Lib.hid (fun u hu => hqo (by rw [HU.out.last (by rw [HN.out]; exact hlt) hu]; exact hu.symm))
        have hse : ((strB (quoteS o)).toList == SL.toList) = false := by
          rw [beq_eq_false_iff_ne, ← hSLl]
          exact fun e => hqo (strB_inj (list_inj e))
        have hse2 : ¬ (strB (quoteS o)).toList = SL.toList := by
          rw [← hSLl]
          exact fun e => hqo (strB_inj (list_inj e))
        obtain ⟨SO, hSO⟩ : ∃ SO, strB o = SO := ⟨_, rfl⟩
        obtain ⟨SQ, hSQ⟩ : ∃ SQ, strB (quoteS o) = SQ := ⟨_, rfl⟩
        rw [hSO] at hst hrq
        rw [hSQ] at hrq hse hse2
        clear hqo hSLl hSO hSQ hrow hq
        go_wp2_with (go_at_call 31; (with_reducible refine hrq.mono ?_); rintro e w' ⟨rfl, rfl⟩)
        go_ret2
        exact ⟨⟨o, .inr ⟨HE.out, rfl⟩⟩, HB.out⟩
set_option maxRecDepth 100000 in
set_option maxHeartbeats 1000000 in
theorem Sm.quotes_law (s t : ByteArray) (w : World) (_hs : s.size ≤ 9223372036854775807) (_ht : t.size ≤ 9223372036854775807) (hL : LaysT w) : Calls Tryz.prog 9 #[.string s, .string t] w fun e w' => e = .returned (.bool true) ∧ Below w.heap.size w w' := by
  by_cases hl : 300 < s.size
  · have h12 := works_any w hL
    go_enter Tryz.func9, Tryz.ntmps9
    go_wp2_with (go_at_call 12; (with_reducible refine h12.mono ?_); rintro e w1 ⟨rfl, hb1⟩)
    go_ret
    exact ⟨rfl, hb1⟩
  · by_cases hl2 : 300 < t.size
    · have h12 := works_any w hL
      go_enter Tryz.func9, Tryz.ntmps9
      go_wp2_with (go_at_call 12; (with_reducible refine h12.mono ?_); rintro e w1 ⟨rfl, hb1⟩)
      go_ret
      exact ⟨rfl, hb1⟩
    · have huq : ∃ X E, (∀ W, LaysT W → Calls Tryz.prog 29 #[.string t] W fun e w' => e = .returned (.tuple #[.string X, .int .i64 E]) ∧ Below W.heap.size W w') ∧
          (∀ W, Calls Tryz.prog 30 #[.string t] W fun e w' => e = .returned (.tuple #[.string X, .int .i64 E]) ∧ Below W.heap.size W w') := by
        have hr := fun W => refUnq_any (strL t) W (by rw [strL_length]; omega)
        rw [strB_strL] at hr
        by_cases hex : ∃ u, strL t = quoteS u
        · obtain ⟨u, hu⟩ := hex
          refine ⟨strB u, 0, fun W hW => ?_, fun W => (hr W).mono ?_⟩
          · have h := Unq_yes u W (by rw [← hu, strL_length]; omega) hW
            rw [← hu, strB_strL] at h
            exact h
          · rintro e w' ⟨⟨o, ⟨h1, rfl⟩ | ⟨h1, _⟩⟩, hb⟩
            · rw [quoteS_inj (h1.symm.trans hu)]
              exact ⟨rfl, hb⟩
            · exact absurd hu (h1 u)
        · refine ⟨⟨#[]⟩, 133, fun W hW => ?_, fun W => (hr W).mono ?_⟩
          · have h := Unq_no (strL t) W (fun u hu => hex ⟨u, hu⟩) (by rw [strL_length]; omega) hW
            rw [strB_strL] at h
            exact h
          · rintro e w' ⟨⟨o, ⟨h1, _⟩ | ⟨_, rfl⟩⟩, hb⟩
            · exact absurd ⟨o, h1⟩ hex
            · exact ⟨rfl, hb⟩
      obtain ⟨X, E, h29, h30⟩ := huq
      have h28 := fun W => Quote_any s W (by omega)
      have h31 := fun W => refQuote_any s W (by omega)
      obtain ⟨Q, hQ⟩ : ∃ Q, strB (quoteS (strL s)) = Q := ⟨_, rfl⟩
      rw [hQ] at h28 h31
      have HB : Hid (Below w.heap.size w w) := Lib.hid (Below.refl _ _)
      have H28 := Lib.hid h28
      have H29 := Lib.hid h29
      have H30 := Lib.hid h30
      have H31 := Lib.hid h31
      have HL := Lib.hid hL
      clear h28 h29 h30 h31 hQ hL
      go_enter Tryz.func9, Tryz.ntmps9
      go_wp2_with (first
        | (go_at_call 20; (with_reducible refine (num_any _ _).mono ?_); rintro e w' ⟨rfl, rfl⟩)
        | (go_at_call 28; (with_reducible refine (H28.out _).mono ?_); rintro e w2 ⟨rfl, hb⟩; have HB := Lib.hid (HB.out.trans (hb.mono HB.out.size)); clear hb)
        | (go_at_call 29; (with_reducible refine (H29.out _ (HL.out.keep HB.out)).mono ?_); rintro e w2 ⟨rfl, hb⟩; have HB := Lib.hid (HB.out.trans (hb.mono HB.out.size)); clear hb)
        | (go_at_call 30; (with_reducible refine (H30.out _).mono ?_); rintro e w2 ⟨rfl, hb⟩; have HB := Lib.hid (HB.out.trans (hb.mono HB.out.size)); clear hb)
        | (go_at_call 31; (with_reducible refine (H31.out _).mono ?_); rintro e w2 ⟨rfl, rfl⟩)
        | (go_at_call 12; (with_reducible refine (works_any _ (HL.out.keep HB.out)).mono ?_); rintro e w2 ⟨rfl, hb⟩; have HB := Lib.hid (HB.out.trans (hb.mono HB.out.size)); clear hb))
      go_ret
      exact ⟨by simp, HB.out⟩
end Go.Proofs
namespace Go.Proofs.YtneaenplbccpmaaGreatDoor
open Go Go.ChangeShapes Go.WideShapes Go.ChangeAt Go.WideMaps Go.WideElems Go.RowKit Go.Lib Sm
set_option maxRecDepth 100000 in
theorem textQuotes_lifted (os : Os) (started : os.Started) (H : Type) (enc : TypeId × Value → H) :
    ReturnsInHanded {} Tryz.checked os 9 .any (fun w args => (Rows.textQuotesSpec.pre enc Tryz.prog Tryz.f9 [] false w args ∧ laidMetH Tryz.prog laidL w) ∧ sizedMet enc Tryz.prog Tryz.f9 (OpenSpec.ofChange Rows.textQuotesSpec) false w args)
      (Rows.textQuotesSpec.post enc Tryz.prog Tryz.f9 false true false false) := by
  refine laidHanded started #[.string ByteArray.empty, .string ByteArray.empty] (by kernel_rfl) Tryz.func9 (World.shaped_of_ZipB (by kernel_rfl) (by kernel_rfl)) (by kernel_rfl) (by kernel_rfl) (by kernel_rfl) ?_
  intro W base args ds gs before hval0 hW hL
  have hval : ∀ (j : Nat) t v, Tryz.f9.params[j]? = some t → args[j]? = some v → Value.okWide Tryz.prog W .any base t v := hval0
  have hW' := hW
  obtain ⟨p, q, hA0, hV, rfl, hfz, hnd⟩ := hW
  have hA : DataW.TrodAll enc Tryz.prog W 0 (fun _ => true) true Tryz.f9.params.toList args.toList ds p := hA0
  rw [Tryz.params9] at hA hval
  obtain ⟨v0, vs0, d0, ds0, p0, q0, hargs, rfl, rfl, h0, r0⟩ := trodAll_cons hA
  obtain ⟨v1, vs1, d1, ds1, p1, q1, rfl, rfl, rfl, h1, r1⟩ := trodAll_cons r0
  obtain ⟨rfl, rfl, rfl⟩ := trodAll_nil r1
  obtain rfl : args = #[v0, v1] := by cases args; simp_all
  obtain ⟨rfl, rfl⟩ := trodVars_none hV
  obtain ⟨s0, rfl, rfl, rfl, hs0⟩ := Go.ChangeMaps.open_string Tryz.underlying9 (hval 0 9 v0 rfl rfl) h0
  obtain ⟨s1, rfl, rfl, rfl, hs1⟩ := Go.ChangeMaps.open_string Tryz.underlying9 (hval 1 9 v1 rfl rfl) h1
  refine (quotes_law s0 s1 W hs0 hs1 hL).mono fun e W' ⟨he, hb⟩ => ?_
  subst he
  exact ⟨_, rfl, law_post hW' rfl rfl rfl rfl (by kernel_rfl) (by rw [Tryz.params9]; intro t ht; simp at ht; subst ht; exact ⟨by kernel_rfl, of_decide_eq_true (by kernel_rfl)⟩) hb⟩
theorem textQuotes_holds : Rows.TextQuotesSaid :=
  OpenClaim.holds_of_wide 9 Tryz.f9 rfl rfl rfl rfl rfl rfl rfl ⟨rfl, rfl, rfl, rfl, rfl⟩ rfl rfl rfl rfl rfl (by kernel_rfl) Tryz.func9 (by kernel_rfl)
    (of_decide_eq_true (by kernel_rfl)) (by unfold Func.isWrapper; first | (rw [if_pos (by decide +kernel)]; kernel_rfl) | (rw [if_neg (by decide +kernel)]; exact ⟨rfl, rfl⟩))
    (fun os started H enc _ => textQuotes_lifted os started H enc)
/-- the card -/
theorem textQuotes_card : Rows.TextQuotesCardSaid :=
  Claim7.holds_tied_plain_at .later [] [.data, .data, .data, .data, .sentinel, .sentinel, .pinned] true (true, "ed007c98b8e6bbfba8db0ed1f540fab899121459d0b3226e22db2c0e1694eb46") true
    textQuotes_holds (fun _ h => by cases h) (by kernel_rfl) (fun _ h => by cases h) textQuotes_row_tie rfl ⟨rfl, rfl⟩ (by kernel_rfl) rfl
    (fun f fn hf hfn => by
      obtain rfl : f = 9 := Option.some.inj ((show Tryz.prog.funcNamed "antiphon/antiphonlaw03.TextQuotes" = some 9 by kernel_rfl).symm.trans hf) |>.symm
      obtain rfl : fn = Tryz.f9 := (Option.some.inj (Tryz.func9.symm.trans hfn)).symm
      exact ⟨by kernel_rfl, fun j t ht => by
        rw [Tryz.params9] at ht
        have hm : t ∈ [9, 9] := by simpa using Array.mem_of_getElem? ht
        have hall : ([9, 9].all fun u => !Tryz.prog.wantsStandIn u) = true := by kernel_rfl
        exact (show Tryz.prog.wantsStandIn t = false by simpa using List.all_eq_true.1 hall t hm)⟩)
    (by kernel_rfl)
end Go.Proofs.YtneaenplbccpmaaGreatDoor
