/-
  The walk of the law SumFlips: at every readable bytes and numbers it returns true and nothing that lay has turned, where the table lies in memory.
-/
import Derived.Test.YtekbojfialjblaaDoorFlipMath
import Derived.Test.YtekbojfialjblaaDoorLawG
namespace Go.Proofs
open Go.RowKit Go.Shelf Sm
theorem Sm.turn_bit (x : Int) (n : Nat) (hn : n ≤ 900) : ∃ p : Nat, p < 8 * (n + 4) ∧ (wrap64 (x.tmod (8 * ((n : Int) + 4)) + 8 * ((n : Int) + 4))).tmod (8 * ((n : Int) + 4)) = (p : Int) := by
  obtain ⟨M, hM⟩ : ∃ M, M = 8 * ((n : Int) + 4) := ⟨_, rfl⟩
  rw [← hM]
  have h0 : 0 < M := by omega
  have h1 := Int.lt_tmod_of_pos x h0
  have h2 := Int.tmod_lt_of_pos x h0
  have hw : wrap64 (x.tmod M + M) = x.tmod M + M := by
    unfold wrap64
    omega
  rw [hw, Int.tmod_eq_emod_of_nonneg (by omega)]
  have h3 := Int.emod_nonneg (x.tmod M + M) (Int.ne_of_gt h0)
  have h4 := Int.emod_lt_of_pos (x.tmod M + M) h0
  exact ⟨((x.tmod M + M) % M).toNat, by omega, by omega⟩
theorem Sm.ofInt_ib (x : BitVec 8) : BitVec.ofInt 8 (ib x) = x := by
  unfold ib
  rw [BitVec.ofInt_natCast, BitVec.ofNat_toNat]
  simp
theorem Sm.wrap_u8 (x : BitVec 8) : IntKind.u8.wrap (x.toNat : Int) = ib x := by
  have := x.isLt
  simp [IntKind.wrap, IntKind.signed, IntKind.bits, ib]
  omega
theorem Sm.xor8 (x y : BitVec 8) : bits .xor .u8 (ib x) (ib y) = ib (x ^^^ y) := by
  show IntKind.u8.wrap ((BitVec.ofInt 8 (ib x) ^^^ BitVec.ofInt 8 (ib y)).toNat : Int) = _
  rw [ofInt_ib, ofInt_ib, wrap_u8]
theorem Sm.flip_byte (b : Nat) (hb : b < 8) (y : BitVec 8) : bits .xor .u8 (ib y) ((2 : Int) ^ b % (256 : Int)) = ib (y ^^^ 1#8 <<< b) := by
  have h1 : ∀ b, b < 8 → (2 : Int) ^ b % (256 : Int) = ib (1#8 <<< b) := by decide
  rw [h1 b hb, xor8]
theorem Sm.Open_bad (l : List (BitVec 8)) (n c : Nat) (A : Option Addr) (w : World) (hn : l.length = n) (hm : n ≤ 1000000) (hc : n ≤ c) (hr : Rd w w.heap.size A l) (ht : Tab w) (hno : ¬ openOk l) :
    Calls Tryd.prog 27 #[.slice A n c] w fun e w' => ∃ A' c', e = .returned (.tuple #[.slice A' 0 c', .int .i64 110]) ∧ Below w.heap.size w w' := by
  refine (Open_gen l n c A w hn hm hc hr ht).mono ?_
  rintro e w' ⟨v, rfl, hown, hb⟩
  obtain ⟨A', c', rfl⟩ := own_slice hown
  refine ⟨A', c', ?_, hb⟩
  have h1 : openE l = 110 := by unfold openE; rw [if_neg hno]
  have h2 : (openL l).length = 0 := by unfold openL; rw [if_neg hno]; rfl
  rw [h1, h2]
/-- one bit turned in a row of bytes -/
theorem Sm.row_flip {w w2 : World} {L : List (BitVec 8)} {n cap g i : Nat} (hown : w2.ownsRow w.heap.size 5 1 (.slice (some ⟨g, 0, none⟩) n cap) n (L.map byteCell)) (hl : L.length = n) (hi : i < 8 * n) (hb : Below w.heap.size w w2) (hg : w.heap.size ≤ g) :
    ∃ y, w2.cell? ⟨g, i / 8, none⟩ = some (.int .u8 (ib y)) ∧ w2.frozen? ⟨g, i / 8, none⟩ = false ∧
      (w2.setCell ⟨g, i / 8, none⟩ (.int .u8 (bits .xor .u8 (ib y) ((2 : Int) ^ (i % 8) % (256 : Int))))).ownsRow w.heap.size 5 1 (.slice (some ⟨g, 0, none⟩) n cap) n ((flip L i).map byteCell) ∧
      Below w.heap.size w (w2.setCell ⟨g, i / 8, none⟩ (.int .u8 (bits .xor .u8 (ib y) ((2 : Int) ^ (i % 8) % (256 : Int))))) := by
  have hk : i / 8 < L.length := by omega
  refine ⟨L.getD (i / 8) 0#8, ?_, hown.frozenAt (i / 8), ?_, hb.setCell (p := ⟨g, i / 8, none⟩) hg _⟩
  · rw [hown.cellAt (i / 8) (by omega), List.getElem?_map, List.getElem?_eq_getElem hk, List.getD_eq_getElem?_getD, List.getElem?_eq_getElem hk]
    rfl
  · rw [flip_byte (i % 8) (Nat.mod_lt _ (by decide))]
    exact (own_set hown (i / 8) _).1
set_option maxRecDepth 100000 in
set_option maxHeartbeats 4000000 in
theorem Sm.flips_walk (l : List (BitVec 8)) (n c : Nat) (A : Option Addr) (one two : Int) (w : World) (hn : l.length = n) (hm : n ≤ 9223372036854775807) (hr : Rd w w.heap.size A l) (ht : Tab w) :
    Calls Tryd.prog 10 #[.slice A n c, .int .i64 one, .int .i64 two] w fun e w' => e = .returned (.bool true) ∧ Below w.heap.size w w' := by
  have HN := Lib.hid hn
  have hb := Below.refl w.heap.size w
  clear hn
  by_cases h : 900 < n
  · go_enter Tryd.func10, Tryd.ntmps10
    go_wp2_with (go_at_call 13; (with_reducible refine (works_from hb ht).mono ?_); clear hb; rintro e w1 ⟨rfl, hb⟩)
    go_ret
    exact ⟨rfl, hb⟩
  · have HM : Hid (n ≤ 1000000) := Lib.hid (by omega)
    clear hm
    go_enter Tryd.func10, Tryd.ntmps10
    go_wp2_with (go_at_call 28; (with_reducible refine (refSeal_any l n c A _ HN.out HM.out hr).mono ?_); rintro e w1 ⟨v1, rfl, hown1, hb1⟩; obtain ⟨g, cap, rfl, hgb, hgl, hcap⟩ := own_form hown1 (by omega))
    go_quiet (fail)
    obtain ⟨i, hi, ei⟩ := turn_bit one n (by omega)
    obtain ⟨j, hj, ej⟩ := turn_bit two n (by omega)
    rw [ei, ej]
    clear ei ej
    have hbq : Below w1.heap.size w1 (w1.drewN nq) := ⟨rfl, rfl, rfl, Nat.le_refl _, fun _ _ => rfl⟩
    have hown2 := own_below hown1 hbq
    have hb2 : Below w.heap.size w (w1.drewN nq) := hb1.trans (hbq.mono hb1.size)
    clear hbq hown1 hb1 hgl hb
    revert hown2 hb2
    generalize w1.drewN nq = w2
    intro hown2 hb2
    have F1 := flip_one l i (by rw [HN.out]; exact hi)
    have F2 := flip_two l (by rw [HN.out]; omega) i j (by rw [HN.out]; exact hi) (by rw [HN.out]; exact hj)
    have hLl : (l ++ leN (sumB l) 4).length = n + 4 := by rw [List.length_append, HN.out, leN_length]
    revert hown2 hLl F1 F2
    generalize l ++ leN (sumB l) 4 = L
    intro hown2 F1 F2 hLl
    have hl1 : (flip L i).length = n + 4 := by rw [flip_length]; exact hLl
    have HS : Hid (n + 4 ≤ 1000000) := Lib.hid (by omega)
    obtain ⟨y, hc, hf, ho, hz⟩ := row_flip hown2 hLl hi hb2 hgb
    clear hown2 hr HN
    by_cases hij : i = j
    · subst hij
      have HR : Hid (Rd _ _ (some ⟨g, 0, none⟩) (flip L i)) := Lib.hid (Rd.of_own ho (Nat.le_refl _))
      have HT := ht.below hz
      have HC := Lib.hid hcap
      have H1 := Lib.hid hl1
      have HO := Lib.hid F1
      have hy0 := ib_lo y
      have hy1 := ib_hi y
      clear F1 F2 hLl hl1 ho
      go_wp2_with (first
        | (go_at_call 27; (with_reducible refine (Open_bad (flip L i) (n + 4) cap (some ⟨g, 0, none⟩) _ H1.out HS.out HC.out HR.out HT HO.out).mono ?_); rintro e w3 ⟨A3, c3, rfl, hb3⟩; have hb4 : Below w.heap.size w w3 := hz.trans (hb3.mono hz.size))
        | (go_at_call 23; (with_reducible refine (num_any _ _).mono ?_); rintro e w8 ⟨rfl, rfl⟩)
        | (go_at_call 13; (with_reducible refine (works_from hb4 ht).mono ?_); rintro e w9 ⟨rfl, hb9⟩))
      go_ret
      exact ⟨rfl, hb9⟩
    · have hl2 : (flip (flip L i) j).length = n + 4 := by rw [flip_length]; exact hl1
      obtain ⟨y2, hc2, hf2, ho2, hz2⟩ := row_flip ho hl1 hj hz hgb
      have HR : Hid (Rd _ _ (some ⟨g, 0, none⟩) (flip (flip L i) j)) := Lib.hid (Rd.of_own ho2 (Nat.le_refl _))
      have HT := ht.below hz2
      have HC := Lib.hid hcap
      have H1 := Lib.hid hl2
      have HO := Lib.hid (F2 hij)
      have hy0 := ib_lo y
      have hy1 := ib_hi y
      have hz0 := ib_lo y2
      have hz1 := ib_hi y2
      clear F1 F2 hLl hl1 hl2 ho ho2
      go_wp2_with (first
        | (go_at_call 27; (with_reducible refine (Open_bad (flip (flip L i) j) (n + 4) cap (some ⟨g, 0, none⟩) _ H1.out HS.out HC.out HR.out HT HO.out).mono ?_); rintro e w3 ⟨A3, c3, rfl, hb3⟩; have hb4 : Below w.heap.size w w3 := hz2.trans (hb3.mono hz2.size))
        | (go_at_call 23; (with_reducible refine (num_any _ _).mono ?_); rintro e w8 ⟨rfl, rfl⟩)
        | (go_at_call 13; (with_reducible refine (works_from hb4 ht).mono ?_); rintro e w9 ⟨rfl, hb9⟩))
      go_ret
      exact ⟨rfl, hb9⟩
