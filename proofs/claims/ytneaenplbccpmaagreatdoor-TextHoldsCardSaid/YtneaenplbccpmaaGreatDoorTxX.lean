/-
  words: what its iterator promises: the pieces of words, one behind the other. Conditions: a text that is not too long, a width of at least 1, in boxes that no round turns; the package variables lie as they are laid.
-/
import Derived.Test.YtneaenplbccpmaaGreatDoorWoM
import Derived.Test.YtneaenplbccpmaaGreatDoorTxV
import Derived.Test.YtneaenplbccpmaaGreatDoorTxT
namespace Go.Proofs
open Go Go.RowKit Sm Go.Lib
attribute [local go_sem] Oper.semAt_some
set_option maxHeartbeats 400000 in
theorem Sm.words_any (s : ByteArray) (n : Int) (w : World) : Calls Tryz.prog 78 #[.string s, .int .i64 n] w fun e w' => e = .returned (.func (.func 91) #[] #[.pointer (some ⟨w.heap.size, 0, none⟩), .pointer (some ⟨w.heap.size + 1, 0, none⟩)]) ∧ (w.alloc (.cells #[.string s] 9)).alloc (.cells #[.int .i64 n] 3) = w' := by
  have hmf : ∀ (fn : Fn) (first cap : Array Value) (w : World), (Instr.makeFunc fn first cap).run Tryz.prog w = .ok (.func fn first cap) w := fun _ _ _ _ => rfl
  go_enter Tryz.func78, Tryz.ntmps78
  go_wp2
  go_ret
  exact ⟨rfl, rfl⟩
/-- what is left behind piece k, with its blanks -/
def Sm.restK (l : List (BitVec 8)) (n k : Nat) : List (BitVec 8) := (leftK l n k).drop (pieceL n (leftK l n k)).length
/-- with what piece k is told -/
def Sm.HWo (l : List (BitVec 8)) (n : Nat) (_L k : Nat) (args : Array Value) (_W : World) : Prop :=
  leftK l n k ≠ [] ∧ args = #[.int .i64 ((l.length - (restK l n k).length : Nat) : Int), .string (strB (pieceL n (leftK l n k)))]
theorem Sm.LaysT.but {S : Nat → Prop} {w w' : World} (h : LaysT w) (hb : But S w w') (hS : ∀ b, S b → 5 ≤ b) : LaysT w' := by
  have hs := h.size
  have k : ∀ b o, b < 5 → w'.cell? ⟨b, o, none⟩ = w.cell? ⟨b, o, none⟩ := fun b o hlt => hb.cell (p := ⟨b, o, none⟩) (by show b < _; omega) (fun e => by have := hS _ e; have : b = (⟨b, o, none⟩ : Addr).block := rfl; omega)
  refine ⟨Nat.le_trans hs hb.size, ⟨fun c hc => (k 0 c (by omega)).trans (h.tabs.1 c hc), fun i hi => ⟨(k 1 _ (by omega)).trans (h.tabs.2 i hi).1, (k 1 _ (by omega)).trans (h.tabs.2 i hi).2⟩⟩, ?_, ?_, ?_⟩
  · rw [k 2 0 (by omega)]; exact h.mx
  · rw [k 3 0 (by omega)]; exact h.e3
  · rw [k 4 0 (by omega)]; exact h.e4
structure Sm.WoI (J : Nat → World → Prop) (M : Nat → Prop) (wr : World) (l : List (BitVec 8)) (n B1 B2 L k : Nat) : Prop where
  j : J k wr
  own : ∀ b, M b → L ≤ b ∧ b < wr.heap.size
  b1 : wr.heap[B1]? = some (.cells #[.string (strB l)] 9 (0, 0))
  b2 : wr.heap[B2]? = some (.cells #[.int .i64 (n : Int)] 3 (0, 0))
  lays : LaysT wr
  size : L ≤ wr.heap.size
theorem Sm.leftK_le (l : List (BitVec 8)) (n : Nat) : ∀ k, (leftK l n k).length ≤ l.length
  | 0 => bl_len l
  | k + 1 => by
    have ih := leftK_le l n k
    have := bl_len ((leftK l n k).drop (pieceL n (leftK l n k)).length)
    rw [List.length_drop] at this
    show (bl _).length ≤ _
    omega
theorem Sm.place_piece (l : List (BitVec 8)) (n : Nat) : (strB l).extract 0 (posK (strB l) (min n (cntS (strB l)))) = strB (l.take (posK (strB l) (min n (cntS (strB l))))) := by
  rw [cut_strB, List.drop_zero]
set_option maxRecDepth 100000 in
set_option maxHeartbeats 2000000 in
theorem Sm.words_seqY (l : List (BitVec 8)) (n B1 B2 : Nat) (w : World) (X : Nat → Prop) (hb1 : w.heap[B1]? = some (.cells #[.string (strB l)] 9 (0, 0))) (hb2 : w.heap[B2]? = some (.cells #[.int .i64 (n : Int)] 3 (0, 0))) (_hX : ∀ b, X b → b < w.heap.size) (hX5 : ∀ b, X b → 5 ≤ b)
    (hX1 : ¬ X B1) (hX2 : ¬ X B2) (hm : l.length ≤ 1000000) (hn : 0 < n) (hn2 : n ≤ 1000000) (hL : LaysT w) :
    SeqY Tryz.prog 91 #[.pointer (some ⟨B1, 0, none⟩), .pointer (some ⟨B2, 0, none⟩)] X (HWo l n) rowE (fun _ => True) (fun k => leftK l n k = []) (fun _ => True) w := by
  intro L0 J Jx W hW hJ hJx hY hJ0
  have hB1l : B1 < w.heap.size := (Array.getElem?_eq_some_iff.1 hb1).1
  have hB2l : B2 < w.heap.size := (Array.getElem?_eq_some_iff.1 hb2).1
  have h5 := hL.size
  have hI0 : WoI (J fun _ => False) (fun _ => False) W l n B1 B2 W.heap.size 0 := ⟨hJ0, (fun b e => e.elim), (hW.block _ hB1l).trans hb1, (hW.block _ hB2l).trans hb2, hL.keep hW, Nat.le_refl _⟩
  have c1 : W.cell? ⟨B1, 0, none⟩ = some (.string (strB l)) := cell_of_heap hI0.b1 0
  have hbb := behindBlanks_any l W
  have hbs : Hid (leftK l n 0 = bl l) := Lib.hid rfl
  obtain ⟨L, hLe⟩ : ∃ L, W.heap.size = L := ⟨_, rfl⟩
  have hwL : w.heap.size ≤ L := by rw [← hLe]; exact hW.size
  have HLE := Lib.hid hLe
  rw [hLe] at hI0 hJ hJx hY
  have HI0 := Lib.hid hI0
  show Calls Tryz.prog 91 #[.func (.yield L0) #[] #[], .pointer (some ⟨B1, 0, none⟩), .pointer (some ⟨B2, 0, none⟩)] W _
  rw [← show leftK l n 0 = bl l from rfl] at hbb
  clear hI0 hb1 hb2 hJ0 hLe hbs hL
  go_enter Tryz.func91, Tryz.ntmps91
  go_wp2_with (go_at_call 51; (with_reducible refine hbb.mono ?_); rintro e w' ⟨rfl, rfl⟩)
  clear c1 hbb
  go_loopw [4] (fun v4 wr => ∃ (k : Nat) (M : Nat → Prop), v4 = .string (strB (leftK l n k)) ∧ Hid (WoI (J M) M wr l n B1 B2 L k)) (fun v4 _ => strLen v4)
  case atStart => exact ⟨0, _, rfl, HI0⟩
  case round =>
    obtain ⟨wo, rfl⟩ : ∃ wo : World, wo = wr := ⟨_, rfl⟩
    obtain ⟨k, M, rfl, HI⟩ := hrel
    clear HI0
    have hll := leftK_le l n k
    by_cases hz : leftK l n k = []
    · have e0 : strB ([] : List (BitVec 8)) = { data := #[] } := by decide +kernel
      rw [hz, e0]
      have HZ := Lib.hid hz
      clear hz e0
      go_wp2_with fail
      go_end0
      exact ⟨⟨_, rfl⟩, .inl ⟨M, k, HZ.out, (fun b e => by have := HI.out.own b e; have := HLE.out; omega), HI.out.j⟩⟩
    · have hlen := leftK_len hn hz
      have hH : ∀ W1, HWo l n L k #[.int .i64 ((l.length - (restK l n k).length : Nat) : Int), .string (strB (pieceL n (leftK l n k)))] W1 := fun W1 => ⟨hz, rfl⟩
      have hpl := place_any (strB (leftK l n k)) (n : Int) wo (by rw [strB_length]; omega) (by omega) (by omega)
      rw [Int.toNat_natCast] at hpl
      have hpc := place_piece (leftK l n k) n
      have hple : posK (strB (leftK l n k)) (min n (cntS (strB (leftK l n k)))) ≤ (strB (leftK l n k)).size := posK_le _ _
      have hcut := fun W1 (hL1 : LaysT W1) => Cut2_any ((leftK l n k).take (posK (strB (leftK l n k)) (min n (cntS (strB (leftK l n k)))))) W1 (by rw [List.length_take]; omega) hL1
      have hpe : ((leftK l n k).take (posK (strB (leftK l n k)) (min n (cntS (strB (leftK l n k)))))).takeWhile (fun b => !(b == 32#8)) = pieceL n (leftK l n k) := rfl
      rw [hpe] at hcut
      have hpel := piece_le n (leftK l n k)
      have hrest : (strB (leftK l n k)).extract (pieceL n (leftK l n k)).length (strB (leftK l n k)).size = strB (restK l n k) := by
        rw [cut_strB, List.take_of_length_le (by rw [strB_length]; exact Nat.le_refl _)]
        rfl
      have hrl : (restK l n k).length ≤ (leftK l n k).length := by unfold restK; rw [List.length_drop]; omega
      have hbb2 := fun W1 => behindBlanks_any (restK l n k) W1
      have hnx : bl (restK l n k) = leftK l n (k + 1) := rfl
      rw [hnx] at hbb2
      have hsz0 := strB_length (leftK l n k)
      have hszp := strB_length (pieceL n (leftK l n k))
      have hszr := strB_length (restK l n k)
      have hszl := strB_length l
      have hszn := strB_length (leftK l n (k + 1))
      have hne0 : 0 < (strB (leftK l n k)).toList.length := by rw [ByteArray.toList_eq, list_len, strB_length]; exact List.length_pos_iff.2 hz
      have he1 : (strB (leftK l n k)).toList.isEmpty = false := by
        cases h : (strB (leftK l n k)).toList with
        | nil => rw [h] at hne0; simp at hne0
        | cons _ _ => rfl
      have he2 : ¬ (strB (leftK l n k)).toList = [] := fun e => by rw [e] at hne0; simp at hne0
      have hmeas : (strB (leftK l n (k + 1))).size < (strB (leftK l n k)).size := by omega
      obtain ⟨S, hS⟩ : ∃ S, strB (leftK l n k) = S := ⟨_, rfl⟩
      rw [hS] at hpl hpc hple hrest hsz0 he1 he2 hmeas ⊢
      obtain ⟨P, hP⟩ : ∃ P, posK S (min n (cntS S)) = P := ⟨_, rfl⟩
      rw [hP] at hpl hpc hple
      rw [hS, hP] at hcut
      obtain ⟨T, hT⟩ : ∃ T, strB ((leftK l n k).take P) = T := ⟨_, rfl⟩
      rw [hT] at hpc hcut
      obtain ⟨R, hR⟩ : ∃ R, strB (restK l n k) = R := ⟨_, rfl⟩
      rw [hR] at hrest hbb2 hszr
      obtain ⟨Q, hQ⟩ : ∃ Q, strB (pieceL n (leftK l n k)) = Q := ⟨_, rfl⟩
      rw [hQ] at hcut hszp hH
      obtain ⟨N, hN⟩ : ∃ N, strB (leftK l n (k + 1)) = N := ⟨_, rfl⟩
      rw [hN] at hbb2 hmeas
      obtain ⟨SL, hSL⟩ : ∃ SL, strB l = SL := ⟨_, rfl⟩
      rw [hSL] at hszl
      have hbx1 := HI.out.b1
      rw [hSL] at hbx1
      have hsl1 : ∀ w, (Instr.slice 9 (.string S) none (some (.int .i64 (P : Int))) none).run Tryz.prog w = .ok (.string T) w := fun w => by
        have := run_slice_string_h (P := Tryz.prog) w 9 S Tryz.underlying9 .i64 (P : Int) (by omega) (by omega)
        rw [this, ← hpc]
        rfl
      have hsl2 : ∀ w, (Instr.slice 9 (.string S) (some (.int .i64 (Q.size : Int))) none none).run Tryz.prog w = .ok (.string R) w := fun w => by
        rw [slice_from S Q.size (by omega) (by omega), hszp, hrest]
      have hend : (SL.size : Int) - (R.size : Int) = ((l.length - (restK l n k).length : Nat) : Int) := by omega
      have hrs0 : (R.size : Int) ≤ (SL.size : Int) := by omega
      have k1 : wo.cell? ⟨B1, 0, none⟩ = some (.string SL) := cell_of_heap hbx1 0
      have k2 : wo.cell? ⟨B2, 0, none⟩ = some (.int .i64 (n : Int)) := cell_of_heap HI.out.b2 0
      obtain ⟨E, hE⟩ : ∃ E : Nat, l.length - (restK l n k).length = E := ⟨_, rfl⟩
      have hEb : E ≤ 1000000 := by omega
      rw [hE] at hend hH
      have HH := Lib.hid hH
      have HCUT := Lib.hid hcut
      have HMEAS := Lib.hid hmeas
      have HN := Lib.hid hN
      have HBB := Lib.hid hbb2
      clear hpc hple hcut hpe hrest hrl hnx hsz0 hszp hszr hszl hszn hne0 hmeas hS hP hT hR hQ hN hSL hbx1 hE hH hz hlen hpel hll hbb2
      go_upto_region 5 with (first
        | (go_at_call 36; (with_reducible refine hpl.mono ?_); clear hpl; rintro e w1 ⟨rfl, hb1⟩; have hcu := HCUT.out w1 (HI.out.lays.keep hb1); have HB1 := Lib.hid hb1; clear hb1)
        | (go_at_call 92; (with_reducible refine hcu.mono ?_); clear hcu; rintro e w2 ⟨y, b, rfl, hb2⟩; have HB2 := Lib.hid (HB1.out.trans (hb2.mono HB1.out.size)); clear hb2))
      have hj2 : J M k w2 := hJ.below HI.out.j (fun b e => (HI.out.own b e).2) HB2.out
      have k1' : w2.cell? ⟨B1, 0, none⟩ = some (.string SL) := (HB2.out.cell (p := ⟨B1, 0, none⟩) (by have := HI.out.size; show B1 < _; omega)).trans k1
      obtain ⟨fn, tmps, assign, body, hy, hRd⟩ := hY M k _ w2 (fun b e => ⟨(HI.out.own b e).1, Nat.lt_of_lt_of_le (HI.out.own b e).2 HB2.out.size⟩) hj2 (HH.out w2)
      clear k1 k2 hj2
      refine (wpIn_wide (n := 3)).1 ?_
      gi_wp2
      refine (roundIn_any hRd).mono ?_
      clear hRd hy
      have hnB : ∀ b, ¬ X b → b < w.heap.size → ¬ (RoundMay X w.heap.size L rowE #[.int .i64 (E : Int), .string Q] b ∨ M b) := fun b hb hlt e => by
        rcases e with (e | e | e) | e
        · exact hb e
        · omega
        · exact e
        · have := (HI.out.own b e).1; omega
      rintro e W3 (⟨rfl, _, ⟨M', hsub, hJ3⟩, hbut⟩ | ⟨rfl, ⟨M', hsub, hJx3⟩, hbut⟩)
      · have hs := HI.out.size
        have hown3 : ∀ b, M' b → L ≤ b ∧ b < W3.heap.size := fun b e => by
          have h2 := hbut.size
          have h3 := HB2.out.size
          rcases hsub b e with e | e
          · have := HI.out.own b e; omega
          · omega
        have hnew : WoI (J M') M' W3 l n B1 B2 L (k + 1) := ⟨hJ3, hown3, hbut.box ((HB2.out.block B1 (by omega)).trans HI.out.b1) (hnB B1 hX1 hB1l), hbut.box ((HB2.out.block B2 (by omega)).trans HI.out.b2) (hnB B2 hX2 hB2l),
          (HI.out.lays.keep HB2.out).but hbut (fun b e => by
            rcases e with (e | e | e) | e
            · exact hX5 b e
            · omega
            · exact e.elim
            · have := (HI.out.own b e).1; omega), by have := hbut.size; have := HB2.out.size; omega⟩
        have HNEW := Lib.hid hnew
        clear hnew hown3 hbut hsub hJ3
        gi_wp2
        go_wp2_with (go_at_call 51; (with_reducible refine (HBB.out _).mono ?_); rintro e w' ⟨rfl, rfl⟩)
        refine ⟨⟨k + 1, M', by rw [HN.out], HNEW⟩, ?_⟩
        simpa [strLen] using HMEAS.out
      · have hown3 : ∀ b, M' b → W.heap.size ≤ b ∧ b < W3.heap.size := fun b e => by
          have h1 := HLE.out
          have h2 := hbut.size
          have h3 := HB2.out.size
          have h4 := HI.out.size
          rcases hsub b e with e | e
          · have := HI.out.own b e; omega
          · omega
        have HO3 := Lib.hid hown3
        clear hown3 hbut hsub
        gi_wp2
        go_wp2_with fail
        refine bodyPost_ret (results_none rfl _ _ _) rfl ?_
        exact ⟨⟨_, rfl⟩, .inr ⟨M', k + 1, trivial, HO3.out, hJx3⟩⟩
end Go.Proofs
