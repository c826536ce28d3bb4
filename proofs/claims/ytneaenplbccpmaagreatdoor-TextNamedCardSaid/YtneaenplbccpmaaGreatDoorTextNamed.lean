/-
  The law TextNamed holds of every text: Named answers as the document's own does. Conditions: the row's own.
-/
import Derived.Deep.CutRange
import Derived.Deep.CutBlock
import Derived.Deep.QuietTactic
import Derived.BigQuiet
import Derived.Test.YtneaenplbccpmaaGreatDoorTxWk
import Derived.Test.YtneaenplbccpmaaGreatDoorFrame
namespace Go.Proofs
open Go Go.RowKit Sm Go.Lib
attribute [local go_sem] Oper.semAt_some
set_option maxRecDepth 100000 in
set_option maxHeartbeats 1000000 in
theorem Sm.named_any (x : Nat) (w : World) : Calls Tryz.prog 47 #[.int .u8 (x : Int)] w fun e w' => e = .returned (.bool (nameN x)) ∧ w = w' := by
  by_cases a1 : 97 ≤ x
  · by_cases a2 : x ≤ 122
    · have e : nameN x = true := by unfold nameN; exact decide_eq_true (by omega)
      rw [e]
      clear e
      go_enter Tryz.func47, Tryz.ntmps47
      go_wp2
      go_ret
      exact ⟨rfl, rfl⟩
    · have e : nameN x = false := by unfold nameN; exact decide_eq_false (by omega)
      have e2 : ((x : Int) == 95) = false := by simp; omega
      have e3 : ¬ (x : Int) ≤ 57 := by omega
      have e5 : ¬ (x : Int) ≤ 122 := by omega
      have e4 : 48 ≤ x := by omega
      rw [e]
      clear e
      go_enter Tryz.func47, Tryz.ntmps47
      go_wp2
      go_ret
      exact ⟨rfl, rfl⟩
  · by_cases b1 : 48 ≤ x
    · by_cases b2 : x ≤ 57
      · have e : nameN x = true := by unfold nameN; exact decide_eq_true (by omega)
        rw [e]
        clear e
        go_enter Tryz.func47, Tryz.ntmps47
        go_wp2
        go_ret
        exact ⟨rfl, rfl⟩
      · by_cases c1 : x = 95
        · have e : nameN x = true := by unfold nameN; exact decide_eq_true (by omega)
          rw [e]
          clear e a1 b1 b2
          subst c1
          go_enter Tryz.func47, Tryz.ntmps47
          go_wp2
          go_ret
          exact ⟨rfl, rfl⟩
        · have e : nameN x = false := by unfold nameN; exact decide_eq_false (by omega)
          have e2 : ((x : Int) == 95) = false := by simp; omega
          have e3 : ¬ (x : Int) ≤ 57 := by omega
          rw [e]
          clear e c1
          go_enter Tryz.func47, Tryz.ntmps47
          go_wp2
          go_ret
          exact ⟨rfl, rfl⟩
    · have e : nameN x = false := by unfold nameN; exact decide_eq_false (by omega)
      have e2 : ((x : Int) == 95) = false := by simp; omega
      rw [e]
      clear e
      go_enter Tryz.func47, Tryz.ntmps47
      go_wp2
      go_ret
      exact ⟨rfl, rfl⟩
/-- is the byte ahead one of a name? -/
def Sm.flK (l : List (BitVec 8)) (i : Nat) : Bool := if i = 0 then false else nmB (l.getD (i - 1) 0#8)
/-- the name behind byte i -/
def Sm.twK (l : List (BitVec 8)) (i : Nat) : List (BitVec 8) := (l.drop (i + 1)).takeWhile nmB
def Sm.isN (l : List (BitVec 8)) (i : Nat) : Prop := 0 < (twK l i).length ∧ (twK l i).length ≤ 16
theorem Sm.dedL_snoc (done : List (List (BitVec 8))) (x : List (BitVec 8)) : dedL (done ++ [x]) = addN (dedL done) x := by
  unfold dedL
  rw [List.foldl_append]
  rfl
structure Sm.NdI (w wr : World) (l : List (BitVec 8)) (i : Nat) (v : Value) (out done : List (List (BitVec 8))) : Prop where
  le : i ≤ l.length
  raw : rawF false l = done ++ rawF (flK l i) (l.drop i)
  ded : out = dedL done
  row : wr.ownsRow w.heap.size 9 1 v out.length (strC out)
  below : Below w.heap.size w wr
  cnt : out.length ≤ i
theorem Sm.NdI.keep {w wr W : World} {l : List (BitVec 8)} {i : Nat} {v : Value} {out done : List (List (BitVec 8))} (h : NdI w wr l i v out done) (hb : Below wr.heap.size wr W) : NdI w W l i v out done :=
  ⟨h.le, h.raw, h.ded, own_below h.row hb, h.below.trans (hb.mono h.below.size), h.cnt⟩
theorem Sm.flK_succ {l : List (BitVec 8)} {i : Nat} (h : i < l.length) : flK l (i + 1) = nmB l[i] := by
  unfold flK
  rw [if_neg (by omega), Nat.add_sub_cancel, List.getD_eq_getElem?_getD, List.getElem?_eq_getElem h]
  rfl
theorem Sm.NdI.skip {w wr : World} {l : List (BitVec 8)} {i : Nat} {v : Value} {out done : List (List (BitVec 8))} (h : NdI w wr l i v out done) (hi : i < l.length) (hn : ¬ (l[i] = 64#8 ∧ flK l i = false ∧ isN l i)) : NdI w wr l (i + 1) v out done := by
  refine ⟨hi, ?_, h.ded, h.row, h.below, by have := h.cnt; omega⟩
  have hr := h.raw
  rw [List.drop_eq_getElem_cons hi, rawF_cons, if_neg (show ¬ (l[i] = 64#8 ∧ flK l i = false ∧ 0 < (List.takeWhile nmB (List.drop (i + 1) l)).length ∧ (List.takeWhile nmB (List.drop (i + 1) l)).length ≤ 16) from hn), List.nil_append, ← flK_succ hi] at hr
  exact hr
theorem Sm.NdI.old {w wr : World} {l : List (BitVec 8)} {i : Nat} {v : Value} {out done : List (List (BitVec 8))} (h : NdI w wr l i v out done) (hi : i < l.length) (hn : l[i] = 64#8 ∧ flK l i = false ∧ isN l i) (hin : twK l i ∈ out) : NdI w wr l (i + 1) v out (done ++ [twK l i]) := by
  refine ⟨hi, ?_, ?_, h.row, h.below, by have := h.cnt; omega⟩
  · have hr := h.raw
    rw [List.drop_eq_getElem_cons hi, rawF_cons, if_pos (show (l[i] = 64#8 ∧ flK l i = false ∧ 0 < (List.takeWhile nmB (List.drop (i + 1) l)).length ∧ (List.takeWhile nmB (List.drop (i + 1) l)).length ≤ 16) from hn), ← flK_succ hi] at hr
    rw [List.append_assoc]
    exact hr
  · rw [dedL_snoc, ← h.ded]
    unfold addN
    rw [if_pos hin]
theorem Sm.NdI.new {w wr W : World} {l : List (BitVec 8)} {i : Nat} {v v2 : Value} {out done : List (List (BitVec 8))} (h : NdI w wr l i v out done) (hi : i < l.length) (hn : l[i] = 64#8 ∧ flK l i = false ∧ isN l i) (hin : ¬ twK l i ∈ out)
    (ho : W.ownsRow w.heap.size 9 1 v2 (out.length + 1) (strC out ++ [.string (strB (twK l i))])) (hb : Below w.heap.size w W) : NdI w W l (i + 1) v2 (out ++ [twK l i]) (done ++ [twK l i]) := by
  refine ⟨hi, ?_, ?_, ?_, hb, by have := h.cnt; rw [List.length_append]; show out.length + 1 ≤ i + 1; omega⟩
  · have hr := h.raw
    rw [List.drop_eq_getElem_cons hi, rawF_cons, if_pos (show (l[i] = 64#8 ∧ flK l i = false ∧ 0 < (List.takeWhile nmB (List.drop (i + 1) l)).length ∧ (List.takeWhile nmB (List.drop (i + 1) l)).length ≤ 16) from hn), ← flK_succ hi] at hr
    rw [List.append_assoc]
    exact hr
  · rw [dedL_snoc, ← h.ded]
    unfold addN
    rw [if_neg hin]
  · rw [List.length_append]
    unfold strC at ho ⊢
    rw [List.map_append]
    exact ho
set_option maxRecDepth 100000 in
set_option maxHeartbeats 2000000 in
theorem Sm.refNamed_any (s : ByteArray) (w : World) (hm : s.size ≤ 1000000) : Calls Tryz.prog 25 #[.string s] w fun e w' => ∃ A c, e = .returned (.slice A (namedS s).length c) ∧ w'.ownsRow w.heap.size 9 1 (.slice A (namedS s).length c) (namedS s).length (strC (namedS s)) ∧ Below w.heap.size w w' := by
  have hl := strL_length s
  unfold namedS
  obtain ⟨l, hle⟩ : ∃ l, strL s = l := ⟨_, rfl⟩
  have hgt : ∀ (k : Nat) (h : k < l.length), (s.get! k).toNat = (l[k]).toNat := by subst hle; exact fun k h => byte_get s (List.getElem?_eq_getElem h)
  have hix : ∀ (k : Nat) (h : k < l.length) w, (Instr.index 9 (.string s) (.int .i64 (k : Int))).run Tryz.prog w = .ok (.int .u8 ((l[k]).toNat : Int)) w := fun k h w => by
    rw [← hgt k h]; exact byte_at s k (by rw [← hl, hle]; exact h) w
  have hsl : ∀ i, i < l.length → ∀ w, (Instr.slice 9 (.string s) (some (.int .i64 ((i + 1 : Nat) : Int))) (some (.int .i64 ((i + 1 + (twK l i).length : Nat) : Int))) none).run Tryz.prog w = .ok (.string (strB (twK l i))) w := fun i hi w => by
    have htl : (twK l i).length ≤ l.length - (i + 1) := by
      have := (List.takeWhile_prefix nmB (l := l.drop (i + 1))).length_le
      rw [List.length_drop] at this
      exact this
    have hls : l.length = s.size := by rw [← hle]; exact hl
    rw [run_slice_string (P := Tryz.prog) w 9 s .i64 .i64 ((i + 1 : Nat) : Int) ((i + 1 + (twK l i).length : Nat) : Int) Tryz.underlying9 (by omega) (by omega) (by omega)]
    rw [Int.toNat_natCast, Int.toNat_natCast]
    have e : s.extract (i + 1) (i + 1 + (twK l i).length) = strB (twK l i) := by
      conv => lhs; rw [← strB_strL s]
      rw [cut_strB, hle]
      congr 1
      rw [List.drop_take, show i + 1 + (twK l i).length - (i + 1) = (twK l i).length by omega]
      exact tw_take (l.drop (i + 1))
    rw [e]
  rw [hle] at hl ⊢
  obtain ⟨i9, hi9, hs0, hs1, hs2⟩ := info_parts info9
  have hI0 : NdI w w l 0 (.slice none 0 0) [] [] := ⟨Nat.zero_le _, rfl, rfl, World.ownsRow_nil _ _ _ _, Below.refl _ _, Nat.zero_le _⟩
  have HI0 := Lib.hid hI0
  have HL := Lib.hid hl
  have HIX := Lib.hid hix
  have HSL := Lib.hid hsl
  clear hI0 hl hle hgt hix hsl
  go_enter Tryz.func25, Tryz.ntmps25
  go_wp2
  go_loopw [3, 4] (fun v3 v4 wr => ∃ (i : Nat) (out done : List (List (BitVec 8))), i ≤ s.size ∧ v4 = .int .i64 (i : Int) ∧ Hid (NdI w wr l i v3 out done)) (fun _ v4 _ => s.size - (RowKit.intOf v4).toNat)
  case atStart => exact ⟨0, [], [], Nat.zero_le _, rfl, HI0⟩
  case round =>
    obtain ⟨wo, rfl⟩ : ∃ wo : World, wo = wr := ⟨_, rfl⟩
    obtain ⟨i, out, done, hi, rfl, HI⟩ := hrel
    clear HI0
    have hsz := HL.out
    by_cases hlt : i < s.size
    · have hil : i < l.length := by omega
      have i0 := HIX.out i hil
      obtain ⟨x, hx⟩ : ∃ x, l[i].toNat = x := ⟨_, rfl⟩
      rw [hx] at i0
      by_cases h64 : x = 64
      · have hb64 : l[i] = 64#8 := BitVec.eq_of_toNat_eq (by rw [hx, h64]; rfl)
        by_cases hfl : flK l i = true
        · have hi0 : 0 < i := by
            rcases Nat.eq_zero_or_pos i with e | e
            · subst e; simp [flK] at hfl
            · exact e
          have i1 : ∀ w, (Instr.index 9 (.string s) (.int .i64 ((i : Int) - 1))).run Tryz.prog w = .ok (.int .u8 ((l[i - 1]'(by omega)).toNat : Int)) w := fun w => by
            rw [show (i : Int) - 1 = ((i - 1 : Nat) : Int) by omega]
            exact HIX.out (i - 1) (by omega) w
          have hn1 : nameN (l[i - 1]'(by omega)).toNat = true := by
            unfold flK at hfl
            rw [if_neg (by omega), List.getD_eq_getElem?_getD, List.getElem?_eq_getElem (by omega)] at hfl
            exact hfl
          obtain ⟨y, hy⟩ : ∃ y, (l[i - 1]'(by omega)).toNat = y := ⟨_, rfl⟩
          rw [hy] at i1 hn1
          have hcn := fun w => named_any y w
          rw [hn1] at hcn
          have HN : Hid (NdI w wo l (i + 1) u3 out done) := Lib.hid (HI.out.skip hil (fun h => by rw [h.2.1] at hfl; cases hfl))
          subst h64
          clear hfl hb64 hn1 hy hx
          go_wp2_with (go_at_call 47; (with_reducible refine (hcn _).mono ?_); rintro e w' ⟨rfl, rfl⟩)
          go_roundw
          case rel => exact ⟨i + 1, out, done, by omega, by go_num, HN⟩
          case measure => simp [RowKit.intOf]; omega
        · have hfl2 : flK l i = false := by simpa using hfl
          clear hfl
          subst h64
          by_cases hi0 : i = 0
          · have hi0i : ¬ (0 : Int) < (i : Int) := by omega
            have hi0b : decide ((0 : Int) < (i : Int)) = false := decide_eq_false hi0i
            clear hi0
            have hcn : ∀ w, Calls Tryz.prog 47 #[.int .u8 ((0 : Nat) : Int)] w fun e w' => e = .returned (.bool (nameN 0)) ∧ w = w' := fun w => named_any 0 w
            have hil1 : i + 1 ≤ l.length := hil
            go_upto_block 2 with (go_at_call 47; (with_reducible refine (hcn _).mono ?_); rintro e w' ⟨rfl, rfl⟩)
            go_cut [5] from 8 to 81 (fun s5 wx => s5 = .int .i64 ((i + 1 + (twK l i).length : Nat) : Int) ∧ wx = wo)
            case first =>
              go_wp2_with fail
              go_loopw [5] (fun v5 wr => ∃ m : Nat, m ≤ (twK l i).length ∧ v5 = .int .i64 ((i + 1 + m : Nat) : Int) ∧ wo = wr) (fun v5 _ => s.size - (RowKit.intOf v5).toNat)
              case atStart => exact ⟨0, Nat.zero_le _, by rw [show ((i + 1 + 0 : Nat) : Int) = (i : Int) + 1 by omega], rfl⟩
              case round =>
                obtain ⟨m, hm2, rfl, hww⟩ := hrel
                subst hww
                obtain ⟨K, hK⟩ : ∃ K, i + 1 + m = K := ⟨_, rfl⟩
                rw [hK]
                by_cases hmt : m < (twK l i).length
                · obtain ⟨b, hb1, hb2⟩ := tw_get (f := nmB) (l.drop (i + 1)) m hmt
                  rw [List.getElem?_drop, hK] at hb1
                  obtain ⟨hKl, hKb⟩ := List.getElem?_eq_some_iff.1 hb1
                  have iK := HIX.out K hKl
                  rw [hKb] at iK
                  have hcK := fun w => named_any b.toNat w
                  rw [show nameN b.toNat = true from hb2] at hcK
                  have hKs : K < s.size := by omega
                  have HK := Lib.hid hK
                  clear hb1 hb2 hKb hK i0
                  go_wp2_with (go_at_call 47; (with_reducible refine (hcK _).mono ?_); rintro e w' ⟨rfl, rfl⟩)
                  go_roundw
                  case rel => exact ⟨m + 1, by omega, by rw [show ((i + 1 + (m + 1) : Nat) : Int) = (K : Int) + 1 by have := HK.out; omega], trivial⟩
                  case measure => simp [RowKit.intOf]; omega
                · have hme : m = (twK l i).length := by omega
                  have hfin : Hid ((Value.int .i64 (K : Int)) = .int .i64 ((i + 1 + (twK l i).length : Nat) : Int)) := Lib.hid (by rw [← hK, hme])
                  by_cases hKs : K < s.size
                  · obtain ⟨b, hb1, hb2⟩ := tw_end (f := nmB) (l.drop (i + 1)) (by
                      rw [List.length_drop]
                      have : ((l.drop (i + 1)).takeWhile nmB).length = m := hme.symm
                      omega)
                    have hme2 : ((l.drop (i + 1)).takeWhile nmB).length = m := hme.symm
                    rw [List.getElem?_drop, hme2, hK] at hb1
                    obtain ⟨hKl, hKb⟩ := List.getElem?_eq_some_iff.1 hb1
                    have iK := HIX.out K hKl
                    rw [hKb] at iK
                    have hcK := fun w => named_any b.toNat w
                    rw [show nameN b.toNat = false from hb2] at hcK
                    clear hb1 hb2 hKb hK i0 hme hme2
                    go_wp2_with (go_at_call 47; (with_reducible refine (hcK _).mono ?_); rintro e w' ⟨rfl, rfl⟩)
                    go_meet
                    exact ⟨hfin.out, rfl⟩
                  · clear hK i0 hme
                    go_wp2_with fail
                    go_meet
                    exact ⟨hfin.out, rfl⟩
            case rest =>
              obtain ⟨rfl, hwc⟩ := hcut
              subst hwc
              obtain ⟨n, hn⟩ : ∃ n, (twK l i).length = n := ⟨_, rfl⟩
              rw [hn]
              have htl : n ≤ l.length - (i + 1) := by
                have := (List.takeWhile_prefix nmB (l := l.drop (i + 1))).length_le
                rw [List.length_drop] at this
                rw [← hn]
                exact this
              obtain ⟨KE, hKE⟩ : ∃ KE, i + 1 + n = KE := ⟨_, rfl⟩
              have hslw := HSL.out i hil
              rw [hn, hKE, show ((i + 1 : Nat) : Int) = (i : Int) + 1 by omega] at hslw
              rw [hKE]
              obtain ⟨th, hth⟩ : ∃ th : Bool, decide (n = 0 ∨ 16 < n) = th := ⟨_, rfl⟩
              clear i0
              go_upto_region 9 with fail
              go_cut [6] from 8 to 81 (fun s6 wx => s6 = .bool th ∧ wx = wc)
              case first =>
                by_cases hn0 : n = 0
                · have e1 : ((KE : Int) == (i : Int) + 1) = true := by simp; omega
                  have e2 : th = true := by rw [← hth]; exact decide_eq_true (.inl hn0)
                  have HE := Lib.hid e2
                  clear e2 hth hn hn0 hKE
                  go_wp2_with fail
                  go_meet
                  exact ⟨by rw [HE.out], rfl⟩
                · have e1 : ((KE : Int) == (i : Int) + 1) = false := by simp; omega
                  by_cases hn16 : 16 < n
                  · have e3 : (i : Int) + 17 < (KE : Int) := by omega
                    have e2 : th = true := by rw [← hth]; exact decide_eq_true (.inr hn16)
                    have HE := Lib.hid e2
                    clear e2 hth hn hn0 hn16 hKE
                    go_wp2_with fail
                    go_meet
                    exact ⟨by rw [HE.out], rfl⟩
                  · have e3 : ¬ (i : Int) + 17 < (KE : Int) := by omega
                    have e2 : th = false := by rw [← hth]; exact decide_eq_false (by omega)
                    have HE := Lib.hid e2
                    clear e2 hth hn hn0 hn16 hKE
                    go_wp2_with fail
                    go_meet
                    exact ⟨by rw [HE.out], rfl⟩
              case rest =>
                obtain ⟨rfl, hwd⟩ := hcut
                subst hwd
                have HTH := Lib.hid hth
                have HNN := Lib.hid hn
                have HKE := Lib.hid hKE
                have hKb : KE ≤ 2000000 := by omega
                obtain ⟨T, hT⟩ : ∃ T, twK l i = T := ⟨_, rfl⟩
                rw [hT] at hslw
                have HT := Lib.hid hT
                obtain ⟨q, hq⟩ : ∃ q, out.length = q := ⟨_, rfl⟩
                have hqb : q ≤ 1000000 := by have := HI.out.cnt; omega
                have hrow0 := HI.out.row
                rw [hq] at hrow0
                obtain ⟨A, c, hvA⟩ := own_slice hrow0
                subst hvA
                have HROW := Lib.hid hrow0
                have HQ := Lib.hid hq
                have hb0 := HI.out.below
                have HBW : Hid (Below w.heap.size w wc) := Lib.hid hb0
                clear hth hn hKE hT hq hrow0 hb0 htl
                go_wp2_with fail
                go_loopw [6, 7] (fun v6 v7 wr => ∃ j : Nat, j ≤ q ∧ v7 = .int .i64 (j : Int) ∧ v6 = .bool (th || decide (T ∈ out.take j)) ∧ Hid (Below wc.heap.size wc wr)) (fun _ v7 _ => q - (RowKit.intOf v7).toNat)
                case atStart => exact ⟨0, Nat.zero_le _, rfl, by simp, Lib.hid (Below.refl _ _)⟩
                case round =>
                  obtain ⟨wo2, rfl⟩ : ∃ wo2 : World, wo2 = wr := ⟨_, rfl⟩
                  obtain ⟨j, hj, rfl, rfl, HBB⟩ := hrel
                  have HRW : Hid (wo2.ownsRow w.heap.size 9 1 (.slice A q c) q (strC out)) := Lib.hid (own_below HROW.out HBB.out)
                  obtain ⟨S, hS⟩ : ∃ S, strB T = S := ⟨_, rfl⟩
                  rw [hS] at hslw
                  have HS := Lib.hid hS
                  clear hS
                  by_cases hjq : j < q
                  · have hjo : j < out.length := by rw [HQ.out]; exact hjq
                    have htk : out.take (j + 1) = out.take j ++ [out[j]] := List.take_succ_eq_append_getElem hjo
                    obtain ⟨tv, htv⟩ : ∃ tv : Bool, (th || decide (T ∈ out.take j)) = tv := ⟨_, rfl⟩
                    rw [htv]
                    cases tv with
                    | true =>
                      have HV : Hid ((Value.bool true) = .bool (th || decide (T ∈ out.take (j + 1)))) := Lib.hid (by
                        rw [htk]
                        simp only [Bool.or_eq_true, decide_eq_true_eq] at htv
                        rcases htv with h | h
                        · rw [h]; rfl
                        · rw [decide_eq_true (List.mem_append_left _ h), Bool.or_true])
                      clear htv htk
                      go_wp2
                      go_quiet (fail)
                      go_wp2
                      go_roundw
                      case rel => exact ⟨j + 1, by omega, by go_num, HV.out, Lib.hid (HBB.out.trans ((below_drewN wo2 _).mono HBB.out.size))⟩
                      case measure => simp [RowKit.intOf]; omega
                    | false =>
                      have hrow2 := HRW.out
                      obtain ⟨g, cap, eg, hgb, hgl⟩ := hrow2.form (by omega)
                      injection eg with e1 e2 e3
                      subst e1 e3
                      have hqc : q ≤ c := by
                        rcases hrow2.2 with ⟨h1, h2⟩ | ⟨g2, cap, cur, h1, h2, h3, h4, h5, h6, h7⟩
                        · omega
                        · injection h1 with f1 f2 f3
                          omega
                      have c1 : wo2.cell? ⟨g, j, none⟩ = some (.string (strB out[j])) := (hrow2.cellAt j (by omega)).trans (by simp [strC, hjo])
                      simp only [Bool.or_eq_false_iff, decide_eq_false_iff_not] at htv
                      by_cases hoT : out[j] = T
                      · have HV : Hid ((Value.bool true) = .bool (th || decide (T ∈ out.take (j + 1)))) := Lib.hid (by
                          rw [htk, decide_eq_true (List.mem_append_right _ (by rw [hoT]; exact List.mem_singleton.2 rfl)), Bool.or_true])
                        rw [hoT, HS.out] at c1
                        clear htv htk hoT hrow2 hgb hgl
                        go_wp2
                        go_quiet (fail)
                        go_wp2
                        go_roundw
                        case rel => exact ⟨j + 1, by omega, by go_num, HV.out, Lib.hid (HBB.out.trans ((below_drewN wo2 _).mono HBB.out.size))⟩
                        case measure => simp [RowKit.intOf]; omega
                      · have HV : Hid ((Value.bool false) = .bool (th || decide (T ∈ out.take (j + 1)))) := Lib.hid (by
                          rw [htk, decide_eq_false (fun h => by
                            rcases List.mem_append.1 h with h | h
                            · exact htv.2 h
                            · exact hoT (List.mem_singleton.1 h).symm), htv.1]
                          rfl)
                        have hse : ((strB out[j]).toList == S.toList) = false := by
                          rw [beq_eq_false_iff_ne, ← HS.out]
                          exact fun e => hoT (strB_inj (list_inj e))
                        have hse2 : ¬ (strB out[j]).toList = S.toList := by
                          rw [← HS.out]
                          exact fun e => hoT (strB_inj (list_inj e))
                        obtain ⟨sa, hsa⟩ : ∃ sa, strB out[j] = sa := ⟨_, rfl⟩
                        rw [hsa] at hse hse2 c1
                        clear htv htk hoT hrow2 hgb hgl hsa
                        go_wp2
                        go_quiet (fail)
                        go_wp2
                        go_roundw
                        case rel => exact ⟨j + 1, by omega, by go_num, HV.out, Lib.hid (HBB.out.trans ((below_drewN wo2 _).mono HBB.out.size))⟩
                        case measure => simp [RowKit.intOf]; omega
                  · obtain rfl : j = q := by omega
                    rw [List.take_of_length_le (by rw [HQ.out]; exact Nat.le_refl _)]
                    have hnd := HI.out.keep HBB.out
                    obtain ⟨tv, htv⟩ : ∃ tv : Bool, (th || decide (T ∈ out)) = tv := ⟨_, rfl⟩
                    rw [htv]
                    cases tv with
                    | true =>
                      have hd2 : ∃ done2, Hid (NdI w wo2 l (i + 1) (.slice A j c) out done2) := by
                        by_cases hn1 : isN l i
                        · have hth2 : th = false := by
                            rw [← HTH.out]
                            refine decide_eq_false ?_
                            have := hn1.1
                            have := hn1.2
                            rw [HNN.out] at *
                            omega
                          rw [hth2, Bool.false_or, decide_eq_true_eq, ← HT.out] at htv
                          exact ⟨_, Lib.hid (hnd.old hil ⟨hb64, hfl2, hn1⟩ htv)⟩
                        · exact ⟨_, Lib.hid (hnd.skip hil (fun h => hn1 h.2.2))⟩
                      obtain ⟨done2, HN2⟩ := hd2
                      clear htv hnd
                      go_wp2_with fail
                      go_roundw
                      case rel => exact ⟨i + 1, out, done2, by omega, by go_num, HN2⟩
                      case measure => simp [RowKit.intOf]; omega
                    | false =>
                      simp only [Bool.or_eq_false_iff, decide_eq_false_iff_not] at htv
                      have hn1 : isN l i := by
                        have h := HTH.out
                        rw [htv.1, decide_eq_false_iff_not] at h
                        unfold isN
                        rw [HNN.out]
                        omega
                      have hnw := fun W2 v2 ho hb => hnd.new (W := W2) (v2 := v2) hil ⟨hb64, hfl2, hn1⟩ (by rw [HT.out]; exact htv.2) ho hb
                      rw [HT.out, HS.out, HQ.out] at hnw
                      have hrow5 : (wo2.alloc (.cells #[.string S] 9)).ownsRow w.heap.size 9 1 (.slice A j c) j (strC out) := HRW.out.alloc _
                      have hb5 : Below w.heap.size w (wo2.alloc (.cells #[.string S] 9)) := hnd.below.alloc hnd.below.size _
                      have hwz := hb5.size
                      have hvb : ∀ b, (Value.slice A j c).ownBlock = some b → w.heap.size ≤ b := fun b e => (HRW.out.lt b e).1
                      have HNW := Lib.hid hnw
                      have HB5 := Lib.hid hb5
                      clear htv hnd hnw hb5 hn1
                      go_wp2_with (at_builtin; refine wpList_append_own_at _ rfl _ _ 40 rfl w.heap.size 9 i9 _ 1 16 Tryz.underlying40 hi9 hs0 hs1 hs2 rfl (by decide) _ j (strC out) rfl hrow5 ⟨wo2.heap.size, 0, none⟩ 1 1 [.string S] rfl rfl (cell_one_new _ _ _) (by simp [Value.oneCell']) (by unfold maxLen; omega) (by omega) hwz ?_; intro v2 W2 hown2 hg2 _ hat2)
                      have hN2 := HNW.out W2 v2 hown2 (HB5.out.trans ((But.grown hg2).to_below HB5.out.size (fun b e => hvb b e)))
                      have HN2 := Lib.hid hN2
                      clear hown2 hg2 hat2 hN2
                      go_roundw
                      case rel => exact ⟨i + 1, _, _, by omega, by go_num, HN2⟩
                      case measure => simp [RowKit.intOf]; omega
          · have i1 : ∀ w, (Instr.index 9 (.string s) (.int .i64 ((i : Int) - 1))).run Tryz.prog w = .ok (.int .u8 ((l[i - 1]'(by omega)).toNat : Int)) w := fun w => by
              rw [show (i : Int) - 1 = ((i - 1 : Nat) : Int) by omega]
              exact HIX.out (i - 1) (by omega) w
            have hn1 : nameN (l[i - 1]'(by omega)).toNat = false := by
              have h := hfl2
              unfold flK at h
              rw [if_neg hi0, List.getD_eq_getElem?_getD, List.getElem?_eq_getElem (by omega)] at h
              exact h
            obtain ⟨y, hy⟩ : ∃ y, (l[i - 1]'(by omega)).toNat = y := ⟨_, rfl⟩
            rw [hy] at i1 hn1
            have hcn := fun w => named_any y w
            rw [hn1] at hcn
            have hi0i : (0 : Int) < (i : Int) := by omega
            clear hn1 hy
            have hil1 : i + 1 ≤ l.length := hil
            go_upto_block 2 with (go_at_call 47; (with_reducible refine (hcn _).mono ?_); rintro e w' ⟨rfl, rfl⟩)
            go_cut [5] from 8 to 81 (fun s5 wx => s5 = .int .i64 ((i + 1 + (twK l i).length : Nat) : Int) ∧ wx = wo)
            case first =>
              go_wp2_with fail
              go_loopw [5] (fun v5 wr => ∃ m : Nat, m ≤ (twK l i).length ∧ v5 = .int .i64 ((i + 1 + m : Nat) : Int) ∧ wo = wr) (fun v5 _ => s.size - (RowKit.intOf v5).toNat)
              case atStart => exact ⟨0, Nat.zero_le _, by rw [show ((i + 1 + 0 : Nat) : Int) = (i : Int) + 1 by omega], rfl⟩
              case round =>
                obtain ⟨m, hm2, rfl, hww⟩ := hrel
                subst hww
                obtain ⟨K, hK⟩ : ∃ K, i + 1 + m = K := ⟨_, rfl⟩
                rw [hK]
                by_cases hmt : m < (twK l i).length
                · obtain ⟨b, hb1, hb2⟩ := tw_get (f := nmB) (l.drop (i + 1)) m hmt
                  rw [List.getElem?_drop, hK] at hb1
                  obtain ⟨hKl, hKb⟩ := List.getElem?_eq_some_iff.1 hb1
                  have iK := HIX.out K hKl
                  rw [hKb] at iK
                  have hcK := fun w => named_any b.toNat w
                  rw [show nameN b.toNat = true from hb2] at hcK
                  have hKs : K < s.size := by omega
                  have HK := Lib.hid hK
                  clear hb1 hb2 hKb hK i0
                  go_wp2_with (go_at_call 47; (with_reducible refine (hcK _).mono ?_); rintro e w' ⟨rfl, rfl⟩)
                  go_roundw
                  case rel => exact ⟨m + 1, by omega, by rw [show ((i + 1 + (m + 1) : Nat) : Int) = (K : Int) + 1 by have := HK.out; omega], trivial⟩
                  case measure => simp [RowKit.intOf]; omega
                · have hme : m = (twK l i).length := by omega
                  have hfin : Hid ((Value.int .i64 (K : Int)) = .int .i64 ((i + 1 + (twK l i).length : Nat) : Int)) := Lib.hid (by rw [← hK, hme])
                  by_cases hKs : K < s.size
                  · obtain ⟨b, hb1, hb2⟩ := tw_end (f := nmB) (l.drop (i + 1)) (by
                      rw [List.length_drop]
                      have : ((l.drop (i + 1)).takeWhile nmB).length = m := hme.symm
                      omega)
                    have hme2 : ((l.drop (i + 1)).takeWhile nmB).length = m := hme.symm
                    rw [List.getElem?_drop, hme2, hK] at hb1
                    obtain ⟨hKl, hKb⟩ := List.getElem?_eq_some_iff.1 hb1
                    have iK := HIX.out K hKl
                    rw [hKb] at iK
                    have hcK := fun w => named_any b.toNat w
                    rw [show nameN b.toNat = false from hb2] at hcK
                    clear hb1 hb2 hKb hK i0 hme hme2
                    go_wp2_with (go_at_call 47; (with_reducible refine (hcK _).mono ?_); rintro e w' ⟨rfl, rfl⟩)
                    go_meet
                    exact ⟨hfin.out, rfl⟩
                  · clear hK i0 hme
                    go_wp2_with fail
                    go_meet
                    exact ⟨hfin.out, rfl⟩
            case rest =>
              obtain ⟨rfl, hwc⟩ := hcut
              subst hwc
              obtain ⟨n, hn⟩ : ∃ n, (twK l i).length = n := ⟨_, rfl⟩
              rw [hn]
              have htl : n ≤ l.length - (i + 1) := by
                have := (List.takeWhile_prefix nmB (l := l.drop (i + 1))).length_le
                rw [List.length_drop] at this
                rw [← hn]
                exact this
              obtain ⟨KE, hKE⟩ : ∃ KE, i + 1 + n = KE := ⟨_, rfl⟩
              have hslw := HSL.out i hil
              rw [hn, hKE, show ((i + 1 : Nat) : Int) = (i : Int) + 1 by omega] at hslw
              rw [hKE]
              obtain ⟨th, hth⟩ : ∃ th : Bool, decide (n = 0 ∨ 16 < n) = th := ⟨_, rfl⟩
              clear i0
              go_upto_region 9 with fail
              go_cut [6] from 8 to 81 (fun s6 wx => s6 = .bool th ∧ wx = wc)
              case first =>
                by_cases hn0 : n = 0
                · have e1 : ((KE : Int) == (i : Int) + 1) = true := by simp; omega
                  have e2 : th = true := by rw [← hth]; exact decide_eq_true (.inl hn0)
                  have HE := Lib.hid e2
                  clear e2 hth hn hn0 hKE
                  go_wp2_with fail
                  go_meet
                  exact ⟨by rw [HE.out], rfl⟩
                · have e1 : ((KE : Int) == (i : Int) + 1) = false := by simp; omega
                  by_cases hn16 : 16 < n
                  · have e3 : (i : Int) + 17 < (KE : Int) := by omega
                    have e2 : th = true := by rw [← hth]; exact decide_eq_true (.inr hn16)
                    have HE := Lib.hid e2
                    clear e2 hth hn hn0 hn16 hKE
                    go_wp2_with fail
                    go_meet
                    exact ⟨by rw [HE.out], rfl⟩
                  · have e3 : ¬ (i : Int) + 17 < (KE : Int) := by omega
                    have e2 : th = false := by rw [← hth]; exact decide_eq_false (by omega)
                    have HE := Lib.hid e2
                    clear e2 hth hn hn0 hn16 hKE
                    go_wp2_with fail
                    go_meet
                    exact ⟨by rw [HE.out], rfl⟩
              case rest =>
                obtain ⟨rfl, hwd⟩ := hcut
                subst hwd
                have HTH := Lib.hid hth
                have HNN := Lib.hid hn
                have HKE := Lib.hid hKE
                have hKb : KE ≤ 2000000 := by omega
                obtain ⟨T, hT⟩ : ∃ T, twK l i = T := ⟨_, rfl⟩
                rw [hT] at hslw
                have HT := Lib.hid hT
                obtain ⟨q, hq⟩ : ∃ q, out.length = q := ⟨_, rfl⟩
                have hqb : q ≤ 1000000 := by have := HI.out.cnt; omega
                have hrow0 := HI.out.row
                rw [hq] at hrow0
                obtain ⟨A, c, hvA⟩ := own_slice hrow0
                subst hvA
                have HROW := Lib.hid hrow0
                have HQ := Lib.hid hq
                have hb0 := HI.out.below
                have HBW : Hid (Below w.heap.size w wc) := Lib.hid hb0
                clear hth hn hKE hT hq hrow0 hb0 htl
                go_wp2_with fail
                go_loopw [6, 7] (fun v6 v7 wr => ∃ j : Nat, j ≤ q ∧ v7 = .int .i64 (j : Int) ∧ v6 = .bool (th || decide (T ∈ out.take j)) ∧ Hid (Below wc.heap.size wc wr)) (fun _ v7 _ => q - (RowKit.intOf v7).toNat)
                case atStart => exact ⟨0, Nat.zero_le _, rfl, by simp, Lib.hid (Below.refl _ _)⟩
                case round =>
                  obtain ⟨wo2, rfl⟩ : ∃ wo2 : World, wo2 = wr := ⟨_, rfl⟩
                  obtain ⟨j, hj, rfl, rfl, HBB⟩ := hrel
                  have HRW : Hid (wo2.ownsRow w.heap.size 9 1 (.slice A q c) q (strC out)) := Lib.hid (own_below HROW.out HBB.out)
                  obtain ⟨S, hS⟩ : ∃ S, strB T = S := ⟨_, rfl⟩
                  rw [hS] at hslw
                  have HS := Lib.hid hS
                  clear hS
                  by_cases hjq : j < q
                  · have hjo : j < out.length := by rw [HQ.out]; exact hjq
                    have htk : out.take (j + 1) = out.take j ++ [out[j]] := List.take_succ_eq_append_getElem hjo
                    obtain ⟨tv, htv⟩ : ∃ tv : Bool, (th || decide (T ∈ out.take j)) = tv := ⟨_, rfl⟩
                    rw [htv]
                    cases tv with
                    | true =>
                      have HV : Hid ((Value.bool true) = .bool (th || decide (T ∈ out.take (j + 1)))) := Lib.hid (by
                        rw [htk]
                        simp only [Bool.or_eq_true, decide_eq_true_eq] at htv
                        rcases htv with h | h
                        · rw [h]; rfl
                        · rw [decide_eq_true (List.mem_append_left _ h), Bool.or_true])
                      clear htv htk
                      go_wp2
                      go_quiet (fail)
                      go_wp2
                      go_roundw
                      case rel => exact ⟨j + 1, by omega, by go_num, HV.out, Lib.hid (HBB.out.trans ((below_drewN wo2 _).mono HBB.out.size))⟩
                      case measure => simp [RowKit.intOf]; omega
                    | false =>
                      have hrow2 := HRW.out
                      obtain ⟨g, cap, eg, hgb, hgl⟩ := hrow2.form (by omega)
                      injection eg with e1 e2 e3
                      subst e1 e3
                      have hqc : q ≤ c := by
                        rcases hrow2.2 with ⟨h1, h2⟩ | ⟨g2, cap, cur, h1, h2, h3, h4, h5, h6, h7⟩
                        · omega
                        · injection h1 with f1 f2 f3
                          omega
                      have c1 : wo2.cell? ⟨g, j, none⟩ = some (.string (strB out[j])) := (hrow2.cellAt j (by omega)).trans (by simp [strC, hjo])
                      simp only [Bool.or_eq_false_iff, decide_eq_false_iff_not] at htv
                      by_cases hoT : out[j] = T
                      · have HV : Hid ((Value.bool true) = .bool (th || decide (T ∈ out.take (j + 1)))) := Lib.hid (by
                          rw [htk, decide_eq_true (List.mem_append_right _ (by rw [hoT]; exact List.mem_singleton.2 rfl)), Bool.or_true])
                        rw [hoT, HS.out] at c1
                        clear htv htk hoT hrow2 hgb hgl
                        go_wp2
                        go_quiet (fail)
                        go_wp2
                        go_roundw
                        case rel => exact ⟨j + 1, by omega, by go_num, HV.out, Lib.hid (HBB.out.trans ((below_drewN wo2 _).mono HBB.out.size))⟩
                        case measure => simp [RowKit.intOf]; omega
                      · have HV : Hid ((Value.bool false) = .bool (th || decide (T ∈ out.take (j + 1)))) := Lib.hid (by
                          rw [htk, decide_eq_false (fun h => by
                            rcases List.mem_append.1 h with h | h
                            · exact htv.2 h
                            · exact hoT (List.mem_singleton.1 h).symm), htv.1]
                          rfl)
                        have hse : ((strB out[j]).toList == S.toList) = false := by
                          rw [beq_eq_false_iff_ne, ← HS.out]
                          exact fun e => hoT (strB_inj (list_inj e))
                        have hse2 : ¬ (strB out[j]).toList = S.toList := by
                          rw [← HS.out]
                          exact fun e => hoT (strB_inj (list_inj e))
                        obtain ⟨sa, hsa⟩ : ∃ sa, strB out[j] = sa := ⟨_, rfl⟩
                        rw [hsa] at hse hse2 c1
                        clear htv htk hoT hrow2 hgb hgl hsa
                        go_wp2
                        go_quiet (fail)
                        go_wp2
                        go_roundw
                        case rel => exact ⟨j + 1, by omega, by go_num, HV.out, Lib.hid (HBB.out.trans ((below_drewN wo2 _).mono HBB.out.size))⟩
                        case measure => simp [RowKit.intOf]; omega
                  · obtain rfl : j = q := by omega
                    rw [List.take_of_length_le (by rw [HQ.out]; exact Nat.le_refl _)]
                    have hnd := HI.out.keep HBB.out
                    obtain ⟨tv, htv⟩ : ∃ tv : Bool, (th || decide (T ∈ out)) = tv := ⟨_, rfl⟩
                    rw [htv]
                    cases tv with
                    | true =>
                      have hd2 : ∃ done2, Hid (NdI w wo2 l (i + 1) (.slice A j c) out done2) := by
                        by_cases hn1 : isN l i
                        · have hth2 : th = false := by
                            rw [← HTH.out]
                            refine decide_eq_false ?_
                            have := hn1.1
                            have := hn1.2
                            rw [HNN.out] at *
                            omega
                          rw [hth2, Bool.false_or, decide_eq_true_eq, ← HT.out] at htv
                          exact ⟨_, Lib.hid (hnd.old hil ⟨hb64, hfl2, hn1⟩ htv)⟩
                        · exact ⟨_, Lib.hid (hnd.skip hil (fun h => hn1 h.2.2))⟩
                      obtain ⟨done2, HN2⟩ := hd2
                      clear htv hnd
                      go_wp2_with fail
                      go_roundw
                      case rel => exact ⟨i + 1, out, done2, by omega, by go_num, HN2⟩
                      case measure => simp [RowKit.intOf]; omega
                    | false =>
                      simp only [Bool.or_eq_false_iff, decide_eq_false_iff_not] at htv
                      have hn1 : isN l i := by
                        have h := HTH.out
                        rw [htv.1, decide_eq_false_iff_not] at h
                        unfold isN
                        rw [HNN.out]
                        omega
                      have hnw := fun W2 v2 ho hb => hnd.new (W := W2) (v2 := v2) hil ⟨hb64, hfl2, hn1⟩ (by rw [HT.out]; exact htv.2) ho hb
                      rw [HT.out, HS.out, HQ.out] at hnw
                      have hrow5 : (wo2.alloc (.cells #[.string S] 9)).ownsRow w.heap.size 9 1 (.slice A j c) j (strC out) := HRW.out.alloc _
                      have hb5 : Below w.heap.size w (wo2.alloc (.cells #[.string S] 9)) := hnd.below.alloc hnd.below.size _
                      have hwz := hb5.size
                      have hvb : ∀ b, (Value.slice A j c).ownBlock = some b → w.heap.size ≤ b := fun b e => (HRW.out.lt b e).1
                      have HNW := Lib.hid hnw
                      have HB5 := Lib.hid hb5
                      clear htv hnd hnw hb5 hn1
                      go_wp2_with (at_builtin; refine wpList_append_own_at _ rfl _ _ 40 rfl w.heap.size 9 i9 _ 1 16 Tryz.underlying40 hi9 hs0 hs1 hs2 rfl (by decide) _ j (strC out) rfl hrow5 ⟨wo2.heap.size, 0, none⟩ 1 1 [.string S] rfl rfl (cell_one_new _ _ _) (by simp [Value.oneCell']) (by unfold maxLen; omega) (by omega) hwz ?_; intro v2 W2 hown2 hg2 _ hat2)
                      have hN2 := HNW.out W2 v2 hown2 (HB5.out.trans ((But.grown hg2).to_below HB5.out.size (fun b e => hvb b e)))
                      have HN2 := Lib.hid hN2
                      clear hown2 hg2 hat2 hN2
                      go_roundw
                      case rel => exact ⟨i + 1, _, _, by omega, by go_num, HN2⟩
                      case measure => simp [RowKit.intOf]; omega
      · have HN : Hid (NdI w wo l (i + 1) u3 out done) := Lib.hid (HI.out.skip hil (fun h => h64 (by rw [← hx, h.1]; rfl)))
        have hne : ((x : Int) == 64) = false := by simp; omega
        clear hx
        go_wp2
        go_roundw
        case rel => exact ⟨i + 1, out, done, by omega, by go_num, HN⟩
        case measure => simp [RowKit.intOf]; omega
    · obtain rfl : i = s.size := by omega
      have hraw := HI.out.raw
      rw [← hsz, List.drop_length, rawF, List.append_nil] at hraw
      have hrow := HI.out.row
      rw [HI.out.ded, ← hraw] at hrow
      obtain ⟨A, c, hvA⟩ := own_slice hrow
      subst hvA
      have HR := Lib.hid hrow
      have HB := Lib.hid HI.out.below
      clear hraw hrow HI
      go_wp2
      go_ret
      exact ⟨A, c, rfl, HR.out, HB.out⟩
set_option maxRecDepth 100000 in
set_option maxHeartbeats 1000000 in
theorem Sm.named_law (s : ByteArray) (w : World) (_hs : s.size ≤ 9223372036854775807) (hL : LaysT w) : Calls Tryz.prog 7 #[.string s] w fun e w' => e = .returned (.bool true) ∧ Below w.heap.size w w' := by
  by_cases hl : 300 < s.size
  · have h12 := works_any w hL
    go_enter Tryz.func7, Tryz.ntmps7
    go_wp2_with (go_at_call 12; (with_reducible refine h12.mono ?_); rintro e w1 ⟨rfl, hb1⟩)
    go_ret
    exact ⟨rfl, hb1⟩
  · have c23 := Named_any s w (by omega)
    have c25 := fun w => refNamed_any s w (by omega)
    have hnl : (namedS s).length ≤ 1000000 := by
      have h1 := rawF_len (strL s) false
      rw [strL_length] at h1
      have h2 := dedL_len (rawF false (strL s)) (rawF false (strL s)).length (Nat.le_refl _)
      rw [List.take_of_length_le (Nat.le_refl _)] at h2
      unfold namedS
      omega
    obtain ⟨X, hX⟩ : ∃ X, namedS s = X := ⟨_, rfl⟩
    rw [hX] at c23 c25 hnl
    have HL := Lib.hid hL
    have hsm : ∀ v u w, RowS w v X → RowS w u X → Calls Tryz.prog 24 #[v, u] w fun e w' => e = .returned (.bool true) ∧ Below w.heap.size w w' := fun v u w hv hu =>
      (same_any v u X X w hv hu hnl hnl).mono fun e w' ⟨he, hb⟩ => ⟨by rw [he]; simp, hb⟩
    have HSM := Lib.hid hsm
    clear hL hX hsm
    go_enter Tryz.func7, Tryz.ntmps7
    go_wp2_with (first
      | (go_at_call 20; (with_reducible refine (num_any _ _).mono ?_); rintro e w' ⟨rfl, rfl⟩)
      | (go_at_call 23; (with_reducible refine c23.mono ?_); clear c23; rintro e w1 ⟨A1, k1, rfl, hr1, hb1⟩; have R1 := Lib.hid (RowS.of hr1); clear hr1)
      | (go_at_call 25; (with_reducible refine (c25 _).mono ?_); rintro e w2 ⟨A2, k2, rfl, hr2, hb2⟩; have hs2 := HSM.out _ _ _ (R1.out.keep hb2) (RowS.of hr2); replace hb2 := hb1.trans (hb2.mono hb1.size); clear hr2)
      | (go_at_call 24; (with_reducible refine hs2.mono ?_); clear hs2; rintro e w3 ⟨rfl, hb3⟩; replace hb3 := hb2.trans (hb3.mono hb2.size); have h12 := works_any _ (HL.out.keep hb3))
      | (go_at_call 12; (with_reducible refine h12.mono ?_); clear h12; rintro e w4 ⟨rfl, hb4⟩))
    go_ret
    exact ⟨rfl, hb3.trans (hb4.mono hb3.size)⟩
end Go.Proofs
namespace Go.Proofs.YtneaenplbccpmaaGreatDoor
open Go Go.ChangeShapes Go.WideShapes Go.ChangeAt Go.WideMaps Go.WideElems Go.RowKit Go.Lib Sm
set_option maxRecDepth 100000 in
theorem textNamed_lifted (os : Os) (started : os.Started) (H : Type) (enc : TypeId × Value → H) :
    ReturnsInHanded {} Tryz.checked os 7 .any (fun w args => (Rows.textNamedSpec.pre enc Tryz.prog Tryz.f7 [] false w args ∧ laidMetH Tryz.prog laidL w) ∧ sizedMet enc Tryz.prog Tryz.f7 (OpenSpec.ofChange Rows.textNamedSpec) false w args)
      (Rows.textNamedSpec.post enc Tryz.prog Tryz.f7 false true false false) := by
  refine laidHanded started #[.string ByteArray.empty] (by kernel_rfl) Tryz.func7 (World.shaped_of_ZipB (by kernel_rfl) (by kernel_rfl)) (by kernel_rfl) (by kernel_rfl) (by kernel_rfl) ?_
  intro W base args ds gs before hval0 hW hL
  have hval : ∀ (j : Nat) t v, Tryz.f7.params[j]? = some t → args[j]? = some v → Value.okWide Tryz.prog W .any base t v := hval0
  have hW' := hW
  obtain ⟨p, q, hA0, hV, rfl, hfz, hnd⟩ := hW
  have hA : DataW.TrodAll enc Tryz.prog W 0 (fun _ => true) true Tryz.f7.params.toList args.toList ds p := hA0
  rw [Tryz.params7] at hA hval
  obtain ⟨v0, vs0, d0, ds0, p0, q0, hargs, rfl, rfl, h0, r0⟩ := trodAll_cons hA
  obtain ⟨rfl, rfl, rfl⟩ := trodAll_nil r0
  obtain rfl : args = #[v0] := by cases args; simp_all
  obtain ⟨rfl, rfl⟩ := trodVars_none hV
  obtain ⟨s0, rfl, rfl, rfl, hs0⟩ := Go.ChangeMaps.open_string Tryz.underlying9 (hval 0 9 v0 rfl rfl) h0
  refine (named_law s0 W hs0 hL).mono fun e W' ⟨he, hb⟩ => ?_
  subst he
  exact ⟨_, rfl, law_post hW' rfl rfl rfl rfl (by kernel_rfl) (by rw [Tryz.params7]; intro t ht; simp at ht; subst ht; exact ⟨by kernel_rfl, of_decide_eq_true (by kernel_rfl)⟩) hb⟩
theorem textNamed_holds : Rows.TextNamedSaid :=
  OpenClaim.holds_of_wide 7 Tryz.f7 rfl rfl rfl rfl rfl rfl rfl ⟨rfl, rfl, rfl, rfl, rfl⟩ rfl rfl rfl rfl rfl (by kernel_rfl) Tryz.func7 (by kernel_rfl)
    (of_decide_eq_true (by kernel_rfl)) (by unfold Func.isWrapper; first | (rw [if_pos (by decide +kernel)]; kernel_rfl) | (rw [if_neg (by decide +kernel)]; exact ⟨rfl, rfl⟩))
    (fun os started H enc _ => textNamed_lifted os started H enc)
/-- the card -/
theorem textNamed_card : Rows.TextNamedCardSaid :=
  Claim7.holds_tied_plain_at .later [] [.data, .data, .data, .data, .sentinel, .sentinel, .pinned] true (true, "ed007c98b8e6bbfba8db0ed1f540fab899121459d0b3226e22db2c0e1694eb46") true
    textNamed_holds (fun _ h => by cases h) (by kernel_rfl) (fun _ h => by cases h) textNamed_row_tie rfl ⟨rfl, rfl⟩ (by kernel_rfl) rfl
    (fun f fn hf hfn => by
      obtain rfl : f = 7 := Option.some.inj ((show Tryz.prog.funcNamed "antiphon/antiphonlaw03.TextNamed" = some 7 by kernel_rfl).symm.trans hf) |>.symm
      obtain rfl : fn = Tryz.f7 := (Option.some.inj (Tryz.func7.symm.trans hfn)).symm
      exact ⟨by kernel_rfl, fun j t ht => by
        rw [Tryz.params7] at ht
        have hm : t ∈ [9] := by simpa using Array.mem_of_getElem? ht
        have hall : ([9].all fun u => !Tryz.prog.wantsStandIn u) = true := by kernel_rfl
        exact (show Tryz.prog.wantsStandIn t = false by simpa using List.all_eq_true.1 hall t hm)⟩)
    (by kernel_rfl)
end Go.Proofs.YtneaenplbccpmaaGreatDoor
