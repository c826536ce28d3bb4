/-
  The contract of the document's Unspell.
-/
import Derived.BigQuiet
import Derived.Test.YtbnemingkdofmaaDoorQ42
namespace Go.Proofs
open Go.RowKit Go.Shelf Sm
/-- how the document's unspelling ends -/
def Sm.RefUn (l : List (BitVec 8)) (w : World) (e : Ending) (w' : World) : Prop := Below w.heap.size w w' ∧ match unspellS l with
  | some b => ∃ v, e = .returned (.tuple #[v, .int .i64 0]) ∧ w'.ownsRow w.heap.size 5 1 v b.length (b.map byteCell)
  | none => e = .returned (.tuple #[.slice none 0 0, .int .i64 160])
/-- behind i signs -/
structure Sm.RunI (l : List (BitVec 8)) (w wr : World) (i : Nat) (xs : List Nat) (v : Value) : Prop where
  five : fivesOf (l.take i) = some xs
  len : xs.length = i
  own : wr.ownsRow w.heap.size 5 1 v (byteS xs).length ((byteS xs).map byteCell)
  below : Below w.heap.size w wr
set_option maxRecDepth 100000 in
set_option maxHeartbeats 2000000 in
theorem Sm.refUnspell_any (s : ByteArray) (w : World) (hs : s.size ≤ 10000) : Calls Tryd.prog 9 #[.string s] w (RefUn (sB s) w) := by
  obtain ⟨i0, hi, hz0, hz1, hz2⟩ := info_parts info5
  have hsl := sB_length s
  have HSL := Lib.hid hsl
  clear hsl
  go_enter Tryd.func9, Tryd.ntmps9
  go_upto_region 4 with fail
  go_loopw [4, 5, 6, 7] (fun s4 s5 s6 s7 wr => ∃ (i : Nat) (xs : List Nat) (v : Value), i ≤ s.size ∧ s7 = .int .i64 (i : Int) ∧ s4 = v ∧ s6 = .int .i64 ((5 * i % 8 : Nat) : Int) ∧ s5 = .int .i64 ((valW 5 xs (8 * (5 * i / 8)) (5 * i % 8) : Nat) : Int) ∧ Hid (RunI (sB s) w wr i xs v)) (fun _ _ _ s7 _ => s.size - (intOf s7).toNat)
  case atStart => exact ⟨0, [], _, Nat.zero_le _, rfl, rfl, rfl, rfl, Lib.hid ⟨rfl, rfl, World.ownsRow_nil _ _ _ _, Below.refl _ _⟩⟩
  case round =>
    obtain ⟨wo, rfl⟩ : ∃ wo : World, wo = wr := ⟨_, rfl⟩
    obtain ⟨i, xs, v, hin, rfl, rfl, rfl, rfl, HI⟩ := hrel
    have hvl := valW_lt 5 xs (8 * (5 * i / 8)) (5 * i % 8)
    have hpl : 2 ^ (5 * i % 8) ≤ 2 ^ 7 := Nat.pow_le_pow_right (by decide) (by omega)
    obtain ⟨V, hV⟩ : ∃ V, valW 5 xs (8 * (5 * i / 8)) (5 * i % 8) = V := ⟨_, rfl⟩
    obtain ⟨r, hr⟩ : ∃ r, 5 * i % 8 = r := ⟨_, rfl⟩
    have hV128 : V < 128 := by rw [← hV]; omega
    have hr8 : r < 8 := by omega
    rw [hV, hr]
    have HV := Lib.hid hV
    have HRR := Lib.hid hr
    clear hvl hpl hV hr
    by_cases hlt : i < s.size
    · have hsa := str_ati s i hlt
      have hget : (sB s)[i]? = some ((sB s)[i]'(by rw [HSL.out]; exact hlt)) := List.getElem?_eq_getElem _
      obtain ⟨c, hc⟩ : ∃ c, (sB s)[i]'(by rw [HSL.out]; exact hlt) = c := ⟨_, rfl⟩
      rw [hc] at hsa hget
      have HGET := Lib.hid hget
      have HSA := Lib.hid hsa
      clear hc hsa hget
      go_upto_region 8 with fail
      go_loopw [8, 9] (fun s8 s9 wq => ∃ k : Nat, k ≤ 32 ∧ s9 = .int .i64 (k : Int) ∧ s8 = .int .i64 (fndS c k) ∧ Hid (Below wo.heap.size wo wq)) (fun _ s9 _ => 32 - (intOf s9).toNat)
      case atStart => exact ⟨0, by omega, rfl, by rw [fndS_zero], Lib.hid (Below.refl _ _)⟩
      case round =>
        obtain ⟨k, hk, rfl, rfl, HBW⟩ := hrel
        by_cases hk32 : k < 32
        · by_cases he : sgn k = c
          · have he2 := fndS_yes hk32 he
            have HE2 := Lib.hid he2
            clear he2
            go_upto_region 10 with fail
            have hx1 := signs_ati k hk32
            have hx2 := HSA.out
            have hx3 := eq_ib (sgn k) c
            rw [decide_eq_true he] at hx3
            clear he
            go_quiet (fail)
            have hbd : Below wo.heap.size wo (wr.drewN nq) := HBW.out.trans ((below_drewN wr nq).mono HBW.out.size)
            obtain ⟨wz, hwz⟩ : ∃ x, wr.drewN nq = x := ⟨_, rfl⟩
            rw [hwz] at hbd ⊢
            have HBD := Lib.hid hbd
            clear hbd hwz HBW hx1 hx2 hx3
            go_wp2
            exact ⟨⟨k + 1, by omega, by go_num, by rw [HE2.out], HBD⟩, by simp [intOf]; omega⟩
          · have he2 := fndS_no he
            have HE2 := Lib.hid he2
            clear he2
            go_upto_region 10 with fail
            have hx1 := signs_ati k hk32
            have hx2 := HSA.out
            have hx3 := eq_ib (sgn k) c
            rw [decide_eq_false he] at hx3
            clear he
            go_quiet (fail)
            have hbd : Below wo.heap.size wo (wr.drewN nq) := HBW.out.trans ((below_drewN wr nq).mono HBW.out.size)
            obtain ⟨wz, hwz⟩ : ∃ x, wr.drewN nq = x := ⟨_, rfl⟩
            rw [hwz] at hbd ⊢
            have HBD := Lib.hid hbd
            clear hbd hwz HBW hx1 hx2 hx3
            go_wp2
            exact ⟨⟨k + 1, by omega, by go_num, by rw [HE2.out], HBD⟩, by simp [intOf]; omega⟩
        · obtain rfl : k = 32 := by omega
          clear hk hk32
          have hI2 : RunI (sB s) w wr i xs u4 := ⟨HI.out.five, HI.out.len, own_below HI.out.own HBW.out, HI.out.below.trans (HBW.out.mono HI.out.below.size)⟩
          have HI2 := Lib.hid hI2
          clear hI2 HI HBW HSA
          cases hsn : sgnN c with
          | none =>
            rw [fndS_none hsn]
            go_wp2
            have hun : unspellS (sB s) = none := by unfold unspellS; rw [fivesOf_none i c HGET.out hsn]
            refine bodyPost_ret (v := .tuple #[.slice none 0 0, .int .i64 160]) (by simp [results, Tryd.results9, go_sem]) rfl ⟨HI2.out.below, ?_⟩
            rw [hun]
          | some m =>
            rw [fndS_some hsn]
            have hm32 := (sgn_of hsn).1
            have hnx : fivesOf ((sB s).take (i + 1)) = some (xs ++ [m]) := fivesOf_snoc HI2.out.five HGET.out hsn
            have hvn := val_snoc xs m hm32
            rw [HI2.out.len, HV.out, HRR.out] at hvn
            have HNX := Lib.hid hnx
            have HVN := Lib.hid hvn
            clear hnx hvn hsn
            have hmn : ¬ (m : Int) < 0 := by omega
            by_cases h3 : 3 ≤ r
            · obtain ⟨q, rfl⟩ : ∃ q, r = q + 3 := ⟨r - 3, by omega⟩
              have hq4 : q ≤ 4 := by omega
              obtain ⟨NN, hNN⟩ : ∃ x : Nat, 32 * V + m = x := ⟨_, rfl⟩
              have hNI : 32 * (V : Int) + (m : Int) = (NN : Int) := by omega
              have hNl : NN < 4096 := by omega
              have HNN := Lib.hid hNN
              clear hNN
              go_upto_region 18 with fail
              go_loopw [10, 11] (fun s10 s11 wq => ∃ k : Nat, k ≤ q ∧ s11 = .int .i64 ((k : Int) + 8) ∧ s10 = .int .i64 ((2 ^ k : Nat) : Int) ∧ wq = wr) (fun _ s11 _ => q + 8 - (intOf s11).toNat)
              case atStart => exact ⟨0, Nat.zero_le _, rfl, rfl, rfl⟩
              case round =>
                obtain ⟨k, hk, rfl, rfl, rfl⟩ := hrel
                have hup : 2 ^ k ≤ 2 ^ 4 := Nat.pow_le_pow_right (by decide) (by omega)
                have hu0 : 0 < 2 ^ k := Nat.pow_pos (by decide)
                obtain ⟨U, hU⟩ : ∃ U, 2 ^ k = U := ⟨_, rfl⟩
                rw [hU] at hup hu0
                rw [hU]
                have hU16 : U ≤ 16 := hup
                have HU := Lib.hid hU
                clear hU hup
                by_cases hkq : k < q
                · go_wp2
                  exact ⟨⟨k + 1, by omega, by go_num, by rw [Nat.pow_succ, HU.out]; go_num, trivial⟩, by simp [intOf]; omega⟩
                · obtain rfl : k = q := by omega
                  clear hkq hk
                  have hvd := valW_div 5 (xs ++ [m]) (8 * (5 * i / 8)) 8 k
                  have hvm := valW_mod 5 (xs ++ [m]) (8 * (5 * i / 8)) 8 k
                  have hvn := HVN.out
                  rw [show k + 3 + 5 = 8 + k by omega, show V * 32 + m = NN by have := HNN.out; omega] at hvn
                  rw [hvn, HU.out] at hvd hvm
                  have hbl := valW_lt 5 (xs ++ [m]) (8 * (5 * i / 8)) 8
                  obtain ⟨Q, hQ⟩ : ∃ Q, valW 5 (xs ++ [m]) (8 * (5 * i / 8)) 8 = Q := ⟨_, rfl⟩
                  obtain ⟨G, hG⟩ : ∃ G, valW 5 (xs ++ [m]) (8 * (5 * i / 8) + 8) k = G := ⟨_, rfl⟩
                  rw [hQ] at hvd hbl
                  rw [hG] at hvm
                  have hQI : (NN : Int) / (U : Int) = (Q : Int) := by rw [← Int.natCast_ediv, hvd]
                  have hGI : (NN : Int) % (U : Int) = (G : Int) := by rw [← Int.natCast_emod, hvm]
                  have hQ256 : Q < 256 := hbl
                  have hUz : ¬ (U : Int) = 0 := by omega
                  have HQ := Lib.hid hQ
                  have HG := Lib.hid hG
                  have hxl : (byteS xs).length ≤ 10000 := by rw [byteS_length, HI2.out.len]; omega
                  have HOW := Lib.hid HI2.out.own
                  have hwz := HI2.out.below.size
                  have hGl : G ≤ 16 := by have := Nat.mod_lt NN hu0; omega
                  clear hvd hvm hvn hbl hQ hG
                  go_wp2_with (at_builtin; refine wpList_append_own_at _ rfl _ _ 22 rfl w.heap.size 5 i0 _ 1 1 Tryd.underlying22 hi hz0 hz1 hz2 rfl (by decide) _ _ _ rfl (HOW.out.alloc _) ⟨wr.heap.size, 0, none⟩ 1 1 [.int .u8 (Q : Int)] rfl rfl ?_ (by simp [Value.oneCell']) (by unfold maxLen; omega) (by omega) (by simp; omega) ?_; (exact cell_one_new _ _ _); intro v3 w3 hown3 hg3 _ hat3)
                  have e0 : 5 * i % 8 = k + 3 := HRR.out
                  have e1 : 5 * (i + 1) % 8 = k := by omega
                  have e2 : 5 * (i + 1) / 8 = 5 * i / 8 + 1 := by omega
                  have hby : byteS (xs ++ [m]) = byteS xs ++ [BitVec.ofNat 8 Q] := by rw [byteS_more xs m (by rw [HI2.out.len]; exact e2), HI2.out.len, HQ.out]
                  have hcl : byteCell (BitVec.ofNat 8 Q) = .int .u8 (Q : Int) := by unfold byteCell; rw [← low_num, Int.emod_eq_of_lt (by omega) (by omega)]
                  refine ⟨⟨i + 1, xs ++ [m], v3, by omega, by go_num, rfl, by rw [e1]; go_num, ?_, Lib.hid ⟨HNX.out, by rw [List.length_append, HI2.out.len]; rfl, ?_, ?_⟩⟩, by simp [intOf]; omega⟩
                  · rw [e1, e2, show 8 * (5 * i / 8 + 1) = 8 * (5 * i / 8) + 8 by omega, HG.out, hGI]
                  · rw [hby, List.length_append, List.map_append]
                    show w3.ownsRow w.heap.size 5 1 v3 ((byteS xs).length + 1) (_ ++ [byteCell (BitVec.ofNat 8 Q)])
                    rw [hcl]
                    exact hown3
                  · exact (HI2.out.below.alloc hwz _).grown hg3 (by simp; omega) (fun g e => own_ge (HOW.out) g e)
            · go_wp2
              have e1 : 5 * (i + 1) % 8 = r + 5 := by have := HRR.out; omega
              have e2 : 5 * (i + 1) / 8 = 5 * i / 8 := by have := HRR.out; omega
              refine ⟨⟨i + 1, xs ++ [m], _, by omega, by go_num, rfl, by rw [e1]; go_num, ?_, Lib.hid ⟨HNX.out, by rw [List.length_append, HI2.out.len]; rfl, ?_, HI2.out.below⟩⟩, by simp [intOf]; omega⟩
              · rw [e1, e2, HVN.out]
                go_num
              · rw [byteS_same xs m (by rw [HI2.out.len]; exact e2)]
                exact HI2.out.own
    · obtain rfl : i = s.size := by omega
      have hfull : (sB s).take s.size = sB s := List.take_of_length_le (by rw [HSL.out]; exact Nat.le_refl _)
      have hfv := HI.out.five
      rw [hfull] at hfv
      obtain ⟨A, c, rfl⟩ := own_slice HI.out.own
      have hxl : (byteS xs).length ≤ 10000 := by rw [byteS_length, HI.out.len]; omega
      have HSP := Lib.hid (refSpell_any (byteS xs).length c wo.heap.size A (byteS xs) wo rfl hxl (Rd.of_own HI.out.own (Nat.le_refl _)))
      have hfb := fiveS_byteS xs (fivesOf_some hfv).2
      have hss : strB (sB s) = s := strB_strL s
      by_cases hrs : restS xs = true
      · have hun : unspellS (sB s) = some (byteS xs) := by unfold unspellS; rw [hfv]; simp only; rw [if_pos hrs]
        have hsp : strB (spellS (byteS xs)) = s := by rw [spell_unspell hun, hss]
        rw [hsp] at HSP
        have HUN := Lib.hid hun
        clear hun hsp hss hfb hfv hfull hrs
        go_wp2_with (go_at_call 10; (with_reducible refine HSP.out.mono ?_); rintro e w9 ⟨rfl, rfl⟩)
        refine bodyPost_ret (v := .tuple #[.slice A (byteS xs).length c, .int .i64 0]) (by simp [results, Tryd.results9, go_sem]) rfl ⟨HI.out.below, ?_⟩
        rw [HUN.out]
        exact ⟨_, rfl, HI.out.own⟩
      · have hrf : restS xs = false := by simpa using hrs
        obtain ⟨hne, hun⟩ := unspell_none hfv hrf
        have hnq : ((strB (spellS (byteS xs))).toList == s.toList) = false := by rw [← hss, strB_eq]; exact decide_eq_false hne
        obtain ⟨SS, hSS⟩ : ∃ x, strB (spellS (byteS xs)) = x := ⟨_, rfl⟩
        rw [hSS] at HSP hnq
        have HUN := Lib.hid hun
        clear hun hss hfb hfv hfull hrs hrf hne hSS
        go_wp2_with (go_at_call 10; (with_reducible refine HSP.out.mono ?_); rintro e w9 ⟨rfl, rfl⟩)
        refine bodyPost_ret (v := .tuple #[.slice none 0 0, .int .i64 160]) (by simp [results, Tryd.results9, go_sem]) rfl ⟨HI.out.below, ?_⟩
        rw [HUN.out]
end Go.Proofs
