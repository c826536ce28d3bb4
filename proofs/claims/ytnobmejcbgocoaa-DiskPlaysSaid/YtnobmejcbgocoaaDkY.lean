/-
  Bytes that are put are not kept by who put them: the walk of DiskKeeps. Conditions: as the theorem names them.
-/
import Derived.Deep.CutRange
import Derived.Deep.DeepCutAuto
import Derived.Test.YtnobmejcbgocoaaDkX
namespace Go.Proofs
open Go Go.RowKit Sm Go.Lib Go.Maps Go.WideMaps
attribute [local go_sem] Oper.semAt_some
/-- numbers that came in, read as picks -/
theorem Sm.pkv_came {W : World} {A : Option Addr} {n c : Nat} {l : List Int} (hl : l.length = n) (hc : n ≤ c) (hc2 : c ≤ 9223372036854775807) (hr : Rds W (fun _ => False) A (l.map fun k => .int .i64 k)) : PkV W l W.heap.size 0 (.slice A n c) := by
  refine ⟨A, c, by rw [← hl]; rfl, by omega, hc2, ?_⟩
  by_cases h0 : 0 < l.length
  · obtain ⟨b, off, e, hb, _, hcl⟩ := hr (by simpa using h0)
    refine .inr ⟨b, off, e, hb, fun j hj _ => ?_⟩
    exact hcl j _ (by rw [List.getElem?_map, List.getElem?_eq_getElem hj]; rfl)
  · exact .inl (by omega)
/-- a byte one more -/
theorem Sm.byte_up (z : Int) (h0 : 0 ≤ z) (h1 : z ≤ 255) : 0 ≤ IntKind.u8.wrap (z + 1) ∧ IntKind.u8.wrap (z + 1) ≤ 255 := by
  by_cases h : z = 255
  · subst h; decide
  · have : IntKind.u8.wrap (z + 1) = z + 1 := by
      unfold IntKind.wrap
      simp [IntKind.signed, IntKind.bits]
      omega
    omega
theorem Sm.rd_of_but {w W : World} {S : Nat → Prop} {base n c : Nat} {A : Option Addr} {l : List (BitVec 8)} (hown : w.ownsRow base 5 1 (.slice A n c) n (l.map byteCell)) (hb : But S w W) (hn : ∀ g, (Value.slice A n c).ownBlock = some g → ¬ S g) : Rd W w.heap.size A l := fun h0 => by
  obtain ⟨b, off, e, hlt, hc⟩ := Rd.of_own hown (Nat.le_refl _) h0
  subst e
  exact ⟨b, off, rfl, hlt, fun j c hj => (hb.cell (p := ⟨b, off + j, none⟩) hlt (hn b rfl)).trans (hc j c hj)⟩
/-- bytes that are turned, one by one -/
def Sm.KeepI (w8 W : World) (base : Nat) (A : Option Addr) (n c : Nat) : Prop :=
  ∃ zs : List Int, zs.length = n ∧ (∀ z ∈ zs, 0 ≤ z ∧ z ≤ 255) ∧ W.ownsRow base 5 1 (.slice A n c) n (zs.map (Value.int .u8)) ∧ But (fun b => (Value.slice A n c).ownBlock = some b) w8 W
set_option maxRecDepth 100000 in
set_option maxHeartbeats 4000000 in
theorem Sm.keeps_law (A : Option Addr) (n c : Nat) (l : List (BitVec 8)) (Ap : Option Addr) (np cp : Nat) (picks : List Int) (w : World) (hl : l.length = n) (hc : n ≤ c) (hR : Rd w w.heap.size A l)
    (hp : picks.length = np) (hnp : np ≤ cp) (hcp : cp ≤ 9223372036854775807) (hP : Rds w (fun _ => False) Ap (picks.map fun k => .int .i64 k)) :
    Calls Try.prog 5 #[.slice A n c, .slice Ap np cp] w fun e w' => e = .returned (.bool true) ∧ Below w.heap.size w w' := by
  by_cases hbig : 100 < n ∨ 20 < np
  · have hw := works_any w
    by_cases h1 : 100 < n
    · have h1I : (100 : Int) < (n : Int) := by omega
      clear hbig
      go_enter Try.func5, Try.ntmps5
      go_wp2_with (go_at_call 10; (with_reducible refine hw.mono ?_); rintro e w' ⟨rfl, hb⟩)
      go_ret
      exact ⟨rfl, hb⟩
    · have h1I : ¬ (100 : Int) < (n : Int) := by omega
      have h2I : (20 : Int) < (np : Int) := by omega
      clear hbig
      go_enter Try.func5, Try.ntmps5
      go_wp2_with (go_at_call 10; (with_reducible refine hw.mono ?_); rintro e w' ⟨rfl, hb⟩)
      go_ret
      exact ⟨rfl, hb⟩
  have h1I : ¬ (100 : Int) < (n : Int) := by omega
  have h2I : ¬ (20 : Int) < (np : Int) := by omega
  have hnew := new_M 200 w (by decide) (by decide)
  obtain ⟨n0, hn0⟩ : ∃ n0, w.heap.size = n0 := ⟨_, rfl⟩
  rw [hn0] at hnew hR ⊢
  have HN0 := Lib.hid hn0
  have HR := Lib.hid hR
  have HP := Lib.hid hP
  clear hR hP hbig
  obtain ⟨i0, hi, hz0, hz1, hz2⟩ := info_parts diskInfo5
  go_enter Try.func5, Try.ntmps5
  go_upto_region 4 with (go_at_call 30; (with_reducible refine hnew.mono ?_); clear hnew; rintro e w1 ⟨rfl, hD, hb1⟩)
  have HB1 := Lib.hid hb1
  have hbs := hb1.size
  have hbs' : n0 ≤ w1.heap.size := by omega
  have hD0 : DN n0 (n0 + 1) w1 ⟨false, 0, false, 200⟩ [] := ⟨hD, by omega⟩
  have HD0 := Lib.hid hD0
  clear hD0 hD
  have hR1 := HR.out.belowTo (hb1.mono (by omega)) (Nat.le_refl _)
  go_upto_region 5 with (at_builtin; refine wpList_append_rd _ rfl (.tmp 28) (.tmp 29) 36 rfl w1.heap.size 5 i0 _ Try.underlying36 hi hz0 hz1 hz2 rfl _ 0 [] rfl (World.ownsRow_made w1 #[] 0 (Nat.le_refl _) (by decide) rfl) n0 A n c l rfl hl (hR1.alloc (by omega) _) (by omega) (by simp) ?_; intro v7 w7 hown7 hg7; have hg7 : (w1.alloc (.cells #[] 5)).grownBy w7 (some w1.heap.size) := hg7; intro _)
  rw [Nat.zero_add, List.nil_append] at hown7
  obtain ⟨A7, c7, rfl⟩ := own_slice hown7
  have hb17 : Below w1.heap.size w1 w7 := ((Below.refl _ w1).alloc (Nat.le_refl _) _).trans ((But.grown hg7).to_below (by simp) (fun b e => by injection e with e; omega))
  have hm7 : ∀ g, (Value.slice A7 n c7).ownBlock = some g → w1.heap.size ≤ g ∧ g < w7.heap.size := fun g e => hown7.lt g e
  have hDk7 : Dk (fun b => n0 ≤ b ∧ b < w1.heap.size) w7 (n0 + 1) ⟨false, 0, false, 200⟩ [] := (HD0.out.1.mono (fun b h1 h2 => ⟨h2, h1⟩)).keep hb17
  have hap := append_M ⟨#[97]⟩ w7.heap.size A7 n c7 l w7 hDk7 (by decide) (by decide) (Nat.le_refl _) (fun W hb => rd_of_but hown7 hb (fun g e e2 => by have := (hm7 g e).1; omega)) hl (by omega)
  have e1 : appM ⟨false, 0, false, 200⟩ [] (strL ⟨#[97]⟩) l = (⟨false, 0, false, 200⟩, [([97#8], l, 0)], 0) := by
    unfold appM
    rw [if_neg (by decide), if_neg (by simp [usedL]; omega)]
    rfl
  rw [e1] at hap
  have HOWN7 := Lib.hid hown7
  have HB17 := Lib.hid hb17
  have HM7 := Lib.hid hm7
  clear e1 hDk7 hm7 hb17 hown7 hg7 hR1
  go_wp2_with (go_at_call 16; (with_reducible refine hap.mono ?_); clear hap; rintro e w8 ⟨rfl, hD8, hb8⟩)
  have hown8 := hb8.row HOWN7.out (fun g e e2 => by have := (HM7.out g e).1; omega)
  have HD8 := Lib.hid hD8
  have HB8 := Lib.hid hb8
  have hI0 : KeepI w8 w8 w1.heap.size A7 n c7 := ⟨l.map ib, by simp [hl], fun z hz => by
    obtain ⟨x, _, rfl⟩ := List.mem_map.1 hz
    exact ⟨ib_lo x, by have := ib_hi x; omega⟩, by rw [List.map_map]; exact hown8, But.refl _ _⟩
  have HI0 := Lib.hid hI0
  clear hI0 hown8 hb8 hD8
  go_loopw [9] (fun v9 wr => ∃ k : Nat, k ≤ n ∧ v9 = .int .i64 (k : Int) ∧ Hid (KeepI w8 wr w1.heap.size A7 n c7)) (fun v9 _ => n - (RowKit.intOf v9).toNat)
  case atStart => exact ⟨0, Nat.zero_le _, rfl, HI0⟩
  case round =>
    obtain ⟨wo, rfl⟩ : ∃ wo : World, wo = wr := ⟨_, rfl⟩
    obtain ⟨k, hk, rfl, HI⟩ := hrel
    clear HI0
    by_cases hlt : k < n
    · obtain ⟨zs, hz1', hz2', hrow, hbt⟩ := HI.out
      obtain ⟨g, cap, hv, _⟩ := hrow.form (by omega)
      injection hv with hv1 hv2 hv3
      subst hv1
      have hkz : k < zs.length := by omega
      have ck := hrow.cellAt k (by omega)
      rw [List.getElem?_map, List.getElem?_eq_getElem hkz, Option.map_some] at ck
      have fk := hrow.frozenAt k
      obtain ⟨z, hz⟩ : ∃ z, zs[k] = z := ⟨_, rfl⟩
      have hzr := hz2' z (by rw [← hz]; exact List.getElem_mem hkz)
      rw [hz] at ck
      have hzu := byte_up z hzr.1 hzr.2
      obtain ⟨u, hu⟩ : ∃ u, IntKind.u8.wrap (z + 1) = u := ⟨_, rfl⟩
      rw [hu] at hzu
      have hst := hrow.stored k (.int .u8 u)
      have hnew : KeepI w8 (wo.setCell ⟨g, k, none⟩ (.int .u8 u)) w1.heap.size (some ⟨g, 0, none⟩) n c7 := by
        refine ⟨zs.set k u, by simpa using hz1', fun y hy => ?_, ?_, hbt.trans (But.grown hst.2) (fun b _ e => e)⟩
        · rcases List.mem_or_eq_of_mem_set hy with h | h
          · exact hz2' y h
          · rw [h]; exact hzu
        · rw [List.map_set]
          exact hst.1
      have HNEW := Lib.hid hnew
      have hw8 : IntKind.u8.wrap (z + 1) = u := hu
      clear hnew hst hbt hrow hz hz1' hz2' hv2 hv3 hzu hzr hkz
      go_wp2
      go_roundw
      case rel => exact ⟨k + 1, by omega, by go_num, HNEW⟩
      case measure => simp [RowKit.intOf]; omega
    · obtain rfl : k = n := by omega
      obtain ⟨zs, hz1', hz2', hrow, hbt⟩ := HI.out
      have hbl8 : Below n0 w w8 := by
        have h1 : Below n0 w1 w7 := HB17.out.mono hbs'
        have h2 : Below n0 w7 w8 := HB8.out.to_below (by have := HB17.out.size; omega) (fun b e => e.1)
        exact (HB1.out.trans h1).trans h2
      have hbl : Below n0 w wo := hbl8.trans (hbt.to_below (by have := hbl8.size; have := HN0.out; omega) (fun b e => by have := (HM7.out b e).1; omega))
      have hDl : DN n0 (n0 + 1) wo ⟨false, 0, false, 200⟩ [([97#8], l, 0)] :=
        ⟨(HD8.out.but hbt (fun b e e2 => by
          have := HM7.out b e
          rcases e2 with e2 | e2 <;> omega)).mono (fun b _ e => by
          have := HB17.out.size
          rcases e with e | e <;> omega), by have := hbl.size; have := HN0.out; omega⟩
      have hR0 : Rds wo (fun _ => False) Ap (picks.map fun k => .int .i64 k) := HP.out.but (But.of_all (by rw [HN0.out]; exact hbl) (fun _ => False)) (fun _ e => e)
      have hpk := pkv_came hp hnp hcp hR0
      have hcr := crash_M Ap np cp picks wo hDl.1 (by simp) hpk
      obtain ⟨K, hK⟩ : ∃ K, crK (picks.getD 0 0) ([97#8], l, 0) = K := ⟨_, rfl⟩
      have e2 : crM picks 0 [([97#8], l, 0)] = [([97#8], l.take K, K)] := by rw [← hK]; rfl
      rw [e2] at hcr
      have hdl := HR.out.belowTo (hbl.mono (Nat.le_refl _)) (Nat.le_refl _)
      have HBL := Lib.hid hbl
      have HDL := Lib.hid hDl
      have htk : (l.take K).length ≤ 100 := by rw [List.length_take]; omega
      clear hz1' hz2' hrow hbt hbl8 hbl hDl hR0 hpk hK e2 HI HD8 HB8 HP hdl
      go_upto_region 11 with (go_at_call 14; (with_reducible refine hcr.mono ?_); clear hcr; rintro e wc ⟨q, rfl, hDc, hbc⟩)
      have hal := app_lit ⟨#[97]⟩ [120#8] 1 wc (s := ⟨false, 0, false, 200⟩) (L := [([97#8], l.take K, K)]) ⟨hDc, hbc.size⟩ (by decide) (by simp) rfl (by decide) (⟨false, 0, false, 200⟩, [([97#8], l.take K ++ [120#8], K)], 0) (by
        unfold appM
        rw [if_neg (by decide), if_neg (by
          show ¬ ((200 : Int) < ((usedL [([97#8], l.take K, K)] : Nat) : Int) + 1)
          have : usedL [([97#8], l.take K, K)] = (l.take K).length := by simp [usedL]
          omega)]
        rfl)
      have hal2 : Calls Try.prog 16 #[.pointer (some ⟨q, 0, none⟩), .string ⟨#[97]⟩, .slice (some ⟨wc.heap.size, 0, none⟩) 1 1] (wc.alloc (.cells #[.int .u8 120] 5 (1, 2))) fun e w' => e = .returned (.int .i64 0) ∧ Below wo.heap.size wc w' := hal.mono (by rintro e w' ⟨rfl, _, h3⟩; exact ⟨rfl, h3⟩)
      have HBC := Lib.hid hbc
      have kc := fun (w : World) (C : Array Value) (n c : Nat) => Lib.run_convert_bytes_const (P := Try.prog) w 36 5 C n c Try.underlying36 Try.underlying5
      clear hal hDc hbc
      go_upto_region 12 with (go_at_call 16; (with_reducible refine hal2.mono ?_); clear hal2; rintro e wd ⟨rfl, hbd⟩)
      have hbd0 := HBC.out.trans hbd
      have hrd := read_M ⟨#[97]⟩ wd (HDL.out.keep hbd0).1 (by decide)
      have ht : tellM [([97#8], l, 0)] (strL ⟨#[97]⟩) = (l, 0, 0) := by rfl
      rw [ht] at hrd
      have HBD := Lib.hid hbd0
      clear ht hbd hbd0 kc
      go_upto_region 13 with (go_at_call 12; (with_reducible refine hrd.mono ?_); clear hrd; rintro e we ⟨A2, c2, rfl, hrow, hbe⟩)
      have hbE : Below n0 w we := HBL.out.trans ((HBD.out.trans (hbe.mono HBD.out.size)).mono HDL.out.2)
      have s1 := run_str (P := Try.prog) we 36 5 Try.underlying36 Try.underlying5 l k c2 we.heap.size A2 hl (Rd.of_own hrow (Nat.le_refl _)) 9 Try.underlying9
      have s2 := run_str (P := Try.prog) we 36 5 Try.underlying36 Try.underlying5 l k c n0 A hl (HR.out.belowTo hbE (Nat.le_refl _)) 9 Try.underlying9
      obtain ⟨S, hS⟩ : ∃ S, strB l = S := ⟨_, rfl⟩
      rw [hS] at s1 s2
      have HBE := Lib.hid hbE
      have hw := works_any we
      have HSZ := Lib.hid (show n0 ≤ we.heap.size by have := hbE.size; have := HN0.out; omega)
      clear hbE hrow hbe hS htk
      go_wp2_with (first | (go_at_call 15; (with_reducible refine (num_any _ _ (by decide) (by decide)).mono ?_); rintro e w' ⟨rfl, rfl⟩) | (go_at_call 10; (with_reducible refine hw.mono ?_); rintro e wf ⟨rfl, hbf⟩))
      go_ret
      exact ⟨rfl, HBE.out.trans (hbf.mono HSZ.out)⟩
end Go.Proofs
