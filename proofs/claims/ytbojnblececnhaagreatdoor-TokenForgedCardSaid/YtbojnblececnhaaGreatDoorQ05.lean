/-
  The contract of Press: at every state, block, count.
-/
import Derived.Deep.QuietTactic
import Derived.BigQuiet
import Derived.IntWalk
import Derived.Deep.CutRange
import Derived.StillTailTactics
import Derived.Test.YtbojnblececnhaaGreatDoorQ01
import Derived.Test.YtbojnblececnhaaGreatDoorQ04
namespace Go.Proofs
open Go.RowKit Sm
theorem Sm.lo_num (n : Nat) : (n : Int) % 4294967296 = iv (BitVec.ofNat 32 n) := by unfold iv; simp
theorem Sm.hi_num (n : Nat) : (n : Int) / 4294967296 % 4294967296 = iv (BitVec.ofNat 32 (n / 4294967296)) := by unfold iv; simp
theorem Sm.not_word (x : BitVec 32) : bits .xor .u32 4294967295 (iv x) = iv (~~~x) := by
  have e : (4294967295 : Int) = iv 0xffffffff#32 := rfl
  rw [e, bits_xor, BitVec.xor_comm]
  exact congrArg iv BitVec.xor_allOnes
theorem Sm.getD_set_ne {l : List (BitVec 32)} {i j : Nat} (x : BitVec 32) (h : i ≠ j) : (l.set i x).getD j 0 = l.getD j 0 := by
  simp [List.getD_eq_getElem?_getD, List.getElem?_set_ne h]
theorem Sm.vfl_no (H : List (BitVec 32)) (n : Nat) : vfl H n false = vhi n (vlo n (vin H 8)) := rfl
theorem Sm.vfl_yes (H : List (BitVec 32)) (n : Nat) : vfl H n true = vla (vhi n (vlo n (vin H 8))) := rfl
set_option maxRecDepth 100000 in
theorem Sm.index_orders (k : Nat) (hk : k < 10) (w : World) : (Instr.index 0xc2 (.agg ordV.toArray) (.int .i64 (k : Int))).run Tryz.prog w = .ok (.agg (ovs (ord k))) w := by
  have : k = 0 ∨ k = 1 ∨ k = 2 ∨ k = 3 ∨ k = 4 ∨ k = 5 ∨ k = 6 ∨ k = 7 ∨ k = 8 ∨ k = 9 := by omega
  rcases this with rfl | rfl | rfl | rfl | rfl | rfl | rfl | rfl | rfl | rfl <;> with_unfolding_all rfl
theorem Sm.zu16_eq : (#[.int .u8 0, .int .u8 0, .int .u8 0, .int .u8 0, .int .u8 0, .int .u8 0, .int .u8 0, .int .u8 0, .int .u8 0, .int .u8 0, .int .u8 0, .int .u8 0, .int .u8 0, .int .u8 0, .int .u8 0, .int .u8 0] : Array Value) = ovs (List.replicate 16 0) := rfl
theorem Sm.ovs_one (l : List Nat) : (ovs l).all (·.oneCell') = true := all_oneCell_toArray (ol_one l)
theorem Sm.keep2 {W0 W : World} {b0 b1 N k : Nat} {v0 v1 : Value} (h0 : b0 < W0.heap.size ∧ b0 ≠ N) (h1 : b1 < W0.heap.size ∧ b1 ≠ N) (h : W0.cell? ⟨b0, k, none⟩ = some v0 ∧ W0.cell? ⟨b1, k, none⟩ = some v1) (hb : But (fun b => b = N) W0 W) :
    W.cell? ⟨b0, k, none⟩ = some v0 ∧ W.cell? ⟨b1, k, none⟩ = some v1 :=
  ⟨(hb.cell (p := ⟨b0, k, none⟩) h0.1 h0.2).trans h.1, (hb.cell (p := ⟨b1, k, none⟩) h1.1 h1.2).trans h.2⟩
set_option maxRecDepth 100000 in
set_option maxHeartbeats 4000000 in
theorem Sm.press_any (H : List (BitVec 32)) (B : List (BitVec 8)) (n : Nat) (last : Bool) (hH : H.length = 8) (hB : B.length = 64) (hn : n < 18446744073709551616) (w : World) (ht : Tabs w) :
    Calls Tryz.prog 121 #[.agg (wvs H), .agg (bvs B), .int .u64 (n : Int), .bool last] w fun e w' => e = .returned (.agg (wvs (pressS H B n last))) ∧ Below w.heap.size w w' := by
  have h0 : PrAt w (((((w.alloc (.cells (wvs H) 0xa4)).alloc (.cells (bvs B) 0x84)).alloc (.cells (wvs (List.replicate 8 0#32)) 0xa4)).alloc (.cells (wvs (List.replicate 16 0#32)) 0xb7)).alloc (.cells (wvs (List.replicate 16 0#32)) 0xb7)) H B (giv B 0) (vin H 0) :=
    ⟨((((Blk.new w 0xa4 (wvs H)).alloc _).alloc _).alloc _).alloc _,
      (((Blk.newAt (X := w.alloc (.cells (wvs H) 0xa4)) (by simp) 0x84 (bvs B)).alloc _).alloc _).alloc _,
      ((Blk.newAt (X := (w.alloc (.cells (wvs H) 0xa4)).alloc (.cells (bvs B) 0x84)) (by simp) 0xa4 (wvs (List.replicate 8 0#32))).alloc _).alloc _,
      (Blk.newAt (X := ((w.alloc (.cells (wvs H) 0xa4)).alloc (.cells (bvs B) 0x84)).alloc (.cells (wvs (List.replicate 8 0#32)) 0xa4)) (by simp) 0xb7 (wvs (List.replicate 16 0#32))).alloc _,
      Blk.newAt (X := (((w.alloc (.cells (wvs H) 0xa4)).alloc (.cells (bvs B) 0x84)).alloc (.cells (wvs (List.replicate 8 0#32)) 0xa4)).alloc (.cells (wvs (List.replicate 16 0#32)) 0xb7)) (by simp) 0xb7 (wvs (List.replicate 16 0#32)),
      (((((Below.refl _ w).alloc (Nat.le_refl _) _).alloc (by simp) _).alloc (by simp <;> omega) _).alloc (by simp <;> omega) _).alloc (by simp <;> omega) _⟩
  go_enter Tryz.func121, Tryz.ntmps121
  go_wp2
  rw [z8_eq, z16_eq]
  obtain ⟨W0, hW0⟩ : ∃ W0, ((((w.alloc (.cells (wvs H) 0xa4)).alloc (.cells (bvs B) 0x84)).alloc (.cells (wvs (List.replicate 8 0#32)) 0xa4)).alloc (.cells (wvs (List.replicate 16 0#32)) 0xb7)).alloc (.cells (wvs (List.replicate 16 0#32)) 0xb7) = W0 := ⟨_, rfl⟩
  rw [hW0] at h0 ⊢
  clear hW0
  have HH := Lib.hid hH
  have HB := Lib.hid hB
  have HN := Lib.hid hn
  clear hH hB hn
  go_loopw [16] (fun i wr => ∃ k : Nat, k ≤ 16 ∧ i = .int .i64 (k : Int) ∧ Hid (PrAt w wr H B (giv B k) (vin H 0))) (fun i _ => 16 - (intOf i).toNat)
  case atStart => exact ⟨0, by omega, rfl, Lib.hid h0⟩
  case round =>
    obtain ⟨wo, rfl⟩ : ∃ wo : World, wo = wr := ⟨_, rfl⟩
    obtain ⟨k, hk, rfl, HR⟩ := hrel
    clear h0
    by_cases hlt : k < 16
    · have hsl := slice64 (w.heap.size + 1) (4 * k) (4 * k + 4) ((k : Int) * 4) (((k : Int) + 1) * 4) (by omega) (by omega) (by omega) (by omega)
      have e4 : 4 * k + 4 - 4 * k = 4 := by omega
      rw [e4] at hsl
      clear e4
      have hwc := word_any (fun j => B.getD (4 * k + j) 0) (w.heap.size + 1) (4 * k) (64 - 4 * k) wo (fun j hj => HR.out.b.byte (by rw [HB.out]; omega))
      have hgc := HR.out.g.word (k := k) (by rw [giv_length]; exact hlt)
      have hgf := HR.out.g.frozen k
      obtain ⟨zz, hzz⟩ : ∃ zz, (giv B k).getD k 0 = zz := ⟨_, rfl⟩
      rw [hzz] at hgc
      clear hzz
      obtain ⟨x, hx⟩ : ∃ x, wordB B k = x := ⟨_, rfl⟩
      have hx2 : wordF (fun j => B.getD (4 * k + j) 0) 4 = x := hx
      rw [hx2] at hwc
      have HX := Lib.hid hx
      clear hx hx2
      go_wp2_with (go_at_call 123; (with_reducible refine hwc.mono ?_); rintro e w' ⟨rfl, rfl⟩)
      go_roundw
      case rel =>
        refine ⟨k + 1, by omega, by go_num, Lib.hid ?_⟩
        rw [giv, HX.out]
        exact HR.out.setG k x
      case measure => simp [intOf]; omega
    · obtain rfl : k = 16 := by omega
      have HR0 := HR.out
      clear HR
      rw [show ((16 : Nat) : Int) = 16 from rfl]
      go_wp2
      go_loopw [29] (fun i wr => ∃ k : Nat, k ≤ 8 ∧ i = .int .i64 (k : Int) ∧ Hid (PrAt w wr H B (giv B 16) (vin H k))) (fun i _ => 8 - (intOf i).toNat)
      case atStart => exact ⟨0, by omega, rfl, Lib.hid HR0⟩
      case round =>
        obtain ⟨wo1, rfl⟩ : ∃ wo1 : World, wo1 = wr := ⟨_, rfl⟩
        obtain ⟨p, hk, rfl, HR⟩ := hrel
        clear HR0
        by_cases hlt : p < 8
        · have hht := ht.keep HR.out.below
          have hb0 : wo1.cell? ⟨1, p, none⟩ = some (.int .u32 (iv (beginL.getD p 0))) := by
            have := hht.first p (wv (beginL.getD p 0)) (by
              have : p < beginL.length := hlt
              simp [wl, List.getElem?_map, List.getElem?_eq_getElem this, List.getD_eq_getElem?_getD])
            simpa [wv] using this
          have hh0 := HR.out.h.word (k := p) (by rw [HH.out]; exact hlt)
          have hv0 := HR.out.v.word (k := p) (by rw [vin_length]; omega)
          have hv1 := HR.out.v.word (k := p + 8) (by rw [vin_length]; omega)
          have hf0 := HR.out.v.frozen p
          have hf1 := HR.out.v.frozen (p + 8)
          have H0 : Hid (w.heap.size < wo1.heap.size ∧ w.heap.size ≠ w.heap.size + 1 + 1 + 1 + 1) := Lib.hid ⟨HR.out.h.lt, by omega⟩
          have H1 : Hid (1 < wo1.heap.size ∧ 1 ≠ w.heap.size + 1 + 1 + 1 + 1) := Lib.hid ⟨by have := H0.out; have := ht.size; omega, by have := ht.size; omega⟩
          obtain ⟨x, hx⟩ : ∃ x, H.getD p 0 = x := ⟨_, rfl⟩
          obtain ⟨y, hy⟩ : ∃ y, beginL.getD p 0 = y := ⟨_, rfl⟩
          obtain ⟨z0, hz0⟩ : ∃ z, (vin H p).getD p 0 = z := ⟨_, rfl⟩
          obtain ⟨z1, hz1⟩ : ∃ z, (vin H p).getD (p + 8) 0 = z := ⟨_, rfl⟩
          rw [hx] at hh0
          rw [hy] at hb0
          rw [hz0] at hv0
          rw [hz1] at hv1
          have HS := Lib.hid (And.intro hh0 hb0)
          have Hx := Lib.hid hx
          have Hy := Lib.hid hy
          clear hx hy hz0 hz1 hht
          have g4 : IntKind.i64.wrap ((p : Int) + 8) = (p : Int) + 8 := IntWalk.i64_in _ (by omega)
          have g5 : 0 ≤ (p : Int) + 8 := by omega
          have g6 : ((p : Int) + 8).toNat = p + 8 := by omega
          have g7 : (p : Int) < 8 := by omega
          have g8 : (p : Int) + 8 < 16 := by omega
          have g9 : (p : Int) < 16 := by omega
          have g0 : (0 : Int) ≤ (p : Int) := by omega
          go_wp2
          go_region_held3 (fun W => W.cell? ⟨w.heap.size, p, none⟩ = some (.int .u32 (iv x)) ∧ W.cell? ⟨1, p, none⟩ = some (.int .u32 (iv y)))
            ((refine keep2 H0.out H1.out HS.out ?_; (repeat first | exact But.refl _ _ | apply But.drew | (refine But.set ?_ _ _ (Or.inl rfl))))) (first | fail)
          clear g0 g4 g5 g6 g7 g8 g9
          go_wp2
          go_roundw
          case rel =>
            refine ⟨p + 1, by omega, by go_num, Lib.hid ?_⟩
            rw [vin, Hx.out, Hy.out]
            exact ((HR.out.setV p x).setV (p + 8) y).drew
          case measure => simp [intOf]; omega
        · obtain rfl : p = 8 := by omega
          obtain ⟨V8, hV8⟩ : ∃ V, vin H 8 = V := ⟨_, rfl⟩
          have hVl : V8.length = 16 := by rw [← hV8, vin_length]
          have HR0 := HR.out
          rw [hV8] at HR0
          have HV8 := Lib.hid hV8
          clear HR hV8
          have d12 := HR0.v.word (k := 12) (by omega)
          have d13 := HR0.v.word (k := 13) (by omega)
          have d14 := HR0.v.word (k := 14) (by omega)
          have f12 := HR0.v.frozen 12
          have f13 := HR0.v.frozen 13
          have f14 := HR0.v.frozen 14
          obtain ⟨y12, hy12⟩ : ∃ z, V8.getD 12 0 = z := ⟨_, rfl⟩
          obtain ⟨y13, hy13⟩ : ∃ z, V8.getD 13 0 = z := ⟨_, rfl⟩
          obtain ⟨y14, hy14⟩ : ∃ z, V8.getD 14 0 = z := ⟨_, rfl⟩
          rw [hy12] at d12
          rw [hy13] at d13
          rw [hy14] at d14
          have HY := Lib.hid (And.intro hy12 (And.intro hy13 hy14))
          have HVl := Lib.hid hVl
          clear hy12 hy13 hy14 hVl
          have HOrd : Hid (∀ W, But (fun b => b = w.heap.size + 1 + 1 + 1 + 1) wo1 W → W.rangeAt 2 0 ordV) := Lib.hid fun W hb j v hv => (hb.cell (p := ⟨2, 0 + j, none⟩) (by have := ht.size; have := HR0.h.lt; show 2 < _; omega) (by have := ht.size; show 2 ≠ _; omega)).trans ((ht.keep HR0.below).order j v hv)
          have hlo := lo_num n
          have hhi := hi_num n
          have e12 := bits_xor y12 (BitVec.ofNat 32 n)
          have e13 := bits_xor y13 (BitVec.ofNat 32 (n / 4294967296))
          go_upto_if 57 with fail
          go_cut [57] from 58 (fun s57 wx => s57 = .bool last ∧ Hid (PrAt w wx H B (giv B 16) (vfl H n last)))
          case first =>
            obtain ⟨W3, hW3⟩ : ∃ W3, (wo1.setCell ⟨w.heap.size + 1 + 1 + 1 + 1, 12, none⟩ (.int .u32 (iv (y12 ^^^ BitVec.ofNat 32 n)))).setCell ⟨w.heap.size + 1 + 1 + 1 + 1, 13, none⟩ (.int .u32 (iv (y13 ^^^ BitVec.ofNat 32 (n / 4294967296)))) = W3 := ⟨_, rfl⟩
            have hR3 : PrAt w W3 H B (giv B 16) (vhi n (vlo n V8)) := by
              have := (HR0.setV 12 (y12 ^^^ BitVec.ofNat 32 n)).setV 13 (y13 ^^^ BitVec.ofNat 32 (n / 4294967296))
              rw [← hW3]
              unfold vhi vlo
              rw [getD_set_ne _ (by decide), HY.out.1, HY.out.2.1]
              exact this
            rw [hW3]
            have d14' := hR3.v.word (k := 14) (by rw [vhi_length, vlo_length, HVl.out]; decide)
            have f14' := hR3.v.frozen 14
            have hy14 : (vhi n (vlo n V8)).getD 14 0 = y14 := by
              unfold vhi vlo
              rw [getD_set_ne _ (by decide), getD_set_ne _ (by decide), HY.out.2.2]
            rw [hy14] at d14'
            have HY14 := Lib.hid hy14
            clear hW3 hy14 d12 d13 d14 f12 f13 f14 hlo hhi e12 e13
            have e1 : IntKind.u32.signed = false := rfl
            have e2 : IntKind.u32.max = 4294967295 := rfl
            have hx := not_word y14
            cases last
            · go_wp2_with fail
              go_meet
              exact ⟨rfl, Lib.hid (by rw [vfl_no, HV8.out]; exact hR3)⟩
            · go_wp2_with fail
              go_meet
              exact ⟨rfl, Lib.hid (by rw [vfl_yes, HV8.out, vla, HY14.out]; exact hR3.setV 14 (~~~ y14))⟩
          case rest =>
            obtain ⟨rfl, HR⟩ := hcut
            clear HR0 d12 d13 d14 f12 f13 f14 hlo hhi e12 e13 HOrd HY HVl HV8
            have hord := (ht.keep HR.out.below).order
            obtain ⟨VF, hVF⟩ : ∃ V, vfl H n last = V := ⟨_, rfl⟩
            have hVl : VF.length = 16 := by rw [← hVF, vfl_length]
            have HR0 := HR.out
            rw [hVF] at HR0
            have HVF := Lib.hid hVF
            have HVl := Lib.hid hVl
            clear HR hVF hVl
            obtain ⟨G, hG⟩ : ∃ G, giv B 16 = G := ⟨_, rfl⟩
            have hGl : G.length = 16 := by rw [← hG, giv_length]
            rw [hG] at HR0
            have HG := Lib.hid hG
            have HGl := Lib.hid hGl
            clear hG hGl
            go_wp2_with (refine wpList_load_mid rfl 0xc2 _ rfl 2 0 rfl ordV _ hord Tryz.underlying194 rfl (by kernel_rfl) ?_)
            clear hord
            obtain ⟨A160, hA⟩ : ∃ A, ordV.toArray = A := ⟨_, rfl⟩
            rw [hA]
            have HA := Lib.hid hA
            clear hA
            have HR1 : PrAt w wc H B G (rounds VF G 0) := HR0
            clear HR0
            go_loopw [63] (fun i wr => ∃ k : Nat, k ≤ 10 ∧ i = .int .i64 (k : Int) ∧ Hid (PrAt w wr H B G (rounds VF G k))) (fun i _ => 10 - (intOf i).toNat)
            case atStart => exact ⟨0, by omega, rfl, Lib.hid HR1⟩
            case round =>
              obtain ⟨wo2, rfl⟩ : ∃ wo2 : World, wo2 = wr := ⟨_, rfl⟩
              obtain ⟨k, hk, rfl, HR⟩ := hrel
              clear HR1
              by_cases hlt : k < 10
              · have hix : ∀ w : World, (Instr.index 0xc2 (.agg A160) (.int .i64 (k : Int))).run Tryz.prog w = .ok (.agg (ovs (ord k))) w := by
                  rw [← HA.out]; exact index_orders k hlt
                have hOl := ord_length k hlt
                have hO16 := ord_lt k hlt
                obtain ⟨O, hO⟩ : ∃ O, ord k = O := ⟨_, rfl⟩
                rw [hO] at hix hOl hO16
                have HO := Lib.hid hO
                have HOl := Lib.hid hOl
                have HO16 := Lib.hid hO16
                obtain ⟨V, hV⟩ : ∃ V, rounds VF G k = V := ⟨_, rfl⟩
                have hVl : V.length = 16 := by rw [← hV, rounds_length, HVl.out]
                have HRk := HR.out
                rw [hV] at HRk
                have HV := Lib.hid hV
                clear hO hOl hO16 hV HR
                have i66 : Hid ((Tryz.prog.info? 0xc1).map (·.size) = some (ovs O).size) := Lib.hid (by rw [ovs_size, HOl.out]; kernel_rfl)
                go_upto_region 19 with (refine wpList_store_row rfl 0xc1 _ _ rfl wo2.heap.size (ovs O) rfl rfl 0xc1 _ (World.alloc_heap_new wo2 _) i66.out (by rw [ovs_size, HOl.out]; rfl) (ovs_one O) ?_)
                rw [zu16_eq]
                obtain ⟨W3, hW3⟩ : ∃ W3, (wo2.alloc (.cells (ovs (List.replicate 16 0)) 0xc1)).setRow wo2.heap.size (ovs O) = W3 := ⟨_, rfl⟩
                have hb3 : Below wo2.heap.size wo2 W3 := by rw [← hW3]; exact below_setRow ((Below.refl _ wo2).alloc (Nat.le_refl _) _) (Nat.le_refl _) _
                have hR3 := HRk.keep hb3
                have hO3 : Blk W3 wo2.heap.size 0xc1 (ovs O) := by rw [← hW3]; exact setRow_heap _ _ _ _ _ _ (World.alloc_heap_new wo2 _)
                rw [hW3]
                have i63 : Hid ((Tryz.prog.info? 0xb7).map (·.size) = some (wvs V).size) := Lib.hid (by rw [wvs_size, hVl]; kernel_rfl)
                have j63 : Hid ((Tryz.prog.info? 0xb7).map (·.size) = some (wvs G).size) := Lib.hid (by rw [wvs_size, HGl.out]; kernel_rfl)
                have hcl := round_any V G O hVl HGl.out HOl.out HO16.out W3 (ht.keep hR3.below)
                obtain ⟨V', hV'⟩ : ∃ V', rndS V G O 8 = V' := ⟨_, rfl⟩
                have hVl' : V'.length = 16 := by rw [← hV', rndS_length, hVl]
                rw [hV'] at hcl
                have k63 : Hid ((Tryz.prog.info? 0xb7).map (·.size) = some (wvs V').size) := Lib.hid (by rw [wvs_size, hVl']; kernel_rfl)
                have l63 : Hid ((wvs V).size = (wvs V').size) := Lib.hid (by rw [wvs_size, wvs_size, hVl, hVl'])
                have HV' := Lib.hid hV'
                have HR3 := Lib.hid hR3
                have HO3 := Lib.hid hO3
                have HC := Lib.hid hcl
                clear hW3 hb3 hR3 hO3 hV' hVl' hVl HRk hcl
                go_wp2_with (first
                  | (refine wpList_load_row rfl 0xb7 _ rfl (w.heap.size + 1 + 1 + 1 + 1) rfl 0xb7 _ (0, 0) _ HR3.out.v Tryz.underlying183 rfl i63.out ?_)
                  | (refine wpList_load_row rfl 0xb7 _ rfl (w.heap.size + 1 + 1 + 1) rfl 0xb7 _ (0, 0) _ HR3.out.g Tryz.underlying183 rfl j63.out ?_)
                  | (refine wpList_load_row rfl 0xc1 _ rfl wo2.heap.size rfl 0xc1 _ (0, 0) _ HO3.out Tryz.underlying193 rfl i66.out ?_)
                  | (go_at_call 124; (with_reducible refine HC.out.mono ?_); rintro e w4 ⟨rfl, hb4⟩; have hR4 := Lib.hid (HR3.out.keep hb4))
                  | (refine wpList_store_row rfl 0xb7 _ _ rfl (w.heap.size + 1 + 1 + 1 + 1) (wvs V') rfl rfl 0xb7 _ hR4.out.v k63.out l63.out (wvs_one V') ?_))
                go_roundw
                case rel =>
                  refine ⟨k + 1, by omega, by go_num, Lib.hid ?_⟩
                  rw [rounds, HO.out, HV.out, HV'.out]
                  exact hR4.out.rowV V'
                case measure => simp [intOf]; omega
              · obtain rfl : k = 10 := by omega
                have HR0 := HR.out
                clear HR
                rw [show ((10 : Nat) : Int) = 10 from rfl]
                obtain ⟨V, hV⟩ : ∃ V, rounds VF G 10 = V := ⟨_, rfl⟩
                have hVl : V.length = 16 := by rw [← hV, rounds_length, HVl.out]
                rw [hV] at HR0
                have HV := Lib.hid hV
                have HVL := Lib.hid hVl
                clear hV hVl
                have HR1 : PrAt w wo2 (fin H V 0) B G V := HR0
                clear HR0
                go_wp2
                go_loopw [71] (fun i wr => ∃ k : Nat, k ≤ 8 ∧ i = .int .i64 (k : Int) ∧ Hid (PrAt w wr (fin H V k) B G V)) (fun i _ => 8 - (intOf i).toNat)
                case atStart => exact ⟨0, by omega, rfl, Lib.hid HR1⟩
                case round =>
                  obtain ⟨wo3, rfl⟩ : ∃ wo3 : World, wo3 = wr := ⟨_, rfl⟩
                  obtain ⟨p, hk, rfl, HR⟩ := hrel
                  clear HR1
                  by_cases hlt : p < 8
                  · have hh0 := HR.out.h.word (k := p) (by rw [fin_length, HH.out]; exact hlt)
                    have hv0 := HR.out.v.word (k := p) (by rw [HVL.out]; omega)
                    have hv1 := HR.out.v.word (k := p + 8) (by rw [HVL.out]; omega)
                    have hf0 := HR.out.h.frozen p
                    obtain ⟨x, hx⟩ : ∃ x, (fin H V p).getD p 0 = x := ⟨_, rfl⟩
                    obtain ⟨y, hy⟩ : ∃ y, V.getD p 0 = y := ⟨_, rfl⟩
                    obtain ⟨z, hz⟩ : ∃ z, V.getD (p + 8) 0 = z := ⟨_, rfl⟩
                    rw [hx] at hh0
                    rw [hy] at hv0
                    rw [hz] at hv1
                    have HX := Lib.hid (And.intro hx (And.intro hy hz))
                    clear hx hy hz
                    have e1 := bits_xor y z
                    have e2 := bits_xor x (y ^^^ z)
                    have g4 : IntKind.i64.wrap ((p : Int) + 8) = (p : Int) + 8 := IntWalk.i64_in _ (by omega)
                    have g5 : 0 ≤ (p : Int) + 8 := by omega
                    have g6 : ((p : Int) + 8).toNat = p + 8 := by omega
                    have g7 : (p : Int) < 8 := by omega
                    have g8 : (p : Int) + 8 < 16 := by omega
                    have g9 : (p : Int) < 16 := by omega
                    have g0 : (0 : Int) ≤ (p : Int) := by omega
                    go_upto_region 24 with fail
                    go_still_tail 13, (by kernel_rfl)
                    change wpList _ _ _ _ _ wo3.drew
                    obtain ⟨W4, hW4⟩ : ∃ W4, wo3.drew = W4 := ⟨_, rfl⟩
                    have hR4 : PrAt w W4 (fin H V p) B G V := by rw [← hW4]; exact HR.out.drew
                    rw [hW4]
                    clear hW4 hh0 hv0 hv1 hf0 g4 g5 g6 g7 g8 g9 g0 e1 e2
                    have hh0 := hR4.h.word (k := p) (by rw [fin_length, HH.out]; exact hlt)
                    have hf0 := hR4.h.frozen p
                    have HR4 := Lib.hid hR4
                    clear hR4
                    go_wp2
                    go_roundw
                    case rel =>
                      refine ⟨p + 1, by omega, by go_num, Lib.hid ?_⟩
                      rw [fin, HX.out.1, HX.out.2.1, HX.out.2.2]
                      exact HR4.out.setH p _
                    case measure => simp [intOf]; omega
                  · obtain rfl : p = 8 := by omega
                    obtain ⟨F, hF⟩ : ∃ F, fin H V 8 = F := ⟨_, rfl⟩
                    have hFl : F.length = 8 := by rw [← hF, fin_length, HH.out]
                    have HR0 := HR.out
                    rw [hF] at HR0
                    have hfin : pressS H B n last = F := by
                      unfold pressS
                      rw [HVF.out, HG.out, HV.out, hF]
                    have HF := Lib.hid hfin
                    have i27 : Hid ((Tryz.prog.info? 0xa4).map (·.size) = some (wvs F).size) := Lib.hid (by rw [wvs_size, hFl]; kernel_rfl)
                    have j27 : Hid ((wvs (List.replicate 8 0#32)).size = (wvs F).size) := Lib.hid (by rw [wvs_size, wvs_size, hFl]; rfl)
                    have HR1 := Lib.hid HR0
                    clear HR HR0 hF hFl hfin
                    go_wp2_with (first
                      | (refine wpList_load_row rfl 0xa4 _ rfl w.heap.size rfl 0xa4 _ (0, 0) _ HR1.out.h Tryz.underlying164 rfl i27.out ?_)
                      | (refine wpList_store_row rfl 0xa4 _ _ rfl (w.heap.size + 1 + 1) (wvs F) rfl rfl 0xa4 _ HR1.out.r i27.out j27.out (wvs_one F) ?_))
                    refine bodyPost_ret (results_cell_row rfl _ _ (w.heap.size + 1 + 1) 0xa4 (wvs F) (0, 0) _ rfl (setRow_heap _ _ _ _ _ _ HR1.out.r) Tryz.underlying164 rfl i27.out) rfl ⟨by rw [HF.out], ?_⟩
                    exact below_setRow HR1.out.below (by omega) _
end Go.Proofs
