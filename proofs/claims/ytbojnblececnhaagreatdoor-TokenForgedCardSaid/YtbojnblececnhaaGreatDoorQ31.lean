/-
  The contracts of the document's sum, half, Tag and Derive of layer 5.
  The contracts of the document's Right, bytes, tagged and With of tokens.
  The contracts of the document's tagged and With of tokens.
  The contracts of the document's bit and Spell.
  The contracts of the document's Make and Same of keys.
-/
import Derived.Test.YtbojnblececnhaaGreatDoorQ16
import Derived.Test.YtbojnblececnhaaGreatDoorQ30
import Derived.Deep.RegionHeldLaw
import Derived.Test.YtbojnblececnhaaGreatDoorQ28
import Derived.Test.YtbojnblececnhaaGreatDoorQ24
import Derived.Test.YtbojnblececnhaaGreatDoorQ27
import Derived.BigQuiet
namespace Go.Proofs
open Go.RowKit Sm
set_option maxRecDepth 100000 in
theorem Sm.refSum_any (n c : Nat) (A : Option Addr) (b : List (BitVec 8)) (w : World) (hb : b.length = n) (hn : n ≤ 100000) (hr : Rd w w.heap.size A b) :
    Calls Tryz.prog 94 #[.slice A n c] w fun e w' => ∃ A' c', e = .returned (.slice A' 32 c') ∧ Rd w' w'.heap.size A' (hashW 32 [] b) ∧ Below w.heap.size w w' ∧ (∀ a : Addr, A' = some a → w.heap.size ≤ a.block) ∧ 32 ≤ c' := by
  have hk : Calls Tryz.prog 104 #[.int .i64 32, .slice none 0 0, .slice A n c] w fun e w' => ∃ A' c', e = .returned (.slice A' 32 c') ∧ Rd w' w'.heap.size A' ((hashW 32 [] b).take 32) ∧ Below w.heap.size w w' ∧ (∀ a : Addr, A' = some a → w.heap.size ≤ a.block) ∧ 32 ≤ c' := refKeyed_new 32 0 0 n c none A [] b w (by decide) (by decide) (by decide) rfl hb hn Rd.nil hr
  rw [List.take_of_length_le (by rw [hashW_length]; exact Nat.le_refl _)] at hk
  have HK := Lib.hid hk
  clear hk hb hn hr
  go_enter Tryz.func94, Tryz.ntmps94
  go_wp2_with (go_at_call 104; (with_reducible refine HK.out.mono ?_); rintro e w1 ⟨A1, c1, rfl, hr1, hb1, hf1⟩)
  go_ret
  exact ⟨_, _, rfl, hr1, hb1, hf1⟩
set_option maxRecDepth 100000 in
set_option maxHeartbeats 4000000 in
theorem Sm.half_any (n c n2 c2 : Nat) (A A2 : Option Addr) (key b : List (BitVec 8)) (x : BitVec 8) (w : World) (hk : key.length = n) (hn : n ≤ 1000) (hb : b.length = n2) (hn2 : n2 ≤ 10000) (hr : Rd w w.heap.size A key) (hr2 : Rd w w.heap.size A2 b) :
    Calls Tryz.prog 87 #[.slice A n c, .int .u8 (ib x), .slice A2 n2 c2] w fun e w' => ∃ A' c', e = .returned (.slice A' 32 c') ∧ Rd w' w'.heap.size A' (hmHalf key x b) ∧ Below w.heap.size w w' ∧ (∀ a : Addr, A' = some a → w.heap.size ≤ a.block) ∧ 32 ≤ c' := by
  obtain ⟨i0, hi, hz0, hz1, hz2⟩ := info_parts info5
  have hsum := refSum_any n c A key w hk (by omega) hr
  have HS := Lib.hid hsum
  have HK := Lib.hid hk
  have HB := Lib.hid hb
  have HR := Lib.hid (And.intro hr hr2)
  have HN := Lib.hid hn2
  clear hk hb hr hr2 hsum hn2
  go_enter Tryz.func87, Tryz.ntmps87
  go_upto_if 12 with fail
  go_cut [0] from 12 to 14 (fun s0 wx => ∃ A' c', s0 = .slice A' (keyB key).length c' ∧ Hid (Rd wx wx.heap.size A' (keyB key) ∧ Below w.heap.size w wx))
  case first =>
    by_cases h0 : (64 : Int) < (n : Int)
    · go_wp2_with (go_at_call 94; (with_reducible refine HS.out.mono ?_); rintro e w1 ⟨A1, c1, rfl, hr1, hb1, _⟩)
      go_meet
      have e : keyB key = hashW 32 [] key := by unfold keyB; rw [if_pos (by rw [HK.out]; omega)]
      exact ⟨_, _, by rw [e, hashW_length], Lib.hid (by rw [e]; exact ⟨hr1, hb1⟩)⟩
    · go_wp2_with fail
      go_meet
      have e : keyB key = key := by unfold keyB; rw [if_neg (by rw [HK.out]; omega)]
      exact ⟨_, _, by rw [e, HK.out], Lib.hid (by rw [e]; exact ⟨HR.out.1, Below.refl _ _⟩)⟩
  case rest =>
    obtain ⟨A1, c1, rfl, HC⟩ := hcut
    obtain ⟨K, hK⟩ : ∃ K, keyB key = K := ⟨_, rfl⟩
    have hKl : K.length ≤ 64 := by rw [← hK]; exact keyB_le key
    have hBl : (pad K).length = 64 := pad_length K hKl
    rw [hK] at HC
    rw [hK]
    obtain ⟨m, hm⟩ : ∃ m, K.length = m := ⟨_, rfl⟩
    rw [hm] at hKl
    rw [hm]
    have HM := Lib.hid hm
    have HBL := Lib.hid hBl
    have HKE := Lib.hid hK
    have HRK := Lib.hid HC.out.1
    have HB1 := Lib.hid HC.out.2
    have HR2 : Hid (Rd wc w.heap.size A2 b) := Lib.hid (HR.out.2.below HC.out.2)
    clear hK hBl hm HC HS HK
    go_wp2_with fail
    go_loopw [7, 8] (fun s7 s8 wr => ∃ k : Nat, k ≤ 64 ∧ s8 = .int .i64 (k : Int) ∧ Hid (wr.ownsRow wc.heap.size 5 1 s7 k ((xorB x ((pad K).take k)).map byteCell) ∧ Below wc.heap.size wc wr)) (fun _ s8 _ => 64 - (intOf s8).toNat)
    case atStart => exact ⟨0, by omega, rfl, Lib.hid ⟨World.ownsRow_nil _ _ _ _, Below.refl _ _⟩⟩
    case round =>
      obtain ⟨wo, rfl⟩ : ∃ wo : World, wo = wr := ⟨_, rfl⟩
      obtain ⟨k, hk, rfl, HQ⟩ := hrel
      by_cases hlt : k < 64
      · have hsn := xorB_snoc x (pad K) k (by rw [HBL.out]; exact hlt)
        rw [pad_getD] at hsn
        have hb0 := HQ.out.2.size
        by_cases hkm : k < m
        · obtain ⟨bo, off, rfl, hbo, hcell0⟩ := HRK.out.at_ (k := k) (by rw [HM.out]; exact hkm)
          have hcell := (HQ.out.2.cell (p := ⟨bo, off + k, none⟩) hbo).trans hcell0
          have hy : K[k]'(by rw [HM.out]; exact hkm) = K.getD k 0 := by simp [List.getD_eq_getElem?_getD, HM.out, hkm]
          rw [hy] at hcell
          obtain ⟨y, hy2⟩ : ∃ y, K.getD k 0 = y := ⟨_, rfl⟩
          rw [hy2] at hcell hsn
          have hx := bits_xor8 y x
          obtain ⟨z, hz⟩ : ∃ z, y ^^^ x = z := ⟨_, rfl⟩
          rw [hz] at hx hsn
          have HSN := Lib.hid hsn
          clear hy hy2 hz hsn hcell0
          go_wp2_with (at_builtin; refine wpList_append_rd _ rfl (.tmp 27) (.tmp 31) 0x38 rfl wc.heap.size 5 i0 _ Tryz.underlying56 hi hz0 hz1 hz2 rfl _ k _ rfl (own_below HQ.out.1 ((Below.refl _ _).alloc (Nat.le_refl _) _)) (wo.heap.size + 1) (some ⟨wo.heap.size, 0, none⟩) 1 1 [z] rfl rfl (rd1 wo z) (by omega) (by simp; omega) ?_; intro v9 w9 hown9 hg9 _)
          go_roundw
          case rel =>
            refine ⟨k + 1, by omega, by go_num, Lib.hid ⟨?_, (HQ.out.2.alloc hb0 _).grown hg9 (by simp; omega) (fun g e => own_ge HQ.out.1 g e)⟩⟩
            rw [HSN.out, List.map_append]
            exact hown9
          case measure => simp [intOf]; omega
        · have hy : K.getD k 0 = 0#8 := by rw [List.getD_eq_getElem?_getD, List.getElem?_eq_none (by rw [HM.out]; omega)]; rfl
          rw [hy] at hsn
          have hx := bits_xor8 0#8 x
          rw [show ib 0#8 = 0 from rfl] at hx
          obtain ⟨z, hz⟩ : ∃ z, 0#8 ^^^ x = z := ⟨_, rfl⟩
          rw [hz] at hx hsn
          have HSN := Lib.hid hsn
          clear hy hz hsn
          go_wp2_with (at_builtin; refine wpList_append_rd _ rfl (.tmp 27) (.tmp 31) 0x38 rfl wc.heap.size 5 i0 _ Tryz.underlying56 hi hz0 hz1 hz2 rfl _ k _ rfl (own_below HQ.out.1 ((Below.refl _ _).alloc (Nat.le_refl _) _)) (wo.heap.size + 1) (some ⟨wo.heap.size, 0, none⟩) 1 1 [z] rfl rfl (rd1 wo z) (by omega) (by simp; omega) ?_; intro v9 w9 hown9 hg9 _)
          go_roundw
          case rel =>
            refine ⟨k + 1, by omega, by go_num, Lib.hid ⟨?_, (HQ.out.2.alloc hb0 _).grown hg9 (by simp; omega) (fun g e => own_ge HQ.out.1 g e)⟩⟩
            rw [HSN.out, List.map_append]
            exact hown9
          case measure => simp [intOf]; omega
      · obtain rfl : k = 64 := by omega
        have hall : (pad K).take 64 = pad K := List.take_of_length_le (by rw [HBL.out]; exact Nat.le_refl _)
        have hown := HQ.out.1
        rw [hall] at hown
        have HOW := Lib.hid hown
        have HBQ := Lib.hid HQ.out.2
        have HR3 : Hid (Rd wo w.heap.size A2 b) := Lib.hid (HR2.out.belowTo HQ.out.2 HB1.out.size)
        clear hall hown HQ
        go_wp2_with (first
          | (at_builtin; refine wpList_append_rd _ rfl (.tmp 33) (.tmp 34) 0x38 rfl wc.heap.size 5 i0 _ Tryz.underlying56 hi hz0 hz1 hz2 rfl _ 64 _ rfl HOW.out w.heap.size A2 n2 c2 b rfl HB.out HR3.out (by have := HN.out; omega) HBQ.out.size ?_; intro v35 w35 hown35 hg35 _; rw [← List.map_append] at hown35; obtain ⟨A35, c35, rfl⟩ := own_slice hown35; have hr35 := Rd.of_own hown35 (Nat.le_refl _); have hb35 : Below wc.heap.size wc w35 := HBQ.out.grown hg35 HBQ.out.size (fun g e => own_ge HOW.out g e); have hl35 : (xorB x (pad K) ++ b).length = 64 + n2 := by rw [List.length_append, xorB_length, HBL.out, HB.out])
          | (go_at_call 94; (with_reducible refine (refSum_any _ _ _ _ _ hl35 (by have := HN.out; omega) hr35).mono ?_); rintro e w9 ⟨A9, c9, rfl, hr9, hb9, hf9⟩))
        go_ret
        refine ⟨_, _, rfl, by unfold hmHalf blockB; rw [HKE.out]; exact hr9, ?_⟩
        have h1 : Below w.heap.size w w35 := HB1.out.trans (hb35.mono HB1.out.size)
        exact ⟨h1.trans (hb9.mono h1.size), (fun a e => Nat.le_trans h1.size (hf9.1 a e)), hf9.2⟩
set_option maxRecDepth 100000 in
theorem Sm.refTag_any (n c n2 c2 : Nat) (A A2 : Option Addr) (key b : List (BitVec 8)) (w : World) (hk : key.length = n) (hn : n ≤ 1000) (hb : b.length = n2) (hn2 : n2 ≤ 10000) (hr : Rd w w.heap.size A key) (hr2 : Rd w w.heap.size A2 b) :
    Calls Tryz.prog 70 #[.slice A n c, .slice A2 n2 c2] w fun e w' => ∃ A' c', e = .returned (.slice A' 32 c') ∧ Rd w' w'.heap.size A' (tagS key b) ∧ Below w.heap.size w w' ∧ (∀ a : Addr, A' = some a → w.heap.size ≤ a.block) ∧ 32 ≤ c' := by
  have h1 : Calls Tryz.prog 87 #[.slice A n c, .int .u8 54, .slice A2 n2 c2] w fun e w' => ∃ A' c', e = .returned (.slice A' 32 c') ∧ Rd w' w'.heap.size A' (hmHalf key 54#8 b) ∧ Below w.heap.size w w' ∧ (∀ a : Addr, A' = some a → w.heap.size ≤ a.block) ∧ 32 ≤ c' := half_any n c n2 c2 A A2 key b 54#8 w hk hn hb hn2 hr hr2
  have h2 : ∀ (v : World) A3 c3, Below w.heap.size w v → Rd v v.heap.size A3 (hmHalf key 54#8 b) → Calls Tryz.prog 87 #[.slice A n c, .int .u8 92, .slice A3 32 c3] v fun e w' => ∃ A' c', e = .returned (.slice A' 32 c') ∧ Rd w' w'.heap.size A' (hmHalf key 92#8 (hmHalf key 54#8 b)) ∧ Below v.heap.size v w' ∧ (∀ a : Addr, A' = some a → v.heap.size ≤ a.block) ∧ 32 ≤ c' := fun v A3 c3 hv hr3 =>
    half_any n c 32 c3 A A3 key (hmHalf key 54#8 b) 92#8 v hk hn (hmHalf_length ..) (by decide) ((hr.below hv).more hv.size) hr3
  have H1 := Lib.hid h1
  have H2 := Lib.hid h2
  clear h1 h2 hk hn hb hn2 hr hr2
  go_enter Tryz.func70, Tryz.ntmps70
  go_wp2_with (first
    | (go_at_call 87; (with_reducible refine H1.out.mono ?_); rintro e w1 ⟨A1, c1, rfl, hr1, hb1, _⟩)
    | (go_at_call 87; (with_reducible refine (H2.out w1 A1 c1 hb1 hr1).mono ?_); rintro e w2 ⟨A3, c3, rfl, hr3, hb3, hf3⟩))
  go_ret
  exact ⟨_, _, rfl, hr3, hb1.trans (hb3.mono hb1.size), (fun a e => Nat.le_trans hb1.size (hf3.1 a e)), hf3.2⟩
theorem Sm.refTag_three {w v : World} {base nk ck n8 nl : Nat} {Ak : Option Addr} {key l8 ll : List (BitVec 8)} {x : BitVec 8} {v2 : Value} (hk : key.length = nk) (hnk : nk ≤ 1000) (h8 : l8.length = n8) (hl : ll.length = nl) (h8' : n8 ≤ 32) (hl' : nl ≤ 1000) (hr : Rd w w.heap.size Ak key) (hb : Below w.heap.size w v)
    (hown : v.ownsRow base 5 1 v2 (0 + n8 + nl + 1) ([] ++ l8.map byteCell ++ ll.map byteCell ++ [x].map byteCell)) :
    ∃ A2 c2, v2 = .slice A2 (n8 + nl + 1) c2 ∧ Calls Tryz.prog 70 #[.slice Ak nk ck, .slice A2 (n8 + nl + 1) c2] v fun e w' => ∃ A' c', e = .returned (.slice A' 32 c') ∧ Rd w' w'.heap.size A' (tagS key (l8 ++ ll ++ [x])) ∧ Below v.heap.size v w' ∧ ∀ a : Addr, A' = some a → v.heap.size ≤ a.block := by
  have e : [] ++ l8.map byteCell ++ ll.map byteCell ++ [x].map byteCell = (l8 ++ ll ++ [x]).map byteCell := by simp
  rw [e, Nat.zero_add] at hown
  obtain ⟨A2, c2, rfl⟩ := own_slice hown
  exact ⟨A2, c2, rfl, (refTag_any nk ck _ c2 Ak A2 key (l8 ++ ll ++ [x]) v hk hnk (by simp; omega) (by omega) ((hr.below hb).more hb.size) (Rd.of_own hown (Nat.le_refl _))).mono fun _ _ ⟨A', c', e, p, q, r, _⟩ => ⟨A', c', e, p, q, r⟩⟩
set_option maxRecDepth 100000 in
set_option maxHeartbeats 4000000 in
theorem Sm.refDerive_any (nk ck : Nat) (Ak : Option Addr) (key : List (BitVec 8)) (lb : ByteArray) (N : Nat) (w : World) (hk : key.length = nk) (hnk : nk ≤ 1000) (hlb : lb.size ≤ 1000) (hN : N ≤ 8160) (hr : Rd w w.heap.size Ak key) :
    Calls Tryz.prog 71 #[.slice Ak nk ck, .string lb, .int .i64 (N : Int)] w fun e w' => ∃ A' c', e = .returned (.slice A' N c') ∧ Rd w' w'.heap.size A' (deriveS key (sB lb) N) ∧ Below w.heap.size w w' := by
  obtain ⟨i0, hi, hz0, hz1, hz2⟩ := info_parts info5
  have HR := Lib.hid hr
  have HK := Lib.hid hk
  clear hr hk
  go_enter Tryz.func71, Tryz.ntmps71
  go_wp2_with fail
  go_loopw [7, 8, 9] (fun s7 s8 s9 wr => ∃ (k m n8 c7 c8 : Nat) (A7 A8 : Option Addr), 32 * k < N + 32 ∧ m = 32 * k ∧ n8 ≤ 32 ∧ s9 = .int .i64 ((k : Int) + 1) ∧ s7 = .slice A7 m c7 ∧ s8 = .slice A8 n8 c8 ∧ Hid (wr.ownsRow w.heap.size 5 1 (.slice A7 m c7) m ((allK key (sB lb) k).map byteCell)) ∧ Hid ((lastK key (sB lb) k).length = n8 ∧ Rd wr wr.heap.size A8 (lastK key (sB lb) k)) ∧ Hid (Below w.heap.size w wr)) (fun s7 _ _ _ => N + 32 - sliceLen s7)
  case atStart => exact ⟨0, 0, 0, 0, 0, none, none, by omega, rfl, by omega, rfl, rfl, rfl, Lib.hid (World.ownsRow_nil _ _ _ _), Lib.hid ⟨rfl, fun h => by simp [lastK] at h⟩, Lib.hid (Below.refl _ _)⟩
  case round =>
    obtain ⟨wo, rfl⟩ : ∃ wo : World, wo = wr := ⟨_, rfl⟩
    obtain ⟨k, m, n8, c7, c8, A7, A8, hkN, rfl, hn8, rfl, rfl, rfl, H7, H8, HB⟩ := hrel
    by_cases hlt : 32 * (k : Int) < (N : Int)
    · have hlbl := sB_length lb
      have hX : (k : Int) + 1 = ib (BitVec.ofNat 8 (k + 1)) := by
        unfold ib
        rw [BitVec.toNat_ofNat]
        omega
      have hb0 := HB.out.size
      have hk1 : (k : Int) + 1 ≤ 255 := by omega
      go_upto_region 6 with (first
        | (at_builtin; refine wpList_append_rd _ rfl (.tmp 17) (.tmp 18) 0x38 rfl wo.heap.size 5 i0 _ Tryz.underlying56 hi hz0 hz1 hz2 rfl _ 0 [] rfl (World.ownsRow_made wo #[] 0 (Nat.le_refl _) (by decide) rfl) wo.heap.size A8 n8 c8 (lastK key (sB lb) k) rfl H8.out.1 (H8.out.2.alloc (Nat.le_refl _) _) (by omega) (by simp) ?_; intro v19 w19 hown19 hg19 _; obtain ⟨W2, cx, hcv, hb2, hpx⟩ := str_conv lb w19 (by omega); have hg19s := hg19.size; simp only [World.size_alloc] at hg19s; have hrx := rd_of_pt (hpx w.heap.size (by omega)); have hown2 := own_below hown19 hb2; have hb2s := hb2.size)
        | (at_builtin; refine wpList_append_rd _ rfl (.tmp 19) (.tmp 21) 0x38 rfl wo.heap.size 5 i0 _ Tryz.underlying56 hi hz0 hz1 hz2 rfl v19 (0 + n8) _ rfl hown2 W2.heap.size (some ⟨w19.heap.size, 0, none⟩) lb.size cx (sB lb) rfl hlbl hrx (by omega) (by omega) ?_; intro v22 w22 hown22 hg22 _; have hg22s := hg22.size)
        | (at_builtin; refine wpList_append_rd _ rfl (.tmp 22) (.tmp 25) 0x38 rfl wo.heap.size 5 i0 _ Tryz.underlying56 hi hz0 hz1 hz2 rfl v22 (0 + n8 + lb.size) _ rfl (own_below hown22 ((Below.refl _ _).alloc (Nat.le_refl _) _)) (w22.heap.size + 1) (some ⟨w22.heap.size, 0, none⟩) 1 1 [BitVec.ofNat 8 (k + 1)] rfl rfl (rd_one _ _ rfl w22) (by omega) (by simp; omega) ?_; intro v26 w26 hown26 hg26 _; have hal : Below wo.heap.size wo (wo.alloc (.cells #[] 5)) := (Below.refl _ _).alloc (Nat.le_refl _) _; have hb19 : Below wo.heap.size wo w19 := hal.grown hg19 hal.size (fun g e => by cases e; exact Nat.le_refl _); have hbW2 : Below wo.heap.size wo W2 := hb19.trans (hb2.mono hb19.size); have hb22 : Below wo.heap.size wo w22 := hbW2.grown hg22 hbW2.size (fun g e => own_ge hown2 g e); have hb22a : Below wo.heap.size wo (w22.alloc (.cells #[.int .u8 (ib (BitVec.ofNat 8 (k + 1)))] 5)) := hb22.alloc hb22.size _; have hb26 : Below wo.heap.size wo w26 := hb22a.grown hg26 hb22a.size (fun g e => own_ge hown22 g e); obtain ⟨A26, c26, rfl, htg⟩ := refTag_three (ck := ck) HK.out hnk H8.out.1 hlbl hn8 hlb HR.out (HB.out.trans (hb26.mono HB.out.size)) hown26)
        | (go_at_call 70; (with_reducible refine htg.mono ?_); rintro e w27 ⟨A27, c27, rfl, hr27, hb27, hf27⟩))
      have hb07 : Below wo.heap.size wo w27 := hb26.trans (hb27.mono hb26.size)
      have ho7 := own_below H7.out hb07
      have H27 := Lib.hid hr27
      have HF27 : Hid (∀ a : Addr, A27 = some a → wo.heap.size ≤ a.block) := Lib.hid (fun a e => Nat.le_trans hb26.size (hf27 a e))
      have HL7 := Lib.hid H7.out.lt
      have HB7 := Lib.hid (HB.out.trans (hb07.mono HB.out.size))
      have HO7 := Lib.hid ho7
      have hb7s := HB7.out.size
      clear hown19 hown2 hown22 hown26 hg19 hg22 hg26 hg19s hg22s hb2 hb2s hrx hpx hcv hal hb19 hbW2 hb22 hb22a hb26 htg hr27 hb27 hf27 hb07 ho7 H7 HB
      go_wp2_with (at_builtin; refine wpList_append_rd _ rfl (.tmp 28) (.tmp 29) 0x38 rfl w.heap.size 5 i0 _ Tryz.underlying56 hi hz0 hz1 hz2 rfl _ (32 * k) _ rfl HO7.out w27.heap.size A27 32 c27 (lastK key (sB lb) (k + 1)) rfl (lastK_length _ _ _) H27.out (by omega) hb7s ?_; intro v30 w30 hown30 hg30 _; obtain ⟨A30, c30, rfl⟩ := own_slice hown30; have hg30s := hg30.size)
      go_roundw
      case rel =>
        refine ⟨k + 1, 32 * k + 32, 32, c30, c27, A30, A27, by omega, by omega, by omega, by go_num, rfl, rfl, Lib.hid ?_, Lib.hid ⟨lastK_length _ _ _, ?_⟩, Lib.hid ?_⟩
        · rw [allK, List.map_append]
          exact hown30
        · exact (rd_grown hg30 H27.out (fun a e g e2 => by have h1 := HF27.out a e; have h2 := (HL7.out g e2).2; omega)).more hg30s
        · exact HB7.out.grown hg30 hb7s (fun g e => own_ge HO7.out g e)
      case measure => simp [sliceLen]; omega
    · have hcN : N ≤ c7 := by
        have := own_cap H7.out
        omega
      have hsl := fun W => cut_h A7 (32 * k) c7 N hcN W
      have hrd : Rd wo wo.heap.size (cutA A7 0 c7) (deriveS key (sB lb) N) := by
        have h1 := rd_cut0 (c := c7) (Rd.of_own H7.out (Nat.le_refl _)) N
        have h2 : (N + 31) / 32 = k := by omega
        unfold deriveS
        rw [h2]
        exact h1
      have HRD := Lib.hid hrd
      clear hrd H7 H8
      go_wp2_with fail
      go_ret
      first | exact ⟨_, ⟨_, rfl⟩, HRD.out, HB.out⟩ | exact ⟨_, ⟨rfl, _, rfl⟩, HRD.out, HB.out⟩
end Go.Proofs
namespace Go.Proofs
open Go.RowKit Go.Shelf Sm
instance Sm.tokOKDec (m s i : Int) : Decidable (TokOK m s i) := by unfold TokOK; exact inferInstance
set_option maxRecDepth 100000 in
set_option maxHeartbeats 1000000 in
theorem Sm.right_any (m s i : Int) (w : World) : Calls Tryz.prog 17 #[.agg #[.int .i64 m, .int .i64 s, .int .i64 i]] w fun e w' => e = .returned (.bool (decide (TokOK m s i))) ∧ Below w.heap.size w w' := by
  by_cases a1 : 0 ≤ m
  · skip
    by_cases a2 : m < 16
    · skip
      by_cases a3 : 0 ≤ s
      · skip
        by_cases a4 : s ≤ 2147483647
        · skip
          by_cases a5 : 0 ≤ i
          · skip
            by_cases a6 : i ≤ 2147483647
            · skip
              rw [decide_eq_true (show TokOK m s i from ⟨⟨a1, a2⟩, ⟨a3, a4⟩, a5, a6⟩)]
              go_enter Tryz.func17, Tryz.ntmps17
              go_wp2
              go_ret
              exact ⟨rfl, (Below.refl _ w).alloc (Nat.le_refl _) _⟩
            · skip
              rw [decide_eq_false (show ¬ TokOK m s i from fun h => by unfold TokOK at h; omega)]
              go_enter Tryz.func17, Tryz.ntmps17
              go_wp2
              go_ret
              exact ⟨rfl, (Below.refl _ w).alloc (Nat.le_refl _) _⟩
          · skip
            rw [decide_eq_false (show ¬ TokOK m s i from fun h => by unfold TokOK at h; omega)]
            go_enter Tryz.func17, Tryz.ntmps17
            go_wp2
            go_ret
            exact ⟨rfl, (Below.refl _ w).alloc (Nat.le_refl _) _⟩
        · skip
          rw [decide_eq_false (show ¬ TokOK m s i from fun h => by unfold TokOK at h; omega)]
          go_enter Tryz.func17, Tryz.ntmps17
          go_wp2
          go_ret
          exact ⟨rfl, (Below.refl _ w).alloc (Nat.le_refl _) _⟩
      · skip
        rw [decide_eq_false (show ¬ TokOK m s i from fun h => by unfold TokOK at h; omega)]
        go_enter Tryz.func17, Tryz.ntmps17
        go_wp2
        go_ret
        exact ⟨rfl, (Below.refl _ w).alloc (Nat.le_refl _) _⟩
    · skip
      rw [decide_eq_false (show ¬ TokOK m s i from fun h => by unfold TokOK at h; omega)]
      go_enter Tryz.func17, Tryz.ntmps17
      go_wp2
      go_ret
      exact ⟨rfl, (Below.refl _ w).alloc (Nat.le_refl _) _⟩
  · skip
    rw [decide_eq_false (show ¬ TokOK m s i from fun h => by unfold TokOK at h; omega)]
    go_enter Tryz.func17, Tryz.ntmps17
    go_wp2
    go_ret
    exact ⟨rfl, (Below.refl _ w).alloc (Nat.le_refl _) _⟩
/-- cells of an old block behind a row that grows -/
theorem Sm.cells_grown {w w' : World} {G B : Nat} {a b c : Value} {row : Option Nat} (h : w.cell? ⟨G, 0, none⟩ = some a ∧ w.cell? ⟨G, 1, none⟩ = some b ∧ w.cell? ⟨G, 2, none⟩ = some c) (hg : w.grownBy w' row) (hr : ∀ g, row = some g → B ≤ g) (hG : G < B) : w'.cell? ⟨G, 0, none⟩ = some a ∧ w'.cell? ⟨G, 1, none⟩ = some b ∧ w'.cell? ⟨G, 2, none⟩ = some c := by
  have k : ∀ j u, w.cell? ⟨G, j, none⟩ = some u → w'.cell? ⟨G, j, none⟩ = some u := fun j u hu => by
    have hlt := World.block_lt_of_cell? w _ hu
    exact ((But.grown hg).cell (p := ⟨G, j, none⟩) hlt (fun e => by have h2 : B ≤ G := hr G e; omega)).trans hu
  exact ⟨k 0 a h.1, k 1 b h.2.1, k 2 c h.2.2⟩
/-- the bytes of a token, of numbers from nought on -/
def Sm.fourN (n m s i : Nat) : List (BitVec 8) := numB n ++ numB m ++ (numB s ++ numB i)
theorem Sm.fourN_nums (n m s i : Nat) : fourN n m s i = numsB [(n : Int), (m : Int), (s : Int), (i : Int)] := by simp [fourN, numsB]
theorem Sm.refNumber_from (W0 : World) (m : Nat) (hm : m ≤ top) (a b c : Int) (G : Nat) (t : TypeId) (hB : Blk W0 G t #[.int .i64 a, .int .i64 b, .int .i64 c]) (w : World) (hb : Below W0.heap.size W0 w) :
    Calls Tryz.prog 72 #[.int .i64 (m : Int)] w fun e w' => ∃ A k, e = .returned (.slice A (numB m).length k) ∧ w'.ownsRow W0.heap.size 5 1 (.slice A (numB m).length k) (numB m).length ((numB m).map byteCell) ∧ (∀ a : Addr, A = some a → w.heap.size ≤ a.block) ∧ (w'.cell? ⟨G, 0, none⟩ = some (.int .i64 a) ∧ w'.cell? ⟨G, 1, none⟩ = some (.int .i64 b) ∧ w'.cell? ⟨G, 2, none⟩ = some (.int .i64 c)) ∧ Below w.heap.size w w' ∧ Below W0.heap.size W0 w' := by
  refine (refNumber_any m w hm).mono ?_
  rintro e w' ⟨v, rfl, hown, hbl⟩
  have hb' := hb.trans (hbl.mono hb.size)
  have hB' := hB.keep hb'
  have hown' : w'.ownsRow W0.heap.size 5 1 v (numB m).length ((numB m).map byteCell) := own_base hown hb.size
  obtain ⟨A, k, rfl⟩ := own_slice hown'
  have hf : ∀ a : Addr, A = some a → w.heap.size ≤ a.block := fun a ha => by
    subst ha
    have := (hown.lt a.block rfl).1
    exact this
  exact ⟨A, k, rfl, hown', hf, ⟨hB'.cell 0, hB'.cell 1, hB'.cell 2⟩, hbl, hb'⟩
theorem Sm.own_slice_form {w : World} {base n : Nat} {e : TypeId} {v : Value} {xs : List Value} (h : w.ownsRow base e 1 v n xs) : v = .slice (match v with | .slice A _ _ => A | _ => none) n (match v with | .slice _ _ c => c | _ => 0) := by
  obtain ⟨A, c, rfl⟩ := own_slice h
  rfl
theorem Sm.own_slice_own {w : World} {base n : Nat} {e : TypeId} {v : Value} {xs : List Value} (h : w.ownsRow base e 1 v n xs) : w.ownsRow base e 1 (.slice (match v with | .slice A _ _ => A | _ => none) n (match v with | .slice _ _ c => c | _ => 0)) n xs := by
  rw [← own_slice_form h]
  exact h
theorem Sm.fourN_end {w W1 wB : World} {bn bm bs bi : List (BitVec 8)} {v : Value} (h1 : Below w.heap.size w W1) (oB : wB.ownsRow W1.heap.size 5 1 v (bn.length + bm.length + bs.length + bi.length) ((bn ++ bm).map byteCell ++ bs.map byteCell ++ bi.map byteCell)) (bB : Below W1.heap.size W1 wB) :
    ∃ A c, Ending.returned v = .returned (.slice A (bn ++ bm ++ (bs ++ bi)).length c) ∧ wB.ownsRow w.heap.size 5 1 (.slice A (bn ++ bm ++ (bs ++ bi)).length c) (bn ++ bm ++ (bs ++ bi)).length ((bn ++ bm ++ (bs ++ bi)).map byteCell) ∧ Below w.heap.size w wB := by
  have e1 : (bn ++ bm).map byteCell ++ bs.map byteCell ++ bi.map byteCell = (bn ++ bm ++ (bs ++ bi)).map byteCell := by simp
  have e2 : bn.length + bm.length + bs.length + bi.length = (bn ++ bm ++ (bs ++ bi)).length := by simp; omega
  rw [e1, e2] at oB
  obtain ⟨A, c, rfl⟩ := own_slice oB
  exact ⟨A, c, rfl, own_base oB h1.size, h1.trans (bB.mono h1.size)⟩
set_option maxRecDepth 100000 in
set_option maxHeartbeats 4000000 in
theorem Sm.refBytes_any (n m s i : Nat) (w : World) (hn : n ≤ 2147483647) (hm : m ≤ 2147483647) (hs : s ≤ 2147483647) (hi : i ≤ 2147483647) :
    Calls Tryz.prog 45 #[.int .i64 (n : Int), .agg #[.int .i64 (m : Int), .int .i64 (s : Int), .int .i64 (i : Int)]] w fun e w' => ∃ A c, e = .returned (.slice A (fourN n m s i).length c) ∧ w'.ownsRow w.heap.size 5 1 (.slice A (fourN n m s i).length c) (fourN n m s i).length ((fourN n m s i).map byteCell) ∧ Below w.heap.size w w' := by
  obtain ⟨i0, hi0, hz0, hz1, hz2⟩ := info_parts info5
  obtain ⟨W1, hW1⟩ : ∃ v, w.alloc (.cells #[.int .i64 (m : Int), .int .i64 (s : Int), .int .i64 (i : Int)] 24) = v := ⟨_, rfl⟩
  have hb1 : Below w.heap.size w W1 := by rw [← hW1]; exact (Below.refl _ w).alloc (Nat.le_refl _) _
  have hB1 : Blk W1 w.heap.size 24 #[.int .i64 (m : Int), .int .i64 (s : Int), .int .i64 (i : Int)] := by rw [← hW1]; exact Blk.new w 24 _
  have ht : top = 4611686018427387904 := rfl
  have hl : ∀ k : Nat, k ≤ 2147483647 → (numB k).length ≤ 9 := fun k hk => numB_len9 (by omega)
  have hNn : ∀ v, Below W1.heap.size W1 v → _ := fun v hv => refNumber_from W1 n (by omega) _ _ _ w.heap.size 24 hB1 v hv
  have hNm : ∀ v, Below W1.heap.size W1 v → _ := fun v hv => refNumber_from W1 m (by omega) _ _ _ w.heap.size 24 hB1 v hv
  have hNs : ∀ v, Below W1.heap.size W1 v → _ := fun v hv => refNumber_from W1 s (by omega) _ _ _ w.heap.size 24 hB1 v hv
  have hNi : ∀ v, Below W1.heap.size W1 v → _ := fun v hv => refNumber_from W1 i (by omega) _ _ _ w.heap.size 24 hB1 v hv
  have Nn := Lib.hid hNn
  have Nm := Lib.hid hNm
  have Ns := Lib.hid hNs
  have Ni := Lib.hid hNi
  have ln := hl n hn
  have lm := hl m hm
  have ls := hl s hs
  have li := hl i hi
  have HB1 := Lib.hid hb1
  have HW1 := Lib.hid hW1
  have HK1 := Lib.hid hB1
  unfold fourN
  obtain ⟨bn, hbn⟩ : ∃ l, numB n = l := ⟨_, rfl⟩
  obtain ⟨bm, hbm⟩ : ∃ l, numB m = l := ⟨_, rfl⟩
  obtain ⟨bs, hbs⟩ : ∃ l, numB s = l := ⟨_, rfl⟩
  obtain ⟨bi, hbi⟩ : ∃ l, numB i = l := ⟨_, rfl⟩
  rw [hbn] at ln Nn
  rw [hbm] at lm Nm
  rw [hbs] at ls Ns
  rw [hbi] at li Ni
  rw [hbn, hbm, hbs, hbi]
  have c0 := hB1.cell 0
  have c1 := hB1.cell 1
  have c2 := hB1.cell 2
  simp only [List.getElem?_toArray, List.getElem?_cons_zero, List.getElem?_cons_succ] at c0 c1 c2
  clear hNn hNm hNs hNi hl hb1 hW1 hB1 ht hbn hbm hbs hbi hn hm hs hi
  go_enter Tryz.func45, Tryz.ntmps45
  go_upto_region 1 with fail
  rw [HW1.out]
  go_cut [5] from 6 to 12 (fun s5 wx => ∃ A c, s5 = .slice A (bn.length + bm.length) c ∧ Hid (wx.ownsRow W1.heap.size 5 1 (.slice A (bn.length + bm.length) c) (bn.length + bm.length) ((bn ++ bm).map byteCell)) ∧ Hid (Below W1.heap.size W1 wx))
  case first =>
    have s0 : W1.drew.cell? ⟨w.heap.size, 0, none⟩ = some (.int .i64 (m : Int)) ∧ W1.drew.cell? ⟨w.heap.size, 1, none⟩ = some (.int .i64 (s : Int)) ∧ W1.drew.cell? ⟨w.heap.size, 2, none⟩ = some (.int .i64 (i : Int)) := ⟨c0, c1, c2⟩
    have b0 : Below W1.heap.size W1 W1.drew := (Below.refl _ _).drew
    go_region_held_law (fun W => W.cell? ⟨w.heap.size, 0, none⟩ = some (.int .i64 (m : Int)) ∧ W.cell? ⟨w.heap.size, 1, none⟩ = some (.int .i64 (s : Int)) ∧ W.cell? ⟨w.heap.size, 2, none⟩ = some (.int .i64 (i : Int)))
      (first | exact sA | exact s7 | exact s10 | exact s0)
      (first
        | (go_at_call 72; (with_reducible refine (Nn.out _ b0).mono ?_); rintro e w7 ⟨A7, k7, rfl, o7, f7, s7, bx7, b7⟩)
        | (go_at_call 72; (with_reducible refine (Nn.out _ b10).mono ?_); rintro e w7 ⟨A7, k7, rfl, o7, f7, s7, bx7, b7⟩)
        | (go_at_call 72; (with_reducible refine (Nm.out _ b7).mono ?_); rintro e w10 ⟨A10, k10, rfl, o10, f10, s10, bx10, b10⟩)
        | (go_at_call 72; (with_reducible refine (Nm.out _ b0).mono ?_); rintro e w10 ⟨A10, k10, rfl, o10, f10, s10, bx10, b10⟩)
        | ((try simp only [List.getElem_toArray, List.getElem_cons_succ, List.getElem_cons_zero]); refine oper_append_rd (.tmp 7) (.tmp 10) 56 rfl W1.heap.size 5 i0 _ Tryz.underlying56 hi0 hz0 hz1 hz2 rfl _ bn.length _ rfl (own_below o7 bx10) w10.heap.size A10 bm.length k10 bm rfl rfl (Rd.of_own o10 (Nat.le_refl _)) (by omega) b10.size ?_; intro vA wA oA gA _; simp only [Act.put]; have sA := cells_grown s10 gA (fun g e => own_ge o7 g e) HK1.out.lt; have bA : Below W1.heap.size W1 wA := b10.grown gA b10.size (fun g e => own_ge o7 g e))
        | ((try simp only [List.getElem_toArray, List.getElem_cons_succ, List.getElem_cons_zero]); refine oper_append_rd (.tmp 7) (.tmp 10) 56 rfl W1.heap.size 5 i0 _ Tryz.underlying56 hi0 hz0 hz1 hz2 rfl _ bn.length _ rfl o7 w7.heap.size A10 bm.length k10 bm rfl rfl (Rd.of_own (own_below o10 bx7) (Nat.le_refl _)) (by omega) b7.size ?_; intro vA wA oA gA _; simp only [Act.put]; have sA := cells_grown s7 gA (fun g e => own_ge o7 g e) HK1.out.lt; have bA : Below W1.heap.size W1 wA := b7.grown gA b7.size (fun g e => own_ge o7 g e)))
    all_goals go_wp2_with fail
    all_goals go_meet
    all_goals exact ⟨_, _, own_slice_form oA, Lib.hid (by rw [List.map_append]; exact own_slice_own oA), Lib.hid bA⟩
  case rest =>
    obtain ⟨wo, rfl⟩ : ∃ wo : World, wo = wc := ⟨_, rfl⟩
    obtain ⟨A5, c5, rfl, H5, HB⟩ := hcut
    have hK := HK1.out.keep HB.out
    have s0 : wo.drew.cell? ⟨w.heap.size, 0, none⟩ = some (.int .i64 (m : Int)) ∧ wo.drew.cell? ⟨w.heap.size, 1, none⟩ = some (.int .i64 (s : Int)) ∧ wo.drew.cell? ⟨w.heap.size, 2, none⟩ = some (.int .i64 (i : Int)) := ⟨hK.cell 0, hK.cell 1, hK.cell 2⟩
    have b0 : Below W1.heap.size W1 wo.drew := HB.out.drew
    have o0 : wo.drew.ownsRow W1.heap.size 5 1 (.slice A5 (bn.length + bm.length) c5) (bn.length + bm.length) ((bn ++ bm).map byteCell) := own_below H5.out (Below.refl _ _).drew
    have hA5 : ∀ g, (Value.slice A5 (bn.length + bm.length) c5).ownBlock = some g → W1.heap.size ≤ g ∧ g < wo.heap.size := fun g e => H5.out.lt g e
    have HA5 := Lib.hid hA5
    have hsd : wo.drew.heap.size = wo.heap.size := rfl
    have HSD := Lib.hid hsd
    clear hK hA5 hsd
    go_upto_region 2 with fail
    go_region_held_law (fun W => W.cell? ⟨w.heap.size, 0, none⟩ = some (.int .i64 (m : Int)) ∧ W.cell? ⟨w.heap.size, 1, none⟩ = some (.int .i64 (s : Int)) ∧ W.cell? ⟨w.heap.size, 2, none⟩ = some (.int .i64 (i : Int)))
      (first | exact sB | exact sA | exact s15 | exact s19 | exact s0)
      (first
        | (go_at_call 72; (with_reducible refine (Ns.out _ b0).mono ?_); rintro e w15 ⟨A15, k15, rfl, o15, f15, s15, bx15, b15⟩)
        | (go_at_call 72; (with_reducible refine (Ns.out _ b19).mono ?_); rintro e w15 ⟨A15, k15, rfl, o15, f15, s15, bx15, b15⟩)
        | (go_at_call 72; (with_reducible refine (Ni.out _ bA).mono ?_); rintro e w19 ⟨A19, k19, rfl, o19, f19, s19, bx19, b19⟩)
        | (go_at_call 72; (with_reducible refine (Ni.out _ b15).mono ?_); rintro e w19 ⟨A19, k19, rfl, o19, f19, s19, bx19, b19⟩)
        | (go_at_call 72; (with_reducible refine (Ni.out _ b0).mono ?_); rintro e w19 ⟨A19, k19, rfl, o19, f19, s19, bx19, b19⟩)
        | ((try simp only [List.getElem_toArray, List.getElem_cons_succ, List.getElem_cons_zero]); refine oper_append_rd (.tmp 12) (.tmp 15) 56 rfl W1.heap.size 5 i0 _ Tryz.underlying56 hi0 hz0 hz1 hz2 rfl _ (bn.length + bm.length) _ rfl (own_below o0 bx15) w15.heap.size A15 bs.length k15 bs rfl rfl (Rd.of_own o15 (Nat.le_refl _)) (by omega) b15.size ?_; intro vA wA oA gA _; simp only [Act.put]; have sA := cells_grown s15 gA (fun g e => (HA5.out g e).1) HK1.out.lt; have bA : Below W1.heap.size W1 wA := b15.grown gA b15.size (fun g e => (HA5.out g e).1))
        | ((try simp only [List.getElem_toArray, List.getElem_cons_succ, List.getElem_cons_zero]); refine oper_append_rd (.tmp 12) (.tmp 15) 56 rfl W1.heap.size 5 i0 _ Tryz.underlying56 hi0 hz0 hz1 hz2 rfl _ (bn.length + bm.length) _ rfl (own_below (own_below o0 bx15) bx19) w19.heap.size A15 bs.length k15 bs rfl rfl (Rd.of_own (own_below o15 bx19) (Nat.le_refl _)) (by omega) b19.size ?_; intro vA wA oA gA _; simp only [Act.put]; have sA := cells_grown s19 gA (fun g e => (HA5.out g e).1) HK1.out.lt; have bA : Below W1.heap.size W1 wA := b19.grown gA b19.size (fun g e => (HA5.out g e).1); have r19 : Rd wA w19.heap.size A19 bi := rd_grown gA (Rd.of_own o19 (Nat.le_refl _)) (fun a e g e2 => by have h1 := f19 a e; have h2 := (HA5.out g e2).2; have h3 := bx15.size; have h4 := HSD.out; omega))
        | ((try simp only [List.getElem_toArray, List.getElem_cons_succ, List.getElem_cons_zero]); refine oper_append_rd (.tmp 12) (.tmp 15) 56 rfl W1.heap.size 5 i0 _ Tryz.underlying56 hi0 hz0 hz1 hz2 rfl _ (bn.length + bm.length) _ rfl (own_below (own_below o0 bx19) bx15) w15.heap.size A15 bs.length k15 bs rfl rfl (Rd.of_own o15 (Nat.le_refl _)) (by omega) b15.size ?_; intro vA wA oA gA _; simp only [Act.put]; have sA := cells_grown s15 gA (fun g e => (HA5.out g e).1) HK1.out.lt; have bA : Below W1.heap.size W1 wA := b15.grown gA b15.size (fun g e => (HA5.out g e).1); have r19 : Rd wA w15.heap.size A19 bi := rd_grown gA (Rd.of_own (own_below o19 bx15) (Nat.le_refl _)) (fun a e g e2 => by have h1 := f19 a e; have h2 := (HA5.out g e2).2; have h4 := HSD.out; omega))
        | ((try simp only [List.getElem_toArray, List.getElem_cons_succ, List.getElem_cons_zero]); refine oper_append_rd (.tmp 16) (.tmp 19) 56 rfl W1.heap.size 5 i0 _ Tryz.underlying56 hi0 hz0 hz1 hz2 rfl _ (bn.length + bm.length + bs.length) _ rfl (own_below oA bx19) w19.heap.size A19 bi.length k19 bi rfl rfl (Rd.of_own o19 (Nat.le_refl _)) (by omega) b19.size ?_; intro vB wB oB gB _; simp only [Act.put]; have sB := cells_grown s19 gB (fun g e => own_ge oA g e) HK1.out.lt; have bB : Below W1.heap.size W1 wB := b19.grown gB b19.size (fun g e => own_ge oA g e))
        | ((try simp only [List.getElem_toArray, List.getElem_cons_succ, List.getElem_cons_zero]); refine oper_append_rd (.tmp 16) (.tmp 19) 56 rfl W1.heap.size 5 i0 _ Tryz.underlying56 hi0 hz0 hz1 hz2 rfl _ (bn.length + bm.length + bs.length) _ rfl oA _ A19 bi.length k19 bi rfl rfl r19 (by omega) bA.size ?_; intro vB wB oB gB _; simp only [Act.put]; have sB := cells_grown sA gB (fun g e => own_ge oA g e) HK1.out.lt; have bB : Below W1.heap.size W1 wB := bA.grown gB bA.size (fun g e => own_ge oA g e)))
    all_goals go_wp2_with fail
    all_goals go_ret
    all_goals exact fourN_end HB1.out oB bB
end Go.Proofs
namespace Go.Proofs
open Go.RowKit Go.Shelf Sm
theorem Sm.Rd.takeT {w : World} {N : Nat} {A : Option Addr} {l : List (BitVec 8)} (h : Rd w N A l) (m : Nat) : Rd w N A (l.take m) := fun hl => by
  obtain ⟨b, off, e, hlt, hc⟩ := h (by rw [List.length_take] at hl; omega)
  refine ⟨b, off, e, hlt, fun j c hj => ?_⟩
  rw [List.getElem?_take] at hj
  split at hj
  · exact hc j c hj
  · simp at hj
set_option maxRecDepth 100000 in
set_option maxHeartbeats 4000000 in
theorem Sm.refTagged_any (s : ByteArray) (n c : Nat) (A : Option Addr) (b : List (BitVec 8)) (w : World) (hs : s.size ≤ 1000) (hb : b.length = n) (hn : n ≤ 1000) (hr : Rd w w.heap.size A b) :
    Calls Tryz.prog 44 #[.string s, .slice A n c] w fun e w' => ∃ v, e = .returned v ∧ w'.ownsRow w.heap.size 5 1 v (n + 16) ((b ++ (tagS (keyS s) b).take 16).map byteCell) ∧ Below w.heap.size w w' := by
  obtain ⟨i0, hi, hz0, hz1, hz2⟩ := info_parts info5
  have HB := Lib.hid hb
  have HR := Lib.hid hr
  have hkl := keyS_length s
  have hDV : ∀ (cx : Nat) (A1 : Option Addr) (W : World), Rd W W.heap.size A1 (sB s) → Calls Tryz.prog 71 #[.slice A1 s.size cx, .string ⟨#[116, 111, 107, 101, 110]⟩, .int .i64 32] W fun e w' => ∃ A' c', e = .returned (.slice A' 32 c') ∧ Rd w' w'.heap.size A' (keyS s) ∧ Below W.heap.size W w' := fun cx A1 W hrx =>
    refDerive_any s.size cx A1 (sB s) labB 32 W (sB_length s) hs (by decide) (by decide) hrx
  have hTG : ∀ (cx cy : Nat) (A1 A2 : Option Addr) (W : World), Rd W W.heap.size A1 (keyS s) → Rd W W.heap.size A2 b → Calls Tryz.prog 70 #[.slice A1 32 cx, .slice A2 n cy] W fun e w' => ∃ A' c', e = .returned (.slice A' 32 c') ∧ Rd w' w'.heap.size A' (tagS (keyS s) b) ∧ Below W.heap.size W w' ∧ (∀ a : Addr, A' = some a → W.heap.size ≤ a.block) ∧ 32 ≤ c' := fun cx cy A1 A2 W h1 h2 =>
    refTag_any 32 cx n cy A1 A2 (keyS s) b W hkl (by decide) hb (by omega) h1 h2
  have hTl : (tagS (keyS s) b).length = 32 := tagS_length _ _
  obtain ⟨T, hT⟩ : ∃ T, tagS (keyS s) b = T := ⟨_, rfl⟩
  rw [hT] at hTG hTl ⊢
  obtain ⟨K, hK⟩ : ∃ K, keyS s = K := ⟨_, rfl⟩
  rw [hK] at hDV hTG
  have HDVA := Lib.hid hDV
  have HTGA := Lib.hid hTG
  have HTL := Lib.hid hTl
  have HSL := Lib.hid (sB_length s)
  clear hb hr hkl hK hT hTl hDV hTG
  go_enter Tryz.func44, Tryz.ntmps44
  go_wp2_with (first
    | (at_builtin; refine wpList_append_rd _ rfl (.tmp 5) (.tmp 6) 0x38 rfl w.heap.size 5 i0 _ Tryz.underlying56 hi hz0 hz1 hz2 rfl _ 0 [] rfl (World.ownsRow_made w #[] 0 (Nat.le_refl _) (by decide) rfl) w.heap.size A n c b rfl HB.out (HR.out.alloc (Nat.le_refl _) _) (by omega) (by simp) ?_; intro v7 w7 hown7 hg7 _; obtain ⟨W2, cx, hcv, hb2, hpx⟩ := str_conv s w7 (by omega); have hg7s := hg7.size; simp only [World.size_alloc] at hg7s; have hb7 : Below w.heap.size w w7 := (((Below.refl _ w).alloc (Nat.le_refl _) _)).grown hg7 (by simp) (fun g e => by cases e; exact Nat.le_refl _); have hrx := rd_of_pt (hpx w.heap.size (by omega)); have HDV := Lib.hid (HDVA.out cx (some ⟨w7.heap.size, 0, none⟩) W2 hrx); have HB2 := Lib.hid hb2; have HRX := Lib.hid hrx; have HO7 := Lib.hid hown7; have HB7 := Lib.hid hb7; clear hb2 hrx hown7 hb7 hg7 hpx)
    | (go_at_call 71; (with_reducible refine HDV.out.mono ?_); rintro e w10 ⟨A10, c10, rfl, hr10, hb10⟩; have hbw := HB7.out.trans ((HB2.out.trans (hb10.mono HB2.out.size)).mono HB7.out.size); have HTG := Lib.hid (HTGA.out c10 c A10 A w10 hr10 ((HR.out.below hbw).more hbw.size)); have HB10 := Lib.hid hb10; have HBW := Lib.hid hbw; clear hb10 hbw hr10)
    | (go_at_call 70; (with_reducible refine HTG.out.mono ?_); rintro e w12 ⟨A12, c12, rfl, hr12, hb12, hf12, hc12⟩; have hb712 := HB2.out.trans ((HB10.out.trans (hb12.mono HB10.out.size)).mono HB2.out.size); have ho12 := own_below HO7.out hb712; have HO12 := Lib.hid ho12; have HR12 := Lib.hid (Rd.takeT hr12 16); have HB12 := Lib.hid (HBW.out.trans (hb12.mono HBW.out.size)); clear hb712 ho12 hr12 hb12)
    | (at_builtin; refine wpList_append_rd _ rfl (.tmp 7) (.tmp 13) 0x38 rfl w.heap.size 5 i0 _ Tryz.underlying56 hi hz0 hz1 hz2 rfl _ (0 + n) _ rfl HO12.out w12.heap.size A12 16 c12 (T.take 16) rfl (by rw [List.length_take, HTL.out]; rfl) HR12.out (by omega) HB12.out.size ?_; intro v14 w14 hown14 hg14 _))
  go_ret
  have hb14 := HB12.out.grown hg14 HB12.out.size (fun g e => own_ge HO12.out g e)
  refine ⟨_, rfl, ?_, hb14⟩
  rw [List.map_append]
  have := hown14
  rw [List.nil_append, Nat.zero_add] at this
  exact this
set_option maxRecDepth 100000 in
set_option maxHeartbeats 4000000 in
theorem Sm.refWith_any (t : ByteArray) (n m s i : Nat) (w : World) (ht : t.size ≤ 1000) (hn : n ≤ 2147483647) (hm : m ≤ 2147483647) (hs : s ≤ 2147483647) (hi : i ≤ 2147483647) :
    Calls Tryz.prog 20 #[.string t, .int .i64 (n : Int), .agg #[.int .i64 (m : Int), .int .i64 (s : Int), .int .i64 (i : Int)]] w fun e w' => ∃ A c, e = .returned (.slice A (tokB t n m s i).length c) ∧ w'.ownsRow w.heap.size 5 1 (.slice A (tokB t n m s i).length c) (tokB t n m s i).length ((tokB t n m s i).map byteCell) ∧ Below w.heap.size w w' := by
  obtain ⟨W1, hW1⟩ : ∃ v, w.alloc (.cells #[.int .i64 (m : Int), .int .i64 (s : Int), .int .i64 (i : Int)] 24) = v := ⟨_, rfl⟩
  have hb1 : Below w.heap.size w W1 := by rw [← hW1]; exact (Below.refl _ w).alloc (Nat.le_refl _) _
  have hB1 : Blk W1 w.heap.size 24 #[.int .i64 (m : Int), .int .i64 (s : Int), .int .i64 (i : Int)] := by rw [← hW1]; exact Blk.new w 24 _
  have c0 := hB1.cell 0
  have c1 := hB1.cell 1
  have c2 := hB1.cell 2
  simp only [List.getElem?_toArray, List.getElem?_cons_zero, List.getElem?_cons_succ] at c0 c1 c2
  have hby := refBytes_any n m s i W1 hn hm hs hi
  have hfl : (fourN n m s i).length ≤ 36 := by
    have hl : ∀ k : Nat, k ≤ 2147483647 → (numB k).length ≤ 9 := fun k hk => numB_len9 (by unfold top; omega)
    unfold fourN
    simp only [List.length_append]
    have := hl n hn
    have := hl m hm
    have := hl s hs
    have := hl i hi
    omega
  have he : tokB t n m s i = fourN n m s i ++ (tagS (keyS t) (fourN n m s i)).take 16 := by
    unfold tokB
    rw [fourN_nums]
  rw [he]
  obtain ⟨F, hF⟩ : ∃ F, fourN n m s i = F := ⟨_, rfl⟩
  rw [hF] at hby hfl ⊢
  have hln : (F ++ (tagS (keyS t) F).take 16).length = F.length + 16 := by
    rw [List.length_append, List.length_take, tagS_length]
    rfl
  rw [hln]
  have HBY := Lib.hid hby
  have HB1 := Lib.hid hb1
  have HW1 := Lib.hid hW1
  obtain ⟨G, hG⟩ : ∃ G, F ++ (tagS (keyS t) F).take 16 = G := ⟨_, rfl⟩
  have HTA : ∀ (A : Option Addr) (c : Nat) (w : World), Rd w w.heap.size A F → Calls Tryz.prog 44 #[.string t, .slice A F.length c] w fun e w' => ∃ v, e = .returned v ∧ w'.ownsRow w.heap.size 5 1 v (F.length + 16) (G.map byteCell) ∧ Below w.heap.size w w' := fun A c w hr => by
    rw [← hG]
    exact refTagged_any t F.length c A F w ht rfl (by omega) hr
  have HTA := Lib.hid HTA
  rw [hG]
  clear hby hb1 hW1 hF he hln hB1 hG hn hm hs hi
  go_enter Tryz.func20, Tryz.ntmps20
  go_upto_region 1 with fail
  rw [HW1.out]
  go_wp2_with (first
    | (go_at_call 45; (with_reducible refine HBY.out.mono ?_); rintro e w10 ⟨A10, c10, rfl, ho10, hb10⟩; have HTG := Lib.hid (HTA.out A10 c10 w10 (Rd.of_own ho10 (Nat.le_refl _))))
    | (go_at_call 44; (with_reducible refine HTG.out.mono ?_); rintro e w11 ⟨v11, rfl, ho11, hb11⟩))
  go_ret
  obtain ⟨A, c, rfl⟩ := own_slice ho11
  have hbA := HB1.out.trans (hb10.mono HB1.out.size)
  exact ⟨A, c, rfl, own_base ho11 hbA.size, hbA.trans (hb11.mono hbA.size)⟩
end Go.Proofs
namespace Go.Proofs
open Go.RowKit Go.Shelf Sm
theorem Sm.nat8_get {b : List (BitVec 8)} {k : Nat} (hk : k < b.length) : (nat8 b).getD k 0 = b[k].toNat := by
  unfold nat8
  rw [List.getD_eq_getElem?_getD, List.getElem?_map, List.getElem?_eq_getElem hk]
  rfl
set_option maxRecDepth 100000 in
set_option maxHeartbeats 1000000 in
theorem Sm.bit_any (n c i N : Nat) (A : Option Addr) (b : List (BitVec 8)) (w : World) (hb : b.length = n) (hi : i ≤ 1000000) (hr : Rd w N A b) :
    Calls Tryz.prog 46 #[.slice A n c, .int .i64 (i : Int)] w fun e w' => e = .returned (.int .i64 (bitW 8 (nat8 b) i : Nat)) ∧ w = w' := by
  have HB := Lib.hid hb
  obtain ⟨q, hqe⟩ : ∃ q, i / 8 = q := ⟨_, rfl⟩
  obtain ⟨r, hre⟩ : ∃ r, i % 8 = r := ⟨_, rfl⟩
  have hdv : (i : Int) / 8 = (q : Int) := by omega
  have hmd : (i : Int) % 8 = (r : Int) := by omega
  have hbw0 : bitW 8 (nat8 b) i = (nat8 b).getD q 0 / 2 ^ (7 - r) % 2 := by unfold bitW; rw [hqe, hre]
  have hr8 : r < 8 := by omega
  by_cases hlt : q < n
  · obtain ⟨bo, off, rfl, _, hc⟩ := hr.at_ (k := q) (by omega)
    rw [nat8_get (b := b) (k := q) (by omega)] at hbw0
    obtain ⟨x, hx⟩ : ∃ x, b[q]'(by omega) = x := ⟨_, rfl⟩
    rw [hx] at hc hbw0
    obtain ⟨X, hX⟩ : ∃ X, x.toNat = X := ⟨_, rfl⟩
    have hxl : X < 256 := by rw [← hX]; exact x.isLt
    have hib : ib x = (X : Int) := by unfold ib; rw [hX]
    rw [hib] at hc
    rw [hX] at hbw0
    have HBW := Lib.hid hbw0
    clear hbw0 hx hr hb hqe hre hib hX
    go_enter Tryz.func46, Tryz.ntmps46
    go_wp2
    go_loopw [5, 6] (fun s5 s6 wr => ∃ k : Nat, r ≤ k ∧ k ≤ 7 ∧ s6 = .int .i64 (k : Int) ∧ s5 = .int .i64 ((X / 2 ^ (k - r) : Nat) : Int) ∧ wr = w) (fun _ s6 _ => 7 - (intOf s6).toNat)
    case atStart => exact ⟨r, Nat.le_refl _, by omega, by rw [hmd], by simp, rfl⟩
    case round =>
      obtain ⟨k, hk1, hk2, rfl, rfl, rfl⟩ := hrel
      obtain ⟨Y, hY⟩ : ∃ Y, X / 2 ^ (k - r) = Y := ⟨_, rfl⟩
      have HY := Lib.hid hY
      have hYl : Y < 256 := by rw [← hY]; exact Nat.lt_of_le_of_lt (Nat.div_le_self _ _) hxl
      rw [hY]
      clear hY
      by_cases hk : k < 7
      · go_wp2
        refine ⟨⟨k + 1, by omega, by omega, by go_num, ?_, trivial⟩, by simp [intOf]; omega⟩
        have e1 : k + 1 - r = (k - r) + 1 := by omega
        rw [e1, Nat.pow_succ, ← Nat.div_div_eq_div_mul, HY.out]
        rfl
      · obtain rfl : k = 7 := by omega
        go_wp2
        go_ret
        refine ⟨?_, rfl⟩
        rw [HBW.out, HY.out]
        rfl
  · have hz : bitW 8 (nat8 b) i = 0 := bitW_beyond (by decide) (by rw [nat8_length]; omega)
    rw [hz]
    clear hbw0 hz hqe hre hb hr
    go_enter Tryz.func46, Tryz.ntmps46
    go_wp2
    go_ret
    exact ⟨rfl, rfl⟩
theorem Sm.valW_succ (w : Nat) (xs : List Nat) (a n : Nat) : valW w xs a (n + 1) = 2 * valW w xs a n + bitW w xs (a + n) := rfl
theorem Sm.ba_ext {s t : ByteArray} (h : s.data.toList = t.data.toList) : s = t := by
  have h2 : s.data = t.data := Array.toList_inj.1 h
  cases s
  cases t
  exact congrArg ByteArray.mk h2
theorem Sm.strB_join (a b : List (BitVec 8)) : strB a ++ strB b = strB (a ++ b) := by
  refine ba_ext ?_
  rw [ByteArray.data_append, Array.toList_append, strB_data, strB_data, strB_data, List.map_append]
theorem Sm.sign_cut : ∀ x : Fin 32, (signsB.extract x.val (x.val + 1)).data.toList = (strB [sgn x.val]).data.toList := by decide +kernel
theorem Sm.sign_slice (v : Nat) (h : v < 32) (w : World) : (Instr.sliceAt 9 (.string { data := #[97, 98, 99, 100, 101, 102, 103, 104, 105, 106, 107, 108, 109, 110, 111, 112, 113, 114, 115, 116, 117, 118, 119, 120, 121, 122, 50, 51, 52, 53, 54, 55] }) (some (.int .i64 (v : Int))) (some (.int .i64 ((v : Int) + 1))) none).run Tryz.prog w = .ok (.string (strB [sgn v])) w := by
  have e := sign_cut ⟨v, h⟩
  have hs : ({ data := #[97, 98, 99, 100, 101, 102, 103, 104, 105, 106, 107, 108, 109, 110, 111, 112, 113, 114, 115, 116, 117, 118, 119, 120, 121, 122, 50, 51, 52, 53, 54, 55] } : ByteArray).size = 32 := rfl
  rw [run_sliceAt_string w 9 _ _ _ _ Tryz.underlying9, run_slice_string w 9 _ .i64 .i64 (v : Int) ((v : Int) + 1) Tryz.underlying9 (by omega) (by omega) (by rw [hs]; omega)]
  have e2 : ((v : Int) + 1).toNat = v + 1 := by omega
  simp only [Int.toNat_natCast, e2]
  exact congrArg (fun x => Result.ok (Value.string x) w) (ba_ext e)
set_option maxRecDepth 100000 in
set_option maxHeartbeats 400000 in
theorem Sm.refSpell_any (n c N : Nat) (A : Option Addr) (b : List (BitVec 8)) (w : World) (hb : b.length = n) (hn : n ≤ 10000) (hr : Rd w N A b) :
    Calls Tryz.prog 21 #[.slice A n c] w fun e w' => e = .returned (.string (strB (spellS b))) ∧ w = w' := by
  have HB := Lib.hid hb
  have hbit : ∀ i : Nat, i ≤ 1000000 → Calls Tryz.prog 46 #[.slice A n c, .int .i64 (i : Int)] w fun e w' => e = .returned (.int .i64 (bitW 8 (nat8 b) i : Nat)) ∧ w = w' := fun i hi => bit_any n c i N A b w hb hi hr
  have HBT := Lib.hid hbit
  have hcn : cntW 8 5 n = (8 * n + 4) / 5 := rfl
  obtain ⟨M, hM⟩ : ∃ M, cntW 8 5 n = M := ⟨_, rfl⟩
  have hM2 : 5 * M ≤ 8 * n + 4 ∧ 8 * n ≤ 5 * M := by omega
  have HM := Lib.hid hM
  have HM2 := Lib.hid hM2
  clear hbit hb hr hcn hM hM2
  go_enter Tryz.func21, Tryz.ntmps21
  go_upto_region 3 with fail
  go_loopw [3, 4] (fun s3 s4 wr => ∃ k : Nat, k ≤ M ∧ s4 = .int .i64 (5 * (k : Int)) ∧ s3 = .string (strB ((spellS b).take k)) ∧ wr = w) (fun _ s4 _ => 8 * n + 5 - (intOf s4).toNat)
  case atStart => exact ⟨0, Nat.zero_le _, rfl, rfl, rfl⟩
  case round =>
    obtain ⟨k, hk, rfl, rfl, rfl⟩ := hrel
    have HKM := Lib.hid hk
    clear hk
    by_cases hlt : 5 * k < 8 * n
    · have hkl : k < (spellS b).length := by rw [spellS_length, HB.out, HM.out]; have := HM2.out; omega
      have hl2 : (5 * (k : Int)) < 8 * (n : Int) := by omega
      have hkn : k ≤ 20000 := by omega
      have hsg : (spellS b)[k] = sgn (valW 8 (nat8 b) (5 * k) 5) := by simp [spellS, fiveS]
      have htk : strB ((spellS b).take k) ++ strB [sgn (valW 8 (nat8 b) (5 * k) 5)] = strB ((spellS b).take (k + 1)) := by
        rw [strB_join, List.take_succ_eq_append_getElem hkl, hsg]
      have HTK := Lib.hid htk
      have HLT := Lib.hid hlt
      obtain ⟨SK, hSK⟩ : ∃ x, strB ((spellS b).take k) = x := ⟨_, rfl⟩
      have hsk : SK.size ≤ 20000 := by rw [← hSK, strB_length, List.length_take]; omega
      rw [hSK] at HTK
      rw [hSK]
      clear hkl hsg htk hSK hlt
      go_wp2
      go_loopw [5, 6] (fun s5 s6 wq => ∃ j : Nat, j ≤ 5 ∧ s6 = .int .i64 (j : Int) ∧ s5 = .int .i64 ((valW 8 (nat8 b) (5 * k) j : Nat) : Int) ∧ wq = wr) (fun _ s6 _ => 5 - (intOf s6).toNat)
      case atStart => exact ⟨0, by omega, rfl, rfl, rfl⟩
      case round =>
        obtain ⟨j, hj, rfl, rfl, rfl⟩ := hrel
        have hvl := valW_lt 8 (nat8 b) (5 * k) j
        have hpl : 2 ^ j ≤ 2 ^ 5 := Nat.pow_le_pow_right (by decide) hj
        obtain ⟨V, hV⟩ : ∃ V, valW 8 (nat8 b) (5 * k) j = V := ⟨_, rfl⟩
        rw [hV] at hvl
        rw [hV]
        have HV := Lib.hid hV
        have hV32 : V < 32 := by omega
        clear hvl hpl hV
        by_cases hj5 : j < 5
        · have hbt := HBT.out (5 * k + j) (by omega)
          have hbl := bitW_lt 8 (nat8 b) (5 * k + j)
          obtain ⟨T, hT⟩ : ∃ T, bitW 8 (nat8 b) (5 * k + j) = T := ⟨_, rfl⟩
          rw [hT] at hbt hbl
          rw [show ((5 * k + j : Nat) : Int) = 5 * (k : Int) + (j : Int) by omega] at hbt
          have HBB := Lib.hid hbt
          have HT := Lib.hid hT
          clear hbt hT
          go_wp2_with (go_at_call 46; (with_reducible refine HBB.out.mono ?_); rintro e w9 ⟨rfl, rfl⟩)
          refine ⟨⟨j + 1, by omega, by go_num, ?_, trivial⟩, by simp [intOf]; omega⟩
          rw [valW_succ, HV.out, HT.out]
          go_num
        · obtain rfl : j = 5 := by omega
          have hsl := sign_slice V hV32
          have htk := HTK.out
          rw [HV.out] at htk
          have HTK2 := Lib.hid htk
          have hlm : ¬ 9223372036854775807 < SK.size + (strB [sgn V]).size := by rw [strB_length]; simp; omega
          clear htk
          go_wp2
          exact ⟨⟨k + 1, by have := HLT.out; have := HM2.out; omega, by go_num, by rw [← HTK2.out], trivial⟩, by have := HLT.out; simp [intOf]; omega⟩
    · have hke : k = M := by have := HM2.out; have := HKM.out; omega
      subst hke
      have hl2 : ¬ ((5 * (k : Int)) < 8 * (n : Int)) := by omega
      go_wp2
      go_ret
      refine ⟨?_, rfl⟩
      rw [List.take_of_length_le (by rw [spellS_length, HB.out, HM.out]; exact Nat.le_refl _)]
      rfl
end Go.Proofs
namespace Go.Proofs
open Go.RowKit Go.Shelf Sm
theorem Sm.wrap64_small {x : Int} (h0 : 0 ≤ x) (h1 : x ≤ 1000000) : IntKind.i64.wrap x = x := by
  simp [IntKind.wrap, IntKind.signed, IntKind.bits]
  omega
set_option maxRecDepth 100000 in
set_option maxHeartbeats 4000000 in
theorem Sm.refMake_any (d : Kd) (j c : Nat) (A : Option Addr) (m s i : Nat) (w : World) (hd : d.OK j) (hj : j ≤ 1000) (hr : Rds w (fun _ => False) A (d.ms.map Value.string)) (hm : m ≤ 2147483647) (hs : s ≤ 2147483647) (hi : i ≤ 2147483647) :
    Calls Tryz.prog 18 #[.agg #[.int .i64 d.first, .slice A d.ms.length c], .agg #[.int .i64 (m : Int), .int .i64 (s : Int), .int .i64 (i : Int)]] w fun e w' => e = .returned (.string (strB (spellS (tokB d.pt.s0 d.pt.n0 m s i)))) ∧ Below w.heap.size w w' := by
  have h0 := hd.lo
  have hh := hd.hi
  have hmo := hd.most
  have hnum := Kd.num hd
  have hsz := (Kd.sizes hd).1
  obtain ⟨hl, hlast⟩ := Kd.last hd
  obtain ⟨b, off, rfl, hbl, _, hcell⟩ := hr (by rw [List.length_map]; exact hd.some)
  have hcl := hcell (d.ms.length - 1) (.string d.pt.s0) (by rw [List.getElem?_map, List.getElem?_eq_getElem hl, hlast]; rfl)
  have hso := hd.some
  obtain ⟨n, hn⟩ : ∃ n, d.ms.length = n := ⟨_, rfl⟩
  rw [hn] at hmo hh hcl hnum hso ⊢
  obtain ⟨k, hk⟩ : ∃ k, n - 1 = k := ⟨_, rfl⟩
  rw [hk] at hcl
  have hsub : (n : Int) - 1 = (k : Int) := by omega
  have hkn : (k : Int) < (n : Int) := by omega
  have hk0 : (0 : Int) ≤ (k : Int) := by omega
  have hwr : IntKind.i64.wrap (k : Int) = (k : Int) := wrap64_small (by omega) (by omega)
  have hn0 : (0 : Int) < (n : Int) := by omega
  have hn1 : (n : Int) ≤ 3 := by omega
  obtain ⟨N, hN⟩ : ∃ N : Nat, d.pt.n0 = (N : Int) := ⟨d.pt.n0.toNat, by omega⟩
  rw [hN] at hnum ⊢
  obtain ⟨f, hf⟩ : ∃ f, d.first = f := ⟨_, rfl⟩
  obtain ⟨s0, hs0⟩ : ∃ x, d.pt.s0 = x := ⟨_, rfl⟩
  rw [hf] at h0 hh hnum ⊢
  rw [hs0] at hsz hcl ⊢
  have hNl : N ≤ 2000 := by omega
  have hfN : f + (n : Int) - 1 = (N : Int) := by omega
  have hcl : w.cell? ⟨b, off + k, none⟩ = some (.string s0) := hcl
  obtain ⟨W2, hW2⟩ : ∃ v, (w.alloc (.cells #[.int .i64 f, .slice (some ⟨b, off, none⟩) n c] 29)).alloc (.cells #[.int .i64 (m : Int), .int .i64 (s : Int), .int .i64 (i : Int)] 24) = v := ⟨_, rfl⟩
  have hb2 : Below w.heap.size w W2 := by rw [← hW2]; exact ((Below.refl _ w).alloc (Nat.le_refl _) _).alloc (by simp) _
  have hk0 : Blk W2 w.heap.size 29 #[.int .i64 f, .slice (some ⟨b, off, none⟩) n c] := by rw [← hW2]; exact (Blk.new w 29 _).alloc _
  have hk1 : Blk W2 (w.heap.size + 1) 24 #[.int .i64 (m : Int), .int .i64 (s : Int), .int .i64 (i : Int)] := by
    rw [← hW2]
    have := Blk.new (w.alloc (.cells #[.int .i64 f, .slice (some ⟨b, off, none⟩) n c] 29)) 24 #[.int .i64 (m : Int), .int .i64 (s : Int), .int .i64 (i : Int)]
    rwa [World.size_alloc] at this
  have hS : ∀ W : World, Below W2.heap.size W2 W → W.cell? ⟨w.heap.size, 0, none⟩ = some (.int .i64 f) ∧ W.cell? ⟨w.heap.size, 1, none⟩ = some (.slice (some ⟨b, off, none⟩) n c) ∧ W.cell? ⟨w.heap.size + 1, 0, none⟩ = some (.int .i64 (m : Int)) ∧ W.cell? ⟨w.heap.size + 1, 1, none⟩ = some (.int .i64 (s : Int)) ∧ W.cell? ⟨w.heap.size + 1, 2, none⟩ = some (.int .i64 (i : Int)) ∧ W.cell? ⟨b, off + k, none⟩ = some (.string s0) := fun W hb => by
    have h0 := hk0.keep hb
    have h1 := hk1.keep hb
    exact ⟨h0.cell 0, h0.cell 1, h1.cell 0, h1.cell 1, h1.cell 2, ((hb2.trans (hb.mono hb2.size)).cell (p := ⟨b, off + k, none⟩) hbl).trans hcl⟩
  have hNW : ∀ W : World, Below W2.heap.size W2 W → Calls Tryz.prog 28 #[.agg #[.int .i64 f, .slice (some ⟨b, off, none⟩) n c]] W fun e w' => e = .returned (.int .i64 (N : Int)) ∧ (w'.cell? ⟨w.heap.size, 0, none⟩ = some (.int .i64 f) ∧ w'.cell? ⟨w.heap.size, 1, none⟩ = some (.slice (some ⟨b, off, none⟩) n c) ∧ w'.cell? ⟨w.heap.size + 1, 0, none⟩ = some (.int .i64 (m : Int)) ∧ w'.cell? ⟨w.heap.size + 1, 1, none⟩ = some (.int .i64 (s : Int)) ∧ w'.cell? ⟨w.heap.size + 1, 2, none⟩ = some (.int .i64 (i : Int)) ∧ w'.cell? ⟨b, off + k, none⟩ = some (.string s0)) ∧ Below W2.heap.size W2 w' := fun W hb => by
    refine (refNewest_any f n c _ W h0 (by omega) (by omega)).mono ?_
    rintro e w' ⟨rfl, hb'⟩
    rw [hfN]
    have hbb := hb.trans (hb'.mono hb.size)
    exact ⟨rfl, hS _ hbb, hbb⟩
  have hWI : ∀ W : World, Below W2.heap.size W2 W → Calls Tryz.prog 20 #[.string s0, .int .i64 (N : Int), .agg #[.int .i64 (m : Int), .int .i64 (s : Int), .int .i64 (i : Int)]] W fun e w' => ∃ A c', e = .returned (.slice A (tokB s0 N m s i).length c') ∧ Rd w' w'.heap.size A (tokB s0 N m s i) ∧ (w'.cell? ⟨w.heap.size, 0, none⟩ = some (.int .i64 f) ∧ w'.cell? ⟨w.heap.size, 1, none⟩ = some (.slice (some ⟨b, off, none⟩) n c) ∧ w'.cell? ⟨w.heap.size + 1, 0, none⟩ = some (.int .i64 (m : Int)) ∧ w'.cell? ⟨w.heap.size + 1, 1, none⟩ = some (.int .i64 (s : Int)) ∧ w'.cell? ⟨w.heap.size + 1, 2, none⟩ = some (.int .i64 (i : Int)) ∧ w'.cell? ⟨b, off + k, none⟩ = some (.string s0)) ∧ Below W2.heap.size W2 w' := fun W hb => by
    refine (refWith_any s0 N m s i W hsz (by omega) hm hs hi).mono ?_
    rintro e w' ⟨A, c', rfl, ho, hb'⟩
    have hbb := hb.trans (hb'.mono hb.size)
    exact ⟨A, c', rfl, Rd.of_own ho (Nat.le_refl _), hS _ hbb, hbb⟩
  have hTl : (tokB s0 N m s i).length ≤ 60 := by
    rw [tokB_length]
    have hfl : (numsB [(N : Int), (m : Int), (s : Int), (i : Int)]).length ≤ 36 := by
      rw [← fourN_nums]
      have hl : ∀ k : Nat, k ≤ 2147483647 → (numB k).length ≤ 9 := fun k hk => numB_len9 (by unfold top; omega)
      unfold fourN
      simp only [List.length_append]
      have := hl N (by omega)
      have := hl m hm
      have := hl s hs
      have := hl i hi
      omega
    omega
  obtain ⟨T, hT⟩ : ∃ T, tokB s0 N m s i = T := ⟨_, rfl⟩
  rw [hT] at hWI hTl ⊢
  have hSP : ∀ (A : Option Addr) (c' : Nat) (W : World), Rd W W.heap.size A T → Calls Tryz.prog 21 #[.slice A T.length c'] W fun e w' => e = .returned (.string (strB (spellS T))) ∧ W = w' := fun A c' W hr => refSpell_any T.length c' W.heap.size A T W rfl (by omega) hr
  obtain ⟨R, hR⟩ : ∃ R, strB (spellS T) = R := ⟨_, rfl⟩
  rw [hR] at hSP ⊢
  have NW := Lib.hid hNW
  have WI := Lib.hid hWI
  have SP := Lib.hid hSP
  have HW2 := Lib.hid hW2
  have HB2 := Lib.hid hb2
  have s0' := hS W2.drew (Below.refl _ _).drew
  have b0 : Below W2.heap.size W2 W2.drew := (Below.refl _ _).drew
  clear hn hk hS hNW hWI hSP hW2 hb2 hk0 hk1 hT hR hd hr hcell hlast hl hcl hN hs0 hf hnum hfN hNl hh
  go_enter Tryz.func18, Tryz.ntmps18
  go_upto_region 1 with fail
  rw [HW2.out]
  go_region_held_law (fun W => W.cell? ⟨w.heap.size, 0, none⟩ = some (.int .i64 f) ∧ W.cell? ⟨w.heap.size, 1, none⟩ = some (.slice (some ⟨b, off, none⟩) n c) ∧ W.cell? ⟨w.heap.size + 1, 0, none⟩ = some (.int .i64 (m : Int)) ∧ W.cell? ⟨w.heap.size + 1, 1, none⟩ = some (.int .i64 (s : Int)) ∧ W.cell? ⟨w.heap.size + 1, 2, none⟩ = some (.int .i64 (i : Int)) ∧ W.cell? ⟨b, off + k, none⟩ = some (.string s0))
    (first | exact s16 | exact s14 | exact s0')
    (first
      | (go_at_call 28; (with_reducible refine (NW.out _ b0).mono ?_); rintro e w14 ⟨rfl, s14, b14⟩)
      | (go_at_call 20; (with_reducible refine (WI.out _ b14).mono ?_); rintro e w16 ⟨A16, c16, rfl, r16, s16, b16⟩)
      | (go_at_call 21; (with_reducible refine (SP.out A16 c16 w16 r16).mono ?_); rintro e w17 ⟨rfl, rfl⟩))
  all_goals go_wp2_with fail
  all_goals go_ret
  all_goals exact ⟨rfl, HB2.out.trans (b16.mono HB2.out.size)⟩
set_option maxRecDepth 100000 in
set_option maxHeartbeats 4000000 in
theorem Sm.refSame_any (f f' : Int) (n c n' c' : Nat) (A A' : Option Addr) (ms ms' : List ByteArray) (w : World) (hn : ms.length = n) (hn' : ms'.length = n') (h1 : 1 ≤ n) (h1' : 1 ≤ n') (h3 : n ≤ 10) (h3' : n' ≤ 10) (hr : Rds w (fun _ => False) A (ms.map Value.string)) (hr' : Rds w (fun _ => False) A' (ms'.map Value.string)) :
    Calls Tryz.prog 23 #[.agg #[.int .i64 f, .slice A n c], .agg #[.int .i64 f', .slice A' n' c']] w fun e w' => e = .returned (.bool (decide (f = f' ∧ ms = ms'))) ∧ Below w.heap.size w w' := by
  obtain ⟨R, hR⟩ : ∃ R, decide (f = f' ∧ ms = ms') = R := ⟨_, rfl⟩
  rw [hR]
  have HRy : Hid (f = f' → ms = ms' → R = true) := Lib.hid (fun h1 h2 => by rw [← hR]; exact decide_eq_true (And.intro h1 h2))
  have HR1 : Hid (¬ f = f' → R = false) := Lib.hid (fun h => by rw [← hR]; exact decide_eq_false (fun h2 => h h2.1))
  have HR2 : Hid (¬ ms = ms' → R = false) := Lib.hid (fun h => by rw [← hR]; exact decide_eq_false (fun h2 => h h2.2))
  clear hR
  obtain ⟨W2, hW2⟩ : ∃ v, (w.alloc (.cells #[.int .i64 f, .slice A n c] 29)).alloc (.cells #[.int .i64 f', .slice A' n' c'] 29) = v := ⟨_, rfl⟩
  have hb2 : Below w.heap.size w W2 := by rw [← hW2]; exact ((Below.refl _ w).alloc (Nat.le_refl _) _).alloc (by simp) _
  have hk0 : Blk W2 w.heap.size 29 #[.int .i64 f, .slice A n c] := by rw [← hW2]; exact (Blk.new w 29 _).alloc _
  have hk1 : Blk W2 (w.heap.size + 1) 29 #[.int .i64 f', .slice A' n' c'] := by
    rw [← hW2]
    have := Blk.new (w.alloc (.cells #[.int .i64 f, .slice A n c] 29)) 29 #[.int .i64 f', .slice A' n' c']
    rwa [World.size_alloc] at this
  have c00 := hk0.cell 0
  have c01 := hk0.cell 1
  have c10 := hk1.cell 0
  have c11 := hk1.cell 1
  simp only [List.getElem?_toArray, List.getElem?_cons_zero, List.getElem?_cons_succ] at c00 c01 c10 c11
  have HK := Lib.hid (And.intro hk0 hk1)
  have HB2 := Lib.hid hb2
  have HW2 := Lib.hid hW2
  have HL := Lib.hid (And.intro hn hn')
  have HR := Lib.hid (And.intro hr hr')
  clear hk0 hk1 hb2 hW2 hn hn' hr hr'
  by_cases hf : f = f'
  · have HR3 := Lib.hid (HRy.out hf)
    clear HRy HR1
    subst hf
    by_cases hnn : n = n'
    · subst hnn
      obtain ⟨b, off, rfl, hbl, _, hcell⟩ := HR.out.1 (by rw [List.length_map, HL.out.1]; exact h1)
      obtain ⟨b', off', rfl, hbl', _, hcell'⟩ := HR.out.2 (by rw [List.length_map, HL.out.2]; exact h1)
      have HC := Lib.hid (And.intro hcell hcell')
      clear hcell hcell'
      go_enter Tryz.func23, Tryz.ntmps23
      go_upto_region 1 with fail
      rw [HW2.out]
      go_upto_region 4 with fail
      clear c00 c01 c10 c11
      go_loopw [5] (fun s5 wr => ∃ q : Nat, q ≤ n ∧ s5 = .int .i64 (q : Int) ∧ Hid (ms.take q = ms'.take q) ∧ Hid (Below W2.heap.size W2 wr)) (fun s5 _ => n - (intOf s5).toNat)
      case atStart => exact ⟨0, Nat.zero_le _, rfl, Lib.hid rfl, Lib.hid (Below.refl _ _)⟩
      case round =>
        obtain ⟨wo, rfl⟩ : ∃ wo : World, wo = wr := ⟨_, rfl⟩
        obtain ⟨q, hq, rfl, HE, HB⟩ := hrel
        have hk0 := HK.out.1.keep HB.out
        have hk1 := HK.out.2.keep HB.out
        have c00 := hk0.cell 0
        have c01 := hk0.cell 1
        have c10 := hk1.cell 0
        have c11 := hk1.cell 1
        simp only [List.getElem?_toArray, List.getElem?_cons_zero, List.getElem?_cons_succ] at c00 c01 c10 c11
        have HBW := Lib.hid (HB2.out.trans (HB.out.mono HB2.out.size))
        clear hk0 hk1
        by_cases hlt : q < n
        · have hql : q < ms.length := by rw [HL.out.1]; exact hlt
          have hql' : q < ms'.length := by rw [HL.out.2]; exact hlt
          have hx := (HBW.out.cell (p := ⟨b, off + q, none⟩) hbl).trans (HC.out.1 q (.string ms[q]) (by rw [List.getElem?_map, List.getElem?_eq_getElem hql]; rfl))
          have hy := (HBW.out.cell (p := ⟨b', off' + q, none⟩) hbl').trans (HC.out.2 q (.string ms'[q]) (by rw [List.getElem?_map, List.getElem?_eq_getElem hql']; rfl))
          obtain ⟨x, hxe⟩ : ∃ x, ms[q] = x := ⟨_, rfl⟩
          obtain ⟨y, hye⟩ : ∃ y, ms'[q] = y := ⟨_, rfl⟩
          rw [hxe] at hx
          rw [hye] at hy
          have hqi : (q : Int) < (n : Int) := by omega
          have HXE := Lib.hid (And.intro (List.take_succ_eq_append_getElem hql) (List.take_succ_eq_append_getElem hql'))
          rw [hxe, hye] at HXE
          by_cases hxy : x = y
          · subst hxy
            clear hxe hye
            go_upto_region 6 with fail
            go_quiet (fail)
            go_wp2
            refine ⟨⟨q + 1, by omega, by go_num, Lib.hid (by rw [HXE.out.1, HXE.out.2, HE.out]), Lib.hid (HB.out.trans ((below_drewN _ _).mono HB.out.size))⟩, by simp [intOf]; omega⟩
          · have hne : ¬ x.toList = y.toList := fun h => hxy (by
              rw [ByteArray.toList_eq, ByteArray.toList_eq] at h
              have h2 : x.data = y.data := Array.toList_inj.1 h
              cases x
              cases y
              exact congrArg ByteArray.mk h2)
            have hms : ¬ ms = ms' := fun h => hxy (by rw [← hxe, ← hye]; subst h; rfl)
            have hnb : (x.toList == y.toList) = false := by simpa using hne
            have HF := Lib.hid (HR2.out hms)
            clear hxe hye hms hne
            go_upto_region 6 with fail
            go_quiet (fail)
            go_wp2
            go_ret
            exact ⟨by rw [HF.out]; rfl, HBW.out.trans ((below_drewN _ _).mono HBW.out.size)⟩
        · obtain rfl : q = n := by omega
          have hms : ms = ms' := by
            have := HE.out
            rwa [List.take_of_length_le (by rw [HL.out.1]; exact Nat.le_refl _), List.take_of_length_le (by rw [HL.out.2]; exact Nat.le_refl _)] at this
          have HF := Lib.hid (HR3.out hms)
          clear hms
          go_wp2
          go_ret
          exact ⟨by rw [HF.out]; rfl, HBW.out⟩
    · have HF := Lib.hid (HR2.out (fun h => hnn (by rw [← HL.out.1, ← HL.out.2, h])))
      have hni : ¬ (n : Int) = (n' : Int) := by omega
      go_enter Tryz.func23, Tryz.ntmps23
      go_upto_region 1 with fail
      rw [HW2.out]
      go_wp2
      go_ret
      exact ⟨by rw [HF.out]; rfl, HB2.out⟩
  · have HF := Lib.hid (HR1.out hf)
    clear HRy HR1
    go_enter Tryz.func23, Tryz.ntmps23
    go_upto_region 1 with fail
    rw [HW2.out]
    go_wp2
    go_ret
    exact ⟨by rw [HF.out]; rfl, HB2.out⟩
end Go.Proofs
