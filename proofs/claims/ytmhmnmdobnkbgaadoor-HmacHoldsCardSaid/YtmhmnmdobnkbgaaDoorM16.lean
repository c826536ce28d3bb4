/-
  The contract of told where the parts are texts; texts as bytes.
  The contracts of a tag's own Write, Tag and Copy, where there is one.
-/
import Derived.Laws.IdiomStrings
import Derived.Test.YtmhmnmdobnkbgaaDoorM15
namespace Go.Proofs
open Go.RowKit Sm
/-- a text's bytes -/
def Sm.sB (s : ByteArray) : List (BitVec 8) := s.data.toList.map UInt8.toBitVec
theorem Sm.sB_length (s : ByteArray) : (sB s).length = s.size := by unfold sB; rw [List.length_map, Array.length_toList]; rfl
theorem Sm.sB_strB (l : List (BitVec 8)) : sB (strB l) = l := by
  have h : (strB l).data.toList = (l.map ib).map (fun n => UInt8.ofNat n.toNat) := by rw [← strOfNums_data]; rfl
  unfold sB
  rw [h, List.map_map, List.map_map]
  conv => rhs; rw [← List.map_id l]
  refine List.map_congr_left fun x _ => ?_
  simp [ib]
def Sm.joinS (ss : List ByteArray) : List (BitVec 8) := ss.flatMap sB
theorem Sm.joinS_snoc (ss : List ByteArray) (k : Nat) (hk : k < ss.length) : joinS (ss.take (k + 1)) = joinS (ss.take k) ++ sB ss[k] := by
  unfold joinS
  rw [List.take_succ_eq_append_getElem hk, List.flatMap_append]
  simp
structure Sm.SsOK (w : World) (g : Nat) (A : Option Addr) (n : Nat) (ss : List ByteArray) : Prop where
  len : ss.length = n
  most : n ≤ 1000000
  rd : Rds w (fun b => b = g) A (ss.map Value.string)
theorem Sm.SsOK.but {w w' : World} {g : Nat} {A : Option Addr} {n : Nat} {ss : List ByteArray} (h : SsOK w g A n ss) {S : Nat → Prop} (hb : But S w w') (hS : ∀ b, b < w.heap.size → S b → b = g) : SsOK w' g A n ss := ⟨h.len, h.most, h.rd.but (hb.mono hS) (fun _ e => e)⟩
theorem Sm.SsOK.keep {w w' : World} {g : Nat} {A : Option Addr} {n : Nat} {ss : List ByteArray} (h : SsOK w g A n ss) (hb : Below w.heap.size w w') : SsOK w' g A n ss := h.but (But.of_all hb (fun _ => False)) (fun _ _ e => e.elim)
/-- a text made into bytes -/
theorem Sm.str_conv (x : ByteArray) (w : World) (hx : x.size ≤ 1000000) : ∃ W2 cx, (convert 9 0x16 (.string x)).run Tryd.prog w = .ok (.slice (some ⟨w.heap.size, 0, none⟩) x.size cx) W2 ∧ Below w.heap.size w W2 ∧ ∀ g, g < w.heap.size → PtOK W2 g (some ⟨w.heap.size, 0, none⟩) x.size cx (sB x) := by
  refine ⟨_, _, run_bytes_of_string (P := Tryd.prog) w 9 0x16 5 x Tryd.underlying9 Tryd.underlying22 Tryd.underlying5, ((Below.refl _ w).drew).alloc (Nat.le_refl _) _, fun g hg => ?_⟩
  have hge := grownCap_ge w x.size 0 5
  have hle := grownCap_le_maxLen w x.size 0 5 (by unfold maxLen; omega)
  refine ⟨sB_length x, hge, by unfold maxLen at hle; omega, fun _ => ⟨w.heap.size, 0, rfl, by simp, by show w.heap.size ≠ g; omega, fun j v hj => ?_⟩⟩
  have hj2 : j < x.data.size := by
    have := (List.getElem?_eq_some_iff.1 hj).1
    rw [List.length_map, sB_length] at this
    exact this
  have e : (w.drew).heap.size = w.heap.size := rfl
  rw [Nat.zero_add, ← e, World.cell?_alloc_mark]
  show (bytesRow x _)[j]? = _
  rw [bytesRow_at x _ j hj2]
  unfold sB at hj
  simp only [List.map_map, List.getElem?_map, Array.getElem?_toList, Array.getElem?_eq_getElem hj2, Option.map_some, Option.some.injEq] at hj
  rw [← hj]
  rfl
set_option maxRecDepth 100000 in
set_option maxHeartbeats 4000000 in
theorem Sm.toldS_any (gm g : Nat) (O : List (BitVec 8)) (s : HS) (A : Option Addr) (n c : Nat) (ps : List ByteArray) (w : World) (h : MacAt w gm g O s) (hg : 4 ≤ g) (ht : Tabs w) (hps : SsOK w g A n ps) (hp : s.p + s.cur.length + (joinS ps).length ≤ 100000) :
    Calls Tryd.prog 68 #[.pointer (some ⟨gm, 0, none⟩), .slice A n c] w fun e w' => e = .returned (.agg (bvs (hashW 32 [] (O ++ sumS (takeS s (joinS ps)))))) ∧ MacAt w' gm g O (takeS s (joinS ps)) ∧ But (fun b => b = g) w w' := by
  obtain ⟨W1, hW1⟩ : ∃ W1, w.alloc (.cells (bvs (List.replicate 32 0#8)) 0x1b) = W1 := ⟨_, rfl⟩
  have hb1 : Below w.heap.size w W1 := by rw [← hW1]; exact (Below.refl _ w).alloc (Nat.le_refl _) _
  have ht1 : TdAt w W1 gm g O (takeS s (joinS (ps.take 0))) := by
    have e : joinS (ps.take 0) = [] := rfl
    rw [e, takeS_nil s h.cur]
    exact ⟨by rw [← hW1]; exact Blk.new w 0x1b _, h.keep hb1, ht.keep hb1, But.of_all hb1 _, h.lt⟩
  have hps1 := hps.keep hb1
  have hnm := hps.most
  have hcn := takeS_count s (joinS ps)
  obtain ⟨f, hf⟩ : ∃ f, takeS s (joinS ps) = f := ⟨_, rfl⟩
  rw [hf] at hcn ⊢
  have hfp : f.p ≤ 1000000000 := by omega
  have hen : ∀ v, TdAt w v gm g O f → Calls Tryd.prog 65 #[.agg #[.pointer (some ⟨g, 0, none⟩)]] v fun e w' => ∃ A c, e = .returned (.slice A 32 c) ∧ 32 ≤ c ∧ c ≤ 9223372036854775807 ∧ Rd w' w'.heap.size A (sumS f) ∧ Below v.heap.size v w' := fun v hv => inEnd_any g f v hv.m0.h hv.m0.cur hv.t hfp
  have hdl : (sumS f).length = 32 := sumS_length f
  obtain ⟨DI, hDI⟩ : ∃ DI, sumS f = DI := ⟨_, rfl⟩
  rw [hDI] at hdl ⊢
  simp only [hDI] at hen
  have hol := h.len
  have hDl : (hashW 32 [] (O ++ DI)).length = 32 := hashW_length _ _ _
  have hsm : ∀ (A : Option Addr) (ps2 : List Pt) (v : World), joinP ps2 = O ++ DI → (∀ g', v.heap.size ≤ g' → PsOK v g' A 2 ps2) → Tabs v → Calls Tryd.prog 64 #[.slice A 2 2] v fun e w' => e = .returned (.agg (bvs (hashW 32 [] (O ++ DI)))) ∧ Below v.heap.size v w' := fun A ps2 v hj hps2 ht2 => by
    have := Sum_any A 2 2 ps2 v hps2 (Nat.le_refl _) ht2 (by rw [hj, List.length_append, hol, hdl]; decide)
    rw [hj] at this
    exact this
  obtain ⟨D, hD⟩ : ∃ D, hashW 32 [] (O ++ DI) = D := ⟨_, rfl⟩
  rw [hD] at hDl ⊢
  simp only [hD] at hsm
  have HEN := Lib.hid hen
  have HSM := Lib.hid hsm
  have HDL := Lib.hid (And.intro hdl hol)
  have HD32 := Lib.hid hDl
  have HFS := Lib.hid hf
  have HW := Lib.hid hW1
  have H1 := Lib.hid (And.intro ht1 hps1)
  have HP := Lib.hid hps
  have HG := Lib.hid (And.intro hg hp)
  clear hW1 hb1 ht1 hps1 hps hg hp ht h hcn hf hfp hen hdl hDI hol hDl hsm hD
  go_enter Tryd.func68, Tryd.ntmps68
  go_upto_region 1 with fail
  rw [zu32_eq, HW.out]
  go_wp2_with fail
  go_loopw [9] (fun s9 wr => ∃ k : Nat, k ≤ n ∧ s9 = .int .i64 (k : Int) ∧ Hid (TdAt w wr gm g O (takeS s (joinS (ps.take k))) ∧ SsOK wr g A n ps)) (fun s9 _ => n - (intOf s9).toNat)
  case atStart => exact ⟨0, Nat.zero_le _, rfl, H1⟩
  case round =>
    obtain ⟨wo, rfl⟩ : ∃ wo : World, wo = wr := ⟨_, rfl⟩
    obtain ⟨k, hk, rfl, HQ⟩ := hrel
    clear H1
    by_cases hlt : k < n
    · have hkl : k < ps.length := by rw [HP.out.len]; exact hlt
      obtain ⟨bo, off, rfl, _, _, hcell⟩ := HQ.out.2.rd (by rw [List.length_map]; omega)
      have hc0 := hcell k (.string ps[k]) (by rw [List.getElem?_map, List.getElem?_eq_getElem hkl]; rfl)
      have hsn := joinS_snoc ps k hkl
      have hpt := HQ.out.1.m0.ptr
      have hcnt := takeS_count s (joinS (ps.take k))
      have hll : (joinS (ps.take (k + 1))).length ≤ (joinS ps).length := by
        have e : joinS ps = joinS (ps.take (k + 1)) ++ joinS (ps.drop (k + 1)) := by
          unfold joinS
          rw [← List.flatMap_append, List.take_append_drop]
        rw [e, List.length_append]; omega
      obtain ⟨x, hpe⟩ : ∃ x, ps[k] = x := ⟨_, rfl⟩
      rw [hpe] at hc0 hsn
      rw [hsn, List.length_append] at hll
      have hc : wo.cell? ⟨bo, off + k, none⟩ = some (.string x) := hc0
      obtain ⟨W2, cx, hcv, hb2, hpx⟩ := str_conv x wo (by have h1 := sB_length x; have h2 := HG.out.2; omega)
      have hpk := hpx g HQ.out.1.m0.lt.2
      have hT2 := HQ.out.1.keep hb2
      have htk := inTake_any g (takeS s (joinS (ps.take k))) (some ⟨wo.heap.size, 0, none⟩) x.size cx (sB x) W2 hT2.m0.h hT2.m0.cur hpk HG.out.1 hT2.t (by rw [List.length_append]; have := HG.out.2; omega)
      rw [takeS_takeS, ← hsn] at htk
      have HTK := Lib.hid htk
      have HSN := Lib.hid hsn
      have HT2 := Lib.hid (And.intro hT2 hb2)
      clear htk hsn hcell hpk hcnt hll hpe hc0 hpx hT2 hb2
      go_wp2_with (go_at_call 44; (with_reducible refine HTK.out.mono ?_); rintro e w2 ⟨⟨v2, rfl⟩, hh2, hbt2⟩)
      go_roundw
      case rel =>
        refine ⟨k + 1, by omega, by go_num, Lib.hid ⟨?_, (HQ.out.2.keep HT2.out.2).but hbt2 (fun _ _ e => e)⟩⟩
        have h3 := HT2.out.1.write (l := sB x) HG.out.1 hbt2 (by rw [takeS_takeS, ← HSN.out]; exact hh2)
        rw [takeS_takeS, ← HSN.out] at h3
        exact h3
      case measure => simp [intOf]; omega
    · obtain rfl : k = n := by omega
      have hall : ps.take k = ps := List.take_of_length_le (by rw [HP.out.len]; exact Nat.le_refl _)
      have hT := HQ.out.1
      rw [hall, HFS.out] at hT
      have HT := Lib.hid hT
      clear hall hT HQ HP HG HW
      go_upto_region 6 with fail
      have hS0 : wo.drew.cell? ⟨gm, 0, none⟩ = some (.pointer (some ⟨g, 0, none⟩)) := HT.out.m0.ptr
      have hsl := slice73_all gm 1
      refine wp_region_held_drew (S := fun wx => wx.cell? ⟨gm, 0, none⟩ = some (.pointer (some ⟨g, 0, none⟩))) rfl hS0 (fun hHeld => ?_)
      simp only [List.size_toArray, List.length_cons, List.length_nil, Nat.reduceAdd]
      have HT7 := Lib.hid (HT.out.drew)
      obtain ⟨W7, hW7⟩ : ∃ W, wo.drew = W := ⟨_, rfl⟩
      rw [hW7] at HT7 hS0 hHeld ⊢
      clear hW7
      refine wpAnyH_take (i := 0) (v := .pointer (some ⟨gm, 0, none⟩)) rfl (by kernel_rfl) (by kernel_rfl) (by kernel_rfl) (fun _ _ _ h => h) (Or.inl ⟨by rfl, ?_⟩) (by assumption) ?_
      · intro wx hs1
        go_simp
      try simp only [Act.put]
      refine wpAnyH_take (i := 1) (v := .pointer (some ⟨gm, 0, none⟩)) rfl (by kernel_rfl) (by kernel_rfl) (by kernel_rfl) (fun _ _ _ h => h) (Or.inl ⟨by rfl, ?_⟩) (by assumption) ?_
      · intro wx hs1
        go_simp
      try simp only [Act.put]
      refine wpAnyH_take (i := 2) (v := .pointer (some ⟨gm, 1, none⟩)) rfl (by kernel_rfl) (by kernel_rfl) (by kernel_rfl) (fun _ _ _ h => h) (Or.inl ⟨by rfl, ?_⟩) (by assumption) ?_
      · intro wx hs1
        go_simp
      try simp only [Act.put]
      refine wpAnyH_take (i := 3) (v := .slice (some ⟨gm, 1, none⟩) 64 64) rfl (by kernel_rfl) (by kernel_rfl) (by kernel_rfl) (fun _ _ _ h => h) (Or.inl ⟨by rfl, ?_⟩) (by assumption) ?_
      · intro wx hs1
        go_simp
      try simp only [Act.put]
      refine wpAnyH_take (i := 4) (v := .pointer (some ⟨gm, 0, none⟩)) rfl (by kernel_rfl) (by kernel_rfl) (by kernel_rfl) (fun _ _ _ h => h) (Or.inl ⟨by rfl, ?_⟩) (by assumption) ?_
      · intro wx hs1
        go_simp
      try simp only [Act.put]
      refine wpAnyH_take (i := 5) (v := .pointer (some ⟨gm, 0, none⟩)) rfl (by kernel_rfl) (by kernel_rfl) (by kernel_rfl) (fun _ _ _ h => h) (Or.inl ⟨by rfl, ?_⟩) (by assumption) ?_
      · intro wx hs1
        go_simp
      try simp only [Act.put]
      refine wpAnyH_take (i := 6) (v := .pointer (some ⟨gm, 0, none⟩)) rfl (by kernel_rfl) (by kernel_rfl) (by kernel_rfl) (fun _ _ _ h => h) (Or.inl ⟨by rfl, ?_⟩) (by assumption) ?_
      · intro wx hs1
        go_simp
      try simp only [Act.put]
      refine wpAnyH_take (i := 7) (v := .agg #[.pointer (some ⟨g, 0, none⟩)]) rfl (by kernel_rfl) (by kernel_rfl) (by kernel_rfl) (fun _ _ _ h => h) (Or.inl ⟨by rfl, ?_⟩) (by assumption) ?_
      · intro wx hs1
        go_simp
      try simp only [Act.put]
      refine wpAnyH_ready (rs := [8]) (by kernel_rfl) (by simp) (AllReadyH.cons rfl (fun K hK => ?_) AllReadyH.nil)
      go_simp
      go_at_call 65
      (with_reducible refine (HEN.out _ HT7.out).mono ?_)
      rintro e w8 ⟨A8, c8, rfl, hc8, hm8, hr8, hb8⟩
      have HT8 := Lib.hid (HT7.out.keep hb8)
      refine hK.out _ _ HT8.out.m0.ptr (fun hHeld => ?_)
      clear hK K
      try simp only [Act.put]
      refine wpAnyH_ready (rs := [9]) (by kernel_rfl) (by simp) (AllReadyH.cons rfl (fun K hK => ?_) AllReadyH.nil)
      go_simp
      have hrow : Blk (w8.alloc (.cells #[.slice (some ⟨gm, 1, none⟩) 64 64, .slice A8 32 c8] 0x16)) w8.heap.size 0x16 ([(⟨some ⟨gm, 1, none⟩, 64, 64, O⟩ : Pt), ⟨A8, 32, c8, DI⟩].map Pt.val).toArray := row_new w8 [⟨some ⟨gm, 1, none⟩, 64, 64, O⟩, ⟨A8, 32, c8, DI⟩]
      have hb9 : Below w8.heap.size w8 (w8.alloc (.cells #[.slice (some ⟨gm, 1, none⟩) 64 64, .slice A8 32 c8] 0x16)) := (Below.refl _ _).alloc (Nat.le_refl _) _
      have HT9 := Lib.hid (HT8.out.keep hb9)
      have hsum := HSM.out (some ⟨w8.heap.size, 0, none⟩) [⟨some ⟨gm, 1, none⟩, 64, 64, O⟩, ⟨A8, 32, c8, DI⟩] _ (by simp [joinP]) (fun g' hg' => parts_ok hrow hb9 rfl (by show 2 ≤ 1000000; decide) g' (by have := hrow.lt; omega) (fun p hp => by
        simp only [List.mem_cons, List.not_mem_nil, or_false] at hp
        rcases hp with rfl | rfl
        · exact pt_of_rd HDL.out.2 (Nat.le_refl _) (by decide) HT8.out.m0.rd g' (Nat.le_trans hb9.size hg')
        · exact pt_of_rd HDL.out.1 hc8 hm8 hr8 g' (Nat.le_trans hb9.size hg'))) HT9.out.t
      obtain ⟨W9, hW9⟩ : ∃ W, w8.alloc (.cells #[.slice (some ⟨gm, 1, none⟩) 64 64, .slice A8 32 c8] 0x16) = W := ⟨_, rfl⟩
      rw [hW9] at hsum HT9 ⊢
      have HSUM := Lib.hid hsum
      clear hW9 hrow hb9 hsum
      refine hK.out _ _ HT9.out.m0.ptr (fun hHeld => ?_)
      clear hK K
      try simp only [Act.put]
      refine wpAnyH_ready (rs := [10]) (by kernel_rfl) (by simp) (AllReadyH.cons rfl (fun K hK => ?_) AllReadyH.nil)
      go_simp
      go_at_call 64
      (with_reducible refine HSUM.out.mono ?_)
      rintro e w10 ⟨rfl, hb10⟩
      have HT10 := Lib.hid (HT9.out.keep hb10)
      refine hK.out _ _ HT10.out.m0.ptr (fun hHeld => ?_)
      clear hK K
      try simp only [Act.put]
      refine wpAnyH_ready (rs := [11]) (by kernel_rfl) (by simp) (AllReadyH.cons rfl (fun K hK => ?_) AllReadyH.nil)
      rw [if_pos (by rfl)]
      refine wp_store_row 0x1b _ _ rfl w.heap.size (bvs D) rfl rfl 0x1b (bvs (List.replicate 32 0#8)) HT10.out.r (i36 D HD32.out) (by rw [bvs_size, bvs_size, HD32.out]; rfl) (bvs_one D) ?_
      have HT11 := Lib.hid (HT10.out.set HD32.out)
      refine hK.out _ _ HT11.out.1.ptr (fun hHeld => ?_)
      clear hK K
      try simp only [Act.put]
      refine wpAnyH_done (by kernel_rfl) ?_ _
      go_wp2_with fail
      refine bodyPost_ret (results_cell_row rfl _ _ w.heap.size 0x1b (bvs D) (0, 0) _ rfl HT11.out.2.1 Tryd.underlying27 rfl (i36 D HD32.out)) rfl ⟨rfl, HT11.out.1, HT11.out.2.2⟩
end Go.Proofs
namespace Go.Proofs
open Go.RowKit Sm
theorem Sm.MacAt.range (w : World) {gm g : Nat} {O : List (BitVec 8)} {s : HS} (h : MacAt w gm g O s) : w.rangeAt gm 1 (O.map byteCell) := by
  have := range_of (A := [Value.pointer (some ⟨g, 0, none⟩)]) (B := O.map byteCell) (C := []) (t := 0x34) (g := gm) (w := w) (by simpa using h.m)
  simpa using this
theorem Sm.i73m (l : List (BitVec 8)) (h : l.length = 64) : (Tryd.prog.info? 0x32).map (·.size) = some (l.map byteCell).length := by rw [List.length_map, h]; kernel_rfl
set_option maxRecDepth 100000 in
set_option maxHeartbeats 2000000 in
theorem Sm.macWrite_any (gm g : Nat) (O : List (BitVec 8)) (s : HS) (A : Option Addr) (n c : Nat) (l : List (BitVec 8)) (w : World) (h : MacAt w gm g O s) (hpt : PtOK w g A n c l) (hg : 4 ≤ g) (ht : Tabs w) (hp : s.p + (s.cur ++ l).length ≤ 1000000000) :
    Calls Tryd.prog 23 #[.pointer (some ⟨gm, 0, none⟩), .slice A n c] w fun e w' => e = .returned (.int .i64 0) ∧ MacAt w' gm g O (takeS s l) ∧ But (fun b => b = g) w w' := by
  have hth := macThere_yes gm g O s w h
  have htk := inTake_any g s A n c l w h.h h.cur hpt hg ht hp
  have hc := h.ptr
  have HT := Lib.hid hth
  have HK := Lib.hid htk
  have HM := Lib.hid h
  clear hth htk h hpt hg ht hp
  go_enter Tryd.func23, Tryd.ntmps23
  go_wp2_with (first
    | (go_at_call 45; (with_reducible refine HT.out.mono ?_); rintro e w' ⟨rfl, rfl⟩)
    | (go_at_call 44; (with_reducible refine HK.out.mono ?_); rintro e w2 ⟨⟨v2, rfl⟩, hh2, hbt2⟩))
  go_ret
  exact ⟨rfl, HM.out.write hbt2 hh2, hbt2⟩
set_option maxRecDepth 100000 in
set_option maxHeartbeats 2000000 in
theorem Sm.macTag_any (gm g : Nat) (O : List (BitVec 8)) (s : HS) (w : World) (h : MacAt w gm g O s) (hg : 4 ≤ g) (ht : Tabs w) (hp : s.p + s.cur.length ≤ 90000) :
    Calls Tryd.prog 24 #[.pointer (some ⟨gm, 0, none⟩)] w fun e w' => ∃ R, e = .returned (.slice (some ⟨R, 0, none⟩) 32 32) ∧ w.heap.size ≤ R ∧ Blk w' R 0x1b (bvs (hashW 32 [] (O ++ sumS s))) ∧ MacAt w' gm g O s ∧ But (fun b => b = g) w w' := by
  have hth := macThere_yes gm g O s w h
  have htd := told_any gm g O s none 0 0 [] w h hg ht (ps_nil w g) (by have e : joinP [] = [] := rfl; rw [e]; simp; omega)
  have e : joinP [] = [] := rfl
  rw [e, takeS_nil s h.cur] at htd
  have hTl : (hashW 32 [] (O ++ sumS s)).length = 32 := hashW_length _ _ _
  obtain ⟨T, hT⟩ : ∃ T, hashW 32 [] (O ++ sumS s) = T := ⟨_, rfl⟩
  rw [hT] at htd hTl ⊢
  have hsl := fun R => slice33_all R
  have hlt := h.lt
  have HT := Lib.hid hth
  have HD := Lib.hid htd
  have HTL := Lib.hid hTl
  have HSL := Lib.hid hsl
  have HLT := Lib.hid hlt
  clear hth htd hT hTl hsl h hg ht hp e hlt
  go_enter Tryd.func24, Tryd.ntmps24
  go_upto_region 4 with (first
    | (go_at_call 45; (with_reducible refine HT.out.mono ?_); rintro e w' ⟨rfl, rfl⟩)
    | (go_at_call 37; (with_reducible refine HD.out.mono ?_); rintro e w2 ⟨rfl, hm2, hbt2⟩)
    | (refine wpList_store_row rfl 0x1b _ _ rfl w2.heap.size (bvs T) rfl rfl 0x1b (bvs (List.replicate 32 0#8)) (World.alloc_heap_new w2 _) (i36 T HTL.out) (by rw [bvs_size, bvs_size, HTL.out]; rfl) (bvs_one T) ?_))
  rw [zu32_eq]
  obtain ⟨W3, hW3⟩ : ∃ W3, (w2.alloc (.cells (bvs (List.replicate 32 0#8)) 0x1b)).setRow w2.heap.size (bvs T) = W3 := ⟨_, rfl⟩
  obtain ⟨R, hR⟩ : ∃ R, w2.heap.size = R := ⟨_, rfl⟩
  have hB3 : Blk W3 R 0x1b (bvs T) := by rw [← hW3, ← hR]; exact setRow_heap _ _ _ _ _ _ (World.alloc_heap_new w2 _)
  have hb23 : Below w2.heap.size w2 W3 := by rw [← hW3]; exact below_setRow ((Below.refl _ w2).alloc (Nat.le_refl _) _) (Nat.le_refl _) _
  have hm3 := hm2.keep hb23
  have hbt3 : But (fun b => b = g) w W3 := hbt2.trans (But.of_all hb23 (fun b => b = g)) (fun _ _ e => e)
  have hRs : w.heap.size ≤ R := by rw [← hR]; exact hbt2.size
  rw [hW3, hR]
  have hsl := HSL.out R
  have H3 := Lib.hid (And.intro hB3 (And.intro hm3 (And.intro hbt3 hRs)))
  clear hW3 hR hB3 hb23 hm3 hbt3 hRs hm2 hbt2 HD HT HSL
  go_wp2_with fail
  go_ret
  exact ⟨R, rfl, H3.out.2.2.2, H3.out.1, H3.out.2.1, H3.out.2.2.1⟩
set_option maxRecDepth 100000 in
set_option maxHeartbeats 2000000 in
theorem Sm.macCopy_any (gm g : Nat) (O : List (BitVec 8)) (s : HS) (w : World) (h : MacAt w gm g O s) :
    Calls Tryd.prog 25 #[.pointer (some ⟨gm, 0, none⟩)] w fun e w' => ∃ gm2 g2, e = .returned (.pointer (some ⟨gm2, 0, none⟩)) ∧ w.heap.size ≤ gm2 ∧ w.heap.size ≤ g2 ∧ MacAt w' gm2 g2 O s ∧ Below w.heap.size w w' := by
  have hth := macThere_yes gm g O s w h
  have hcp : ∀ v, HsAt v g s 32 0 → Calls Tryd.prog 46 #[.pointer (some ⟨g, 0, none⟩)] v fun e w' => ∃ g2, e = .returned (.pointer (some ⟨g2, 0, none⟩)) ∧ v.heap.size ≤ g2 ∧ HsAt w' g2 s 32 0 ∧ Below v.heap.size v w' := fun v hv => Copy_any g s 32 0 v hv (by decide)
  have hz75 := (zero_of_info z75).1
  have hzl := z64_length
  have hol := h.len
  have hcu := h.cur
  have hszO : (bvs O).size = 64 := by rw [bvs_size, hol]
  have hfo := fun p => fold75 O hol p 64 rfl
  have hfo2 := fun p => fold75 O hol p (bvs O).size hszO
  have HT := Lib.hid hth
  have HC := Lib.hid hcp
  have HM := Lib.hid h
  have HOL := Lib.hid (And.intro hol hcu)
  clear hth hcp h hol hcu
  go_enter Tryd.func25, Tryd.ntmps25
  go_upto_region 3 with (go_at_call 45; (with_reducible refine HT.out.mono ?_); rintro e w' ⟨rfl, rfl⟩)
  have HM7 := Lib.hid (HM.out.drew)
  have hbd : Below w.heap.size w w.drew := (Below.refl _ _).drew
  obtain ⟨W7, hW7⟩ : ∃ W, w.drew = W := ⟨_, rfl⟩
  have hS0 : w.drew.cell? ⟨gm, 0, none⟩ = some (.pointer (some ⟨g, 0, none⟩)) ∧ w.drew.rangeAt gm 1 (O.map byteCell) := ⟨HM7.out.ptr, HM7.out.range⟩
  refine wp_region_held_drew (S := fun wx => wx.cell? ⟨gm, 0, none⟩ = some (.pointer (some ⟨g, 0, none⟩)) ∧ wx.rangeAt gm 1 (O.map byteCell)) rfl hS0 (fun hHeld => ?_)
  simp only [List.size_toArray, List.length_cons, List.length_nil, Nat.reduceAdd]
  rw [hW7] at HM7 hS0 hHeld hbd ⊢
  clear hW7
  refine wpAnyH_take (i := 0) (v := .pointer (some ⟨gm, 0, none⟩)) rfl (by kernel_rfl) (by kernel_rfl) (by kernel_rfl) (fun _ _ _ h => h) (Or.inl ⟨by rfl, ?_⟩) (by assumption) ?_
  · intro wx hSw
    obtain ⟨hs1, hs2⟩ := hSw
    go_simp
  try simp only [Act.put]
  refine wpAnyH_take (i := 1) (v := .pointer (some ⟨gm, 0, none⟩)) rfl (by kernel_rfl) (by kernel_rfl) (by kernel_rfl) (fun _ _ _ h => h) (Or.inl ⟨by rfl, ?_⟩) (by assumption) ?_
  · intro wx hSw
    obtain ⟨hs1, hs2⟩ := hSw
    go_simp
  try simp only [Act.put]
  refine wpAnyH_take (i := 2) (v := .pointer (some ⟨gm, 0, none⟩)) rfl (by kernel_rfl) (by kernel_rfl) (by kernel_rfl) (fun _ _ _ h => h) (Or.inl ⟨by rfl, ?_⟩) (by assumption) ?_
  · intro wx hSw
    obtain ⟨hs1, hs2⟩ := hSw
    go_simp
  try simp only [Act.put]
  refine wpAnyH_take (i := 3) (v := .pointer (some ⟨gm, 0, none⟩)) rfl (by kernel_rfl) (by kernel_rfl) (by kernel_rfl) (fun _ _ _ h => h) (Or.inl ⟨by rfl, ?_⟩) (by assumption) ?_
  · intro wx hSw
    obtain ⟨hs1, hs2⟩ := hSw
    go_simp
  try simp only [Act.put]
  refine wpAnyH_take (i := 4) (v := .pointer (some ⟨g, 0, none⟩)) rfl (by kernel_rfl) (by kernel_rfl) (by kernel_rfl) (fun _ _ _ h => h) (Or.inl ⟨by rfl, ?_⟩) (by assumption) ?_
  · intro wx hSw
    obtain ⟨hs1, hs2⟩ := hSw
    go_simp
  try simp only [Act.put]
  refine wpAnyH_take (i := 7) (v := .pointer (some ⟨gm, 0, none⟩)) rfl (by kernel_rfl) (by kernel_rfl) (by kernel_rfl) (fun _ _ _ h => h) (Or.inl ⟨by rfl, ?_⟩) (by assumption) ?_
  · intro wx hSw
    obtain ⟨hs1, hs2⟩ := hSw
    go_simp
  try simp only [Act.put]
  refine wpAnyH_take (i := 8) (v := .pointer (some ⟨gm, 0, none⟩)) rfl (by kernel_rfl) (by kernel_rfl) (by kernel_rfl) (fun _ _ _ h => h) (Or.inl ⟨by rfl, ?_⟩) (by assumption) ?_
  · intro wx hSw
    obtain ⟨hs1, hs2⟩ := hSw
    go_simp
  try simp only [Act.put]
  refine wpAnyH_take (i := 9) (v := .pointer (some ⟨gm, 1, none⟩)) rfl (by kernel_rfl) (by kernel_rfl) (by kernel_rfl) (fun _ _ _ h => h) (Or.inl ⟨by rfl, ?_⟩) (by assumption) ?_
  · intro wx hSw
    obtain ⟨hs1, hs2⟩ := hSw
    go_simp
  try simp only [Act.put]
  refine wpAnyH_take (i := 10) (v := .agg (bvs O)) rfl (by kernel_rfl) (by kernel_rfl) (by kernel_rfl) (fun _ _ _ h => h) (yieldsIf_load_mid (by rfl) 0x32 _ rfl gm 1 rfl (O.map byteCell) _ (fun wx hSw => hSw.2) Tryd.underlying50 rfl (i73m O HOL.out.1)) (by assumption) ?_
  try simp only [Act.put]
  refine wpAnyH_ready (rs := [5]) (by kernel_rfl) (by simp) (AllReadyH.cons rfl (fun K hK => ?_) AllReadyH.nil)
  go_simp
  go_at_call 46
  (with_reducible refine (HC.out _ HM7.out.h).mono ?_)
  rintro e w8 ⟨g2, rfl, hg2, hh2, hb8⟩
  have HM8 := Lib.hid (HM7.out.keep hb8)
  refine hK.out _ _ ⟨HM8.out.ptr, HM8.out.range⟩ (fun hHeld => ?_)
  clear hK K
  try simp only [Act.put]
  refine wpAnyH_ready (rs := [6]) (by kernel_rfl) (by simp) (AllReadyH.cons rfl (fun K hK => ?_) AllReadyH.nil)
  go_simp
  refine hK.out _ _ ⟨HM8.out.ptr, HM8.out.range⟩ (fun hHeld => ?_)
  clear hK K
  try simp only [Act.put]
  refine wpAnyH_ready (rs := [11]) (by kernel_rfl) (by simp) (AllReadyH.cons rfl (fun K hK => ?_) AllReadyH.nil)
  go_simp
  refine hK.out _ _ ⟨HM8.out.ptr, HM8.out.range⟩ (fun hHeld => ?_)
  clear hK K
  try simp only [Act.put]
  refine wpAnyH_ready (rs := [12]) (by kernel_rfl) (by simp) (AllReadyH.cons rfl (fun K hK => ?_) AllReadyH.nil)
  go_simp
  have hb9 : Below w8.heap.size w8 (w8.alloc (.cells (Value.pointer (some ⟨g2, 0, none⟩) :: O.map byteCell).toArray 0x34)) := (Below.refl _ _).alloc (Nat.le_refl _) _
  have HM9 := Lib.hid (HM8.out.keep hb9)
  refine hK.out _ _ ⟨HM9.out.ptr, HM9.out.range⟩ (fun hHeld => ?_)
  clear hK K
  try simp only [Act.put]
  refine wpAnyH_ready (rs := [13]) (by kernel_rfl) (by simp) (AllReadyH.cons rfl (fun K hK => ?_) AllReadyH.nil)
  go_simp
  refine hK.out _ _ ⟨HM9.out.ptr, HM9.out.range⟩ (fun hHeld => ?_)
  clear hK K
  try simp only [Act.put]
  refine wpAnyH_done (by kernel_rfl) ?_ _
  have hne : w8.heap.size ≠ g2 := by have := hh2.lt; omega
  have H9 : MacAt (w8.alloc (.cells (Value.pointer (some ⟨g2, 0, none⟩) :: O.map byteCell).toArray 0x34)) w8.heap.size g2 O s := ⟨Blk.new w8 0x34 _, hh2.keep hb9, HOL.out.1, hne, HOL.out.2⟩
  have hbf := hbd.trans (hb8.mono hbd.size)
  have HF := Lib.hid (And.intro H9 (And.intro hbf (And.intro hb9 (And.intro hg2 hb8.size))))
  clear hne H9 hbf hb9 hg2 hh2 hb8
  go_wp2_with fail
  go_ret
  have h1 := HF.out.2.1.size
  have h2 := hbd.size
  exact ⟨_, g2, rfl, by have := HF.out.2.2.2.2; omega, by have := HF.out.2.2.2.1; omega, HF.out.1, HF.out.2.1.trans (HF.out.2.2.1.mono h1)⟩
end Go.Proofs
