/-
  The iterator over keys, round by round. Conditions: what the theorems name.
-/
import Derived.Test.YtbojnblececnhaaGreatDoorQ16
import Derived.Test.YtbojnblececnhaaGreatDoorQ17
import Derived.Test.YtbojnblececnhaaGreatDoorQ13
namespace Go.Proofs
open Go.RowKit Sm
attribute [local go_sem] Oper.semAt_some
theorem Sm.toldK_any (gm g : Nat) (key b : List (BitVec 8)) (A : Option Addr) (n c : Nat) (ps : List ByteArray) (w : World) (h : MacK w gm g key b) (hg : 4 ≤ g) (ht : Tabs w) (hps : SsOK w g A n ps) (hp : b.length + (joinS ps).length ≤ 80000) :
    Calls Tryz.prog 102 #[.pointer (some ⟨gm, 0, none⟩), .slice A n c] w fun e w' => e = .returned (.agg (bvs (tagS key (b ++ joinS ps)))) ∧ But (fun b => b = g) w w' := by
  have hc := takeS_count (inS key) b
  rw [inS_count] at hc
  have := toldS_any gm g (outH key) (takeS (inS key) b) A n c ps w h hg ht hps (by omega)
  rw [takeS_takeS, tag_eq] at this
  exact this.mono fun _ _ ⟨a, _, b⟩ => ⟨a, b⟩
theorem Sm.Blk.setRowNe {w : World} {b p : Nat} {t : TypeId} {cs : Array Value} (h : Blk w b t cs) (hne : b ≠ p) {xs : Array Value} : Blk (w.setRow p xs) b t cs := (setRow_other _ _ _ _ hne).trans h
/-- what the iterator over keys has captured -/
structure Sm.CapK (w : World) (Bm Bl gm g : Nat) (key : List (BitVec 8)) (lb : ByteArray) : Prop where
  mb : Blk w Bm 0x8a #[.pointer (some ⟨gm, 0, none⟩)]
  lbx : Blk w Bl 9 #[.string lb]
  mac : MacK w gm g key []
theorem Sm.CapK.keep {w w' : World} {Bm Bl gm g : Nat} {key : List (BitVec 8)} {lb : ByteArray} (h : CapK w Bm Bl gm g key lb) (hb : Below w.heap.size w w') : CapK w' Bm Bl gm g key lb := ⟨h.mb.keep hb, h.lbx.keep hb, h.mac.keep hb⟩
/-- with what key k is told -/
def Sm.HK (key lb : List (BitVec 8)) (_L k : Nat) (args : Array Value) (_W : World) : Prop := k < 255 ∧ args = #[.agg (bvs (lastK key lb (k + 1)))]
/-- what may turn while the iterator runs -/
def Sm.MayK (X : Nat → Prop) (N : Nat) : Nat → Prop := fun b => X b ∨ N ≤ b
/-- the blocks that the rounds may turn are none of the iterator's -/
def Sm.FarK (X : Nat → Prop) (w : World) (Bm Bl gm g : Nat) : Prop := ∀ b, X b → 4 ≤ b ∧ b < w.heap.size ∧ b ≠ Bm ∧ b ≠ Bl ∧ b ≠ gm ∧ b ≠ g
theorem Sm.CapK.but {X : Nat → Prop} {w w' : World} {Bm Bl gm g : Nat} {key : List (BitVec 8)} {lb : ByteArray} (h : CapK w Bm Bl gm g key lb) (hX : FarK X w Bm Bl gm g) (hb : But (MayK X w.heap.size) w w') : CapK w' Bm Bl gm g key lb := by
  have h1 := h.mb.lt
  have h2 := h.lbx.lt
  have h3 := h.mac.lt
  refine ⟨h.mb.but hb ?_, h.lbx.but hb ?_, h.mac.but hb ?_ ?_⟩ <;> (rintro (e | e); have := hX _ e; omega; omega)
theorem Sm.Tabs.mayK {X : Nat → Prop} {w w' : World} {Bm Bl gm g : Nat} (h : Tabs w) (hX : FarK X w Bm Bl gm g) (hb : But (MayK X w.heap.size) w w') : Tabs w' :=
  h.below (n := 4) (hb.to_below h.size (fun b e => by
    have := h.size
    rcases e with e | e
    · exact (hX b e).1
    · omega)) (Nat.le_refl _)
/-- how all stands at the head of a round -/
structure Sm.KrAt (X : Nat → Prop) (J : Nat → World → Prop) (w wr : World) (L k : Nat) : Prop where
  j : J k wr
  keep : But (MayK X w.heap.size) w wr
  far : L ≤ wr.heap.size
theorem Sm.conv_one {w : World} {b : Nat} {x : BitVec 8} (h : Blk w b 5 #[.int .u8 (ib x)]) : (convert 0x38 9 (.slice (some ⟨b, 0, none⟩) 1 1)).run Tryz.prog w = .ok (.string (strB [x])) w :=
  conv_rd (l := [x]) rfl fun _ => ⟨b, 0, rfl, h.lt, fun j c hj => by
    rw [Nat.zero_add, h.cell]
    rcases j with _ | j <;> simp at hj <;> subst hj <;> rfl⟩
set_option maxRecDepth 100000 in
set_option maxHeartbeats 8000000 in
theorem Sm.keys_seq (Bm Bl gm g : Nat) (key : List (BitVec 8)) (lb : ByteArray) (w : World) (X : Nat → Prop) (hcap : CapK w Bm Bl gm g key lb) (hX : FarK X w Bm Bl gm g) (ht : Tabs w) (hlb : lb.size ≤ 1000) :
    SeqX Tryz.prog 101 #[.pointer (some ⟨Bm, 0, none⟩), .pointer (some ⟨Bl, 0, none⟩)] X (HK key (sB lb)) rowB (fun _ => True) (fun k => k = 255) (fun _ => True) w := by
  intro L0 J Jx W hW hJ hJx hY hJ0
  obtain ⟨L, hL⟩ : ∃ L, W.heap.size = L := ⟨_, rfl⟩
  rw [hL] at hJ hJx hY
  show Calls Tryz.prog 101 #[.func (.yield L0) #[] #[], .pointer (some ⟨Bm, 0, none⟩), .pointer (some ⟨Bl, 0, none⟩)] W _
  have hwL : w.heap.size ≤ L := by rw [← hL]; exact hW.size
  have hR0 : KrAt X J w W L 0 := ⟨hJ0, (But.of_below hW).mono (fun b _ e => .inr e), by omega⟩
  have HX := Lib.hid hX
  have HCAP := Lib.hid hcap
  have HTT := Lib.hid ht
  have HL := Lib.hid hL
  have HR0 := Lib.hid hR0
  clear hcap hX hL hR0 hJ0 hW ht
  go_enter Tryz.func101, Tryz.ntmps101
  go_wp2_with fail
  go_loopw [4, 7] (fun s4 s7 wr => ∃ k : Nat, k ≤ 255 ∧ s7 = .int .i64 (k : Int) ∧ s4 = .string (strB (lastK key (sB lb) k)) ∧ Hid (KrAt X J w wr L k)) (fun _ s7 _ => 255 - (intOf s7).toNat)
  case atStart => exact ⟨0, by omega, rfl, rfl, HR0⟩
  case round =>
    obtain ⟨wo, rfl⟩ : ∃ wo : World, wo = wr := ⟨_, rfl⟩
    obtain ⟨k, hk, rfl, rfl, HR⟩ := hrel
    clear HR0
    by_cases hlt : k < 255
    · go_upto_region 4 with fail
      have hd8 : decide ((k : Int) < 255) = true := decide_eq_true (by omega)
      rw [hd8]
      clear hd8
      obtain ⟨la, hla⟩ : ∃ la, strB (lastK key (sB lb) k) = la := ⟨_, rfl⟩
      rw [hla]
      obtain ⟨xk, hxk⟩ : ∃ x, BitVec.ofNat 8 (k + 1) = x := ⟨_, rfl⟩
      obtain ⟨T, hT⟩ : ∃ T, lastK key (sB lb) (k + 1) = T := ⟨_, rfl⟩
      have hTl : T.length = 32 := by rw [← hT]; exact lastK_length _ _ _
      have hX : (IntKind.i64.wrap ((k : Int) + 1)) = (k : Int) + 1 := IntWalk.i64_in _ (by omega)
      have hX8 : IntKind.u8.wrap ((k : Int) + 1) = ib xk := by
        rw [← hxk]
        unfold ib
        rw [BitVec.toNat_ofNat]
        rw [u8_wrap]
        omega
      have hCV : ∀ (b : Nat) (wx : World), Blk wx b 5 #[.int .u8 (ib xk)] → (convert 0x38 9 (.slice (some ⟨b, 0, none⟩) 1 1)).run Tryz.prog wx = .ok (.string (strB [xk])) wx := fun b wx h => conv_one h
      obtain ⟨xb, hxb⟩ : ∃ s, strB [xk] = s := ⟨_, rfl⟩
      rw [hxb] at hCV
      have hTOLD : ∀ (gm2 g2 b9 : Nat) (v : World), MacK v gm2 g2 key [] → 4 ≤ g2 → Tabs v → SsOK v g2 (some ⟨b9, 0, none⟩) 3 [la, lb, xb] → Calls Tryz.prog 102 #[.pointer (some ⟨gm2, 0, none⟩), .slice (some ⟨b9, 0, none⟩) 3 3] v fun e w' => e = .returned (.agg (bvs T)) ∧ But (fun b => b = g2) v w' := by
        intro gm2 g2 b9 v h1 h2 h3 h4
        have hj : joinS [la, lb, xb] = lastK key (sB lb) k ++ sB lb ++ [xk] := by
          unfold joinS
          rw [← hla, ← hxb]
          simp [sB_strB]
        have h5 := toldK_any gm2 g2 key [] (some ⟨b9, 0, none⟩) 3 3 [la, lb, xb] v h1 h2 h3 h4 (by
          rw [hj]
          simp only [List.length_append, List.length_nil, List.length_cons, sB_length]
          have := lastK_le key (sB lb) k
          omega)
        rw [hj, List.nil_append, ← hxk] at h5
        rw [← hT]
        exact h5
      have hsz := HR.out.keep.size
      obtain ⟨V0, hV0⟩ : ∃ V, wo.drew = V := ⟨_, rfl⟩
      have hb0 : But (MayK X w.heap.size) w V0 := by rw [← hV0]; exact HR.out.keep.drew
      have hj0 : J k V0 := by rw [← hV0]; exact hJ k _ _ HR.out.j ((Below.refl _ wo).drew.mono HR.out.far)
      have hf0 : L ≤ V0.heap.size := by rw [← hV0]; exact HR.out.far
      have HTL := Lib.hid hTl
      have HTE := Lib.hid hT
      have TOLD := Lib.hid hTOLD
      have CV8 := Lib.hid hCV
      have HM0 := Lib.hid ((HCAP.out.but HX.out hb0).mac)
      have HT0 := Lib.hid (HTT.out.mayK HX.out hb0)
      have HMB := Lib.hid ((HCAP.out.but HX.out hb0).mb)
      have HLB := Lib.hid ((HCAP.out.but HX.out hb0).lbx)
      have HJ0 := Lib.hid hj0
      have HB0 := Lib.hid hb0
      clear hla hxk hT hTl hCV hxb hTOLD hsz hb0 hj0 HR
      go_cut [6] from 10 to 20 (fun s6 wx => ∃ p : Nat, s6 = .pointer (some ⟨p, 0, none⟩) ∧ V0.heap.size ≤ p ∧ Hid (Blk wx p 0x7e (bvs T)) ∧ Hid (Below V0.heap.size V0 wx))
      case first =>
        refine wp_region_held_drew (S := fun wx => Below V0.heap.size V0 wx) rfl (by rw [hV0]; exact Below.refl _ _) (fun hHeld => ?_)
        simp only [List.size_toArray, List.length_cons, List.length_nil, Nat.reduceAdd]
        rw [hV0] at hHeld ⊢
        clear hV0
        have hmb := HMB.out.cell 0
        have hlbx := HLB.out.cell 0
        simp only [List.getElem?_toArray, List.getElem?_cons_zero] at hmb hlbx
        have hltm := HMB.out.lt
        have hltl := HLB.out.lt
        refine wpAnyH_take (i := 0) (v := .pointer (some ⟨gm, 0, none⟩)) rfl (by kernel_rfl) (by kernel_rfl) (by kernel_rfl) (fun _ _ _ h => h) (Or.inl ⟨by rfl, ?_⟩) (by assumption) ?_
        · intro wx hs1; have hc := (hs1.cell (p := ⟨Bm, 0, none⟩) hltm).trans hmb; go_simp
        try simp only [Act.put]
        refine wpAnyH_take (i := 2) (v := .string la) rfl (by kernel_rfl) (by kernel_rfl) (by kernel_rfl) (fun _ _ _ h => h) (Or.inl ⟨by rfl, ?_⟩) (by assumption) ?_
        · intro wx hs1; go_simp
        try simp only [Act.put]
        refine wpAnyH_take (i := 3) (v := .string lb) rfl (by kernel_rfl) (by kernel_rfl) (by kernel_rfl) (fun _ _ _ h => h) (Or.inl ⟨by rfl, ?_⟩) (by assumption) ?_
        · intro wx hs1; have hc := (hs1.cell (p := ⟨Bl, 0, none⟩) hltl).trans hlbx; go_simp
        try simp only [Act.put]
        refine wpAnyH_take (i := 4) (v := .int .i64 (k : Int)) rfl (by kernel_rfl) (by kernel_rfl) (by kernel_rfl) (fun _ _ _ h => h) (Or.inl ⟨by rfl, ?_⟩) (by assumption) ?_
        · intro wx hs1; go_simp
        try simp only [Act.put]
        refine wpAnyH_take (i := 5) (v := .int .i64 ((k : Int) + 1)) rfl (by kernel_rfl) (by kernel_rfl) (by kernel_rfl) (fun _ _ _ h => h) (Or.inl ⟨by rfl, ?_⟩) (by assumption) ?_
        · intro wx hs1; go_simp
        try simp only [Act.put]
        refine wpAnyH_take (i := 6) (v := .int .u8 (ib xk)) rfl (by kernel_rfl) (by kernel_rfl) (by kernel_rfl) (fun _ _ _ h => h) (Or.inl ⟨by rfl, ?_⟩) (by assumption) ?_
        · intro wx hs1; go_simp
        try simp only [Act.put]
        have hb0 : Below V0.heap.size V0 V0 := Below.refl _ _
        clear hmb hlbx hX hX8
        refine wpAnyH_ready (rs := [1, 7, 11]) (by kernel_rfl) (by simp) (AllReadyH.cons rfl (fun K hK => ?_) (AllReadyH.cons rfl (fun K hK => ?_) (AllReadyH.cons rfl (fun K hK => ?_) AllReadyH.nil)))
        · go_simp
          go_at_call 103
          (with_reducible refine (copyK_any gm g key [] V0 (HM0.out.keep hb0)).mono ?_)
          rintro e V1 ⟨gm2, g2, rfl, hgm2, hg2, hm2, hb⟩
          have HM21 := Lib.hid hm2
          have hl2 := hm2.lt; have hq2 : 4 ≤ g2 := by have := HT0.out.size; have := hb0.size; omega
          clear hm2
          have hb1 : Below V0.heap.size V0 V1 := hb0.trans (hb.mono hb0.size)
          have hbs := hb.size
          refine hK.out _ _ hb1 (fun hHeld => ?_)
          clear hK K
          try simp only [Act.put]
          clear hb
          refine wpAnyH_ready (rs := [7, 11]) (by kernel_rfl) (by simp) (AllReadyH.cons rfl (fun K hK => ?_) (AllReadyH.cons rfl (fun K hK => ?_) AllReadyH.nil))
          · go_simp
            have hb : Below V1.heap.size V1 (V1.alloc (.cells #[.int .u8 (ib xk)] 5)) := (Below.refl _ _).alloc (Nat.le_refl _) _
            have h7 := Blk.new V1 5 #[.int .u8 (ib xk)]
            obtain ⟨b7, hb7⟩ : ∃ b, V1.heap.size = b := ⟨_, rfl⟩
            obtain ⟨V2, hV⟩ : ∃ V, V1.alloc (.cells #[.int .u8 (ib xk)] 5) = V := ⟨_, rfl⟩
            rw [hV, hb7] at h7; rw [hV] at hb; rw [hV, hb7]
            have hne7 : b7 ≠ g2 := by omega
            clear hV hb7; have HB72 := Lib.hid h7; have hl7 := h7.lt; clear h7
            have hb2 : Below V0.heap.size V0 V2 := hb1.trans (hb.mono hb1.size)
            have hbs := hb.size
            have HM22 := Lib.hid (HM21.out.keep hb); replace hl2 : gm2 < V2.heap.size ∧ g2 < V2.heap.size := by omega
            refine hK.out _ _ hb2 (fun hHeld => ?_)
            clear hK K
            try simp only [Act.put]
            refine wpAnyH_mono (S' := fun wx => Below V0.heap.size V0 wx ∧ Blk wx b7 5 #[.int .u8 (ib xk)]) (fun wx h => h.1) _ _ _ _ ?_
            clear hHeld; have hHeld : Below V0.heap.size V0 V2 ∧ Blk V2 b7 5 #[.int .u8 (ib xk)] := ⟨hb2, HB72.out⟩
            refine wpAnyH_take (i := 8) (v := .string xb) rfl (by kernel_rfl) (by kernel_rfl) (by kernel_rfl) (fun _ _ _ h => h) (Or.inl ⟨by rfl, ?_⟩) (by assumption) ?_
            · intro wx hs1; have hcx := CV8.out b7 wx hs1.2; go_simp
            try simp only [Act.put]
            clear hb
            refine wpAnyH_ready (rs := [9, 11]) (by kernel_rfl) (by simp) (AllReadyH.cons rfl (fun K hK => ?_) (AllReadyH.cons rfl (fun K hK => ?_) AllReadyH.nil))
            · go_simp
              have hb : Below V2.heap.size V2 (V2.alloc (.cells #[.string la, .string lb, .string xb] 9)) := (Below.refl _ _).alloc (Nat.le_refl _) _
              have h9 : Row3 (V2.alloc (.cells #[.string la, .string lb, .string xb] 9)) V2.heap.size la lb xb := Blk.new V2 9 _
              obtain ⟨b9, hb9⟩ : ∃ b, V2.heap.size = b := ⟨_, rfl⟩
              obtain ⟨V3, hV⟩ : ∃ V, V2.alloc (.cells #[.string la, .string lb, .string xb] 9) = V := ⟨_, rfl⟩
              rw [hV, hb9] at h9; rw [hV] at hb; rw [hV, hb9]
              have hne9 : g2 ≠ b9 := by omega
              clear hV hb9; have HR93 := Lib.hid h9; have hl9 := Blk.lt h9; clear h9
              have hb3 : Below V0.heap.size V0 V3 := hb2.trans (hb.mono hb2.size)
              have hbs := hb.size
              have HM23 := Lib.hid (HM22.out.keep hb); replace hl2 : gm2 < V3.heap.size ∧ g2 < V3.heap.size := by omega
              have HB73 := Lib.hid (HB72.out.keep hb); replace hl7 : b7 < V3.heap.size := by omega
              refine hK.out _ _ ⟨hb3, HB73.out⟩ (fun hHeld => ?_)
              clear hK K
              try simp only [Act.put]
              clear hb
              refine wpAnyH_ready (rs := [10, 11]) (by kernel_rfl) (by simp) (AllReadyH.cons rfl (fun K hK => ?_) (AllReadyH.cons rfl (fun K hK => ?_) AllReadyH.nil))
              · go_simp
                go_at_call 102
                (with_reducible refine (TOLD.out gm2 g2 b9 V3 HM23.out hq2 (HT0.out.keep hb3) (HR93.out.ok hne9)).mono ?_)
                rintro e V4 ⟨rfl, hbt⟩
                have hb4 : Below V0.heap.size V0 V4 := But.below hb3 hbt (fun b e => by omega)
                have hbs := hbt.size
                have HB74 := Lib.hid (HB73.out.but hbt hne7)
                refine hK.out _ _ ⟨hb4, HB74.out⟩ (fun hHeld => ?_)
                clear hK K
                try simp only [Act.put]
                refine wpAnyH_ready (rs := [11]) (by kernel_rfl) (by simp) (AllReadyH.cons rfl (fun K hK => ?_) AllReadyH.nil)
                · go_simp
                  rw [zu32_eq]
                  have hb : Below V4.heap.size V4 (V4.alloc (.cells (bvs (List.replicate 32 0#8)) 0x7e)) := (Below.refl _ _).alloc (Nat.le_refl _) _
                  have h11 := Blk.new V4 0x7e (bvs (List.replicate 32 0#8))
                  obtain ⟨p, hpe⟩ : ∃ b, V4.heap.size = b := ⟨_, rfl⟩
                  obtain ⟨V5, hV⟩ : ∃ V, V4.alloc (.cells (bvs (List.replicate 32 0#8)) 0x7e) = V := ⟨_, rfl⟩
                  rw [hV, hpe] at h11; rw [hV] at hb; rw [hV, hpe]
                  have hp : V0.heap.size ≤ p := by have := hb4.size; omega
                  have hne7p : b7 ≠ p := by omega
                  clear hV hpe; have HP5 := Lib.hid h11; have hlp := h11.lt; clear h11
                  have hb5 : Below V0.heap.size V0 V5 := hb4.trans (hb.mono hb4.size)
                  have hbs := hb.size
                  have HB75 := Lib.hid (HB74.out.keep hb); replace hl7 : b7 < V5.heap.size := by omega
                  refine hK.out _ _ ⟨hb5, HB75.out⟩ (fun hHeld => ?_)
                  clear hK K
                  try simp only [Act.put]
                  clear hb
                  refine wpAnyH_ready (rs := [12]) (by kernel_rfl) (by simp) (AllReadyH.cons rfl (fun K hK => ?_) AllReadyH.nil)
                  · rw [if_pos (by rfl)]
                    refine wp_store_row 0x7e _ _ rfl p (bvs T) rfl rfl 0x7e (bvs (List.replicate 32 0#8)) HP5.out (i36 T HTL.out) (by rw [bvs_size, bvs_size, HTL.out]; rfl) (bvs_one T) ?_
                    obtain ⟨V6, hV⟩ : ∃ V, V5.setRow p (bvs T) = V := ⟨_, rfl⟩
                    have h12 : Blk V6 p 0x7e (bvs T) := by rw [← hV]; exact setRow_heap _ _ _ _ _ _ HP5.out
                    have hb6 : Below V0.heap.size V0 V6 := by rw [← hV]; exact below_setRow hb5 hp _
                    rw [hV]
                    have HPB6 := Lib.hid h12
                    have h7e : Blk V6 b7 5 #[.int .u8 (ib xk)] := by rw [← hV]; exact (Blk.setRowNe HB75.out hne7p)
                    refine hK.out _ _ ⟨hb6, h7e⟩ (fun hHeld => ?_)
                    clear hK K hV h7e h12
                    try simp only [Act.put]
                    refine wpAnyH_done (by kernel_rfl) ?_ _
                    simp only [List.getElem_toArray, List.getElem_cons_succ, List.getElem_cons_zero]
                    go_wp2_with fail
                    go_meet
                    exact ⟨p, rfl, hp, HPB6, Lib.hid hb6⟩
              · go_simp
                rw [zu32_eq]
                have hb : Below V3.heap.size V3 (V3.alloc (.cells (bvs (List.replicate 32 0#8)) 0x7e)) := (Below.refl _ _).alloc (Nat.le_refl _) _
                have h11 := Blk.new V3 0x7e (bvs (List.replicate 32 0#8))
                obtain ⟨p, hpe⟩ : ∃ b, V3.heap.size = b := ⟨_, rfl⟩
                obtain ⟨V4, hV⟩ : ∃ V, V3.alloc (.cells (bvs (List.replicate 32 0#8)) 0x7e) = V := ⟨_, rfl⟩
                rw [hV, hpe] at h11; rw [hV] at hb; rw [hV, hpe]
                have hp : V0.heap.size ≤ p := by have := hb3.size; omega
                have hnep : p ≠ g2 := by omega
                have hne7p : b7 ≠ p := by omega
                clear hV hpe; have HP4 := Lib.hid h11; have hlp := h11.lt; clear h11
                have hb4 : Below V0.heap.size V0 V4 := hb3.trans (hb.mono hb3.size)
                have hbs := hb.size
                have HM24 := Lib.hid (HM23.out.keep hb); replace hl2 : gm2 < V4.heap.size ∧ g2 < V4.heap.size := by omega
                have HB74 := Lib.hid (HB73.out.keep hb); replace hl7 : b7 < V4.heap.size := by omega
                have HR94 := Lib.hid (HR93.out.keep hb); replace hl9 : b9 < V4.heap.size := by omega
                refine hK.out _ _ ⟨hb4, HB74.out⟩ (fun hHeld => ?_)
                clear hK K
                try simp only [Act.put]
                clear hb
                refine wpAnyH_ready (rs := [10]) (by kernel_rfl) (by simp) (AllReadyH.cons rfl (fun K hK => ?_) AllReadyH.nil)
                · go_simp
                  go_at_call 102
                  (with_reducible refine (TOLD.out gm2 g2 b9 V4 HM24.out hq2 (HT0.out.keep hb4) (HR94.out.ok hne9)).mono ?_)
                  rintro e V5 ⟨rfl, hbt⟩
                  have hb5 : Below V0.heap.size V0 V5 := But.below hb4 hbt (fun b e => by omega)
                  have hbs := hbt.size
                  have HB75 := Lib.hid (HB74.out.but hbt hne7)
                  have HP5 := Lib.hid (HP4.out.but hbt hnep); have hlp2 : p < V5.heap.size := by omega
                  refine hK.out _ _ ⟨hb5, HB75.out⟩ (fun hHeld => ?_)
                  clear hK K
                  try simp only [Act.put]
                  refine wpAnyH_ready (rs := [12]) (by kernel_rfl) (by simp) (AllReadyH.cons rfl (fun K hK => ?_) AllReadyH.nil)
                  · rw [if_pos (by rfl)]
                    refine wp_store_row 0x7e _ _ rfl p (bvs T) rfl rfl 0x7e (bvs (List.replicate 32 0#8)) HP5.out (i36 T HTL.out) (by rw [bvs_size, bvs_size, HTL.out]; rfl) (bvs_one T) ?_
                    obtain ⟨V6, hV⟩ : ∃ V, V5.setRow p (bvs T) = V := ⟨_, rfl⟩
                    have h12 : Blk V6 p 0x7e (bvs T) := by rw [← hV]; exact setRow_heap _ _ _ _ _ _ HP5.out
                    have hb6 : Below V0.heap.size V0 V6 := by rw [← hV]; exact below_setRow hb5 hp _
                    rw [hV]
                    have HPB6 := Lib.hid h12
                    have h7e : Blk V6 b7 5 #[.int .u8 (ib xk)] := by rw [← hV]; exact (Blk.setRowNe HB75.out hne7p)
                    refine hK.out _ _ ⟨hb6, h7e⟩ (fun hHeld => ?_)
                    clear hK K hV h7e h12
                    try simp only [Act.put]
                    refine wpAnyH_done (by kernel_rfl) ?_ _
                    simp only [List.getElem_toArray, List.getElem_cons_succ, List.getElem_cons_zero]
                    go_wp2_with fail
                    go_meet
                    exact ⟨p, rfl, hp, HPB6, Lib.hid hb6⟩
            · go_simp
              rw [zu32_eq]
              have hb : Below V2.heap.size V2 (V2.alloc (.cells (bvs (List.replicate 32 0#8)) 0x7e)) := (Below.refl _ _).alloc (Nat.le_refl _) _
              have h11 := Blk.new V2 0x7e (bvs (List.replicate 32 0#8))
              obtain ⟨p, hpe⟩ : ∃ b, V2.heap.size = b := ⟨_, rfl⟩
              obtain ⟨V3, hV⟩ : ∃ V, V2.alloc (.cells (bvs (List.replicate 32 0#8)) 0x7e) = V := ⟨_, rfl⟩
              rw [hV, hpe] at h11; rw [hV] at hb; rw [hV, hpe]
              have hp : V0.heap.size ≤ p := by have := hb2.size; omega
              have hnep : p ≠ g2 := by omega
              have hne7p : b7 ≠ p := by omega
              clear hV hpe; have HP3 := Lib.hid h11; have hlp := h11.lt; clear h11
              have hb3 : Below V0.heap.size V0 V3 := hb2.trans (hb.mono hb2.size)
              have hbs := hb.size
              have HM23 := Lib.hid (HM22.out.keep hb); replace hl2 : gm2 < V3.heap.size ∧ g2 < V3.heap.size := by omega
              have HB73 := Lib.hid (HB72.out.keep hb); replace hl7 : b7 < V3.heap.size := by omega
              refine hK.out _ _ ⟨hb3, HB73.out⟩ (fun hHeld => ?_)
              clear hK K
              try simp only [Act.put]
              clear hb
              refine wpAnyH_ready (rs := [9]) (by kernel_rfl) (by simp) (AllReadyH.cons rfl (fun K hK => ?_) AllReadyH.nil)
              · go_simp
                have hb : Below V3.heap.size V3 (V3.alloc (.cells #[.string la, .string lb, .string xb] 9)) := (Below.refl _ _).alloc (Nat.le_refl _) _
                have h9 : Row3 (V3.alloc (.cells #[.string la, .string lb, .string xb] 9)) V3.heap.size la lb xb := Blk.new V3 9 _
                obtain ⟨b9, hb9⟩ : ∃ b, V3.heap.size = b := ⟨_, rfl⟩
                obtain ⟨V4, hV⟩ : ∃ V, V3.alloc (.cells #[.string la, .string lb, .string xb] 9) = V := ⟨_, rfl⟩
                rw [hV, hb9] at h9; rw [hV] at hb; rw [hV, hb9]
                have hne9 : g2 ≠ b9 := by omega
                clear hV hb9; have HR94 := Lib.hid h9; have hl9 := Blk.lt h9; clear h9
                have hb4 : Below V0.heap.size V0 V4 := hb3.trans (hb.mono hb3.size)
                have hbs := hb.size
                have HM24 := Lib.hid (HM23.out.keep hb); replace hl2 : gm2 < V4.heap.size ∧ g2 < V4.heap.size := by omega
                have HB74 := Lib.hid (HB73.out.keep hb); replace hl7 : b7 < V4.heap.size := by omega
                have HP4 := Lib.hid (HP3.out.keep hb); replace hlp : p < V4.heap.size := by omega
                refine hK.out _ _ ⟨hb4, HB74.out⟩ (fun hHeld => ?_)
                clear hK K
                try simp only [Act.put]
                clear hb
                refine wpAnyH_ready (rs := [10]) (by kernel_rfl) (by simp) (AllReadyH.cons rfl (fun K hK => ?_) AllReadyH.nil)
                · go_simp
                  go_at_call 102
                  (with_reducible refine (TOLD.out gm2 g2 b9 V4 HM24.out hq2 (HT0.out.keep hb4) (HR94.out.ok hne9)).mono ?_)
                  rintro e V5 ⟨rfl, hbt⟩
                  have hb5 : Below V0.heap.size V0 V5 := But.below hb4 hbt (fun b e => by omega)
                  have hbs := hbt.size
                  have HB75 := Lib.hid (HB74.out.but hbt hne7)
                  have HP5 := Lib.hid (HP4.out.but hbt hnep); have hlp2 : p < V5.heap.size := by omega
                  refine hK.out _ _ ⟨hb5, HB75.out⟩ (fun hHeld => ?_)
                  clear hK K
                  try simp only [Act.put]
                  refine wpAnyH_ready (rs := [12]) (by kernel_rfl) (by simp) (AllReadyH.cons rfl (fun K hK => ?_) AllReadyH.nil)
                  · rw [if_pos (by rfl)]
                    refine wp_store_row 0x7e _ _ rfl p (bvs T) rfl rfl 0x7e (bvs (List.replicate 32 0#8)) HP5.out (i36 T HTL.out) (by rw [bvs_size, bvs_size, HTL.out]; rfl) (bvs_one T) ?_
                    obtain ⟨V6, hV⟩ : ∃ V, V5.setRow p (bvs T) = V := ⟨_, rfl⟩
                    have h12 : Blk V6 p 0x7e (bvs T) := by rw [← hV]; exact setRow_heap _ _ _ _ _ _ HP5.out
                    have hb6 : Below V0.heap.size V0 V6 := by rw [← hV]; exact below_setRow hb5 hp _
                    rw [hV]
                    have HPB6 := Lib.hid h12
                    have h7e : Blk V6 b7 5 #[.int .u8 (ib xk)] := by rw [← hV]; exact (Blk.setRowNe HB75.out hne7p)
                    refine hK.out _ _ ⟨hb6, h7e⟩ (fun hHeld => ?_)
                    clear hK K hV h7e h12
                    try simp only [Act.put]
                    refine wpAnyH_done (by kernel_rfl) ?_ _
                    simp only [List.getElem_toArray, List.getElem_cons_succ, List.getElem_cons_zero]
                    go_wp2_with fail
                    go_meet
                    exact ⟨p, rfl, hp, HPB6, Lib.hid hb6⟩
          · go_simp
            rw [zu32_eq]
            have hb : Below V1.heap.size V1 (V1.alloc (.cells (bvs (List.replicate 32 0#8)) 0x7e)) := (Below.refl _ _).alloc (Nat.le_refl _) _
            have h11 := Blk.new V1 0x7e (bvs (List.replicate 32 0#8))
            obtain ⟨p, hpe⟩ : ∃ b, V1.heap.size = b := ⟨_, rfl⟩
            obtain ⟨V2, hV⟩ : ∃ V, V1.alloc (.cells (bvs (List.replicate 32 0#8)) 0x7e) = V := ⟨_, rfl⟩
            rw [hV, hpe] at h11; rw [hV] at hb; rw [hV, hpe]
            have hp : V0.heap.size ≤ p := by have := hb1.size; omega
            have hnep : p ≠ g2 := by omega
            clear hV hpe; have HP2 := Lib.hid h11; have hlp := h11.lt; clear h11
            have hb2 : Below V0.heap.size V0 V2 := hb1.trans (hb.mono hb1.size)
            have hbs := hb.size
            have HM22 := Lib.hid (HM21.out.keep hb); replace hl2 : gm2 < V2.heap.size ∧ g2 < V2.heap.size := by omega
            refine hK.out _ _ hb2 (fun hHeld => ?_)
            clear hK K
            try simp only [Act.put]
            clear hb
            refine wpAnyH_ready (rs := [7]) (by kernel_rfl) (by simp) (AllReadyH.cons rfl (fun K hK => ?_) AllReadyH.nil)
            · go_simp
              have hb : Below V2.heap.size V2 (V2.alloc (.cells #[.int .u8 (ib xk)] 5)) := (Below.refl _ _).alloc (Nat.le_refl _) _
              have h7 := Blk.new V2 5 #[.int .u8 (ib xk)]
              obtain ⟨b7, hb7⟩ : ∃ b, V2.heap.size = b := ⟨_, rfl⟩
              obtain ⟨V3, hV⟩ : ∃ V, V2.alloc (.cells #[.int .u8 (ib xk)] 5) = V := ⟨_, rfl⟩
              rw [hV, hb7] at h7; rw [hV] at hb; rw [hV, hb7]
              have hne7 : b7 ≠ g2 := by omega
              have hne7p : b7 ≠ p := by omega
              clear hV hb7; have HB73 := Lib.hid h7; have hl7 := h7.lt; clear h7
              have hb3 : Below V0.heap.size V0 V3 := hb2.trans (hb.mono hb2.size)
              have hbs := hb.size
              have HM23 := Lib.hid (HM22.out.keep hb); replace hl2 : gm2 < V3.heap.size ∧ g2 < V3.heap.size := by omega
              have HP3 := Lib.hid (HP2.out.keep hb); replace hlp : p < V3.heap.size := by omega
              refine hK.out _ _ hb3 (fun hHeld => ?_)
              clear hK K
              try simp only [Act.put]
              refine wpAnyH_mono (S' := fun wx => Below V0.heap.size V0 wx ∧ Blk wx b7 5 #[.int .u8 (ib xk)]) (fun wx h => h.1) _ _ _ _ ?_
              clear hHeld; have hHeld : Below V0.heap.size V0 V3 ∧ Blk V3 b7 5 #[.int .u8 (ib xk)] := ⟨hb3, HB73.out⟩
              refine wpAnyH_take (i := 8) (v := .string xb) rfl (by kernel_rfl) (by kernel_rfl) (by kernel_rfl) (fun _ _ _ h => h) (Or.inl ⟨by rfl, ?_⟩) (by assumption) ?_
              · intro wx hs1; have hcx := CV8.out b7 wx hs1.2; go_simp
              try simp only [Act.put]
              clear hb
              refine wpAnyH_ready (rs := [9]) (by kernel_rfl) (by simp) (AllReadyH.cons rfl (fun K hK => ?_) AllReadyH.nil)
              · go_simp
                have hb : Below V3.heap.size V3 (V3.alloc (.cells #[.string la, .string lb, .string xb] 9)) := (Below.refl _ _).alloc (Nat.le_refl _) _
                have h9 : Row3 (V3.alloc (.cells #[.string la, .string lb, .string xb] 9)) V3.heap.size la lb xb := Blk.new V3 9 _
                obtain ⟨b9, hb9⟩ : ∃ b, V3.heap.size = b := ⟨_, rfl⟩
                obtain ⟨V4, hV⟩ : ∃ V, V3.alloc (.cells #[.string la, .string lb, .string xb] 9) = V := ⟨_, rfl⟩
                rw [hV, hb9] at h9; rw [hV] at hb; rw [hV, hb9]
                have hne9 : g2 ≠ b9 := by omega
                clear hV hb9; have HR94 := Lib.hid h9; have hl9 := Blk.lt h9; clear h9
                have hb4 : Below V0.heap.size V0 V4 := hb3.trans (hb.mono hb3.size)
                have hbs := hb.size
                have HM24 := Lib.hid (HM23.out.keep hb); replace hl2 : gm2 < V4.heap.size ∧ g2 < V4.heap.size := by omega
                have HB74 := Lib.hid (HB73.out.keep hb); replace hl7 : b7 < V4.heap.size := by omega
                have HP4 := Lib.hid (HP3.out.keep hb); replace hlp : p < V4.heap.size := by omega
                refine hK.out _ _ ⟨hb4, HB74.out⟩ (fun hHeld => ?_)
                clear hK K
                try simp only [Act.put]
                clear hb
                refine wpAnyH_ready (rs := [10]) (by kernel_rfl) (by simp) (AllReadyH.cons rfl (fun K hK => ?_) AllReadyH.nil)
                · go_simp
                  go_at_call 102
                  (with_reducible refine (TOLD.out gm2 g2 b9 V4 HM24.out hq2 (HT0.out.keep hb4) (HR94.out.ok hne9)).mono ?_)
                  rintro e V5 ⟨rfl, hbt⟩
                  have hb5 : Below V0.heap.size V0 V5 := But.below hb4 hbt (fun b e => by omega)
                  have hbs := hbt.size
                  have HB75 := Lib.hid (HB74.out.but hbt hne7)
                  have HP5 := Lib.hid (HP4.out.but hbt hnep); have hlp2 : p < V5.heap.size := by omega
                  refine hK.out _ _ ⟨hb5, HB75.out⟩ (fun hHeld => ?_)
                  clear hK K
                  try simp only [Act.put]
                  refine wpAnyH_ready (rs := [12]) (by kernel_rfl) (by simp) (AllReadyH.cons rfl (fun K hK => ?_) AllReadyH.nil)
                  · rw [if_pos (by rfl)]
                    refine wp_store_row 0x7e _ _ rfl p (bvs T) rfl rfl 0x7e (bvs (List.replicate 32 0#8)) HP5.out (i36 T HTL.out) (by rw [bvs_size, bvs_size, HTL.out]; rfl) (bvs_one T) ?_
                    obtain ⟨V6, hV⟩ : ∃ V, V5.setRow p (bvs T) = V := ⟨_, rfl⟩
                    have h12 : Blk V6 p 0x7e (bvs T) := by rw [← hV]; exact setRow_heap _ _ _ _ _ _ HP5.out
                    have hb6 : Below V0.heap.size V0 V6 := by rw [← hV]; exact below_setRow hb5 hp _
                    rw [hV]
                    have HPB6 := Lib.hid h12
                    have h7e : Blk V6 b7 5 #[.int .u8 (ib xk)] := by rw [← hV]; exact (Blk.setRowNe HB75.out hne7p)
                    refine hK.out _ _ ⟨hb6, h7e⟩ (fun hHeld => ?_)
                    clear hK K hV h7e h12
                    try simp only [Act.put]
                    refine wpAnyH_done (by kernel_rfl) ?_ _
                    simp only [List.getElem_toArray, List.getElem_cons_succ, List.getElem_cons_zero]
                    go_wp2_with fail
                    go_meet
                    exact ⟨p, rfl, hp, HPB6, Lib.hid hb6⟩
        · go_simp
          have hb : Below V0.heap.size V0 (V0.alloc (.cells #[.int .u8 (ib xk)] 5)) := (Below.refl _ _).alloc (Nat.le_refl _) _
          have h7 := Blk.new V0 5 #[.int .u8 (ib xk)]
          obtain ⟨b7, hb7⟩ : ∃ b, V0.heap.size = b := ⟨_, rfl⟩
          obtain ⟨V1, hV⟩ : ∃ V, V0.alloc (.cells #[.int .u8 (ib xk)] 5) = V := ⟨_, rfl⟩
          rw [hV, hb7] at h7; rw [hV] at hb; rw [hV, hb7]
          clear hV hb7; have HB71 := Lib.hid h7; have hl7 := h7.lt; clear h7
          have hb1 : Below V0.heap.size V0 V1 := hb0.trans (hb.mono hb0.size)
          have hbs := hb.size
          refine hK.out _ _ hb1 (fun hHeld => ?_)
          clear hK K
          try simp only [Act.put]
          refine wpAnyH_mono (S' := fun wx => Below V0.heap.size V0 wx ∧ Blk wx b7 5 #[.int .u8 (ib xk)]) (fun wx h => h.1) _ _ _ _ ?_
          clear hHeld; have hHeld : Below V0.heap.size V0 V1 ∧ Blk V1 b7 5 #[.int .u8 (ib xk)] := ⟨hb1, HB71.out⟩
          refine wpAnyH_take (i := 8) (v := .string xb) rfl (by kernel_rfl) (by kernel_rfl) (by kernel_rfl) (fun _ _ _ h => h) (Or.inl ⟨by rfl, ?_⟩) (by assumption) ?_
          · intro wx hs1; have hcx := CV8.out b7 wx hs1.2; go_simp
          try simp only [Act.put]
          clear hb
          refine wpAnyH_ready (rs := [1, 9, 11]) (by kernel_rfl) (by simp) (AllReadyH.cons rfl (fun K hK => ?_) (AllReadyH.cons rfl (fun K hK => ?_) (AllReadyH.cons rfl (fun K hK => ?_) AllReadyH.nil)))
          · go_simp
            go_at_call 103
            (with_reducible refine (copyK_any gm g key [] V1 (HM0.out.keep hb1)).mono ?_)
            rintro e V2 ⟨gm2, g2, rfl, hgm2, hg2, hm2, hb⟩
            have HM22 := Lib.hid hm2
            have hl2 := hm2.lt; have hq2 : 4 ≤ g2 := by have := HT0.out.size; have := hb1.size; omega
            have hne7 : b7 ≠ g2 := by omega
            clear hm2
            have hb2 : Below V0.heap.size V0 V2 := hb1.trans (hb.mono hb1.size)
            have hbs := hb.size
            have HB72 := Lib.hid (HB71.out.keep hb); replace hl7 : b7 < V2.heap.size := by omega
            refine hK.out _ _ ⟨hb2, HB72.out⟩ (fun hHeld => ?_)
            clear hK K
            try simp only [Act.put]
            clear hb
            refine wpAnyH_ready (rs := [9, 11]) (by kernel_rfl) (by simp) (AllReadyH.cons rfl (fun K hK => ?_) (AllReadyH.cons rfl (fun K hK => ?_) AllReadyH.nil))
            · go_simp
              have hb : Below V2.heap.size V2 (V2.alloc (.cells #[.string la, .string lb, .string xb] 9)) := (Below.refl _ _).alloc (Nat.le_refl _) _
              have h9 : Row3 (V2.alloc (.cells #[.string la, .string lb, .string xb] 9)) V2.heap.size la lb xb := Blk.new V2 9 _
              obtain ⟨b9, hb9⟩ : ∃ b, V2.heap.size = b := ⟨_, rfl⟩
              obtain ⟨V3, hV⟩ : ∃ V, V2.alloc (.cells #[.string la, .string lb, .string xb] 9) = V := ⟨_, rfl⟩
              rw [hV, hb9] at h9; rw [hV] at hb; rw [hV, hb9]
              have hne9 : g2 ≠ b9 := by omega
              clear hV hb9; have HR93 := Lib.hid h9; have hl9 := Blk.lt h9; clear h9
              have hb3 : Below V0.heap.size V0 V3 := hb2.trans (hb.mono hb2.size)
              have hbs := hb.size
              have HM23 := Lib.hid (HM22.out.keep hb); replace hl2 : gm2 < V3.heap.size ∧ g2 < V3.heap.size := by omega
              have HB73 := Lib.hid (HB72.out.keep hb); replace hl7 : b7 < V3.heap.size := by omega
              refine hK.out _ _ ⟨hb3, HB73.out⟩ (fun hHeld => ?_)
              clear hK K
              try simp only [Act.put]
              clear hb
              refine wpAnyH_ready (rs := [10, 11]) (by kernel_rfl) (by simp) (AllReadyH.cons rfl (fun K hK => ?_) (AllReadyH.cons rfl (fun K hK => ?_) AllReadyH.nil))
              · go_simp
                go_at_call 102
                (with_reducible refine (TOLD.out gm2 g2 b9 V3 HM23.out hq2 (HT0.out.keep hb3) (HR93.out.ok hne9)).mono ?_)
                rintro e V4 ⟨rfl, hbt⟩
                have hb4 : Below V0.heap.size V0 V4 := But.below hb3 hbt (fun b e => by omega)
                have hbs := hbt.size
                have HB74 := Lib.hid (HB73.out.but hbt hne7)
                refine hK.out _ _ ⟨hb4, HB74.out⟩ (fun hHeld => ?_)
                clear hK K
                try simp only [Act.put]
                refine wpAnyH_ready (rs := [11]) (by kernel_rfl) (by simp) (AllReadyH.cons rfl (fun K hK => ?_) AllReadyH.nil)
                · go_simp
                  rw [zu32_eq]
                  have hb : Below V4.heap.size V4 (V4.alloc (.cells (bvs (List.replicate 32 0#8)) 0x7e)) := (Below.refl _ _).alloc (Nat.le_refl _) _
                  have h11 := Blk.new V4 0x7e (bvs (List.replicate 32 0#8))
                  obtain ⟨p, hpe⟩ : ∃ b, V4.heap.size = b := ⟨_, rfl⟩
                  obtain ⟨V5, hV⟩ : ∃ V, V4.alloc (.cells (bvs (List.replicate 32 0#8)) 0x7e) = V := ⟨_, rfl⟩
                  rw [hV, hpe] at h11; rw [hV] at hb; rw [hV, hpe]
                  have hp : V0.heap.size ≤ p := by have := hb4.size; omega
                  have hne7p : b7 ≠ p := by omega
                  clear hV hpe; have HP5 := Lib.hid h11; have hlp := h11.lt; clear h11
                  have hb5 : Below V0.heap.size V0 V5 := hb4.trans (hb.mono hb4.size)
                  have hbs := hb.size
                  have HB75 := Lib.hid (HB74.out.keep hb); replace hl7 : b7 < V5.heap.size := by omega
                  refine hK.out _ _ ⟨hb5, HB75.out⟩ (fun hHeld => ?_)
                  clear hK K
                  try simp only [Act.put]
                  clear hb
                  refine wpAnyH_ready (rs := [12]) (by kernel_rfl) (by simp) (AllReadyH.cons rfl (fun K hK => ?_) AllReadyH.nil)
                  · rw [if_pos (by rfl)]
                    refine wp_store_row 0x7e _ _ rfl p (bvs T) rfl rfl 0x7e (bvs (List.replicate 32 0#8)) HP5.out (i36 T HTL.out) (by rw [bvs_size, bvs_size, HTL.out]; rfl) (bvs_one T) ?_
                    obtain ⟨V6, hV⟩ : ∃ V, V5.setRow p (bvs T) = V := ⟨_, rfl⟩
                    have h12 : Blk V6 p 0x7e (bvs T) := by rw [← hV]; exact setRow_heap _ _ _ _ _ _ HP5.out
                    have hb6 : Below V0.heap.size V0 V6 := by rw [← hV]; exact below_setRow hb5 hp _
                    rw [hV]
                    have HPB6 := Lib.hid h12
                    have h7e : Blk V6 b7 5 #[.int .u8 (ib xk)] := by rw [← hV]; exact (Blk.setRowNe HB75.out hne7p)
                    refine hK.out _ _ ⟨hb6, h7e⟩ (fun hHeld => ?_)
                    clear hK K hV h7e h12
                    try simp only [Act.put]
                    refine wpAnyH_done (by kernel_rfl) ?_ _
                    simp only [List.getElem_toArray, List.getElem_cons_succ, List.getElem_cons_zero]
                    go_wp2_with fail
                    go_meet
                    exact ⟨p, rfl, hp, HPB6, Lib.hid hb6⟩
              · go_simp
                rw [zu32_eq]
                have hb : Below V3.heap.size V3 (V3.alloc (.cells (bvs (List.replicate 32 0#8)) 0x7e)) := (Below.refl _ _).alloc (Nat.le_refl _) _
                have h11 := Blk.new V3 0x7e (bvs (List.replicate 32 0#8))
                obtain ⟨p, hpe⟩ : ∃ b, V3.heap.size = b := ⟨_, rfl⟩
                obtain ⟨V4, hV⟩ : ∃ V, V3.alloc (.cells (bvs (List.replicate 32 0#8)) 0x7e) = V := ⟨_, rfl⟩
                rw [hV, hpe] at h11; rw [hV] at hb; rw [hV, hpe]
                have hp : V0.heap.size ≤ p := by have := hb3.size; omega
                have hnep : p ≠ g2 := by omega
                have hne7p : b7 ≠ p := by omega
                clear hV hpe; have HP4 := Lib.hid h11; have hlp := h11.lt; clear h11
                have hb4 : Below V0.heap.size V0 V4 := hb3.trans (hb.mono hb3.size)
                have hbs := hb.size
                have HM24 := Lib.hid (HM23.out.keep hb); replace hl2 : gm2 < V4.heap.size ∧ g2 < V4.heap.size := by omega
                have HB74 := Lib.hid (HB73.out.keep hb); replace hl7 : b7 < V4.heap.size := by omega
                have HR94 := Lib.hid (HR93.out.keep hb); replace hl9 : b9 < V4.heap.size := by omega
                refine hK.out _ _ ⟨hb4, HB74.out⟩ (fun hHeld => ?_)
                clear hK K
                try simp only [Act.put]
                clear hb
                refine wpAnyH_ready (rs := [10]) (by kernel_rfl) (by simp) (AllReadyH.cons rfl (fun K hK => ?_) AllReadyH.nil)
                · go_simp
                  go_at_call 102
                  (with_reducible refine (TOLD.out gm2 g2 b9 V4 HM24.out hq2 (HT0.out.keep hb4) (HR94.out.ok hne9)).mono ?_)
                  rintro e V5 ⟨rfl, hbt⟩
                  have hb5 : Below V0.heap.size V0 V5 := But.below hb4 hbt (fun b e => by omega)
                  have hbs := hbt.size
                  have HB75 := Lib.hid (HB74.out.but hbt hne7)
                  have HP5 := Lib.hid (HP4.out.but hbt hnep); have hlp2 : p < V5.heap.size := by omega
                  refine hK.out _ _ ⟨hb5, HB75.out⟩ (fun hHeld => ?_)
                  clear hK K
                  try simp only [Act.put]
                  refine wpAnyH_ready (rs := [12]) (by kernel_rfl) (by simp) (AllReadyH.cons rfl (fun K hK => ?_) AllReadyH.nil)
                  · rw [if_pos (by rfl)]
                    refine wp_store_row 0x7e _ _ rfl p (bvs T) rfl rfl 0x7e (bvs (List.replicate 32 0#8)) HP5.out (i36 T HTL.out) (by rw [bvs_size, bvs_size, HTL.out]; rfl) (bvs_one T) ?_
                    obtain ⟨V6, hV⟩ : ∃ V, V5.setRow p (bvs T) = V := ⟨_, rfl⟩
                    have h12 : Blk V6 p 0x7e (bvs T) := by rw [← hV]; exact setRow_heap _ _ _ _ _ _ HP5.out
                    have hb6 : Below V0.heap.size V0 V6 := by rw [← hV]; exact below_setRow hb5 hp _
                    rw [hV]
                    have HPB6 := Lib.hid h12
                    have h7e : Blk V6 b7 5 #[.int .u8 (ib xk)] := by rw [← hV]; exact (Blk.setRowNe HB75.out hne7p)
                    refine hK.out _ _ ⟨hb6, h7e⟩ (fun hHeld => ?_)
                    clear hK K hV h7e h12
                    try simp only [Act.put]
                    refine wpAnyH_done (by kernel_rfl) ?_ _
                    simp only [List.getElem_toArray, List.getElem_cons_succ, List.getElem_cons_zero]
                    go_wp2_with fail
                    go_meet
                    exact ⟨p, rfl, hp, HPB6, Lib.hid hb6⟩
            · go_simp
              rw [zu32_eq]
              have hb : Below V2.heap.size V2 (V2.alloc (.cells (bvs (List.replicate 32 0#8)) 0x7e)) := (Below.refl _ _).alloc (Nat.le_refl _) _
              have h11 := Blk.new V2 0x7e (bvs (List.replicate 32 0#8))
              obtain ⟨p, hpe⟩ : ∃ b, V2.heap.size = b := ⟨_, rfl⟩
              obtain ⟨V3, hV⟩ : ∃ V, V2.alloc (.cells (bvs (List.replicate 32 0#8)) 0x7e) = V := ⟨_, rfl⟩
              rw [hV, hpe] at h11; rw [hV] at hb; rw [hV, hpe]
              have hp : V0.heap.size ≤ p := by have := hb2.size; omega
              have hnep : p ≠ g2 := by omega
              have hne7p : b7 ≠ p := by omega
              clear hV hpe; have HP3 := Lib.hid h11; have hlp := h11.lt; clear h11
              have hb3 : Below V0.heap.size V0 V3 := hb2.trans (hb.mono hb2.size)
              have hbs := hb.size
              have HM23 := Lib.hid (HM22.out.keep hb); replace hl2 : gm2 < V3.heap.size ∧ g2 < V3.heap.size := by omega
              have HB73 := Lib.hid (HB72.out.keep hb); replace hl7 : b7 < V3.heap.size := by omega
              refine hK.out _ _ ⟨hb3, HB73.out⟩ (fun hHeld => ?_)
              clear hK K
              try simp only [Act.put]
              clear hb
              refine wpAnyH_ready (rs := [9]) (by kernel_rfl) (by simp) (AllReadyH.cons rfl (fun K hK => ?_) AllReadyH.nil)
              · go_simp
                have hb : Below V3.heap.size V3 (V3.alloc (.cells #[.string la, .string lb, .string xb] 9)) := (Below.refl _ _).alloc (Nat.le_refl _) _
                have h9 : Row3 (V3.alloc (.cells #[.string la, .string lb, .string xb] 9)) V3.heap.size la lb xb := Blk.new V3 9 _
                obtain ⟨b9, hb9⟩ : ∃ b, V3.heap.size = b := ⟨_, rfl⟩
                obtain ⟨V4, hV⟩ : ∃ V, V3.alloc (.cells #[.string la, .string lb, .string xb] 9) = V := ⟨_, rfl⟩
                rw [hV, hb9] at h9; rw [hV] at hb; rw [hV, hb9]
                have hne9 : g2 ≠ b9 := by omega
                clear hV hb9; have HR94 := Lib.hid h9; have hl9 := Blk.lt h9; clear h9
                have hb4 : Below V0.heap.size V0 V4 := hb3.trans (hb.mono hb3.size)
                have hbs := hb.size
                have HM24 := Lib.hid (HM23.out.keep hb); replace hl2 : gm2 < V4.heap.size ∧ g2 < V4.heap.size := by omega
                have HB74 := Lib.hid (HB73.out.keep hb); replace hl7 : b7 < V4.heap.size := by omega
                have HP4 := Lib.hid (HP3.out.keep hb); replace hlp : p < V4.heap.size := by omega
                refine hK.out _ _ ⟨hb4, HB74.out⟩ (fun hHeld => ?_)
                clear hK K
                try simp only [Act.put]
                clear hb
                refine wpAnyH_ready (rs := [10]) (by kernel_rfl) (by simp) (AllReadyH.cons rfl (fun K hK => ?_) AllReadyH.nil)
                · go_simp
                  go_at_call 102
                  (with_reducible refine (TOLD.out gm2 g2 b9 V4 HM24.out hq2 (HT0.out.keep hb4) (HR94.out.ok hne9)).mono ?_)
                  rintro e V5 ⟨rfl, hbt⟩
                  have hb5 : Below V0.heap.size V0 V5 := But.below hb4 hbt (fun b e => by omega)
                  have hbs := hbt.size
                  have HB75 := Lib.hid (HB74.out.but hbt hne7)
                  have HP5 := Lib.hid (HP4.out.but hbt hnep); have hlp2 : p < V5.heap.size := by omega
                  refine hK.out _ _ ⟨hb5, HB75.out⟩ (fun hHeld => ?_)
                  clear hK K
                  try simp only [Act.put]
                  refine wpAnyH_ready (rs := [12]) (by kernel_rfl) (by simp) (AllReadyH.cons rfl (fun K hK => ?_) AllReadyH.nil)
                  · rw [if_pos (by rfl)]
                    refine wp_store_row 0x7e _ _ rfl p (bvs T) rfl rfl 0x7e (bvs (List.replicate 32 0#8)) HP5.out (i36 T HTL.out) (by rw [bvs_size, bvs_size, HTL.out]; rfl) (bvs_one T) ?_
                    obtain ⟨V6, hV⟩ : ∃ V, V5.setRow p (bvs T) = V := ⟨_, rfl⟩
                    have h12 : Blk V6 p 0x7e (bvs T) := by rw [← hV]; exact setRow_heap _ _ _ _ _ _ HP5.out
                    have hb6 : Below V0.heap.size V0 V6 := by rw [← hV]; exact below_setRow hb5 hp _
                    rw [hV]
                    have HPB6 := Lib.hid h12
                    have h7e : Blk V6 b7 5 #[.int .u8 (ib xk)] := by rw [← hV]; exact (Blk.setRowNe HB75.out hne7p)
                    refine hK.out _ _ ⟨hb6, h7e⟩ (fun hHeld => ?_)
                    clear hK K hV h7e h12
                    try simp only [Act.put]
                    refine wpAnyH_done (by kernel_rfl) ?_ _
                    simp only [List.getElem_toArray, List.getElem_cons_succ, List.getElem_cons_zero]
                    go_wp2_with fail
                    go_meet
                    exact ⟨p, rfl, hp, HPB6, Lib.hid hb6⟩
          · go_simp
            have hb : Below V1.heap.size V1 (V1.alloc (.cells #[.string la, .string lb, .string xb] 9)) := (Below.refl _ _).alloc (Nat.le_refl _) _
            have h9 : Row3 (V1.alloc (.cells #[.string la, .string lb, .string xb] 9)) V1.heap.size la lb xb := Blk.new V1 9 _
            obtain ⟨b9, hb9⟩ : ∃ b, V1.heap.size = b := ⟨_, rfl⟩
            obtain ⟨V2, hV⟩ : ∃ V, V1.alloc (.cells #[.string la, .string lb, .string xb] 9) = V := ⟨_, rfl⟩
            rw [hV, hb9] at h9; rw [hV] at hb; rw [hV, hb9]
            clear hV hb9; have HR92 := Lib.hid h9; have hl9 := Blk.lt h9; clear h9
            have hb2 : Below V0.heap.size V0 V2 := hb1.trans (hb.mono hb1.size)
            have hbs := hb.size
            have HB72 := Lib.hid (HB71.out.keep hb); replace hl7 : b7 < V2.heap.size := by omega
            refine hK.out _ _ ⟨hb2, HB72.out⟩ (fun hHeld => ?_)
            clear hK K
            try simp only [Act.put]
            clear hb
            refine wpAnyH_ready (rs := [1, 11]) (by kernel_rfl) (by simp) (AllReadyH.cons rfl (fun K hK => ?_) (AllReadyH.cons rfl (fun K hK => ?_) AllReadyH.nil))
            · go_simp
              go_at_call 103
              (with_reducible refine (copyK_any gm g key [] V2 (HM0.out.keep hb2)).mono ?_)
              rintro e V3 ⟨gm2, g2, rfl, hgm2, hg2, hm2, hb⟩
              have HM23 := Lib.hid hm2
              have hl2 := hm2.lt; have hq2 : 4 ≤ g2 := by have := HT0.out.size; have := hb2.size; omega
              have hne7 : b7 ≠ g2 := by omega
              have hne9 : g2 ≠ b9 := by omega
              clear hm2
              have hb3 : Below V0.heap.size V0 V3 := hb2.trans (hb.mono hb2.size)
              have hbs := hb.size
              have HB73 := Lib.hid (HB72.out.keep hb); replace hl7 : b7 < V3.heap.size := by omega
              have HR93 := Lib.hid (HR92.out.keep hb); replace hl9 : b9 < V3.heap.size := by omega
              refine hK.out _ _ ⟨hb3, HB73.out⟩ (fun hHeld => ?_)
              clear hK K
              try simp only [Act.put]
              clear hb
              refine wpAnyH_ready (rs := [10, 11]) (by kernel_rfl) (by simp) (AllReadyH.cons rfl (fun K hK => ?_) (AllReadyH.cons rfl (fun K hK => ?_) AllReadyH.nil))
              · go_simp
                go_at_call 102
                (with_reducible refine (TOLD.out gm2 g2 b9 V3 HM23.out hq2 (HT0.out.keep hb3) (HR93.out.ok hne9)).mono ?_)
                rintro e V4 ⟨rfl, hbt⟩
                have hb4 : Below V0.heap.size V0 V4 := But.below hb3 hbt (fun b e => by omega)
                have hbs := hbt.size
                have HB74 := Lib.hid (HB73.out.but hbt hne7)
                refine hK.out _ _ ⟨hb4, HB74.out⟩ (fun hHeld => ?_)
                clear hK K
                try simp only [Act.put]
                refine wpAnyH_ready (rs := [11]) (by kernel_rfl) (by simp) (AllReadyH.cons rfl (fun K hK => ?_) AllReadyH.nil)
                · go_simp
                  rw [zu32_eq]
                  have hb : Below V4.heap.size V4 (V4.alloc (.cells (bvs (List.replicate 32 0#8)) 0x7e)) := (Below.refl _ _).alloc (Nat.le_refl _) _
                  have h11 := Blk.new V4 0x7e (bvs (List.replicate 32 0#8))
                  obtain ⟨p, hpe⟩ : ∃ b, V4.heap.size = b := ⟨_, rfl⟩
                  obtain ⟨V5, hV⟩ : ∃ V, V4.alloc (.cells (bvs (List.replicate 32 0#8)) 0x7e) = V := ⟨_, rfl⟩
                  rw [hV, hpe] at h11; rw [hV] at hb; rw [hV, hpe]
                  have hp : V0.heap.size ≤ p := by have := hb4.size; omega
                  have hne7p : b7 ≠ p := by omega
                  clear hV hpe; have HP5 := Lib.hid h11; have hlp := h11.lt; clear h11
                  have hb5 : Below V0.heap.size V0 V5 := hb4.trans (hb.mono hb4.size)
                  have hbs := hb.size
                  have HB75 := Lib.hid (HB74.out.keep hb); replace hl7 : b7 < V5.heap.size := by omega
                  refine hK.out _ _ ⟨hb5, HB75.out⟩ (fun hHeld => ?_)
                  clear hK K
                  try simp only [Act.put]
                  clear hb
                  refine wpAnyH_ready (rs := [12]) (by kernel_rfl) (by simp) (AllReadyH.cons rfl (fun K hK => ?_) AllReadyH.nil)
                  · rw [if_pos (by rfl)]
                    refine wp_store_row 0x7e _ _ rfl p (bvs T) rfl rfl 0x7e (bvs (List.replicate 32 0#8)) HP5.out (i36 T HTL.out) (by rw [bvs_size, bvs_size, HTL.out]; rfl) (bvs_one T) ?_
                    obtain ⟨V6, hV⟩ : ∃ V, V5.setRow p (bvs T) = V := ⟨_, rfl⟩
                    have h12 : Blk V6 p 0x7e (bvs T) := by rw [← hV]; exact setRow_heap _ _ _ _ _ _ HP5.out
                    have hb6 : Below V0.heap.size V0 V6 := by rw [← hV]; exact below_setRow hb5 hp _
                    rw [hV]
                    have HPB6 := Lib.hid h12
                    have h7e : Blk V6 b7 5 #[.int .u8 (ib xk)] := by rw [← hV]; exact (Blk.setRowNe HB75.out hne7p)
                    refine hK.out _ _ ⟨hb6, h7e⟩ (fun hHeld => ?_)
                    clear hK K hV h7e h12
                    try simp only [Act.put]
                    refine wpAnyH_done (by kernel_rfl) ?_ _
                    simp only [List.getElem_toArray, List.getElem_cons_succ, List.getElem_cons_zero]
                    go_wp2_with fail
                    go_meet
                    exact ⟨p, rfl, hp, HPB6, Lib.hid hb6⟩
              · go_simp
                rw [zu32_eq]
                have hb : Below V3.heap.size V3 (V3.alloc (.cells (bvs (List.replicate 32 0#8)) 0x7e)) := (Below.refl _ _).alloc (Nat.le_refl _) _
                have h11 := Blk.new V3 0x7e (bvs (List.replicate 32 0#8))
                obtain ⟨p, hpe⟩ : ∃ b, V3.heap.size = b := ⟨_, rfl⟩
                obtain ⟨V4, hV⟩ : ∃ V, V3.alloc (.cells (bvs (List.replicate 32 0#8)) 0x7e) = V := ⟨_, rfl⟩
                rw [hV, hpe] at h11; rw [hV] at hb; rw [hV, hpe]
                have hp : V0.heap.size ≤ p := by have := hb3.size; omega
                have hnep : p ≠ g2 := by omega
                have hne7p : b7 ≠ p := by omega
                clear hV hpe; have HP4 := Lib.hid h11; have hlp := h11.lt; clear h11
                have hb4 : Below V0.heap.size V0 V4 := hb3.trans (hb.mono hb3.size)
                have hbs := hb.size
                have HM24 := Lib.hid (HM23.out.keep hb); replace hl2 : gm2 < V4.heap.size ∧ g2 < V4.heap.size := by omega
                have HB74 := Lib.hid (HB73.out.keep hb); replace hl7 : b7 < V4.heap.size := by omega
                have HR94 := Lib.hid (HR93.out.keep hb); replace hl9 : b9 < V4.heap.size := by omega
                refine hK.out _ _ ⟨hb4, HB74.out⟩ (fun hHeld => ?_)
                clear hK K
                try simp only [Act.put]
                clear hb
                refine wpAnyH_ready (rs := [10]) (by kernel_rfl) (by simp) (AllReadyH.cons rfl (fun K hK => ?_) AllReadyH.nil)
                · go_simp
                  go_at_call 102
                  (with_reducible refine (TOLD.out gm2 g2 b9 V4 HM24.out hq2 (HT0.out.keep hb4) (HR94.out.ok hne9)).mono ?_)
                  rintro e V5 ⟨rfl, hbt⟩
                  have hb5 : Below V0.heap.size V0 V5 := But.below hb4 hbt (fun b e => by omega)
                  have hbs := hbt.size
                  have HB75 := Lib.hid (HB74.out.but hbt hne7)
                  have HP5 := Lib.hid (HP4.out.but hbt hnep); have hlp2 : p < V5.heap.size := by omega
                  refine hK.out _ _ ⟨hb5, HB75.out⟩ (fun hHeld => ?_)
                  clear hK K
                  try simp only [Act.put]
                  refine wpAnyH_ready (rs := [12]) (by kernel_rfl) (by simp) (AllReadyH.cons rfl (fun K hK => ?_) AllReadyH.nil)
                  · rw [if_pos (by rfl)]
                    refine wp_store_row 0x7e _ _ rfl p (bvs T) rfl rfl 0x7e (bvs (List.replicate 32 0#8)) HP5.out (i36 T HTL.out) (by rw [bvs_size, bvs_size, HTL.out]; rfl) (bvs_one T) ?_
                    obtain ⟨V6, hV⟩ : ∃ V, V5.setRow p (bvs T) = V := ⟨_, rfl⟩
                    have h12 : Blk V6 p 0x7e (bvs T) := by rw [← hV]; exact setRow_heap _ _ _ _ _ _ HP5.out
                    have hb6 : Below V0.heap.size V0 V6 := by rw [← hV]; exact below_setRow hb5 hp _
                    rw [hV]
                    have HPB6 := Lib.hid h12
                    have h7e : Blk V6 b7 5 #[.int .u8 (ib xk)] := by rw [← hV]; exact (Blk.setRowNe HB75.out hne7p)
                    refine hK.out _ _ ⟨hb6, h7e⟩ (fun hHeld => ?_)
                    clear hK K hV h7e h12
                    try simp only [Act.put]
                    refine wpAnyH_done (by kernel_rfl) ?_ _
                    simp only [List.getElem_toArray, List.getElem_cons_succ, List.getElem_cons_zero]
                    go_wp2_with fail
                    go_meet
                    exact ⟨p, rfl, hp, HPB6, Lib.hid hb6⟩
            · go_simp
              rw [zu32_eq]
              have hb : Below V2.heap.size V2 (V2.alloc (.cells (bvs (List.replicate 32 0#8)) 0x7e)) := (Below.refl _ _).alloc (Nat.le_refl _) _
              have h11 := Blk.new V2 0x7e (bvs (List.replicate 32 0#8))
              obtain ⟨p, hpe⟩ : ∃ b, V2.heap.size = b := ⟨_, rfl⟩
              obtain ⟨V3, hV⟩ : ∃ V, V2.alloc (.cells (bvs (List.replicate 32 0#8)) 0x7e) = V := ⟨_, rfl⟩
              rw [hV, hpe] at h11; rw [hV] at hb; rw [hV, hpe]
              have hp : V0.heap.size ≤ p := by have := hb2.size; omega
              have hne7p : b7 ≠ p := by omega
              clear hV hpe; have HP3 := Lib.hid h11; have hlp := h11.lt; clear h11
              have hb3 : Below V0.heap.size V0 V3 := hb2.trans (hb.mono hb2.size)
              have hbs := hb.size
              have HB73 := Lib.hid (HB72.out.keep hb); replace hl7 : b7 < V3.heap.size := by omega
              have HR93 := Lib.hid (HR92.out.keep hb); replace hl9 : b9 < V3.heap.size := by omega
              refine hK.out _ _ ⟨hb3, HB73.out⟩ (fun hHeld => ?_)
              clear hK K
              try simp only [Act.put]
              clear hb
              refine wpAnyH_ready (rs := [1]) (by kernel_rfl) (by simp) (AllReadyH.cons rfl (fun K hK => ?_) AllReadyH.nil)
              · go_simp
                go_at_call 103
                (with_reducible refine (copyK_any gm g key [] V3 (HM0.out.keep hb3)).mono ?_)
                rintro e V4 ⟨gm2, g2, rfl, hgm2, hg2, hm2, hb⟩
                have HM24 := Lib.hid hm2
                have hl2 := hm2.lt; have hq2 : 4 ≤ g2 := by have := HT0.out.size; have := hb3.size; omega
                have hne7 : b7 ≠ g2 := by omega
                have hne9 : g2 ≠ b9 := by omega
                have hnep : p ≠ g2 := by omega
                clear hm2
                have hb4 : Below V0.heap.size V0 V4 := hb3.trans (hb.mono hb3.size)
                have hbs := hb.size
                have HB74 := Lib.hid (HB73.out.keep hb); replace hl7 : b7 < V4.heap.size := by omega
                have HR94 := Lib.hid (HR93.out.keep hb); replace hl9 : b9 < V4.heap.size := by omega
                have HP4 := Lib.hid (HP3.out.keep hb); replace hlp : p < V4.heap.size := by omega
                refine hK.out _ _ ⟨hb4, HB74.out⟩ (fun hHeld => ?_)
                clear hK K
                try simp only [Act.put]
                clear hb
                refine wpAnyH_ready (rs := [10]) (by kernel_rfl) (by simp) (AllReadyH.cons rfl (fun K hK => ?_) AllReadyH.nil)
                · go_simp
                  go_at_call 102
                  (with_reducible refine (TOLD.out gm2 g2 b9 V4 HM24.out hq2 (HT0.out.keep hb4) (HR94.out.ok hne9)).mono ?_)
                  rintro e V5 ⟨rfl, hbt⟩
                  have hb5 : Below V0.heap.size V0 V5 := But.below hb4 hbt (fun b e => by omega)
                  have hbs := hbt.size
                  have HB75 := Lib.hid (HB74.out.but hbt hne7)
                  have HP5 := Lib.hid (HP4.out.but hbt hnep); have hlp2 : p < V5.heap.size := by omega
                  refine hK.out _ _ ⟨hb5, HB75.out⟩ (fun hHeld => ?_)
                  clear hK K
                  try simp only [Act.put]
                  refine wpAnyH_ready (rs := [12]) (by kernel_rfl) (by simp) (AllReadyH.cons rfl (fun K hK => ?_) AllReadyH.nil)
                  · rw [if_pos (by rfl)]
                    refine wp_store_row 0x7e _ _ rfl p (bvs T) rfl rfl 0x7e (bvs (List.replicate 32 0#8)) HP5.out (i36 T HTL.out) (by rw [bvs_size, bvs_size, HTL.out]; rfl) (bvs_one T) ?_
                    obtain ⟨V6, hV⟩ : ∃ V, V5.setRow p (bvs T) = V := ⟨_, rfl⟩
                    have h12 : Blk V6 p 0x7e (bvs T) := by rw [← hV]; exact setRow_heap _ _ _ _ _ _ HP5.out
                    have hb6 : Below V0.heap.size V0 V6 := by rw [← hV]; exact below_setRow hb5 hp _
                    rw [hV]
                    have HPB6 := Lib.hid h12
                    have h7e : Blk V6 b7 5 #[.int .u8 (ib xk)] := by rw [← hV]; exact (Blk.setRowNe HB75.out hne7p)
                    refine hK.out _ _ ⟨hb6, h7e⟩ (fun hHeld => ?_)
                    clear hK K hV h7e h12
                    try simp only [Act.put]
                    refine wpAnyH_done (by kernel_rfl) ?_ _
                    simp only [List.getElem_toArray, List.getElem_cons_succ, List.getElem_cons_zero]
                    go_wp2_with fail
                    go_meet
                    exact ⟨p, rfl, hp, HPB6, Lib.hid hb6⟩
          · go_simp
            rw [zu32_eq]
            have hb : Below V1.heap.size V1 (V1.alloc (.cells (bvs (List.replicate 32 0#8)) 0x7e)) := (Below.refl _ _).alloc (Nat.le_refl _) _
            have h11 := Blk.new V1 0x7e (bvs (List.replicate 32 0#8))
            obtain ⟨p, hpe⟩ : ∃ b, V1.heap.size = b := ⟨_, rfl⟩
            obtain ⟨V2, hV⟩ : ∃ V, V1.alloc (.cells (bvs (List.replicate 32 0#8)) 0x7e) = V := ⟨_, rfl⟩
            rw [hV, hpe] at h11; rw [hV] at hb; rw [hV, hpe]
            have hp : V0.heap.size ≤ p := by have := hb1.size; omega
            have hne7p : b7 ≠ p := by omega
            clear hV hpe; have HP2 := Lib.hid h11; have hlp := h11.lt; clear h11
            have hb2 : Below V0.heap.size V0 V2 := hb1.trans (hb.mono hb1.size)
            have hbs := hb.size
            have HB72 := Lib.hid (HB71.out.keep hb); replace hl7 : b7 < V2.heap.size := by omega
            refine hK.out _ _ ⟨hb2, HB72.out⟩ (fun hHeld => ?_)
            clear hK K
            try simp only [Act.put]
            clear hb
            refine wpAnyH_ready (rs := [1, 9]) (by kernel_rfl) (by simp) (AllReadyH.cons rfl (fun K hK => ?_) (AllReadyH.cons rfl (fun K hK => ?_) AllReadyH.nil))
            · go_simp
              go_at_call 103
              (with_reducible refine (copyK_any gm g key [] V2 (HM0.out.keep hb2)).mono ?_)
              rintro e V3 ⟨gm2, g2, rfl, hgm2, hg2, hm2, hb⟩
              have HM23 := Lib.hid hm2
              have hl2 := hm2.lt; have hq2 : 4 ≤ g2 := by have := HT0.out.size; have := hb2.size; omega
              have hne7 : b7 ≠ g2 := by omega
              have hnep : p ≠ g2 := by omega
              clear hm2
              have hb3 : Below V0.heap.size V0 V3 := hb2.trans (hb.mono hb2.size)
              have hbs := hb.size
              have HB73 := Lib.hid (HB72.out.keep hb); replace hl7 : b7 < V3.heap.size := by omega
              have HP3 := Lib.hid (HP2.out.keep hb); replace hlp : p < V3.heap.size := by omega
              refine hK.out _ _ ⟨hb3, HB73.out⟩ (fun hHeld => ?_)
              clear hK K
              try simp only [Act.put]
              clear hb
              refine wpAnyH_ready (rs := [9]) (by kernel_rfl) (by simp) (AllReadyH.cons rfl (fun K hK => ?_) AllReadyH.nil)
              · go_simp
                have hb : Below V3.heap.size V3 (V3.alloc (.cells #[.string la, .string lb, .string xb] 9)) := (Below.refl _ _).alloc (Nat.le_refl _) _
                have h9 : Row3 (V3.alloc (.cells #[.string la, .string lb, .string xb] 9)) V3.heap.size la lb xb := Blk.new V3 9 _
                obtain ⟨b9, hb9⟩ : ∃ b, V3.heap.size = b := ⟨_, rfl⟩
                obtain ⟨V4, hV⟩ : ∃ V, V3.alloc (.cells #[.string la, .string lb, .string xb] 9) = V := ⟨_, rfl⟩
                rw [hV, hb9] at h9; rw [hV] at hb; rw [hV, hb9]
                have hne9 : g2 ≠ b9 := by omega
                clear hV hb9; have HR94 := Lib.hid h9; have hl9 := Blk.lt h9; clear h9
                have hb4 : Below V0.heap.size V0 V4 := hb3.trans (hb.mono hb3.size)
                have hbs := hb.size
                have HM24 := Lib.hid (HM23.out.keep hb); replace hl2 : gm2 < V4.heap.size ∧ g2 < V4.heap.size := by omega
                have HB74 := Lib.hid (HB73.out.keep hb); replace hl7 : b7 < V4.heap.size := by omega
                have HP4 := Lib.hid (HP3.out.keep hb); replace hlp : p < V4.heap.size := by omega
                refine hK.out _ _ ⟨hb4, HB74.out⟩ (fun hHeld => ?_)
                clear hK K
                try simp only [Act.put]
                clear hb
                refine wpAnyH_ready (rs := [10]) (by kernel_rfl) (by simp) (AllReadyH.cons rfl (fun K hK => ?_) AllReadyH.nil)
                · go_simp
                  go_at_call 102
                  (with_reducible refine (TOLD.out gm2 g2 b9 V4 HM24.out hq2 (HT0.out.keep hb4) (HR94.out.ok hne9)).mono ?_)
                  rintro e V5 ⟨rfl, hbt⟩
                  have hb5 : Below V0.heap.size V0 V5 := But.below hb4 hbt (fun b e => by omega)
                  have hbs := hbt.size
                  have HB75 := Lib.hid (HB74.out.but hbt hne7)
                  have HP5 := Lib.hid (HP4.out.but hbt hnep); have hlp2 : p < V5.heap.size := by omega
                  refine hK.out _ _ ⟨hb5, HB75.out⟩ (fun hHeld => ?_)
                  clear hK K
                  try simp only [Act.put]
                  refine wpAnyH_ready (rs := [12]) (by kernel_rfl) (by simp) (AllReadyH.cons rfl (fun K hK => ?_) AllReadyH.nil)
                  · rw [if_pos (by rfl)]
                    refine wp_store_row 0x7e _ _ rfl p (bvs T) rfl rfl 0x7e (bvs (List.replicate 32 0#8)) HP5.out (i36 T HTL.out) (by rw [bvs_size, bvs_size, HTL.out]; rfl) (bvs_one T) ?_
                    obtain ⟨V6, hV⟩ : ∃ V, V5.setRow p (bvs T) = V := ⟨_, rfl⟩
                    have h12 : Blk V6 p 0x7e (bvs T) := by rw [← hV]; exact setRow_heap _ _ _ _ _ _ HP5.out
                    have hb6 : Below V0.heap.size V0 V6 := by rw [← hV]; exact below_setRow hb5 hp _
                    rw [hV]
                    have HPB6 := Lib.hid h12
                    have h7e : Blk V6 b7 5 #[.int .u8 (ib xk)] := by rw [← hV]; exact (Blk.setRowNe HB75.out hne7p)
                    refine hK.out _ _ ⟨hb6, h7e⟩ (fun hHeld => ?_)
                    clear hK K hV h7e h12
                    try simp only [Act.put]
                    refine wpAnyH_done (by kernel_rfl) ?_ _
                    simp only [List.getElem_toArray, List.getElem_cons_succ, List.getElem_cons_zero]
                    go_wp2_with fail
                    go_meet
                    exact ⟨p, rfl, hp, HPB6, Lib.hid hb6⟩
            · go_simp
              have hb : Below V2.heap.size V2 (V2.alloc (.cells #[.string la, .string lb, .string xb] 9)) := (Below.refl _ _).alloc (Nat.le_refl _) _
              have h9 : Row3 (V2.alloc (.cells #[.string la, .string lb, .string xb] 9)) V2.heap.size la lb xb := Blk.new V2 9 _
              obtain ⟨b9, hb9⟩ : ∃ b, V2.heap.size = b := ⟨_, rfl⟩
              obtain ⟨V3, hV⟩ : ∃ V, V2.alloc (.cells #[.string la, .string lb, .string xb] 9) = V := ⟨_, rfl⟩
              rw [hV, hb9] at h9; rw [hV] at hb; rw [hV, hb9]
              clear hV hb9; have HR93 := Lib.hid h9; have hl9 := Blk.lt h9; clear h9
              have hb3 : Below V0.heap.size V0 V3 := hb2.trans (hb.mono hb2.size)
              have hbs := hb.size
              have HB73 := Lib.hid (HB72.out.keep hb); replace hl7 : b7 < V3.heap.size := by omega
              have HP3 := Lib.hid (HP2.out.keep hb); replace hlp : p < V3.heap.size := by omega
              refine hK.out _ _ ⟨hb3, HB73.out⟩ (fun hHeld => ?_)
              clear hK K
              try simp only [Act.put]
              clear hb
              refine wpAnyH_ready (rs := [1]) (by kernel_rfl) (by simp) (AllReadyH.cons rfl (fun K hK => ?_) AllReadyH.nil)
              · go_simp
                go_at_call 103
                (with_reducible refine (copyK_any gm g key [] V3 (HM0.out.keep hb3)).mono ?_)
                rintro e V4 ⟨gm2, g2, rfl, hgm2, hg2, hm2, hb⟩
                have HM24 := Lib.hid hm2
                have hl2 := hm2.lt; have hq2 : 4 ≤ g2 := by have := HT0.out.size; have := hb3.size; omega
                have hne7 : b7 ≠ g2 := by omega
                have hne9 : g2 ≠ b9 := by omega
                have hnep : p ≠ g2 := by omega
                clear hm2
                have hb4 : Below V0.heap.size V0 V4 := hb3.trans (hb.mono hb3.size)
                have hbs := hb.size
                have HB74 := Lib.hid (HB73.out.keep hb); replace hl7 : b7 < V4.heap.size := by omega
                have HR94 := Lib.hid (HR93.out.keep hb); replace hl9 : b9 < V4.heap.size := by omega
                have HP4 := Lib.hid (HP3.out.keep hb); replace hlp : p < V4.heap.size := by omega
                refine hK.out _ _ ⟨hb4, HB74.out⟩ (fun hHeld => ?_)
                clear hK K
                try simp only [Act.put]
                clear hb
                refine wpAnyH_ready (rs := [10]) (by kernel_rfl) (by simp) (AllReadyH.cons rfl (fun K hK => ?_) AllReadyH.nil)
                · go_simp
                  go_at_call 102
                  (with_reducible refine (TOLD.out gm2 g2 b9 V4 HM24.out hq2 (HT0.out.keep hb4) (HR94.out.ok hne9)).mono ?_)
                  rintro e V5 ⟨rfl, hbt⟩
                  have hb5 : Below V0.heap.size V0 V5 := But.below hb4 hbt (fun b e => by omega)
                  have hbs := hbt.size
                  have HB75 := Lib.hid (HB74.out.but hbt hne7)
                  have HP5 := Lib.hid (HP4.out.but hbt hnep); have hlp2 : p < V5.heap.size := by omega
                  refine hK.out _ _ ⟨hb5, HB75.out⟩ (fun hHeld => ?_)
                  clear hK K
                  try simp only [Act.put]
                  refine wpAnyH_ready (rs := [12]) (by kernel_rfl) (by simp) (AllReadyH.cons rfl (fun K hK => ?_) AllReadyH.nil)
                  · rw [if_pos (by rfl)]
                    refine wp_store_row 0x7e _ _ rfl p (bvs T) rfl rfl 0x7e (bvs (List.replicate 32 0#8)) HP5.out (i36 T HTL.out) (by rw [bvs_size, bvs_size, HTL.out]; rfl) (bvs_one T) ?_
                    obtain ⟨V6, hV⟩ : ∃ V, V5.setRow p (bvs T) = V := ⟨_, rfl⟩
                    have h12 : Blk V6 p 0x7e (bvs T) := by rw [← hV]; exact setRow_heap _ _ _ _ _ _ HP5.out
                    have hb6 : Below V0.heap.size V0 V6 := by rw [← hV]; exact below_setRow hb5 hp _
                    rw [hV]
                    have HPB6 := Lib.hid h12
                    have h7e : Blk V6 b7 5 #[.int .u8 (ib xk)] := by rw [← hV]; exact (Blk.setRowNe HB75.out hne7p)
                    refine hK.out _ _ ⟨hb6, h7e⟩ (fun hHeld => ?_)
                    clear hK K hV h7e h12
                    try simp only [Act.put]
                    refine wpAnyH_done (by kernel_rfl) ?_ _
                    simp only [List.getElem_toArray, List.getElem_cons_succ, List.getElem_cons_zero]
                    go_wp2_with fail
                    go_meet
                    exact ⟨p, rfl, hp, HPB6, Lib.hid hb6⟩
        · go_simp
          rw [zu32_eq]
          have hb : Below V0.heap.size V0 (V0.alloc (.cells (bvs (List.replicate 32 0#8)) 0x7e)) := (Below.refl _ _).alloc (Nat.le_refl _) _
          have h11 := Blk.new V0 0x7e (bvs (List.replicate 32 0#8))
          obtain ⟨p, hpe⟩ : ∃ b, V0.heap.size = b := ⟨_, rfl⟩
          obtain ⟨V1, hV⟩ : ∃ V, V0.alloc (.cells (bvs (List.replicate 32 0#8)) 0x7e) = V := ⟨_, rfl⟩
          rw [hV, hpe] at h11; rw [hV] at hb; rw [hV, hpe]
          have hp : V0.heap.size ≤ p := by have := hb0.size; omega
          clear hV hpe; have HP1 := Lib.hid h11; have hlp := h11.lt; clear h11
          have hb1 : Below V0.heap.size V0 V1 := hb0.trans (hb.mono hb0.size)
          have hbs := hb.size
          refine hK.out _ _ hb1 (fun hHeld => ?_)
          clear hK K
          try simp only [Act.put]
          clear hb
          refine wpAnyH_ready (rs := [1, 7]) (by kernel_rfl) (by simp) (AllReadyH.cons rfl (fun K hK => ?_) (AllReadyH.cons rfl (fun K hK => ?_) AllReadyH.nil))
          · go_simp
            go_at_call 103
            (with_reducible refine (copyK_any gm g key [] V1 (HM0.out.keep hb1)).mono ?_)
            rintro e V2 ⟨gm2, g2, rfl, hgm2, hg2, hm2, hb⟩
            have HM22 := Lib.hid hm2
            have hl2 := hm2.lt; have hq2 : 4 ≤ g2 := by have := HT0.out.size; have := hb1.size; omega
            have hnep : p ≠ g2 := by omega
            clear hm2
            have hb2 : Below V0.heap.size V0 V2 := hb1.trans (hb.mono hb1.size)
            have hbs := hb.size
            have HP2 := Lib.hid (HP1.out.keep hb); replace hlp : p < V2.heap.size := by omega
            refine hK.out _ _ hb2 (fun hHeld => ?_)
            clear hK K
            try simp only [Act.put]
            clear hb
            refine wpAnyH_ready (rs := [7]) (by kernel_rfl) (by simp) (AllReadyH.cons rfl (fun K hK => ?_) AllReadyH.nil)
            · go_simp
              have hb : Below V2.heap.size V2 (V2.alloc (.cells #[.int .u8 (ib xk)] 5)) := (Below.refl _ _).alloc (Nat.le_refl _) _
              have h7 := Blk.new V2 5 #[.int .u8 (ib xk)]
              obtain ⟨b7, hb7⟩ : ∃ b, V2.heap.size = b := ⟨_, rfl⟩
              obtain ⟨V3, hV⟩ : ∃ V, V2.alloc (.cells #[.int .u8 (ib xk)] 5) = V := ⟨_, rfl⟩
              rw [hV, hb7] at h7; rw [hV] at hb; rw [hV, hb7]
              have hne7 : b7 ≠ g2 := by omega
              have hne7p : b7 ≠ p := by omega
              clear hV hb7; have HB73 := Lib.hid h7; have hl7 := h7.lt; clear h7
              have hb3 : Below V0.heap.size V0 V3 := hb2.trans (hb.mono hb2.size)
              have hbs := hb.size
              have HM23 := Lib.hid (HM22.out.keep hb); replace hl2 : gm2 < V3.heap.size ∧ g2 < V3.heap.size := by omega
              have HP3 := Lib.hid (HP2.out.keep hb); replace hlp : p < V3.heap.size := by omega
              refine hK.out _ _ hb3 (fun hHeld => ?_)
              clear hK K
              try simp only [Act.put]
              refine wpAnyH_mono (S' := fun wx => Below V0.heap.size V0 wx ∧ Blk wx b7 5 #[.int .u8 (ib xk)]) (fun wx h => h.1) _ _ _ _ ?_
              clear hHeld; have hHeld : Below V0.heap.size V0 V3 ∧ Blk V3 b7 5 #[.int .u8 (ib xk)] := ⟨hb3, HB73.out⟩
              refine wpAnyH_take (i := 8) (v := .string xb) rfl (by kernel_rfl) (by kernel_rfl) (by kernel_rfl) (fun _ _ _ h => h) (Or.inl ⟨by rfl, ?_⟩) (by assumption) ?_
              · intro wx hs1; have hcx := CV8.out b7 wx hs1.2; go_simp
              try simp only [Act.put]
              clear hb
              refine wpAnyH_ready (rs := [9]) (by kernel_rfl) (by simp) (AllReadyH.cons rfl (fun K hK => ?_) AllReadyH.nil)
              · go_simp
                have hb : Below V3.heap.size V3 (V3.alloc (.cells #[.string la, .string lb, .string xb] 9)) := (Below.refl _ _).alloc (Nat.le_refl _) _
                have h9 : Row3 (V3.alloc (.cells #[.string la, .string lb, .string xb] 9)) V3.heap.size la lb xb := Blk.new V3 9 _
                obtain ⟨b9, hb9⟩ : ∃ b, V3.heap.size = b := ⟨_, rfl⟩
                obtain ⟨V4, hV⟩ : ∃ V, V3.alloc (.cells #[.string la, .string lb, .string xb] 9) = V := ⟨_, rfl⟩
                rw [hV, hb9] at h9; rw [hV] at hb; rw [hV, hb9]
                have hne9 : g2 ≠ b9 := by omega
                clear hV hb9; have HR94 := Lib.hid h9; have hl9 := Blk.lt h9; clear h9
                have hb4 : Below V0.heap.size V0 V4 := hb3.trans (hb.mono hb3.size)
                have hbs := hb.size
                have HM24 := Lib.hid (HM23.out.keep hb); replace hl2 : gm2 < V4.heap.size ∧ g2 < V4.heap.size := by omega
                have HB74 := Lib.hid (HB73.out.keep hb); replace hl7 : b7 < V4.heap.size := by omega
                have HP4 := Lib.hid (HP3.out.keep hb); replace hlp : p < V4.heap.size := by omega
                refine hK.out _ _ ⟨hb4, HB74.out⟩ (fun hHeld => ?_)
                clear hK K
                try simp only [Act.put]
                clear hb
                refine wpAnyH_ready (rs := [10]) (by kernel_rfl) (by simp) (AllReadyH.cons rfl (fun K hK => ?_) AllReadyH.nil)
                · go_simp
                  go_at_call 102
                  (with_reducible refine (TOLD.out gm2 g2 b9 V4 HM24.out hq2 (HT0.out.keep hb4) (HR94.out.ok hne9)).mono ?_)
                  rintro e V5 ⟨rfl, hbt⟩
                  have hb5 : Below V0.heap.size V0 V5 := But.below hb4 hbt (fun b e => by omega)
                  have hbs := hbt.size
                  have HB75 := Lib.hid (HB74.out.but hbt hne7)
                  have HP5 := Lib.hid (HP4.out.but hbt hnep); have hlp2 : p < V5.heap.size := by omega
                  refine hK.out _ _ ⟨hb5, HB75.out⟩ (fun hHeld => ?_)
                  clear hK K
                  try simp only [Act.put]
                  refine wpAnyH_ready (rs := [12]) (by kernel_rfl) (by simp) (AllReadyH.cons rfl (fun K hK => ?_) AllReadyH.nil)
                  · rw [if_pos (by rfl)]
                    refine wp_store_row 0x7e _ _ rfl p (bvs T) rfl rfl 0x7e (bvs (List.replicate 32 0#8)) HP5.out (i36 T HTL.out) (by rw [bvs_size, bvs_size, HTL.out]; rfl) (bvs_one T) ?_
                    obtain ⟨V6, hV⟩ : ∃ V, V5.setRow p (bvs T) = V := ⟨_, rfl⟩
                    have h12 : Blk V6 p 0x7e (bvs T) := by rw [← hV]; exact setRow_heap _ _ _ _ _ _ HP5.out
                    have hb6 : Below V0.heap.size V0 V6 := by rw [← hV]; exact below_setRow hb5 hp _
                    rw [hV]
                    have HPB6 := Lib.hid h12
                    have h7e : Blk V6 b7 5 #[.int .u8 (ib xk)] := by rw [← hV]; exact (Blk.setRowNe HB75.out hne7p)
                    refine hK.out _ _ ⟨hb6, h7e⟩ (fun hHeld => ?_)
                    clear hK K hV h7e h12
                    try simp only [Act.put]
                    refine wpAnyH_done (by kernel_rfl) ?_ _
                    simp only [List.getElem_toArray, List.getElem_cons_succ, List.getElem_cons_zero]
                    go_wp2_with fail
                    go_meet
                    exact ⟨p, rfl, hp, HPB6, Lib.hid hb6⟩
          · go_simp
            have hb : Below V1.heap.size V1 (V1.alloc (.cells #[.int .u8 (ib xk)] 5)) := (Below.refl _ _).alloc (Nat.le_refl _) _
            have h7 := Blk.new V1 5 #[.int .u8 (ib xk)]
            obtain ⟨b7, hb7⟩ : ∃ b, V1.heap.size = b := ⟨_, rfl⟩
            obtain ⟨V2, hV⟩ : ∃ V, V1.alloc (.cells #[.int .u8 (ib xk)] 5) = V := ⟨_, rfl⟩
            rw [hV, hb7] at h7; rw [hV] at hb; rw [hV, hb7]
            have hne7p : b7 ≠ p := by omega
            clear hV hb7; have HB72 := Lib.hid h7; have hl7 := h7.lt; clear h7
            have hb2 : Below V0.heap.size V0 V2 := hb1.trans (hb.mono hb1.size)
            have hbs := hb.size
            have HP2 := Lib.hid (HP1.out.keep hb); replace hlp : p < V2.heap.size := by omega
            refine hK.out _ _ hb2 (fun hHeld => ?_)
            clear hK K
            try simp only [Act.put]
            refine wpAnyH_mono (S' := fun wx => Below V0.heap.size V0 wx ∧ Blk wx b7 5 #[.int .u8 (ib xk)]) (fun wx h => h.1) _ _ _ _ ?_
            clear hHeld; have hHeld : Below V0.heap.size V0 V2 ∧ Blk V2 b7 5 #[.int .u8 (ib xk)] := ⟨hb2, HB72.out⟩
            refine wpAnyH_take (i := 8) (v := .string xb) rfl (by kernel_rfl) (by kernel_rfl) (by kernel_rfl) (fun _ _ _ h => h) (Or.inl ⟨by rfl, ?_⟩) (by assumption) ?_
            · intro wx hs1; have hcx := CV8.out b7 wx hs1.2; go_simp
            try simp only [Act.put]
            clear hb
            refine wpAnyH_ready (rs := [1, 9]) (by kernel_rfl) (by simp) (AllReadyH.cons rfl (fun K hK => ?_) (AllReadyH.cons rfl (fun K hK => ?_) AllReadyH.nil))
            · go_simp
              go_at_call 103
              (with_reducible refine (copyK_any gm g key [] V2 (HM0.out.keep hb2)).mono ?_)
              rintro e V3 ⟨gm2, g2, rfl, hgm2, hg2, hm2, hb⟩
              have HM23 := Lib.hid hm2
              have hl2 := hm2.lt; have hq2 : 4 ≤ g2 := by have := HT0.out.size; have := hb2.size; omega
              have hne7 : b7 ≠ g2 := by omega
              have hnep : p ≠ g2 := by omega
              clear hm2
              have hb3 : Below V0.heap.size V0 V3 := hb2.trans (hb.mono hb2.size)
              have hbs := hb.size
              have HB73 := Lib.hid (HB72.out.keep hb); replace hl7 : b7 < V3.heap.size := by omega
              have HP3 := Lib.hid (HP2.out.keep hb); replace hlp : p < V3.heap.size := by omega
              refine hK.out _ _ ⟨hb3, HB73.out⟩ (fun hHeld => ?_)
              clear hK K
              try simp only [Act.put]
              clear hb
              refine wpAnyH_ready (rs := [9]) (by kernel_rfl) (by simp) (AllReadyH.cons rfl (fun K hK => ?_) AllReadyH.nil)
              · go_simp
                have hb : Below V3.heap.size V3 (V3.alloc (.cells #[.string la, .string lb, .string xb] 9)) := (Below.refl _ _).alloc (Nat.le_refl _) _
                have h9 : Row3 (V3.alloc (.cells #[.string la, .string lb, .string xb] 9)) V3.heap.size la lb xb := Blk.new V3 9 _
                obtain ⟨b9, hb9⟩ : ∃ b, V3.heap.size = b := ⟨_, rfl⟩
                obtain ⟨V4, hV⟩ : ∃ V, V3.alloc (.cells #[.string la, .string lb, .string xb] 9) = V := ⟨_, rfl⟩
                rw [hV, hb9] at h9; rw [hV] at hb; rw [hV, hb9]
                have hne9 : g2 ≠ b9 := by omega
                clear hV hb9; have HR94 := Lib.hid h9; have hl9 := Blk.lt h9; clear h9
                have hb4 : Below V0.heap.size V0 V4 := hb3.trans (hb.mono hb3.size)
                have hbs := hb.size
                have HM24 := Lib.hid (HM23.out.keep hb); replace hl2 : gm2 < V4.heap.size ∧ g2 < V4.heap.size := by omega
                have HB74 := Lib.hid (HB73.out.keep hb); replace hl7 : b7 < V4.heap.size := by omega
                have HP4 := Lib.hid (HP3.out.keep hb); replace hlp : p < V4.heap.size := by omega
                refine hK.out _ _ ⟨hb4, HB74.out⟩ (fun hHeld => ?_)
                clear hK K
                try simp only [Act.put]
                clear hb
                refine wpAnyH_ready (rs := [10]) (by kernel_rfl) (by simp) (AllReadyH.cons rfl (fun K hK => ?_) AllReadyH.nil)
                · go_simp
                  go_at_call 102
                  (with_reducible refine (TOLD.out gm2 g2 b9 V4 HM24.out hq2 (HT0.out.keep hb4) (HR94.out.ok hne9)).mono ?_)
                  rintro e V5 ⟨rfl, hbt⟩
                  have hb5 : Below V0.heap.size V0 V5 := But.below hb4 hbt (fun b e => by omega)
                  have hbs := hbt.size
                  have HB75 := Lib.hid (HB74.out.but hbt hne7)
                  have HP5 := Lib.hid (HP4.out.but hbt hnep); have hlp2 : p < V5.heap.size := by omega
                  refine hK.out _ _ ⟨hb5, HB75.out⟩ (fun hHeld => ?_)
                  clear hK K
                  try simp only [Act.put]
                  refine wpAnyH_ready (rs := [12]) (by kernel_rfl) (by simp) (AllReadyH.cons rfl (fun K hK => ?_) AllReadyH.nil)
                  · rw [if_pos (by rfl)]
                    refine wp_store_row 0x7e _ _ rfl p (bvs T) rfl rfl 0x7e (bvs (List.replicate 32 0#8)) HP5.out (i36 T HTL.out) (by rw [bvs_size, bvs_size, HTL.out]; rfl) (bvs_one T) ?_
                    obtain ⟨V6, hV⟩ : ∃ V, V5.setRow p (bvs T) = V := ⟨_, rfl⟩
                    have h12 : Blk V6 p 0x7e (bvs T) := by rw [← hV]; exact setRow_heap _ _ _ _ _ _ HP5.out
                    have hb6 : Below V0.heap.size V0 V6 := by rw [← hV]; exact below_setRow hb5 hp _
                    rw [hV]
                    have HPB6 := Lib.hid h12
                    have h7e : Blk V6 b7 5 #[.int .u8 (ib xk)] := by rw [← hV]; exact (Blk.setRowNe HB75.out hne7p)
                    refine hK.out _ _ ⟨hb6, h7e⟩ (fun hHeld => ?_)
                    clear hK K hV h7e h12
                    try simp only [Act.put]
                    refine wpAnyH_done (by kernel_rfl) ?_ _
                    simp only [List.getElem_toArray, List.getElem_cons_succ, List.getElem_cons_zero]
                    go_wp2_with fail
                    go_meet
                    exact ⟨p, rfl, hp, HPB6, Lib.hid hb6⟩
            · go_simp
              have hb : Below V2.heap.size V2 (V2.alloc (.cells #[.string la, .string lb, .string xb] 9)) := (Below.refl _ _).alloc (Nat.le_refl _) _
              have h9 : Row3 (V2.alloc (.cells #[.string la, .string lb, .string xb] 9)) V2.heap.size la lb xb := Blk.new V2 9 _
              obtain ⟨b9, hb9⟩ : ∃ b, V2.heap.size = b := ⟨_, rfl⟩
              obtain ⟨V3, hV⟩ : ∃ V, V2.alloc (.cells #[.string la, .string lb, .string xb] 9) = V := ⟨_, rfl⟩
              rw [hV, hb9] at h9; rw [hV] at hb; rw [hV, hb9]
              clear hV hb9; have HR93 := Lib.hid h9; have hl9 := Blk.lt h9; clear h9
              have hb3 : Below V0.heap.size V0 V3 := hb2.trans (hb.mono hb2.size)
              have hbs := hb.size
              have HB73 := Lib.hid (HB72.out.keep hb); replace hl7 : b7 < V3.heap.size := by omega
              have HP3 := Lib.hid (HP2.out.keep hb); replace hlp : p < V3.heap.size := by omega
              refine hK.out _ _ ⟨hb3, HB73.out⟩ (fun hHeld => ?_)
              clear hK K
              try simp only [Act.put]
              clear hb
              refine wpAnyH_ready (rs := [1]) (by kernel_rfl) (by simp) (AllReadyH.cons rfl (fun K hK => ?_) AllReadyH.nil)
              · go_simp
                go_at_call 103
                (with_reducible refine (copyK_any gm g key [] V3 (HM0.out.keep hb3)).mono ?_)
                rintro e V4 ⟨gm2, g2, rfl, hgm2, hg2, hm2, hb⟩
                have HM24 := Lib.hid hm2
                have hl2 := hm2.lt; have hq2 : 4 ≤ g2 := by have := HT0.out.size; have := hb3.size; omega
                have hne7 : b7 ≠ g2 := by omega
                have hne9 : g2 ≠ b9 := by omega
                have hnep : p ≠ g2 := by omega
                clear hm2
                have hb4 : Below V0.heap.size V0 V4 := hb3.trans (hb.mono hb3.size)
                have hbs := hb.size
                have HB74 := Lib.hid (HB73.out.keep hb); replace hl7 : b7 < V4.heap.size := by omega
                have HR94 := Lib.hid (HR93.out.keep hb); replace hl9 : b9 < V4.heap.size := by omega
                have HP4 := Lib.hid (HP3.out.keep hb); replace hlp : p < V4.heap.size := by omega
                refine hK.out _ _ ⟨hb4, HB74.out⟩ (fun hHeld => ?_)
                clear hK K
                try simp only [Act.put]
                clear hb
                refine wpAnyH_ready (rs := [10]) (by kernel_rfl) (by simp) (AllReadyH.cons rfl (fun K hK => ?_) AllReadyH.nil)
                · go_simp
                  go_at_call 102
                  (with_reducible refine (TOLD.out gm2 g2 b9 V4 HM24.out hq2 (HT0.out.keep hb4) (HR94.out.ok hne9)).mono ?_)
                  rintro e V5 ⟨rfl, hbt⟩
                  have hb5 : Below V0.heap.size V0 V5 := But.below hb4 hbt (fun b e => by omega)
                  have hbs := hbt.size
                  have HB75 := Lib.hid (HB74.out.but hbt hne7)
                  have HP5 := Lib.hid (HP4.out.but hbt hnep); have hlp2 : p < V5.heap.size := by omega
                  refine hK.out _ _ ⟨hb5, HB75.out⟩ (fun hHeld => ?_)
                  clear hK K
                  try simp only [Act.put]
                  refine wpAnyH_ready (rs := [12]) (by kernel_rfl) (by simp) (AllReadyH.cons rfl (fun K hK => ?_) AllReadyH.nil)
                  · rw [if_pos (by rfl)]
                    refine wp_store_row 0x7e _ _ rfl p (bvs T) rfl rfl 0x7e (bvs (List.replicate 32 0#8)) HP5.out (i36 T HTL.out) (by rw [bvs_size, bvs_size, HTL.out]; rfl) (bvs_one T) ?_
                    obtain ⟨V6, hV⟩ : ∃ V, V5.setRow p (bvs T) = V := ⟨_, rfl⟩
                    have h12 : Blk V6 p 0x7e (bvs T) := by rw [← hV]; exact setRow_heap _ _ _ _ _ _ HP5.out
                    have hb6 : Below V0.heap.size V0 V6 := by rw [← hV]; exact below_setRow hb5 hp _
                    rw [hV]
                    have HPB6 := Lib.hid h12
                    have h7e : Blk V6 b7 5 #[.int .u8 (ib xk)] := by rw [← hV]; exact (Blk.setRowNe HB75.out hne7p)
                    refine hK.out _ _ ⟨hb6, h7e⟩ (fun hHeld => ?_)
                    clear hK K hV h7e h12
                    try simp only [Act.put]
                    refine wpAnyH_done (by kernel_rfl) ?_ _
                    simp only [List.getElem_toArray, List.getElem_cons_succ, List.getElem_cons_zero]
                    go_wp2_with fail
                    go_meet
                    exact ⟨p, rfl, hp, HPB6, Lib.hid hb6⟩
      case rest =>
        obtain ⟨p, rfl, hpV, HP, HBC⟩ := hcut
        have hjc : J k wc := hJ k _ _ HJ0.out (HBC.out.mono hf0)
        obtain ⟨fn, tmps, assign, body, hy, hR⟩ := hY k #[.agg (bvs T)] wc hjc ⟨hlt, by rw [HTE.out]⟩
        have hsl := slice33_all p
        have hpl := HP.out.lt
        unfold bvs at hy
        clear hjc
        go_upto_region 5 with fail
        refine (wpIn_wide (n := 3)).1 ?_
        gi_wp2_with (refine wpListIn_load_mid rfl 0x7e _ rfl p 0 rfl (T.map byteCell) _ HP.out.range Tryz.underlying126 rfl (by rw [List.length_map, HTL.out]; kernel_rfl) ?_)
        refine (roundIn_any hR).mono ?_
        clear hR hy
        rintro e W3 (⟨rfl, _, hJ3, hbut⟩ | ⟨rfl, hJx3, _⟩)
        · have hbm : But (MayK X w.heap.size) w W3 := (HB0.out.trans (But.of_all HBC.out _) (fun _ _ e => e)).trans hbut (fun b _ e => by
            rcases e with e | e | e
            · exact .inl e
            · exact .inr e.1
            · exact e.elim)
          have hp3 : Blk W3 p 0x7e (bvs T) := HP.out.but hbut (fun e => by
            rcases e with e | e | e
            · have := (HX.out p e).2.1; omega
            · omega
            · exact e.elim)
          have hcv := tag_conv hp3 HTL.out (Below.refl _ _)
          have hf3 : L ≤ W3.heap.size := by have := hbut.size; have := HBC.out.size; omega
          have HK3 : Hid (KrAt X J w W3 L (k + 1)) := Lib.hid ⟨hJ3, hbm, hf3⟩
          clear hbut hbm hp3 hJ3
          gi_wp2
          go_wp2_with fail
          go_roundw
          case rel =>
            refine ⟨k + 1, by omega, by go_num, ?_, HK3⟩
            rw [HTE.out]
          case measure => simp [intOf]; omega
        · gi_wp2
          go_wp2_with fail
          refine bodyPost_ret (results_none rfl _ _ _) rfl ?_
          exact ⟨⟨_, rfl⟩, .inr ⟨k + 1, trivial, hJx3⟩⟩
    · obtain rfl : k = 255 := by omega
      go_wp2_with fail
      go_end0
      exact ⟨⟨_, rfl⟩, .inl ⟨255, rfl, HR.out.j⟩⟩
end Go.Proofs
