/-
  Parts that came in; the contract of joined, of the laws of layer 4: where there are few enough of them, and where not.
  The walk of the law BlakeSums: at every parts it returns true and nothing that lay has turned, where the tables lie in memory.
  The walk of the law BlakeKeyed: at every size, key and parts it returns true and nothing that lay has turned, where the tables lie in memory.
  The walk of the law BlakeKeyed where the key and the parts are few enough: where there is no sum, and where there is one.
  The contract of a hash's Copy, where there is one; and the walk of the law BlakeCopies.
-/
import Derived.Test.YtdpcgfaknbfmmaaDoorM10
import Derived.Test.YtdpcgfaknbfmmaaDoorM9
import Derived.Deep.RegionHeldLaw
namespace Go.Proofs
open Go.RowKit Sm
/-- a part that came in -/
structure Sm.PtC (w : World) (p : Pt) : Prop where
  len : p.l.length = p.n
  room : p.n ≤ p.c
  most : p.c ≤ 9223372036854775807
  rd : Rd w w.heap.size p.A p.l
theorem Sm.PtC.below {w w' : World} {p : Pt} (h : PtC w p) (hb : Below w.heap.size w w') : PtC w' p := ⟨h.len, h.room, h.most, (h.rd.below hb).more hb.size⟩
theorem Sm.PtC.ok {w : World} {p : Pt} (h : PtC w p) (g : Nat) (hg : w.heap.size ≤ g) : PtOK w g p.A p.n p.c p.l := pt_of_rd h.len h.room h.most h.rd g hg
/-- parts that came in -/
structure Sm.PsC (w : World) (A : Option Addr) (n : Nat) (ps : List Pt) : Prop where
  len : ps.length = n
  rd : Rds w (fun _ => False) A (ps.map Pt.val)
  each : ∀ p ∈ ps, PtC w p
theorem Sm.PsC.below {w w' : World} {A : Option Addr} {n : Nat} {ps : List Pt} (h : PsC w A n ps) (hb : Below w.heap.size w w') : PsC w' A n ps := ⟨h.len, h.rd.below hb, fun p hp => (h.each p hp).below hb⟩
theorem Sm.PsC.ok {w : World} {A : Option Addr} {n : Nat} {ps : List Pt} (h : PsC w A n ps) (hn : n ≤ 1000000) (g : Nat) (hg : w.heap.size ≤ g) : PsOK w g A n ps := by
  refine ⟨h.len, hn, fun h0 => ?_, fun p hp => (h.each p hp).ok g hg⟩
  obtain ⟨b, off, rfl, hlt, _, hc⟩ := h.rd h0
  exact ⟨b, off, rfl, hlt, fun e => by omega, hc⟩
theorem Sm.PsC.at_ {w : World} {A : Option Addr} {n : Nat} {ps : List Pt} (h : PsC w A n ps) {k : Nat} (hk : k < ps.length) : ∃ b off, A = some ⟨b, off, none⟩ ∧ b < w.heap.size ∧ w.cell? ⟨b, off + k, none⟩ = some (.slice ps[k].A ps[k].n ps[k].c) := by
  obtain ⟨b, off, rfl, hlt, _, hc⟩ := h.rd (by rw [List.length_map]; omega)
  refine ⟨b, off, rfl, hlt, hc k _ ?_⟩
  rw [List.getElem?_map, List.getElem?_eq_getElem hk]
  rfl
theorem Sm.joinP_snoc (ps : List Pt) (k : Nat) (hk : k < ps.length) : joinP (ps.take (k + 1)) = joinP (ps.take k) ++ ps[k].l := by
  unfold joinP
  rw [List.take_succ_eq_append_getElem hk, List.flatMap_append]
  simp
theorem Sm.joinP_le (ps : List Pt) (m : Nat) (h : ∀ p ∈ ps, p.l.length ≤ m) : (joinP ps).length ≤ m * ps.length := by
  induction ps with
  | nil => simp [joinP]
  | cons p ps ih =>
    have h1 := h p (by simp)
    have h2 := ih fun q hq => h q (by simp [hq])
    have e : joinP (p :: ps) = p.l ++ joinP ps := rfl
    rw [e, List.length_append, List.length_cons, Nat.mul_succ]
    omega
theorem Sm.joinP_take_le (ps : List Pt) (k : Nat) (h : ∀ p ∈ ps.take k, p.l.length ≤ 200) (hk : k ≤ 20) : (joinP (ps.take k)).length ≤ 4000 := by
  have h1 := joinP_le (ps.take k) 200 h
  have h2 : (ps.take k).length ≤ k := by rw [List.length_take]; omega
  have := Nat.mul_le_mul_left 200 (Nat.le_trans h2 hk)
  omega
/-- few enough -/
def Sm.Few (m : Nat) (ps : List Pt) : Prop := ps.length ≤ m ∧ ∀ p ∈ ps, p.n ≤ 200
set_option maxRecDepth 100000 in
set_option maxHeartbeats 2000000 in
theorem Sm.joined_yes (A : Option Addr) (n c : Nat) (ps : List Pt) (w : World) (h : PsC w A n ps) (hf : Few 20 ps) :
    Calls Tryd.prog 18 #[.slice A n c] w fun e w' => ∃ v, e = .returned (.tuple #[v, .bool true]) ∧ w'.ownsRow w.heap.size 5 1 v (joinP ps).length ((joinP ps).map byteCell) ∧ Below w.heap.size w w' := by
  obtain ⟨i0, hi, hz0, hz1, hz2⟩ := info_parts info5
  have hn : ¬ ((20 : Int) < (n : Int)) := by have := hf.1; have := h.len; omega
  have HP := Lib.hid h
  have HF := Lib.hid hf
  clear h hf
  go_enter Tryd.func18, Tryd.ntmps18
  go_wp2_with fail
  go_loopw [4, 5] (fun s4 s5 wr => ∃ k : Nat, k ≤ n ∧ s5 = .int .i64 (k : Int) ∧ Hid (wr.ownsRow w.heap.size 5 1 s4 (joinP (ps.take k)).length ((joinP (ps.take k)).map byteCell) ∧ Below w.heap.size w wr)) (fun _ s5 _ => n - (intOf s5).toNat)
  case atStart => exact ⟨0, Nat.zero_le _, rfl, Lib.hid ⟨World.ownsRow_nil _ _ _ _, Below.refl _ _⟩⟩
  case round =>
    obtain ⟨wo, rfl⟩ : ∃ wo : World, wo = wr := ⟨_, rfl⟩
    obtain ⟨k, hk, rfl, HR⟩ := hrel
    by_cases hlt : k < n
    · have hkl : k < ps.length := by rw [HP.out.len]; exact hlt
      obtain ⟨b, off, rfl, _, hc⟩ := (HP.out.below HR.out.2).at_ hkl
      have hpc := HP.out.each ps[k] (List.getElem_mem hkl)
      have hsm := HF.out.2 ps[k] (List.getElem_mem hkl)
      have hsn := joinP_snoc ps k hkl
      have hle := joinP_take_le ps k (fun p hp => by have h1 := HF.out.2 p (List.mem_of_mem_take hp); have h2 := (HP.out.each p (List.mem_of_mem_take hp)).len; omega) (by have := HF.out.1; omega)
      obtain ⟨p, hp⟩ : ∃ p, ps[k] = p := ⟨_, rfl⟩
      rw [hp] at hc hpc hsm hsn
      have hni : ¬ ((200 : Int) < (p.n : Int)) := by omega
      have HPC := Lib.hid hpc
      have HSN := Lib.hid hsn
      have hrd : Rd wo w.heap.size p.A p.l := hpc.rd.below HR.out.2
      have hlen := hpc.len
      have HRD := Lib.hid hrd
      have HLEN := Lib.hid hlen
      have hb0 := HR.out.2.size
      have hnm : (joinP (ps.take k)).length + p.n ≤ 1000000000 := by omega
      clear hp hpc hsn hrd hlen
      go_wp2_with (at_builtin; refine wpList_append_rd _ rfl (.tmp 21) (.tmp 25) 0x1e rfl w.heap.size 5 i0 _ Tryd.underlying30 hi hz0 hz1 hz2 rfl _ (joinP (ps.take k)).length _ rfl HR.out.1 w.heap.size p.A p.n p.c p.l rfl HLEN.out HRD.out hnm hb0 ?_; intro v9 w9 hown9 hg9 _)
      go_roundw
      case rel =>
        refine ⟨k + 1, by omega, by go_num, Lib.hid ⟨?_, HR.out.2.grown hg9 hb0 (fun g e => own_ge HR.out.1 g e)⟩⟩
        rw [HSN.out, List.map_append, List.length_append, HLEN.out]
        exact hown9
      case measure => simp [intOf]; omega
    · obtain rfl : k = n := by omega
      have hall : ps.take k = ps := List.take_of_length_le (by rw [HP.out.len]; exact Nat.le_refl _)
      have HR1 := HR.out
      rw [hall] at HR1
      have HR2 := Lib.hid HR1
      clear HR HR1 hall
      go_wp2_with fail
      go_ret2
      exact ⟨_, rfl, HR2.out.1, HR2.out.2⟩
set_option maxRecDepth 100000 in
set_option maxHeartbeats 2000000 in
theorem Sm.joined_no (A : Option Addr) (n c : Nat) (ps : List Pt) (w : World) (h : PsC w A n ps) (hnm : n ≤ 9223372036854775807) (hf : ¬ Few 20 ps) :
    Calls Tryd.prog 18 #[.slice A n c] w fun e w' => e = .returned (.tuple #[.slice none 0 0, .bool false]) ∧ Below w.heap.size w w' := by
  obtain ⟨i0, hi, hz0, hz1, hz2⟩ := info_parts info5
  by_cases hn : (20 : Int) < (n : Int)
  · go_enter Tryd.func18, Tryd.ntmps18
    go_wp2_with fail
    go_ret2
    exact ⟨rfl, Below.refl _ _⟩
  · have HP := Lib.hid h
    have HF := Lib.hid hf
    have hn20 : n ≤ 20 := by omega
    clear h hf
    go_enter Tryd.func18, Tryd.ntmps18
    go_wp2_with fail
    go_loopw [4, 5] (fun s4 s5 wr => ∃ k : Nat, k ≤ n ∧ s5 = .int .i64 (k : Int) ∧ Hid (wr.ownsRow w.heap.size 5 1 s4 (joinP (ps.take k)).length ((joinP (ps.take k)).map byteCell) ∧ Below w.heap.size w wr ∧ ∀ p ∈ ps.take k, p.n ≤ 200)) (fun _ s5 _ => n - (intOf s5).toNat)
    case atStart => exact ⟨0, Nat.zero_le _, rfl, Lib.hid ⟨World.ownsRow_nil _ _ _ _, Below.refl _ _, by simp⟩⟩
    case round =>
      obtain ⟨wo, rfl⟩ : ∃ wo : World, wo = wr := ⟨_, rfl⟩
      obtain ⟨k, hk, rfl, HR⟩ := hrel
      by_cases hlt : k < n
      · have hkl : k < ps.length := by rw [HP.out.len]; exact hlt
        obtain ⟨b, off, rfl, _, hc⟩ := (HP.out.below HR.out.2.1).at_ hkl
        have hpc := HP.out.each ps[k] (List.getElem_mem hkl)
        have hsn := joinP_snoc ps k hkl
        have htk : ps.take (k + 1) = ps.take k ++ [ps[k]] := List.take_succ_eq_append_getElem hkl
        have hle := joinP_take_le ps k (fun p hp => by have h1 := HR.out.2.2 p hp; have h2 := (HP.out.each p (List.mem_of_mem_take hp)).len; omega) (by omega)
        obtain ⟨p, hp⟩ : ∃ p, ps[k] = p := ⟨_, rfl⟩
        rw [hp] at hc hpc hsn htk
        have HPC := Lib.hid hpc
        have HSN := Lib.hid hsn
        have HTK := Lib.hid htk
        have hrd : Rd wo w.heap.size p.A p.l := hpc.rd.below HR.out.2.1
        have hlen := hpc.len
        have HRD := Lib.hid hrd
        have HLEN := Lib.hid hlen
        have hb0 := HR.out.2.1.size
        clear hp hpc hsn htk hrd hlen
        by_cases hni : (200 : Int) < (p.n : Int)
        · go_wp2_with fail
          go_ret2
          exact ⟨rfl, HR.out.2.1⟩
        · have hnm : (joinP (ps.take k)).length + p.n ≤ 1000000000 := by omega
          go_wp2_with (at_builtin; refine wpList_append_rd _ rfl (.tmp 21) (.tmp 25) 0x1e rfl w.heap.size 5 i0 _ Tryd.underlying30 hi hz0 hz1 hz2 rfl _ (joinP (ps.take k)).length _ rfl HR.out.1 w.heap.size p.A p.n p.c p.l rfl HLEN.out HRD.out hnm hb0 ?_; intro v9 w9 hown9 hg9 _)
          go_roundw
          case rel =>
            refine ⟨k + 1, by omega, by go_num, Lib.hid ⟨?_, HR.out.2.1.grown hg9 hb0 (fun g e => own_ge HR.out.1 g e), fun q hq => ?_⟩⟩
            · rw [HSN.out, List.map_append, List.length_append, HLEN.out]
              exact hown9
            · rw [HTK.out, List.mem_append] at hq
              rcases hq with hq | hq
              · exact HR.out.2.2 q hq
              · obtain rfl := List.mem_singleton.1 hq
                omega
          case measure => simp [intOf]; omega
      · obtain rfl : k = n := by omega
        have hall : ps.take k = ps := List.take_of_length_le (by rw [HP.out.len]; exact Nat.le_refl _)
        exfalso
        refine HF.out ⟨by rw [HP.out.len]; exact hn20, fun p hp => HR.out.2.2 p (by rw [hall]; exact hp)⟩
end Go.Proofs
namespace Go.Proofs
open Go.RowKit Sm
theorem Sm.slice33_all (b : Nat) (w : World) : (Instr.sliceAt 0x21 (.pointer (some ⟨b, 0, none⟩)) none none none).run Tryd.prog w = .ok (.slice (some ⟨b, 0, none⟩) 32 32) w := by
  have hu : Tryd.prog.underlying 0x21 = some (.array (Tryd.prog.arrayLen 0x21) (Tryd.prog.elem 0x21)) := by kernel_rfl
  have ha : Tryd.prog.arrayLen 0x21 = 32 := by kernel_rfl
  have he : Tryd.prog.elem 0x21 = 5 := by kernel_rfl
  have hs : ∀ w, (sizeOf 5).run Tryd.prog w = .ok 1 w := fun _ => by kernel_rfl
  rw [run_sliceAt_array_all w 0x21 ⟨b, 0, none⟩ hu, he, hs]
  simp only [Result.andThen_ok, slicedAt, ha, Nat.zero_mul]
  rw [if_neg (by omega), Addr.add_mid, Nat.add_zero]
theorem Sm.refKeyed_from {w v : World} (size n c n2 c2 : Nat) (A A2 : Option Addr) (key b D : List (BitVec 8)) (hs0 : 1 ≤ size) (hs1 : size ≤ 32) (hn : n ≤ 32) (hk : key.length = n) (hb : b.length = n2) (hn2 : n2 ≤ 100000) (hr : Rd w w.heap.size A key) (hr2 : Rd w w.heap.size A2 b) (hD : (hashW size key b).take size = D) (hbw : Below w.heap.size w v) :
    Calls Tryd.prog 20 #[.int .i64 (size : Int), .slice A n c, .slice A2 n2 c2] v fun e w' => ∃ A' c', e = .returned (.slice A' size c') ∧ (convert 0x1e 9 (.slice A' size c')).run Tryd.prog w' = .ok (.string (strB D)) w' ∧ Below w.heap.size w w' := by
  refine (refKeyed_any size n c n2 c2 A A2 key b v hs0 hs1 hn hk hb hn2 ((hr.below hbw).more hbw.size) ((hr2.below hbw).more hbw.size)).mono ?_
  rintro e w' ⟨A', c', rfl, hrd, hb2⟩
  rw [hD] at hrd
  have hl : D.length = size := by rw [← hD, List.length_take, hashW_length]; omega
  exact ⟨A', c', rfl, run_str (P := Tryd.prog) w' 0x1e 5 Tryd.underlying30 Tryd.underlying5 D size c' w'.heap.size A' hl hrd 9 Tryd.underlying9, hbw.trans (hb2.mono hbw.size)⟩
set_option maxRecDepth 100000 in
set_option maxHeartbeats 2000000 in
theorem Sm.sums_no (A : Option Addr) (n c : Nat) (ps : List Pt) (w : World) (ht : Tabs w) (h : PsC w A n ps) (hnm : n ≤ 9223372036854775807) (hf : ¬ Few 20 ps) :
    Calls Tryd.prog 4 #[.slice A n c] w fun e w' => e = .returned (.bool true) ∧ Below w.heap.size w w' := by
  have hj := joined_no A n c ps w h hnm hf
  have hw := fun v (hb : Below w.heap.size w v) => works_from hb ht
  clear h hf ht
  go_enter Tryd.func4, Tryd.ntmps4
  go_wp2_with (first
    | (go_at_call 18; (with_reducible refine hj.mono ?_); clear hj; rintro e w1 ⟨rfl, hb1⟩)
    | (go_at_call 17; (with_reducible refine (hw _ hb1).mono ?_); clear hw; rintro e w2 ⟨rfl, hb2⟩))
  go_ret
  exact ⟨rfl, hb2⟩
set_option maxRecDepth 100000 in
set_option maxHeartbeats 4000000 in
theorem Sm.sums_yes (A : Option Addr) (n c : Nat) (ps : List Pt) (w : World) (ht : Tabs w) (h : PsC w A n ps) (hnc : n ≤ c) (hf : Few 20 ps) :
    Calls Tryd.prog 4 #[.slice A n c] w fun e w' => e = .returned (.bool true) ∧ Below w.heap.size w w' := by
  have hj := joined_yes A n c ps w h hf
  have hlen : (joinP ps).length ≤ 4000 := by
    have := joinP_take_le ps ps.length (fun p hp => by rw [List.take_length] at hp; rw [(h.each p hp).len]; exact hf.2 p hp) hf.1
    rwa [List.take_length] at this
  have hn20 : n ≤ 20 := by rw [← h.len]; exact hf.1
  have HJ := Lib.hid hj
  have HLEN := Lib.hid hlen
  have HP := Lib.hid h
  have HT := Lib.hid ht
  clear hj hlen h ht hf
  go_enter Tryd.func4, Tryd.ntmps4
  go_upto_region 4 with (go_at_call 18; (with_reducible refine HJ.out.mono ?_); rintro e w1 ⟨v1, rfl, hown1, hb1⟩)
  obtain ⟨A1, c1, rfl⟩ := own_slice hown1
  have hrd1 : Rd w1 w1.heap.size A1 (joinP ps) := Rd.of_own hown1 (Nat.le_refl _)
  have hs1 := Sum_any A n c ps w1 (fun g hg => (HP.out.below hb1).ok (by omega) g hg) hnc (HT.out.keep hb1) (by have := HLEN.out; omega)
  obtain ⟨b, hb⟩ : ∃ b, joinP ps = b := ⟨_, rfl⟩
  rw [hb] at hrd1 hs1 HLEN
  obtain ⟨D, hD⟩ : ∃ D, hashW 32 [] b = D := ⟨_, rfl⟩
  have hDl : D.length = 32 := by rw [← hD]; exact hashW_length ..
  rw [hD] at hs1
  obtain ⟨L, hL⟩ : ∃ L, b.length = L := ⟨_, rfl⟩
  rw [hb, hL]
  rw [hL] at HLEN
  have HLB := Lib.hid hL
  have HD := Lib.hid hD
  have HDL := Lib.hid hDl
  have HS1 := Lib.hid hs1
  have HRD := Lib.hid hrd1
  have HB1 := Lib.hid hb1
  clear hown1 hb1 hrd1 hs1 hb hD hDl hL HJ HP
  go_upto_region 5 with (first
    | (go_at_call 19; (with_reducible refine HS1.out.mono ?_); rintro e w2 ⟨rfl, hb2⟩)
    | (refine wpList_store_row rfl 0x21 _ _ rfl w2.heap.size (bvs D) rfl rfl 0x21 (bvs (List.replicate 32 0#8)) (World.alloc_heap_new w2 _) (i36 D HDL.out) (by rw [bvs_size, bvs_size, HDL.out]; rfl) (bvs_one D) ?_))
  rw [zu32_eq]
  obtain ⟨W5, hW5⟩ : ∃ W5, (w2.alloc (.cells (bvs (List.replicate 32 0#8)) 0x21)).setRow w2.heap.size (bvs D) = W5 := ⟨_, rfl⟩
  obtain ⟨sb, hsb⟩ : ∃ sb, w2.heap.size = sb := ⟨_, rfl⟩
  have hB5 : Blk W5 sb 0x21 (bvs D) := by rw [← hW5, ← hsb]; exact setRow_heap _ _ _ _ _ _ (World.alloc_heap_new w2 _)
  have hb15 : Below w1.heap.size w1 W5 := by rw [← hW5]; exact below_setRow (hb2.alloc hb2.size _) hb2.size _
  have hcv : ∀ W, Below W5.heap.size W5 W → (convert 0x1e 9 (.slice (some ⟨sb, 0, none⟩) 32 32)).run Tryd.prog W = .ok (.string (strB D)) W := fun W hb =>
    run_str (P := Tryd.prog) W 0x1e 5 Tryd.underlying30 Tryd.underlying5 D 32 32 W.heap.size (some ⟨sb, 0, none⟩) HDL.out ((hB5.keep hb).rd (hB5.keep hb).lt) 9 Tryd.underlying9
  have hrk : ∀ v, Below W5.heap.size W5 v → Calls Tryd.prog 20 #[.int .i64 32, .slice none 0 0, .slice A1 L c1] v fun e w' => ∃ A' c', e = .returned (.slice A' 32 c') ∧ (convert 0x1e 9 (.slice A' 32 c')).run Tryd.prog w' = .ok (.string (strB D)) w' ∧ Below W5.heap.size W5 w' := fun v hb => refKeyed_from (w := W5) (v := v) 32 0 0 L c1 none A1 [] b D (by decide) (by decide) (by decide) rfl HLB.out (by have := HLEN.out; omega) Rd.nil ((HRD.out.below hb15).more hb15.size) (by rw [HD.out, List.take_of_length_le (by rw [HDL.out]; exact Nat.le_refl _)]) hb
  have hsl := slice33_all sb
  have ht5 := (HT.out.keep HB1.out).keep hb15
  rw [hW5, hsb]
  have HCV := Lib.hid hcv
  have HRK := Lib.hid hrk
  have HT5 := Lib.hid ht5
  have HB5 := Lib.hid (HB1.out.trans (hb15.mono HB1.out.size))
  have k0 := hcv W5 (Below.refl _ _)
  have k0d := hcv W5.drew (Below.refl _ _).drew
  clear hW5 hsb hB5 hb15 hcv hrk ht5 hb2 HS1 HRD HB1
  go_region_held_law (fun W => (convert 0x1e 9 (.slice (some ⟨sb, 0, none⟩) 32 32)).run Tryd.prog W = .ok (.string (strB D)) W)
    (first | exact k8 | exact k7 | exact k0d | exact k0)
    (first
    | (go_at_call 20; (with_reducible refine (HRK.out _ (Below.refl _ _).drew).mono ?_); rintro e w7 ⟨A7, c7, rfl, t7, hb7⟩; have k7 := HCV.out w7 hb7)
    | (go_at_call 17; (with_reducible refine (works_from hb7 HT5.out).mono ?_); rintro e w8 ⟨rfl, hb8⟩; have k8 := HCV.out w8 hb8))
  all_goals
   go_wp2
   go_ret
   exact ⟨rfl, HB5.out.trans (hb8.mono HB5.out.size)⟩
theorem Sm.sums_law (A : Option Addr) (n c : Nat) (ps : List Pt) (w : World) (ht : Tabs w) (h : PsC w A n ps) (hnc : n ≤ c) (hnm : n ≤ 9223372036854775807) :
    Calls Tryd.prog 4 #[.slice A n c] w fun e w' => e = .returned (.bool true) ∧ Below w.heap.size w w' := by
  by_cases hf : Few 20 ps
  · exact sums_yes A n c ps w ht h hnc hf
  · exact sums_no A n c ps w ht h hnm hf
end Go.Proofs
namespace Go.Proofs
open Go.RowKit Sm
theorem Sm.right_yes (size n c : Nat) (A : Option Addr) (w : World) (h0 : 1 ≤ size) (h1 : size ≤ 32) (h2 : n ≤ 32) : Calls Tryd.prog 22 #[.int .i64 (size : Int), .slice A n c] w fun e w' => e = .returned (.bool true) ∧ w = w' := by
  have a0 : (1 : Int) ≤ (size : Int) := by omega
  have a1 : (size : Int) ≤ 32 := by omega
  have a2 : (n : Int) ≤ 32 := by omega
  go_enter Tryd.func22, Tryd.ntmps22
  go_wp2
  go_ret
  exact ⟨rfl, rfl⟩
theorem Sm.right_no (size : Int) (n c : Nat) (A : Option Addr) (w : World) (h : size < 1 ∨ 32 < size ∨ 32 < n) : Calls Tryd.prog 22 #[.int .i64 size, .slice A n c] w fun e w' => e = .returned (.bool false) ∧ w = w' := by
  by_cases h1 : size < 1
  · have a0 : ¬ (1 ≤ size) := by omega
    go_enter Tryd.func22, Tryd.ntmps22
    go_wp2
    go_ret
    exact ⟨rfl, rfl⟩
  · have a0 : 1 ≤ size := by omega
    by_cases h2 : 32 < size
    · have a1 : ¬ (size ≤ 32) := by omega
      go_enter Tryd.func22, Tryd.ntmps22
      go_wp2
      go_ret
      exact ⟨rfl, rfl⟩
    · have a1 : size ≤ 32 := by omega
      have a2 : ¬ ((n : Int) ≤ 32) := by omega
      go_enter Tryd.func22, Tryd.ntmps22
      go_wp2
      go_ret
      exact ⟨rfl, rfl⟩
set_option maxRecDepth 100000 in
set_option maxHeartbeats 2000000 in
theorem Sm.keyed_few (size : Int) (n1 c1 n c : Nat) (A1 A : Option Addr) (ps : List Pt) (w : World) (ht : Tabs w) (h : PsC w A n ps) (hnm : n ≤ 9223372036854775807) (hf : ¬ Few 20 ps) :
    Calls Tryd.prog 5 #[.int .i64 size, .slice A1 n1 c1, .slice A n c] w fun e w' => e = .returned (.bool true) ∧ Below w.heap.size w w' := by
  have hj := joined_no A n c ps w h hnm hf
  have hw := fun v (hb : Below w.heap.size w v) => works_from hb ht
  clear h hf ht
  go_enter Tryd.func5, Tryd.ntmps5
  go_wp2_with (first
    | (go_at_call 18; (with_reducible refine hj.mono ?_); clear hj; rintro e w1 ⟨rfl, hb1⟩)
    | (go_at_call 17; (with_reducible refine (hw _ hb1).mono ?_); clear hw; rintro e w2 ⟨rfl, hb2⟩))
  go_ret
  exact ⟨rfl, hb2⟩
set_option maxRecDepth 100000 in
set_option maxHeartbeats 2000000 in
theorem Sm.keyed_long (size : Int) (n1 c1 n c : Nat) (A1 A : Option Addr) (ps : List Pt) (w : World) (ht : Tabs w) (h : PsC w A n ps) (hf : Few 20 ps) (hl : 100 < n1) :
    Calls Tryd.prog 5 #[.int .i64 size, .slice A1 n1 c1, .slice A n c] w fun e w' => e = .returned (.bool true) ∧ Below w.heap.size w w' := by
  have hj := joined_yes A n c ps w h hf
  have hw := fun v (hb : Below w.heap.size w v) => works_from hb ht
  have hl1 : (100 : Int) < (n1 : Int) := by omega
  clear h hf ht hl
  go_enter Tryd.func5, Tryd.ntmps5
  go_wp2_with (first
    | (go_at_call 18; (with_reducible refine hj.mono ?_); clear hj; rintro e w1 ⟨v1, rfl, _, hb1⟩)
    | (go_at_call 17; (with_reducible refine (hw _ hb1).mono ?_); clear hw; rintro e w2 ⟨rfl, hb2⟩))
  go_ret
  exact ⟨rfl, hb2⟩
/-- what the law's own copy of a key is -/
theorem Sm.copy_row {w : World} {base n : Nat} {v : Value} {l : List (BitVec 8)} (h : w.ownsRow base 5 1 v (0 + n + 1) ([] ++ l.map byteCell ++ [77#8].map byteCell)) (hl : l.length = n) : ∃ g cap, v = .slice (some ⟨g, 0, none⟩) (n + 1) cap ∧ base ≤ g ∧ n + 1 ≤ cap ∧ w.ownsRow base 5 1 (.slice (some ⟨g, 0, none⟩) (n + 1) cap) (n + 1) ((l ++ [77#8]).map byteCell) := by
  have e : [] ++ l.map byteCell ++ [77#8].map byteCell = (l ++ [77#8]).map byteCell := by simp
  rw [e, Nat.zero_add] at h
  obtain ⟨g, cap, rfl, hb, _⟩ := h.form (by omega)
  refine ⟨g, cap, rfl, hb, ?_, h⟩
  rcases h.2 with ⟨h1, _⟩ | ⟨g', cap', cur, h1, _, _, hnc, _⟩
  · cases h1
  · cases h1; exact hnc
theorem Sm.row_reads {w : World} {base g n cap : Nat} {l : List (BitVec 8)} (h : w.ownsRow base 5 1 (.slice (some ⟨g, 0, none⟩) (n + 1) cap) (n + 1) ((l ++ [77#8]).map byteCell)) (hl : l.length = n) : Rd w w.heap.size (some ⟨g, 0, none⟩) l ∧ w.cell? ⟨g, n, none⟩ = some (.int .u8 77) := by
  have hr := Rd.of_own h (Nat.le_refl _)
  refine ⟨?_, ?_⟩
  · have := hr.take n
    rwa [List.take_append_of_le_length (by omega), List.take_of_length_le (by omega)] at this
  · obtain ⟨b, off, e, _, hc⟩ := hr (by simp)
    cases e
    have := hc n 77#8 (by rw [List.getElem?_append_right (by omega), hl]; simp)
    rw [Nat.zero_add] at this
    exact this
end Go.Proofs
namespace Go.Proofs
open Go.RowKit Sm
theorem Sm.cut_h0 (g n c hi : Nat) (hc : hi ≤ c) (w : World) : (Instr.sliceAt 0x1e (.slice (some ⟨g, 0, none⟩) n c) none (some (.int .i64 (hi : Int))) none).run Tryd.prog w = .ok (.slice (some ⟨g, 0, none⟩) hi c) w := by
  rw [cut_h (some ⟨g, 0, none⟩) n c hi hc w]
  have : cutA (some ⟨g, 0, none⟩) 0 c = some ⟨g, 0, none⟩ := by
    unfold cutA
    split
    · rfl
    · rw [Option.map_some, Addr.add_mid]
  rw [this]
theorem Sm.rd77 (w : World) : Rd (w.alloc (.cells #[.int .u8 77] 5)) (w.heap.size + 1) (some ⟨w.heap.size, 0, none⟩) [77#8] := fun _ => ⟨w.heap.size, 0, rfl, by omega, fun j c hj => by
  rw [World.cell?_alloc_mark]
  rcases j with _ | j <;> simp at hj <;> subst hj <;> rfl⟩
theorem Sm.conv_rd {w : World} {A : Option Addr} {n c : Nat} {l : List (BitVec 8)} (hl : l.length = n) (hr : Rd w w.heap.size A l) : (convert 0x1e 9 (.slice A n c)).run Tryd.prog w = .ok (.string (strB l)) w :=
  run_str (P := Tryd.prog) w 0x1e 5 Tryd.underlying30 Tryd.underlying5 l n c w.heap.size A hl hr 9 Tryd.underlying9
set_option maxRecDepth 100000 in
set_option maxHeartbeats 4000000 in
theorem Sm.keyed_ref (size : Int) (n1 c1 n c : Nat) (A1 A : Option Addr) (key : List (BitVec 8)) (ps : List Pt) (w : World) (ht : Tabs w) (h : PsC w A n ps) (hf : Few 20 ps) (hl : n1 ≤ 100) (hk : key.length = n1) (hr : Rd w w.heap.size A1 key) (hno : size < 1 ∨ 32 < size ∨ 32 < n1) :
    Calls Tryd.prog 5 #[.int .i64 size, .slice A1 n1 c1, .slice A n c] w fun e w' => e = .returned (.bool true) ∧ Below w.heap.size w w' := by
  obtain ⟨i0, hi, hz0, hz1, hz2⟩ := info_parts info5
  have hj := joined_yes A n c ps w h hf
  have hl1 : ¬ ((100 : Int) < (n1 : Int)) := by omega
  have HJ := Lib.hid hj
  have HT := Lib.hid ht
  have HK := Lib.hid hk
  have HR := Lib.hid hr
  have HNO := Lib.hid hno
  clear hj h hf ht hk hr hno
  go_enter Tryd.func5, Tryd.ntmps5
  go_upto_region 6 with (first
    | (go_at_call 18; (with_reducible refine HJ.out.mono ?_); rintro e w1 ⟨v1, rfl, _, hb1⟩)
    | (at_builtin; refine wpList_append_rd _ rfl (.tmp 25) (.tmp 26) 0x1e rfl w1.heap.size 5 i0 _ Tryd.underlying30 hi hz0 hz1 hz2 rfl _ 0 [] rfl (World.ownsRow_made w1 #[] 0 (Nat.le_refl _) (by decide) rfl) w.heap.size A1 n1 c1 key rfl HK.out ((HR.out.below hb1).alloc hb1.size _) (by omega) (by simp) ?_; intro v27 w27 hown27 hg27 _)
    | (at_builtin; refine wpList_append_rd _ rfl (.tmp 27) (.tmp 28) 0x1e rfl w1.heap.size 5 i0 _ Tryd.underlying30 hi hz0 hz1 hz2 rfl v27 (0 + n1) _ rfl (own_below hown27 ((Below.refl _ _).alloc (Nat.le_refl _) _)) (w27.heap.size + 1) (some ⟨w27.heap.size, 0, none⟩) 1 1 [77#8] rfl rfl (rd77 w27) (by omega) (by have := hg27.size; simp at this ⊢; omega) ?_; intro v29 w29 hown29 hg29 _; obtain ⟨gm, cm, rfl, hgm, hcm, hown⟩ := copy_row hown29 HK.out; have hslm := cut_h0 gm (n1 + 1) cm n1 (by omega))
    | (go_at_call 21; (with_reducible refine (Keyed_no size n1 cm n c _ A w29 (by omega) HNO.out).mono ?_); rintro e w' ⟨rfl, rfl⟩))
  obtain ⟨hrm, hcell⟩ := row_reads hown HK.out
  have hba : Below w1.heap.size w1 (w1.alloc (.cells #[] 5)) := (Below.refl _ _).alloc (Nat.le_refl _) _
  have hb27 : Below w1.heap.size w1 w27 := hba.grown hg27 hba.size (fun g e => by cases e; exact Nat.le_refl _)
  have hb27a : Below w1.heap.size w1 (w27.alloc (.cells #[.int .u8 77] 5)) := hb27.alloc hb27.size _
  have hb29 : Below w1.heap.size w1 w29 := hb27a.grown hg29 hb27a.size (fun g e => own_ge hown27 g e)
  have hb29' : Below w.heap.size w w29 := hb1.trans (hb29.mono hb1.size)
  have k1 := conv_rd (c := cm) HK.out hrm
  have k2 := conv_rd (c := c1) HK.out ((HR.out.below hb29').more hb29'.size)
  have hsl2 := cut_h0 gm n1 cm (n1 + 1) hcm
  rw [show ((n1 + 1 : Nat) : Int) = (n1 : Int) + 1 from rfl] at hsl2
  have hrt := right_no size n1 c1 A1 w29 HNO.out
  have hw := works_from hb29' HT.out
  have HRT := Lib.hid hrt
  have HW := Lib.hid hw
  clear hown29 hg29 hown27 hg27 hown hrm hba hb27 hb27a hb29 hb29' hb1 hrt hw hslm HJ HR HK
  go_wp2_with (first
    | (go_at_call 22; (with_reducible refine HRT.out.mono ?_); rintro e w' ⟨rfl, rfl⟩)
    | (go_at_call 23; (with_reducible refine (num_any _ _).mono ?_); rintro e w' ⟨rfl, rfl⟩)
    | (go_at_call 17; (with_reducible refine HW.out.mono ?_); rintro e w8 ⟨rfl, hb8⟩))
  go_ret
  exact ⟨rfl, hb8⟩
set_option maxRecDepth 100000 in
set_option maxHeartbeats 4000000 in
theorem Sm.keyed_yes (size n1 c1 n c : Nat) (A1 A : Option Addr) (key : List (BitVec 8)) (ps : List Pt) (w : World) (ht : Tabs w) (h : PsC w A n ps) (hnc : n ≤ c) (hf : Few 20 ps) (hk : key.length = n1) (hr : Rd w w.heap.size A1 key) (hs0 : 1 ≤ size) (hs1 : size ≤ 32) (hn1 : n1 ≤ 32) :
    Calls Tryd.prog 5 #[.int .i64 (size : Int), .slice A1 n1 c1, .slice A n c] w fun e w' => e = .returned (.bool true) ∧ Below w.heap.size w w' := by
  obtain ⟨i0, hi, hz0, hz1, hz2⟩ := info_parts info5
  have hj := joined_yes A n c ps w h hf
  have hlen : (joinP ps).length ≤ 4000 := by
    have := joinP_take_le ps ps.length (fun p hp => by rw [List.take_length] at hp; rw [(h.each p hp).len]; exact hf.2 p hp) hf.1
    rwa [List.take_length] at this
  have hn20 : n ≤ 20 := by rw [← h.len]; exact hf.1
  have hl1 : ¬ ((100 : Int) < (n1 : Int)) := by omega
  have hky : ∀ v gm cm, Below w.heap.size w v → Rd v v.heap.size (some ⟨gm, 0, none⟩) key → Calls Tryd.prog 21 #[.int .i64 (size : Int), .slice (some ⟨gm, 0, none⟩) n1 cm, .slice A n c] v fun e w' => ∃ A' c', e = .returned (.tuple #[.slice A' size c', .int .i64 0]) ∧ Rd w' w'.heap.size A' ((hashW size key (joinP ps)).take size) ∧ Below v.heap.size v w' := by
    intro v gm cm hb hrm
    refine (Keyed_yes size n1 cm n c (some ⟨gm, 0, none⟩) A key ps v (ht.keep hb) hs0 hs1 hn1 hk (rds_of_rd hrm) (fun g hg => (h.below hb).ok (by omega) g hg) hnc (by omega)).mono ?_
    rintro e w' ⟨v0, rfl, hown, hb2⟩
    obtain ⟨A', c', rfl⟩ := own_slice hown
    exact ⟨A', c', rfl, Rd.of_own hown (Nat.le_refl _), hb2⟩
  have hrf : ∀ (v0 v : World) L A3 c3, (joinP ps).length = L → Below w.heap.size w v0 → Rd v0 v0.heap.size A3 (joinP ps) → Below v0.heap.size v0 v → Calls Tryd.prog 20 #[.int .i64 (size : Int), .slice A1 n1 c1, .slice A3 L c3] v fun e w' => ∃ A' c', e = .returned (.slice A' size c') ∧ (convert 0x1e 9 (.slice A' size c')).run Tryd.prog w' = .ok (.string (strB ((hashW size key (joinP ps)).take size))) w' ∧ Below v0.heap.size v0 w' := fun v0 v L A3 c3 hL hb0 hr3 hb =>
    refKeyed_from (w := v0) (v := v) size n1 c1 L c3 A1 A3 key (joinP ps) _ hs0 hs1 hn1 hk hL (by omega) ((hr.below hb0).more hb0.size) hr3 rfl hb
  have hrt := fun w => right_yes size n1 c1 A1 w hs0 hs1 hn1
  have hDl : ((hashW size key (joinP ps)).take size).length = size := by rw [List.length_take, hashW_length]; omega
  obtain ⟨D, hD⟩ : ∃ D, (hashW size key (joinP ps)).take size = D := ⟨_, rfl⟩
  simp only [hD] at hky hrf hDl
  obtain ⟨b, hb⟩ : ∃ b, joinP ps = b := ⟨_, rfl⟩
  rw [hb] at hj
  simp only [hb] at hrf
  obtain ⟨L, hL⟩ : ∃ L, b.length = L := ⟨_, rfl⟩
  rw [hL] at hj
  obtain ⟨sz, hsz⟩ : ∃ e : Int, (size : Int) = e := ⟨_, rfl⟩
  simp only [hsz] at hky hrf hrt
  rw [hsz]
  have HJ := Lib.hid hj
  have HT := Lib.hid ht
  have HK := Lib.hid hk
  have HR := Lib.hid hr
  have HKY := Lib.hid hky
  have HRF := Lib.hid hrf
  have HRT := Lib.hid hrt
  have HDL := Lib.hid hDl
  have HLB := Lib.hid hL
  clear hj h hf ht hk hr hky hrf hrt hD hDl hb hL hsz hlen hs0 hs1 hn1
  go_enter Tryd.func5, Tryd.ntmps5
  go_upto_region 5 with (first
    | (go_at_call 18; (with_reducible refine HJ.out.mono ?_); rintro e w1 ⟨v1, rfl, hown1, hb1⟩)
    | (at_builtin; refine wpList_append_rd _ rfl (.tmp 25) (.tmp 26) 0x1e rfl w1.heap.size 5 i0 _ Tryd.underlying30 hi hz0 hz1 hz2 rfl _ 0 [] rfl (World.ownsRow_made w1 #[] 0 (Nat.le_refl _) (by decide) rfl) w.heap.size A1 n1 c1 key rfl HK.out ((HR.out.below hb1).alloc hb1.size _) (by omega) (by simp) ?_; intro v27 w27 hown27 hg27 _)
    | (at_builtin; refine wpList_append_rd _ rfl (.tmp 27) (.tmp 28) 0x1e rfl w1.heap.size 5 i0 _ Tryd.underlying30 hi hz0 hz1 hz2 rfl v27 (0 + n1) _ rfl (own_below hown27 ((Below.refl _ _).alloc (Nat.le_refl _) _)) (w27.heap.size + 1) (some ⟨w27.heap.size, 0, none⟩) 1 1 [77#8] rfl rfl (rd77 w27) (by omega) (by have := hg27.size; simp at this ⊢; omega) ?_; intro v29 w29 hown29 hg29 _; obtain ⟨gm, cm, rfl, hgm, hcm, hown⟩ := copy_row hown29 HK.out; have hslm := cut_h0 gm (n1 + 1) cm n1 (by omega)))
  obtain ⟨hrm, hcell⟩ := row_reads hown HK.out
  have hgl : gm < w29.heap.size := World.block_lt_of_cell? _ _ hcell
  have hba : Below w1.heap.size w1 (w1.alloc (.cells #[] 5)) := (Below.refl _ _).alloc (Nat.le_refl _) _
  have hb27 : Below w1.heap.size w1 w27 := hba.grown hg27 hba.size (fun g e => by cases e; exact Nat.le_refl _)
  have hb27a : Below w1.heap.size w1 (w27.alloc (.cells #[.int .u8 77] 5)) := hb27.alloc hb27.size _
  have hb29 : Below w1.heap.size w1 w29 := hb27a.grown hg29 hb27a.size (fun g e => own_ge hown27 g e)
  have hb29' : Below w.heap.size w w29 := hb1.trans (hb29.mono hb1.size)
  obtain ⟨A3, c3, rfl⟩ := own_slice hown1
  have hr3 : Rd w1 w1.heap.size A3 b := Rd.of_own hown1 (Nat.le_refl _)
  have hkc := HKY.out w29 gm cm hb29' hrm
  have HKC := Lib.hid hkc
  have HRM := Lib.hid (And.intro hrm (And.intro hcell hgl))
  have HR3 := Lib.hid ((hr3.below hb29).more hb29.size)
  have HB29 := Lib.hid hb29'
  clear hown29 hg29 hown27 hg27 hown hown1 hrm hcell hgl hba hb27 hb27a hb29 hb29' hb1 hr3 hkc hslm HJ
  go_upto_region 6 with (go_at_call 21; (with_reducible refine HKC.out.mono ?_); rintro e w3 ⟨A10, c10, rfl, hrd10, hb3⟩)
  have hcell := (hb3.cell (p := ⟨gm, n1, none⟩) HRM.out.2.2).trans HRM.out.2.1
  have k1 := conv_rd (c := cm) HK.out ((HRM.out.1.below hb3).more hb3.size)
  have hb03 : Below w.heap.size w w3 := HB29.out.trans (hb3.mono HB29.out.size)
  have k2 := conv_rd (c := c1) HK.out ((HR.out.below hb03).more hb03.size)
  have hsl2 := cut_h0 gm n1 cm (n1 + 1) hcm
  rw [show ((n1 + 1 : Nat) : Int) = (n1 : Int) + 1 from rfl] at hsl2
  have hr3 := (HR3.out.below hb3).more hb3.size
  have hrf := fun v (hv : Below w3.heap.size w3 v) => HRF.out w3 v L A3 c3 HLB.out hb03 hr3 hv
  have HRFF := Lib.hid hrf
  have HRD10 := Lib.hid hrd10
  have HB3 := Lib.hid hb03
  have ht3 := HT.out.keep hb03
  have HT3 := Lib.hid ht3
  clear hrd10 hb3 hb03 hr3 hrf ht3 HR HR3 HRM HKC HKY HRF HB29
  go_upto_region 10 with (go_at_call 22; (with_reducible refine (HRT.out _).mono ?_); rintro e w' ⟨rfl, rfl⟩)
  clear hcell k1 k2 hsl2
  have hcv : ∀ W, Below w3.heap.size w3 W → (convert 0x1e 9 (.slice A10 size c10)).run Tryd.prog W = .ok (.string (strB D)) W := fun W hb => conv_rd HDL.out ((HRD10.out.below hb).more hb.size)
  have HCV := Lib.hid hcv
  have k0 := hcv w3 (Below.refl _ _)
  have k0d := hcv w3.drew (Below.refl _ _).drew
  clear hcv
  go_region_held_law (fun W => (convert 0x1e 9 (.slice A10 size c10)).run Tryd.prog W = .ok (.string (strB D)) W)
    (first | exact k8 | exact k7 | exact k0d | exact k0)
    (first
    | (go_at_call 23; (with_reducible refine (num_any _ _).mono ?_); rintro e w' ⟨rfl, rfl⟩)
    | (go_at_call 20; (with_reducible refine (HRFF.out _ (Below.refl _ _).drew).mono ?_); rintro e w7 ⟨A7, c7, rfl, t7, hb7⟩; have k7 := HCV.out w7 hb7)
    | (go_at_call 17; (with_reducible refine (works_from hb7 HT3.out).mono ?_); rintro e w8 ⟨rfl, hb8⟩; have k8 := HCV.out w8 hb8))
  all_goals
   go_wp2
   go_ret
   exact ⟨rfl, HB3.out.trans (hb8.mono HB3.out.size)⟩
theorem Sm.keyed_law (size : Int) (n1 c1 n c : Nat) (A1 A : Option Addr) (key : List (BitVec 8)) (ps : List Pt) (w : World) (ht : Tabs w) (hk : key.length = n1) (hr : Rd w w.heap.size A1 key) (h : PsC w A n ps) (hnc : n ≤ c) (hnm : n ≤ 9223372036854775807) :
    Calls Tryd.prog 5 #[.int .i64 size, .slice A1 n1 c1, .slice A n c] w fun e w' => e = .returned (.bool true) ∧ Below w.heap.size w w' := by
  by_cases hf : Few 20 ps
  · by_cases hl : 100 < n1
    · exact keyed_long size n1 c1 n c A1 A ps w ht h hf hl
    · by_cases hno : size < 1 ∨ 32 < size ∨ 32 < n1
      · exact keyed_ref size n1 c1 n c A1 A key ps w ht h hf (by omega) hk hr hno
      · obtain ⟨sz, rfl⟩ : ∃ sz : Nat, size = (sz : Int) := ⟨size.toNat, by omega⟩
        exact keyed_yes sz n1 c1 n c A1 A key ps w ht h hnc hf hk hr (by omega) (by omega) (by omega)
  · exact keyed_few size n1 c1 n c A1 A ps w ht h hnm hf
end Go.Proofs
namespace Go.Proofs
open Go.RowKit Sm
theorem Sm.hsc_length {ws : List (BitVec 32)} {p : Nat} {bl : List (BitVec 8)} {sz : Nat} {a b : Value} (h1 : ws.length = 8) (h2 : bl.length = 64) : (stc ws p bl sz ++ [a, b]).toArray.size = 76 := by
  rw [List.size_toArray, List.length_append, stc_length, h1, h2]; rfl
set_option maxRecDepth 100000 in
set_option maxHeartbeats 2000000 in
theorem Sm.Copy_any (g : Nat) (s : HS) (size : Int) (ahead : Nat) (w : World) (h : HsAt w g s size ahead) (h1 : 0 < size) :
    Calls Tryd.prog 28 #[.pointer (some ⟨g, 0, none⟩)] w fun e w' => ∃ g2, e = .returned (.pointer (some ⟨g2, 0, none⟩)) ∧ w.heap.size ≤ g2 ∧ HsAt w' g2 s size ahead ∧ Below w.heap.size w w' := by
  have hth := there_yes w g s size ahead h h1
  have hz54 := (zero_of_info z54).1
  have hzl := zz54_length
  have hi : (Tryd.prog.info? 0x33).map (·.size) = some (stc s.ws s.p (pad s.cur) s.cur.length ++ [Value.int .i64 size, Value.int .i64 (ahead : Int)]).toArray.size := by
    rw [hsc_length h.wlen h.blen]; kernel_rfl
  have hs : zz54.toArray.size = (stc s.ws s.p (pad s.cur) s.cur.length ++ [Value.int .i64 size, Value.int .i64 (ahead : Int)]).toArray.size := by
    rw [hsc_length h.wlen h.blen, List.size_toArray, hzl]
  have ho : (stc s.ws s.p (pad s.cur) s.cur.length ++ [Value.int .i64 size, Value.int .i64 (ahead : Int)]).toArray.all (·.oneCell') = true := by
    refine all_oneCell_toArray fun v hv => ?_
    rcases List.mem_append.1 hv with hv | hv
    · exact stc_one _ _ _ _ v hv
    · simp only [List.mem_cons, List.not_mem_nil, or_false] at hv
      rcases hv with rfl | rfl <;> rfl
  have hbk : Blk w g 0x33 (stc s.ws s.p (pad s.cur) s.cur.length ++ [Value.int .i64 size, Value.int .i64 (ahead : Int)]).toArray := h.blk
  have hwl := h.wlen
  have hbl := h.blen
  obtain ⟨X, hX⟩ : ∃ X, (stc s.ws s.p (pad s.cur) s.cur.length ++ [Value.int .i64 size, Value.int .i64 (ahead : Int)]).toArray = X := ⟨_, rfl⟩
  rw [hX] at hi hs ho hbk
  have HX := Lib.hid hX
  have HI := Lib.hid hi
  have HS := Lib.hid hs
  have HO := Lib.hid ho
  have HBK := Lib.hid hbk
  have HL := Lib.hid (And.intro hwl hbl)
  clear hX hi hs ho hbk hwl hbl h h1 hzl
  go_enter Tryd.func28, Tryd.ntmps28
  go_wp2_with (first
    | (go_at_call 51; (with_reducible refine hth.mono ?_); clear hth; rintro e w' ⟨rfl, rfl⟩)
    | (refine wpList_load_row rfl 0x33 _ rfl g rfl 0x33 X (0, 0) _ HBK.out Tryd.underlying51 rfl HI.out ?_)
    | (refine wpList_store_row rfl 0x33 _ _ rfl w.heap.size X rfl rfl 0x33 zz54.toArray (World.alloc_heap_new w _) HI.out HS.out HO.out ?_))
  go_ret
  refine ⟨_, rfl, Nat.le_refl _, ⟨?_, HL.out.1, HL.out.2⟩, below_setRow ((Below.refl _ w).alloc (Nat.le_refl _) _) (Nat.le_refl _) _⟩
  rw [HX.out]
  exact setRow_heap _ _ _ _ _ _ (World.alloc_heap_new w _)
/-- a part that is written, told from a base world; other hashes stay -/
theorem Sm.Write_by {w v : World} (g : Nat) (s : HS) (size : Int) (a : Nat) (A : Option Addr) (n c : Nat) (l : List (BitVec 8)) (ht : Tabs w) (hg : w.heap.size ≤ g) (h1 : 0 < size) (hcur : s.cur.length ≤ 64) (hp : s.p + s.cur.length + l.length ≤ 1000000000) (hpt : PtOK w g A n c l)
    (h : HsAt v g s size a) (hb : Below w.heap.size w v) : Calls Tryd.prog 25 #[.pointer (some ⟨g, 0, none⟩), .slice A n c] v fun e w' => e = .returned (.int .i64 0) ∧ HsAt w' g (takeS s l) size a ∧ Below w.heap.size w w' ∧ ∀ g' s' size' a', g' ≠ g → HsAt v g' s' size' a' → HsAt w' g' s' size' a' :=
  (Write_any g s size a A n c l v h h1 hcur (hpt.keep hb) (by have := ht.size; omega) (ht.keep hb) (by rw [List.length_append]; omega)).mono fun _ _ ⟨e, hh, hbt⟩ => ⟨e, hh, hb.trans (hbt.to_below hb.size (fun b eb => by omega)), fun _ _ _ _ hne h' => h'.but hbt hne⟩
set_option maxRecDepth 100000 in
set_option maxHeartbeats 2000000 in
theorem Sm.copies_no (size : Int) (n1 c1 n2 c2 n3 c3 n4 c4 : Nat) (A1 A2 A3 A4 : Option Addr) (w : World) (ht : Tabs w) (h : (size < 1 ∨ 32 < size ∨ 32 < n1) ∨ 200 < n2 ∨ 200 < n3 ∨ 200 < n4) :
    Calls Tryd.prog 7 #[.int .i64 size, .slice A1 n1 c1, .slice A2 n2 c2, .slice A3 n3 c3, .slice A4 n4 c4] w fun e w' => e = .returned (.bool true) ∧ Below w.heap.size w w' := by
  have hw := works_any w ht
  by_cases h0 : size < 1 ∨ 32 < size ∨ 32 < n1
  · have hr := right_no size n1 c1 A1 w h0
    clear h h0
    go_enter Tryd.func7, Tryd.ntmps7
    go_wp2_with (first
      | (go_at_call 22; (with_reducible refine hr.mono ?_); clear hr; rintro e w' ⟨rfl, rfl⟩)
      | (go_at_call 17; (with_reducible refine hw.mono ?_); clear hw; rintro e w1 ⟨rfl, hb⟩))
    go_ret
    exact ⟨rfl, hb⟩
  · obtain ⟨sz, rfl⟩ : ∃ sz : Nat, size = (sz : Int) := ⟨size.toNat, by omega⟩
    have hr := right_yes sz n1 c1 A1 w (by omega) (by omega) (by omega)
    obtain ⟨sz, hsz⟩ : ∃ e : Int, (sz : Int) = e := ⟨_, rfl⟩
    rw [hsz] at hr ⊢
    clear hsz
    by_cases h2 : (200 : Int) < (n2 : Int)
    · clear h h0
      go_enter Tryd.func7, Tryd.ntmps7
      go_wp2_with (first
        | (go_at_call 22; (with_reducible refine hr.mono ?_); clear hr; rintro e w' ⟨rfl, rfl⟩)
        | (go_at_call 17; (with_reducible refine hw.mono ?_); clear hw; rintro e w1 ⟨rfl, hb⟩))
      go_ret
      exact ⟨rfl, hb⟩
    · by_cases h3 : (200 : Int) < (n3 : Int)
      · clear h h0
        go_enter Tryd.func7, Tryd.ntmps7
        go_wp2_with (first
          | (go_at_call 22; (with_reducible refine hr.mono ?_); clear hr; rintro e w' ⟨rfl, rfl⟩)
          | (go_at_call 17; (with_reducible refine hw.mono ?_); clear hw; rintro e w1 ⟨rfl, hb⟩))
        go_ret
        exact ⟨rfl, hb⟩
      · have h4 : (200 : Int) < (n4 : Int) := by omega
        clear h h0
        go_enter Tryd.func7, Tryd.ntmps7
        go_wp2_with (first
          | (go_at_call 22; (with_reducible refine hr.mono ?_); clear hr; rintro e w' ⟨rfl, rfl⟩)
          | (go_at_call 17; (with_reducible refine hw.mono ?_); clear hw; rintro e w1 ⟨rfl, hb⟩))
        go_ret
        exact ⟨rfl, hb⟩
end Go.Proofs
