/-
  The contract of joined, of the laws of layer 5: where there are few enough parts and the key is short enough, and where not.
  The keys of a label, and the contract of the reference's Derive.
  The iterator over keys: how it is made, and the making of one key.
  A tag under way, told by its key and what was written; the contracts of New, Write, Copy and Tag in these words; num of layer 5.
-/
import Derived.Test.YtmhmnmdobnkbgaaDoorM11
import Derived.Test.YtmhmnmdobnkbgaaDoorM13
import Derived.Test.YtmhmnmdobnkbgaaDoorM16
import Derived.Deep.RegionHeldLaw
import Derived.Shelf.Abstract
import Derived.WalkKit
import Derived.OwnWalkIn
import Derived.TacticsInMore
import Derived.LoopNIn
import Derived.LoopIn
import Derived.Outline
import Derived.Deep.WholeRow
import Derived.Deep.CutRange
namespace Go.Proofs
open Go.RowKit Sm
set_option maxRecDepth 100000 in
set_option maxHeartbeats 2000000 in
theorem Sm.joined5_yes (Ak : Option Addr) (nk ck : Nat) (A : Option Addr) (n c : Nat) (ps : List Pt) (w : World) (h : PsC w A n ps) (hf : Few 10 ps) (hnk : nk ≤ 200) :
    Calls Tryd.prog 13 #[.slice Ak nk ck, .slice A n c] w fun e w' => ∃ v, e = .returned (.tuple #[v, .bool true]) ∧ w'.ownsRow w.heap.size 5 1 v (joinP ps).length ((joinP ps).map byteCell) ∧ Below w.heap.size w w' := by
  obtain ⟨i0, hi, hz0, hz1, hz2⟩ := info_parts info5
  have hn : ¬ ((10 : Int) < (n : Int)) := by have := hf.1; have := h.len; omega
  have hk2 : ¬ ((200 : Int) < (nk : Int)) := by omega
  have HP := Lib.hid h
  have HF := Lib.hid hf
  clear h hf
  go_enter Tryd.func13, Tryd.ntmps13
  go_wp2_with fail
  go_loopw [6, 7] (fun s4 s5 wr => ∃ k : Nat, k ≤ n ∧ s5 = .int .i64 (k : Int) ∧ Hid (wr.ownsRow w.heap.size 5 1 s4 (joinP (ps.take k)).length ((joinP (ps.take k)).map byteCell) ∧ Below w.heap.size w wr)) (fun _ s5 _ => n - (intOf s5).toNat)
  case atStart => exact ⟨0, Nat.zero_le _, rfl, Lib.hid ⟨World.ownsRow_nil _ _ _ _, Below.refl _ _⟩⟩
  case round =>
    obtain ⟨wo, rfl⟩ : ∃ wo : World, wo = wr := ⟨_, rfl⟩
    obtain ⟨k, hk, rfl, HR⟩ := hrel
    by_cases hlt : k < n
    · have hkl : k < ps.length := by rw [HP.out.len]; exact hlt
      obtain ⟨b, off, rfl, _, hc⟩ := (HP.out.below HR.out.2).at_ hkl
      have hpc := HP.out.each ps[k] (List.getElem_mem hkl)
      have hsm := HF.out.2 ps[k] (List.getElem_mem hkl)
      have hsn := joinP_snoc ps k hkl
      have hle := joinP_take_le ps k (fun p hp => by have h1 := HF.out.2 p (List.mem_of_mem_take hp); have h2 := (HP.out.each p (List.mem_of_mem_take hp)).len; omega) (by have := HF.out.1; omega)
      obtain ⟨p, hp⟩ : ∃ p, ps[k] = p := ⟨_, rfl⟩
      rw [hp] at hc hpc hsm hsn
      have hni : ¬ ((200 : Int) < (p.n : Int)) := by omega
      have HPC := Lib.hid hpc
      have HSN := Lib.hid hsn
      have hrd : Rd wo w.heap.size p.A p.l := hpc.rd.below HR.out.2
      have hlen := hpc.len
      have HRD := Lib.hid hrd
      have HLEN := Lib.hid hlen
      have hb0 := HR.out.2.size
      have hnm : (joinP (ps.take k)).length + p.n ≤ 1000000000 := by omega
      clear hp hpc hsn hrd hlen
      go_wp2_with (at_builtin; refine wpList_append_rd _ rfl (.tmp 28) (.tmp 32) 0x16 rfl w.heap.size 5 i0 _ Tryd.underlying22 hi hz0 hz1 hz2 rfl _ (joinP (ps.take k)).length _ rfl HR.out.1 w.heap.size p.A p.n p.c p.l rfl HLEN.out HRD.out hnm hb0 ?_; intro v9 w9 hown9 hg9 _)
      go_roundw
      case rel =>
        refine ⟨k + 1, by omega, by go_num, Lib.hid ⟨?_, HR.out.2.grown hg9 hb0 (fun g e => own_ge HR.out.1 g e)⟩⟩
        rw [HSN.out, List.map_append, List.length_append, HLEN.out]
        exact hown9
      case measure => simp [intOf]; omega
    · obtain rfl : k = n := by omega
      have hall : ps.take k = ps := List.take_of_length_le (by rw [HP.out.len]; exact Nat.le_refl _)
      have HR1 := HR.out
      rw [hall] at HR1
      have HR2 := Lib.hid HR1
      clear HR HR1 hall
      go_wp2_with fail
      go_ret2
      exact ⟨_, rfl, HR2.out.1, HR2.out.2⟩
set_option maxRecDepth 100000 in
set_option maxHeartbeats 2000000 in
theorem Sm.joined5_no (Ak : Option Addr) (nk ck : Nat) (A : Option Addr) (n c : Nat) (ps : List Pt) (w : World) (h : PsC w A n ps) (hnm : n ≤ 9223372036854775807) (hf : ¬ (Few 10 ps ∧ nk ≤ 200)) :
    Calls Tryd.prog 13 #[.slice Ak nk ck, .slice A n c] w fun e w' => e = .returned (.tuple #[.slice none 0 0, .bool false]) ∧ Below w.heap.size w w' := by
  obtain ⟨i0, hi, hz0, hz1, hz2⟩ := info_parts info5
  by_cases hn : (10 : Int) < (n : Int)
  · go_enter Tryd.func13, Tryd.ntmps13
    go_wp2_with fail
    go_ret2
    exact ⟨rfl, Below.refl _ _⟩
  · by_cases hk2 : (200 : Int) < (nk : Int)
    · go_enter Tryd.func13, Tryd.ntmps13
      go_wp2_with fail
      go_ret2
      exact ⟨rfl, Below.refl _ _⟩
    have hf2 : ¬ Few 10 ps := fun e => hf ⟨e, by omega⟩
    have HP := Lib.hid h
    have HF := Lib.hid hf2
    clear hf2
    have hn20 : n ≤ 10 := by omega
    clear h hf
    go_enter Tryd.func13, Tryd.ntmps13
    go_wp2_with fail
    go_loopw [6, 7] (fun s4 s5 wr => ∃ k : Nat, k ≤ n ∧ s5 = .int .i64 (k : Int) ∧ Hid (wr.ownsRow w.heap.size 5 1 s4 (joinP (ps.take k)).length ((joinP (ps.take k)).map byteCell) ∧ Below w.heap.size w wr ∧ ∀ p ∈ ps.take k, p.n ≤ 200)) (fun _ s5 _ => n - (intOf s5).toNat)
    case atStart => exact ⟨0, Nat.zero_le _, rfl, Lib.hid ⟨World.ownsRow_nil _ _ _ _, Below.refl _ _, by simp⟩⟩
    case round =>
      obtain ⟨wo, rfl⟩ : ∃ wo : World, wo = wr := ⟨_, rfl⟩
      obtain ⟨k, hk, rfl, HR⟩ := hrel
      by_cases hlt : k < n
      · have hkl : k < ps.length := by rw [HP.out.len]; exact hlt
        obtain ⟨b, off, rfl, _, hc⟩ := (HP.out.below HR.out.2.1).at_ hkl
        have hpc := HP.out.each ps[k] (List.getElem_mem hkl)
        have hsn := joinP_snoc ps k hkl
        have htk : ps.take (k + 1) = ps.take k ++ [ps[k]] := List.take_succ_eq_append_getElem hkl
        have hle := joinP_take_le ps k (fun p hp => by have h1 := HR.out.2.2 p hp; have h2 := (HP.out.each p (List.mem_of_mem_take hp)).len; omega) (by omega)
        obtain ⟨p, hp⟩ : ∃ p, ps[k] = p := ⟨_, rfl⟩
        rw [hp] at hc hpc hsn htk
        have HPC := Lib.hid hpc
        have HSN := Lib.hid hsn
        have HTK := Lib.hid htk
        have hrd : Rd wo w.heap.size p.A p.l := hpc.rd.below HR.out.2.1
        have hlen := hpc.len
        have HRD := Lib.hid hrd
        have HLEN := Lib.hid hlen
        have hb0 := HR.out.2.1.size
        clear hp hpc hsn htk hrd hlen
        by_cases hni : (200 : Int) < (p.n : Int)
        · go_wp2_with fail
          go_ret2
          exact ⟨rfl, HR.out.2.1⟩
        · have hnm : (joinP (ps.take k)).length + p.n ≤ 1000000000 := by omega
          go_wp2_with (at_builtin; refine wpList_append_rd _ rfl (.tmp 28) (.tmp 32) 0x16 rfl w.heap.size 5 i0 _ Tryd.underlying22 hi hz0 hz1 hz2 rfl _ (joinP (ps.take k)).length _ rfl HR.out.1 w.heap.size p.A p.n p.c p.l rfl HLEN.out HRD.out hnm hb0 ?_; intro v9 w9 hown9 hg9 _)
          go_roundw
          case rel =>
            refine ⟨k + 1, by omega, by go_num, Lib.hid ⟨?_, HR.out.2.1.grown hg9 hb0 (fun g e => own_ge HR.out.1 g e), fun q hq => ?_⟩⟩
            · rw [HSN.out, List.map_append, List.length_append, HLEN.out]
              exact hown9
            · rw [HTK.out, List.mem_append] at hq
              rcases hq with hq | hq
              · exact HR.out.2.2 q hq
              · obtain rfl := List.mem_singleton.1 hq
                omega
          case measure => simp [intOf]; omega
      · obtain rfl : k = n := by omega
        have hall : ps.take k = ps := List.take_of_length_le (by rw [HP.out.len]; exact Nat.le_refl _)
        exfalso
        refine HF.out ⟨by rw [HP.out.len]; exact hn20, fun p hp => HR.out.2.2 p (by rw [hall]; exact hp)⟩
end Go.Proofs
namespace Go.Proofs
open Go.RowKit Sm
/-- the key that comes after k ones; none ahead of the first -/
def Sm.lastK (key lb : List (BitVec 8)) : Nat → List (BitVec 8)
  | 0 => []
  | k + 1 => tagS key (lastK key lb k ++ lb ++ [BitVec.ofNat 8 (k + 1)])
/-- the first k keys, one behind the other -/
def Sm.allK (key lb : List (BitVec 8)) : Nat → List (BitVec 8)
  | 0 => []
  | k + 1 => allK key lb k ++ lastK key lb (k + 1)
theorem Sm.lastK_length (key lb : List (BitVec 8)) (k : Nat) : (lastK key lb (k + 1)).length = 32 := tagS_length _ _
theorem Sm.lastK_le (key lb : List (BitVec 8)) (k : Nat) : (lastK key lb k).length ≤ 32 := by
  cases k
  · simp [lastK]
  · rw [lastK_length]; exact Nat.le_refl _
theorem Sm.allK_length (key lb : List (BitVec 8)) (k : Nat) : (allK key lb k).length = 32 * k := by
  induction k with
  | zero => rfl
  | succ k ih => rw [allK, List.length_append, ih, lastK_length]; omega
/-- the first bytes of keys -/
def Sm.deriveS (key lb : List (BitVec 8)) (n : Nat) : List (BitVec 8) := (allK key lb ((n + 31) / 32)).take n
theorem Sm.rd_of_pt {w : World} {g n c : Nat} {A : Option Addr} {l : List (BitVec 8)} (h : PtOK w g A n c l) : Rd w w.heap.size A l := fun hl => by
  obtain ⟨b, off, rfl, hlt, _, hc⟩ := h.rd (by rw [List.length_map]; exact hl)
  exact ⟨b, off, rfl, hlt, fun j c hj => hc j _ (by rw [List.getElem?_map, hj]; rfl)⟩
theorem Sm.rd_one (x : BitVec 8) (X : Int) (hX : X = ib x) (w : World) : Rd (w.alloc (.cells #[.int .u8 X] 5)) (w.heap.size + 1) (some ⟨w.heap.size, 0, none⟩) [x] := fun _ => ⟨w.heap.size, 0, rfl, by omega, fun j c hj => by
  rw [World.cell?_alloc_mark]
  rcases j with _ | j <;> simp at hj <;> subst hj <;> subst hX <;> rfl⟩
theorem Sm.refTag_three {w v : World} {base nk ck n8 nl : Nat} {Ak : Option Addr} {key l8 ll : List (BitVec 8)} {x : BitVec 8} {v2 : Value} (hk : key.length = nk) (hnk : nk ≤ 1000) (h8 : l8.length = n8) (hl : ll.length = nl) (h8' : n8 ≤ 32) (hl' : nl ≤ 1000) (hr : Rd w w.heap.size Ak key) (hb : Below w.heap.size w v)
    (hown : v.ownsRow base 5 1 v2 (0 + n8 + nl + 1) ([] ++ l8.map byteCell ++ ll.map byteCell ++ [x].map byteCell)) :
    ∃ A2 c2, v2 = .slice A2 (n8 + nl + 1) c2 ∧ Calls Tryd.prog 16 #[.slice Ak nk ck, .slice A2 (n8 + nl + 1) c2] v fun e w' => ∃ A' c', e = .returned (.slice A' 32 c') ∧ Rd w' w'.heap.size A' (tagS key (l8 ++ ll ++ [x])) ∧ Below v.heap.size v w' ∧ ∀ a : Addr, A' = some a → v.heap.size ≤ a.block := by
  have e : [] ++ l8.map byteCell ++ ll.map byteCell ++ [x].map byteCell = (l8 ++ ll ++ [x]).map byteCell := by simp
  rw [e, Nat.zero_add] at hown
  obtain ⟨A2, c2, rfl⟩ := own_slice hown
  exact ⟨A2, c2, rfl, (refTag_any nk ck _ c2 Ak A2 key (l8 ++ ll ++ [x]) v hk hnk (by simp; omega) (by omega) ((hr.below hb).more hb.size) (Rd.of_own hown (Nat.le_refl _))).mono fun _ _ ⟨A', c', e, p, q, r, _⟩ => ⟨A', c', e, p, q, r⟩⟩
theorem Sm.own_cap {w : World} {base n c : Nat} {e : TypeId} {A : Option Addr} {xs : List Value} (h : w.ownsRow base e 1 (.slice A n c) n xs) : n ≤ c := by
  rcases h.2 with ⟨e, e2⟩ | ⟨k, cap, cur, e, hb, hk, hnc, hcm, hcs, htake⟩
  · omega
  · simp only [Value.slice.injEq] at e
    obtain ⟨rfl, _, rfl⟩ := e
    exact hnc
/-- what is read beside a row that grows -/
theorem Sm.rd_grown {w w' : World} {row : Option Nat} {A : Option Addr} {l : List (BitVec 8)} (hg : w.grownBy w' row) (h : Rd w w.heap.size A l) (hn : ∀ a : Addr, A = some a → ∀ g, row = some g → a.block ≠ g) : Rd w' w.heap.size A l := fun hl => by
  obtain ⟨b, off, rfl, hlt, hc⟩ := h hl
  exact ⟨b, off, rfl, hlt, fun j c hj => ((But.grown hg).cell (p := ⟨b, off + j, none⟩) hlt (fun e => hn _ rfl b e rfl)).trans (hc j c hj)⟩
set_option maxRecDepth 100000 in
set_option maxHeartbeats 4000000 in
theorem Sm.refDerive_any (nk ck : Nat) (Ak : Option Addr) (key : List (BitVec 8)) (lb : ByteArray) (N : Nat) (w : World) (hk : key.length = nk) (hnk : nk ≤ 1000) (hlb : lb.size ≤ 1000) (hN : N ≤ 8160) (hr : Rd w w.heap.size Ak key) :
    Calls Tryd.prog 21 #[.slice Ak nk ck, .string lb, .int .i64 (N : Int)] w fun e w' => ∃ A' c', e = .returned (.slice A' N c') ∧ Rd w' w'.heap.size A' (deriveS key (sB lb) N) ∧ Below w.heap.size w w' := by
  obtain ⟨i0, hi, hz0, hz1, hz2⟩ := info_parts info5
  have HR := Lib.hid hr
  have HK := Lib.hid hk
  clear hr hk
  go_enter Tryd.func21, Tryd.ntmps21
  go_wp2_with fail
  go_loopw [7, 8, 9] (fun s7 s8 s9 wr => ∃ (k m n8 c7 c8 : Nat) (A7 A8 : Option Addr), 32 * k < N + 32 ∧ m = 32 * k ∧ n8 ≤ 32 ∧ s9 = .int .i64 ((k : Int) + 1) ∧ s7 = .slice A7 m c7 ∧ s8 = .slice A8 n8 c8 ∧ Hid (wr.ownsRow w.heap.size 5 1 (.slice A7 m c7) m ((allK key (sB lb) k).map byteCell)) ∧ Hid ((lastK key (sB lb) k).length = n8 ∧ Rd wr wr.heap.size A8 (lastK key (sB lb) k)) ∧ Hid (Below w.heap.size w wr)) (fun s7 _ _ _ => N + 32 - sliceLen s7)
  case atStart => exact ⟨0, 0, 0, 0, 0, none, none, by omega, rfl, by omega, rfl, rfl, rfl, Lib.hid (World.ownsRow_nil _ _ _ _), Lib.hid ⟨rfl, fun h => by simp [lastK] at h⟩, Lib.hid (Below.refl _ _)⟩
  case round =>
    obtain ⟨wo, rfl⟩ : ∃ wo : World, wo = wr := ⟨_, rfl⟩
    obtain ⟨k, m, n8, c7, c8, A7, A8, hkN, rfl, hn8, rfl, rfl, rfl, H7, H8, HB⟩ := hrel
    by_cases hlt : 32 * (k : Int) < (N : Int)
    · have hlbl := sB_length lb
      have hX : (k : Int) + 1 = ib (BitVec.ofNat 8 (k + 1)) := by
        unfold ib
        rw [BitVec.toNat_ofNat]
        omega
      have hb0 := HB.out.size
      have hk1 : (k : Int) + 1 ≤ 255 := by omega
      go_upto_region 6 with (first
        | (at_builtin; refine wpList_append_rd _ rfl (.tmp 17) (.tmp 18) 0x16 rfl wo.heap.size 5 i0 _ Tryd.underlying22 hi hz0 hz1 hz2 rfl _ 0 [] rfl (World.ownsRow_made wo #[] 0 (Nat.le_refl _) (by decide) rfl) wo.heap.size A8 n8 c8 (lastK key (sB lb) k) rfl H8.out.1 (H8.out.2.alloc (Nat.le_refl _) _) (by omega) (by simp) ?_; intro v19 w19 hown19 hg19 _; obtain ⟨W2, cx, hcv, hb2, hpx⟩ := str_conv lb w19 (by omega); have hg19s := hg19.size; simp only [World.size_alloc] at hg19s; have hrx := rd_of_pt (hpx w.heap.size (by omega)); have hown2 := own_below hown19 hb2; have hb2s := hb2.size)
        | (at_builtin; refine wpList_append_rd _ rfl (.tmp 19) (.tmp 21) 0x16 rfl wo.heap.size 5 i0 _ Tryd.underlying22 hi hz0 hz1 hz2 rfl v19 (0 + n8) _ rfl hown2 W2.heap.size (some ⟨w19.heap.size, 0, none⟩) lb.size cx (sB lb) rfl hlbl hrx (by omega) (by omega) ?_; intro v22 w22 hown22 hg22 _; have hg22s := hg22.size)
        | (at_builtin; refine wpList_append_rd _ rfl (.tmp 22) (.tmp 25) 0x16 rfl wo.heap.size 5 i0 _ Tryd.underlying22 hi hz0 hz1 hz2 rfl v22 (0 + n8 + lb.size) _ rfl (own_below hown22 ((Below.refl _ _).alloc (Nat.le_refl _) _)) (w22.heap.size + 1) (some ⟨w22.heap.size, 0, none⟩) 1 1 [BitVec.ofNat 8 (k + 1)] rfl rfl (rd_one _ _ rfl w22) (by omega) (by simp; omega) ?_; intro v26 w26 hown26 hg26 _; have hal : Below wo.heap.size wo (wo.alloc (.cells #[] 5)) := (Below.refl _ _).alloc (Nat.le_refl _) _; have hb19 : Below wo.heap.size wo w19 := hal.grown hg19 hal.size (fun g e => by cases e; exact Nat.le_refl _); have hbW2 : Below wo.heap.size wo W2 := hb19.trans (hb2.mono hb19.size); have hb22 : Below wo.heap.size wo w22 := hbW2.grown hg22 hbW2.size (fun g e => own_ge hown2 g e); have hb22a : Below wo.heap.size wo (w22.alloc (.cells #[.int .u8 (ib (BitVec.ofNat 8 (k + 1)))] 5)) := hb22.alloc hb22.size _; have hb26 : Below wo.heap.size wo w26 := hb22a.grown hg26 hb22a.size (fun g e => own_ge hown22 g e); obtain ⟨A26, c26, rfl, htg⟩ := refTag_three (ck := ck) HK.out hnk H8.out.1 hlbl hn8 hlb HR.out (HB.out.trans (hb26.mono HB.out.size)) hown26)
        | (go_at_call 16; (with_reducible refine htg.mono ?_); rintro e w27 ⟨A27, c27, rfl, hr27, hb27, hf27⟩))
      have hb07 : Below wo.heap.size wo w27 := hb26.trans (hb27.mono hb26.size)
      have ho7 := own_below H7.out hb07
      have H27 := Lib.hid hr27
      have HF27 : Hid (∀ a : Addr, A27 = some a → wo.heap.size ≤ a.block) := Lib.hid (fun a e => Nat.le_trans hb26.size (hf27 a e))
      have HL7 := Lib.hid H7.out.lt
      have HB7 := Lib.hid (HB.out.trans (hb07.mono HB.out.size))
      have HO7 := Lib.hid ho7
      have hb7s := HB7.out.size
      clear hown19 hown2 hown22 hown26 hg19 hg22 hg26 hg19s hg22s hb2 hb2s hrx hpx hcv hal hb19 hbW2 hb22 hb22a hb26 htg hr27 hb27 hf27 hb07 ho7 H7 HB
      go_wp2_with (at_builtin; refine wpList_append_rd _ rfl (.tmp 28) (.tmp 29) 0x16 rfl w.heap.size 5 i0 _ Tryd.underlying22 hi hz0 hz1 hz2 rfl _ (32 * k) _ rfl HO7.out w27.heap.size A27 32 c27 (lastK key (sB lb) (k + 1)) rfl (lastK_length _ _ _) H27.out (by omega) hb7s ?_; intro v30 w30 hown30 hg30 _; obtain ⟨A30, c30, rfl⟩ := own_slice hown30; have hg30s := hg30.size)
      go_roundw
      case rel =>
        refine ⟨k + 1, 32 * k + 32, 32, c30, c27, A30, A27, by omega, by omega, by omega, by go_num, rfl, rfl, Lib.hid ?_, Lib.hid ⟨lastK_length _ _ _, ?_⟩, Lib.hid ?_⟩
        · rw [allK, List.map_append]
          exact hown30
        · exact (rd_grown hg30 H27.out (fun a e g e2 => by have h1 := HF27.out a e; have h2 := (HL7.out g e2).2; omega)).more hg30s
        · exact HB7.out.grown hg30 hb7s (fun g e => own_ge HO7.out g e)
      case measure => simp [sliceLen]; omega
    · have hcN : N ≤ c7 := by
        have := own_cap H7.out
        omega
      have hsl := fun W => cut_h A7 (32 * k) c7 N hcN W
      have hrd : Rd wo wo.heap.size (cutA A7 0 c7) (deriveS key (sB lb) N) := by
        have h1 := rd_cut0 (c := c7) (Rd.of_own H7.out (Nat.le_refl _)) N
        have h2 : (N + 31) / 32 = k := by omega
        unfold deriveS
        rw [h2]
        exact h1
      have HRD := Lib.hid hrd
      clear hrd H7 H8
      go_wp2_with fail
      go_ret
      first | exact ⟨_, ⟨_, rfl⟩, HRD.out, HB.out⟩ | exact ⟨_, ⟨rfl, _, rfl⟩, HRD.out, HB.out⟩
end Go.Proofs
namespace Go.Proofs
open Go.RowKit Sm
attribute [local go_sem] Oper.semAt_some
set_option maxHeartbeats 400000 in
theorem Sm.keys_any (A : Option Addr) (lb : ByteArray) (w : World) : Calls Tryd.prog 40 #[.pointer A, .string lb] w fun e w' => e = .returned (.func (.func 67) #[] #[.pointer (some ⟨w.heap.size, 0, none⟩), .pointer (some ⟨w.heap.size + 1, 0, none⟩)]) ∧ (w.alloc (.cells #[.pointer A] 0x2a)).alloc (.cells #[.string lb] 9) = w' := by
  go_enter Tryd.func40, Tryd.ntmps40
  go_wp2
  go_ret
  exact ⟨rfl, rfl⟩
/-- three texts in a row -/
def Sm.Row3 (w : World) (N : Nat) (x y z : ByteArray) : Prop := Blk w N 9 #[.string x, .string y, .string z]
theorem Sm.Row3.keep {w w' : World} {N : Nat} {x y z : ByteArray} (h : Row3 w N x y z) (hb : Below w.heap.size w w') : Row3 w' N x y z := Blk.keep h hb
theorem Sm.Row3.ok {w : World} {N g : Nat} {x y z : ByteArray} (h : Row3 w N x y z) (hg : g ≠ N) : SsOK w g (some ⟨N, 0, none⟩) 3 [x, y, z] := by
  refine ⟨rfl, by decide, fun _ => ⟨N, 0, rfl, Blk.lt h, fun e => hg e.symm, fun j v hj => ?_⟩⟩
  rw [Nat.zero_add, Blk.cell h]
  simpa using hj
end Go.Proofs
namespace Go.Proofs
open Go.RowKit Sm
/-- a tag of this key to which these bytes were written -/
def Sm.MacK (w : World) (gm g : Nat) (key b : List (BitVec 8)) : Prop := MacAt w gm g (outH key) (takeS (inS key) b)
section
variable {w w' : World} {gm g : Nat} {key b : List (BitVec 8)}
theorem Sm.MacK.keep (h : MacK w gm g key b) (hb : Below w.heap.size w w') : MacK w' gm g key b := MacAt.keep h hb
theorem Sm.MacK.drew (h : MacK w gm g key b) : MacK w.drew gm g key b := MacAt.drew h
theorem Sm.MacK.but {S : Nat → Prop} (h : MacK w gm g key b) (hb : But S w w') (h1 : ¬ S gm) (h2 : ¬ S g) : MacK w' gm g key b := MacAt.but h hb h1 h2
theorem Sm.MacK.lt (h : MacK w gm g key b) : gm < w.heap.size ∧ g < w.heap.size := MacAt.lt h
end
theorem Sm.inS_cur (key : List (BitVec 8)) : (inS key).cur.length ≤ 64 := takeS_cur_le _ _
theorem Sm.newK_any (n c : Nat) (A : Option Addr) (key : List (BitVec 8)) (w : World) (ht : Tabs w) (hk : key.length = n) (hn : n ≤ 1000) (hnc : n ≤ c) (hcm : c ≤ 9223372036854775807) (hr : Rd w w.heap.size A key) :
    Calls Tryd.prog 22 #[.slice A n c] w fun e w' => ∃ gm g, e = .returned (.pointer (some ⟨gm, 0, none⟩)) ∧ w.heap.size ≤ gm ∧ w.heap.size ≤ g ∧ MacK w' gm g key [] ∧ Below w.heap.size w w' := by
  have h := macNew_any n c A key w ht hk hn hnc hcm hr
  have e : takeS (inS key) [] = inS key := takeS_none _ (inS_cur key)
  unfold MacK
  rw [e]
  exact h
theorem Sm.writeK_any (gm g : Nat) (key b : List (BitVec 8)) (A : Option Addr) (n c : Nat) (l : List (BitVec 8)) (w : World) (h : MacK w gm g key b) (hpt : PtOK w g A n c l) (hg : 4 ≤ g) (ht : Tabs w) (hp : b.length + l.length ≤ 80000) :
    Calls Tryd.prog 23 #[.pointer (some ⟨gm, 0, none⟩), .slice A n c] w fun e w' => e = .returned (.int .i64 0) ∧ MacK w' gm g key (b ++ l) ∧ But (fun b => b = g) w w' := by
  have hc := takeS_count (inS key) b
  rw [inS_count] at hc
  have := macWrite_any gm g (outH key) (takeS (inS key) b) A n c l w h hpt hg ht (by rw [List.length_append]; omega)
  rw [takeS_takeS] at this
  exact this
theorem Sm.copyK_any (gm g : Nat) (key b : List (BitVec 8)) (w : World) (h : MacK w gm g key b) :
    Calls Tryd.prog 25 #[.pointer (some ⟨gm, 0, none⟩)] w fun e w' => ∃ gm2 g2, e = .returned (.pointer (some ⟨gm2, 0, none⟩)) ∧ w.heap.size ≤ gm2 ∧ w.heap.size ≤ g2 ∧ MacK w' gm2 g2 key b ∧ Below w.heap.size w w' := macCopy_any gm g (outH key) (takeS (inS key) b) w h
/-- what may have turned but for a hash that is the same has not -/
theorem Sm.same_hash {w w' : World} {gm g : Nat} {key b : List (BitVec 8)} (h : MacK w gm g key b) (h' : MacK w' gm g key b) (hb : But (fun k => k = g) w w') : Below w.heap.size w w' :=
  ⟨hb.os, hb.tape, hb.output, hb.size, fun k hk => by
    by_cases e : k = g
    · subst e
      have h1 := (MacAt.h h).blk
      have h2 := (MacAt.h h').blk
      exact h2.trans h1.symm
    · exact hb.block k hk e⟩
theorem Sm.tagK_any (gm g : Nat) (key b : List (BitVec 8)) (w : World) (h : MacK w gm g key b) (hg : 4 ≤ g) (ht : Tabs w) (hp : b.length ≤ 80000) :
    Calls Tryd.prog 24 #[.pointer (some ⟨gm, 0, none⟩)] w fun e w' => ∃ R, e = .returned (.slice (some ⟨R, 0, none⟩) 32 32) ∧ w.heap.size ≤ R ∧ Blk w' R 0x1b (bvs (tagS key b)) ∧ Below w.heap.size w w' := by
  have hc := takeS_count (inS key) b
  rw [inS_count] at hc
  have := macTag_any gm g (outH key) (takeS (inS key) b) w h hg ht (by omega)
  rw [tag_eq] at this
  exact this.mono fun _ _ ⟨R, e, h1, h2, h3, h4⟩ => ⟨R, e, h1, h2, same_hash h h3 h4⟩
/-- the bytes of a tag, as a text -/
theorem Sm.tag_conv {w w' : World} {R : Nat} {T : List (BitVec 8)} (h : Blk w R 0x1b (bvs T)) (hl : T.length = 32) (hb : Below w.heap.size w w') : (convert 0x16 9 (.slice (some ⟨R, 0, none⟩) 32 32)).run Tryd.prog w' = .ok (.string (strB T)) w' := by
  have h2 := h.keep hb
  refine conv_rd hl fun h0 => ⟨R, 0, rfl, h2.lt, fun j c hj => ?_⟩
  rw [Nat.zero_add, h2.cell]
  simp only [bvs, List.getElem?_toArray, List.getElem?_map, hj, Option.map_some]
  rfl
set_option maxHeartbeats 400000 in
theorem Sm.num5_any (e : Int) (w : World) : Calls Tryd.prog 18 #[.int .i64 e] w fun e' w' => e' = .returned (.int .i64 e) ∧ w = w' := by
  go_enter Tryd.func18, Tryd.ntmps18
  go_wp2
  go_ret
  exact ⟨rfl, rfl⟩
end Go.Proofs
