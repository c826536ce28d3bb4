/-
  Parts that came in; the contract of joined, of the laws of layer 4: where there are few enough of them, and where not.
-/
import Derived.Test.YtdpcgfaknbfmmaaDoorRefF
import Derived.Test.YtdpcgfaknbfmmaaDoorCut
namespace Go.Proofs
open Go.RowKit Sm
/-- a part that came in -/
structure Sm.PtC (w : World) (p : Pt) : Prop where
  len : p.l.length = p.n
  room : p.n ≤ p.c
  most : p.c ≤ 9223372036854775807
  rd : Rd w w.heap.size p.A p.l
theorem Sm.PtC.below {w w' : World} {p : Pt} (h : PtC w p) (hb : Below w.heap.size w w') : PtC w' p := ⟨h.len, h.room, h.most, (h.rd.below hb).more hb.size⟩
theorem Sm.PtC.ok {w : World} {p : Pt} (h : PtC w p) (g : Nat) (hg : w.heap.size ≤ g) : PtOK w g p.A p.n p.c p.l := pt_of_rd h.len h.room h.most h.rd g hg
/-- parts that came in -/
structure Sm.PsC (w : World) (A : Option Addr) (n : Nat) (ps : List Pt) : Prop where
  len : ps.length = n
  rd : Rds w (fun _ => False) A (ps.map Pt.val)
  each : ∀ p ∈ ps, PtC w p
theorem Sm.PsC.below {w w' : World} {A : Option Addr} {n : Nat} {ps : List Pt} (h : PsC w A n ps) (hb : Below w.heap.size w w') : PsC w' A n ps := ⟨h.len, h.rd.below hb, fun p hp => (h.each p hp).below hb⟩
theorem Sm.PsC.ok {w : World} {A : Option Addr} {n : Nat} {ps : List Pt} (h : PsC w A n ps) (hn : n ≤ 1000000) (g : Nat) (hg : w.heap.size ≤ g) : PsOK w g A n ps := by
  refine ⟨h.len, hn, fun h0 => ?_, fun p hp => (h.each p hp).ok g hg⟩
  obtain ⟨b, off, rfl, hlt, _, hc⟩ := h.rd h0
  exact ⟨b, off, rfl, hlt, fun e => by omega, hc⟩
theorem Sm.PsC.at_ {w : World} {A : Option Addr} {n : Nat} {ps : List Pt} (h : PsC w A n ps) {k : Nat} (hk : k < ps.length) : ∃ b off, A = some ⟨b, off, none⟩ ∧ b < w.heap.size ∧ w.cell? ⟨b, off + k, none⟩ = some (.slice ps[k].A ps[k].n ps[k].c) := by
  obtain ⟨b, off, rfl, hlt, _, hc⟩ := h.rd (by rw [List.length_map]; omega)
  refine ⟨b, off, rfl, hlt, hc k _ ?_⟩
  rw [List.getElem?_map, List.getElem?_eq_getElem hk]
  rfl
theorem Sm.joinP_snoc (ps : List Pt) (k : Nat) (hk : k < ps.length) : joinP (ps.take (k + 1)) = joinP (ps.take k) ++ ps[k].l := by
  unfold joinP
  rw [List.take_succ_eq_append_getElem hk, List.flatMap_append]
  simp
theorem Sm.joinP_le (ps : List Pt) (m : Nat) (h : ∀ p ∈ ps, p.l.length ≤ m) : (joinP ps).length ≤ m * ps.length := by
  induction ps with
  | nil => simp [joinP]
  | cons p ps ih =>
    have h1 := h p (by simp)
    have h2 := ih fun q hq => h q (by simp [hq])
    have e : joinP (p :: ps) = p.l ++ joinP ps := rfl
    rw [e, List.length_append, List.length_cons, Nat.mul_succ]
    omega
theorem Sm.joinP_take_le (ps : List Pt) (k : Nat) (h : ∀ p ∈ ps.take k, p.l.length ≤ 200) (hk : k ≤ 20) : (joinP (ps.take k)).length ≤ 4000 := by
  have h1 := joinP_le (ps.take k) 200 h
  have h2 : (ps.take k).length ≤ k := by rw [List.length_take]; omega
  have := Nat.mul_le_mul_left 200 (Nat.le_trans h2 hk)
  omega
/-- few enough -/
def Sm.Few (m : Nat) (ps : List Pt) : Prop := ps.length ≤ m ∧ ∀ p ∈ ps, p.n ≤ 200
set_option maxRecDepth 100000 in
set_option maxHeartbeats 2000000 in
theorem Sm.joined_yes (A : Option Addr) (n c : Nat) (ps : List Pt) (w : World) (h : PsC w A n ps) (hf : Few 20 ps) :
    Calls Tryd.prog 18 #[.slice A n c] w fun e w' => ∃ v, e = .returned (.tuple #[v, .bool true]) ∧ w'.ownsRow w.heap.size 5 1 v (joinP ps).length ((joinP ps).map byteCell) ∧ Below w.heap.size w w' := by
  obtain ⟨i0, hi, hz0, hz1, hz2⟩ := info_parts info5
  have hn : ¬ ((20 : Int) < (n : Int)) := by have := hf.1; have := h.len; omega
  have HP := Lib.hid h
  have HF := Lib.hid hf
  clear h hf
  go_enter Tryd.func18, Tryd.ntmps18
  go_wp2_with fail
  go_loopw [4, 5] (fun s4 s5 wr => ∃ k : Nat, k ≤ n ∧ s5 = .int .i64 (k : Int) ∧ Hid (wr.ownsRow w.heap.size 5 1 s4 (joinP (ps.take k)).length ((joinP (ps.take k)).map byteCell) ∧ Below w.heap.size w wr)) (fun _ s5 _ => n - (intOf s5).toNat)
  case atStart => exact ⟨0, Nat.zero_le _, rfl, Lib.hid ⟨World.ownsRow_nil _ _ _ _, Below.refl _ _⟩⟩
  case round =>
    obtain ⟨wo, rfl⟩ : ∃ wo : World, wo = wr := ⟨_, rfl⟩
    obtain ⟨k, hk, rfl, HR⟩ := hrel
    by_cases hlt : k < n
    · have hkl : k < ps.length := by rw [HP.out.len]; exact hlt
      obtain ⟨b, off, rfl, _, hc⟩ := (HP.out.below HR.out.2).at_ hkl
      have hpc := HP.out.each ps[k] (List.getElem_mem hkl)
      have hsm := HF.out.2 ps[k] (List.getElem_mem hkl)
      have hsn := joinP_snoc ps k hkl
      have hle := joinP_take_le ps k (fun p hp => by have h1 := HF.out.2 p (List.mem_of_mem_take hp); have h2 := (HP.out.each p (List.mem_of_mem_take hp)).len; omega) (by have := HF.out.1; omega)
      obtain ⟨p, hp⟩ : ∃ p, ps[k] = p := ⟨_, rfl⟩
      rw [hp] at hc hpc hsm hsn
      have hni : ¬ ((200 : Int) < (p.n : Int)) := by omega
      have HPC := Lib.hid hpc
      have HSN := Lib.hid hsn
      have hrd : Rd wo w.heap.size p.A p.l := hpc.rd.below HR.out.2
      have hlen := hpc.len
      have HRD := Lib.hid hrd
      have HLEN := Lib.hid hlen
      have hb0 := HR.out.2.size
      have hnm : (joinP (ps.take k)).length + p.n ≤ 1000000000 := by omega
      clear hp hpc hsn hrd hlen
      go_wp2_with (at_builtin; refine wpList_append_rd _ rfl (.tmp 21) (.tmp 25) 0x1e rfl w.heap.size 5 i0 _ Tryd.underlying30 hi hz0 hz1 hz2 rfl _ (joinP (ps.take k)).length _ rfl HR.out.1 w.heap.size p.A p.n p.c p.l rfl HLEN.out HRD.out hnm hb0 ?_; intro v9 w9 hown9 hg9 _)
      go_roundw
      case rel =>
        refine ⟨k + 1, by omega, by go_num, Lib.hid ⟨?_, HR.out.2.grown hg9 hb0 (fun g e => own_ge HR.out.1 g e)⟩⟩
        rw [HSN.out, List.map_append, List.length_append, HLEN.out]
        exact hown9
      case measure => simp [intOf]; omega
    · obtain rfl : k = n := by omega
      have hall : ps.take k = ps := List.take_of_length_le (by rw [HP.out.len]; exact Nat.le_refl _)
      have HR1 := HR.out
      rw [hall] at HR1
      have HR2 := Lib.hid HR1
      clear HR HR1 hall
      go_wp2_with fail
      go_ret2
      exact ⟨_, rfl, HR2.out.1, HR2.out.2⟩
set_option maxRecDepth 100000 in
set_option maxHeartbeats 2000000 in
theorem Sm.joined_no (A : Option Addr) (n c : Nat) (ps : List Pt) (w : World) (h : PsC w A n ps) (hnm : n ≤ 9223372036854775807) (hf : ¬ Few 20 ps) :
    Calls Tryd.prog 18 #[.slice A n c] w fun e w' => e = .returned (.tuple #[.slice none 0 0, .bool false]) ∧ Below w.heap.size w w' := by
  obtain ⟨i0, hi, hz0, hz1, hz2⟩ := info_parts info5
  by_cases hn : (20 : Int) < (n : Int)
  · go_enter Tryd.func18, Tryd.ntmps18
    go_wp2_with fail
    go_ret2
    exact ⟨rfl, Below.refl _ _⟩
  · have HP := Lib.hid h
    have HF := Lib.hid hf
    have hn20 : n ≤ 20 := by omega
    clear h hf
    go_enter Tryd.func18, Tryd.ntmps18
    go_wp2_with fail
    go_loopw [4, 5] (fun s4 s5 wr => ∃ k : Nat, k ≤ n ∧ s5 = .int .i64 (k : Int) ∧ Hid (wr.ownsRow w.heap.size 5 1 s4 (joinP (ps.take k)).length ((joinP (ps.take k)).map byteCell) ∧ Below w.heap.size w wr ∧ ∀ p ∈ ps.take k, p.n ≤ 200)) (fun _ s5 _ => n - (intOf s5).toNat)
    case atStart => exact ⟨0, Nat.zero_le _, rfl, Lib.hid ⟨World.ownsRow_nil _ _ _ _, Below.refl _ _, by simp⟩⟩
    case round =>
      obtain ⟨wo, rfl⟩ : ∃ wo : World, wo = wr := ⟨_, rfl⟩
      obtain ⟨k, hk, rfl, HR⟩ := hrel
      by_cases hlt : k < n
      · have hkl : k < ps.length := by rw [HP.out.len]; exact hlt
        obtain ⟨b, off, rfl, _, hc⟩ := (HP.out.below HR.out.2.1).at_ hkl
        have hpc := HP.out.each ps[k] (List.getElem_mem hkl)
        have hsn := joinP_snoc ps k hkl
        have htk : ps.take (k + 1) = ps.take k ++ [ps[k]] := List.take_succ_eq_append_getElem hkl
        have hle := joinP_take_le ps k (fun p hp => by have h1 := HR.out.2.2 p hp; have h2 := (HP.out.each p (List.mem_of_mem_take hp)).len; omega) (by omega)
        obtain ⟨p, hp⟩ : ∃ p, ps[k] = p := ⟨_, rfl⟩
        rw [hp] at hc hpc hsn htk
        have HPC := Lib.hid hpc
        have HSN := Lib.hid hsn
        have HTK := Lib.hid htk
        have hrd : Rd wo w.heap.size p.A p.l := hpc.rd.below HR.out.2.1
        have hlen := hpc.len
        have HRD := Lib.hid hrd
        have HLEN := Lib.hid hlen
        have hb0 := HR.out.2.1.size
        clear hp hpc hsn htk hrd hlen
        by_cases hni : (200 : Int) < (p.n : Int)
        · go_wp2_with fail
          go_ret2
          exact ⟨rfl, HR.out.2.1⟩
        · have hnm : (joinP (ps.take k)).length + p.n ≤ 1000000000 := by omega
          go_wp2_with (at_builtin; refine wpList_append_rd _ rfl (.tmp 21) (.tmp 25) 0x1e rfl w.heap.size 5 i0 _ Tryd.underlying30 hi hz0 hz1 hz2 rfl _ (joinP (ps.take k)).length _ rfl HR.out.1 w.heap.size p.A p.n p.c p.l rfl HLEN.out HRD.out hnm hb0 ?_; intro v9 w9 hown9 hg9 _)
          go_roundw
          case rel =>
            refine ⟨k + 1, by omega, by go_num, Lib.hid ⟨?_, HR.out.2.1.grown hg9 hb0 (fun g e => own_ge HR.out.1 g e), fun q hq => ?_⟩⟩
            · rw [HSN.out, List.map_append, List.length_append, HLEN.out]
              exact hown9
            · rw [HTK.out, List.mem_append] at hq
              rcases hq with hq | hq
              · exact HR.out.2.2 q hq
              · obtain rfl := List.mem_singleton.1 hq
                omega
          case measure => simp [intOf]; omega
      · obtain rfl : k = n := by omega
        have hall : ps.take k = ps := List.take_of_length_le (by rw [HP.out.len]; exact Nat.le_refl _)
        exfalso
        refine HF.out ⟨by rw [HP.out.len]; exact hn20, fun p hp => HR.out.2.2 p (by rw [hall]; exact hp)⟩
end Go.Proofs
