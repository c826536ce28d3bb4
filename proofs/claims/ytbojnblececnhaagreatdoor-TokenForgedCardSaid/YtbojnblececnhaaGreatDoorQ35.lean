/-
  The contract of turned: keys of the code and of the document behind masters.
-/
import Derived.BigQuiet
import Derived.Deep.RegionHeldLaw
import Derived.Deep.CutRange
import Derived.Test.YtbojnblececnhaaGreatDoorQ28
import Derived.Test.YtbojnblececnhaaGreatDoorQ33
import Derived.Test.YtbojnblececnhaaGreatDoorQ34
namespace Go.Proofs
open Go.RowKit Go.Shelf Sm
structure Sm.TnI (w wr : World) (B B9 : Nat) (d : Kd) (A : Option Addr) (c j : Nat) : Prop where
  key : KeyAt wr B d.pt
  ok : d.OK j
  box : Blk wr B9 29 #[.int .i64 d.first, .slice A d.ms.length c]
  res : Blk wr w.heap.size 29 #[.int .i64 0, .slice none 0 0]
  row : Rds wr (fun b => b = B ∨ b = B9 ∨ b = w.heap.size) A (d.ms.map Value.string)
  below : Below w.heap.size w wr
  ne : w.heap.size < B ∧ B < B9
/-- how turned ends -/
def Sm.TurnedPost (w : World) (e : Ending) (w' : World) : Prop := Below w.heap.size w w' ∧
  ((∃ f A n c, e = .returned (.tuple #[.pointer none, .agg #[.int .i64 f, .slice A n c], .bool true])) ∨
   ∃ (B : Nat) (d : Kd) (A : Option Addr) (c j : Nat), j ≤ 20 ∧ e = .returned (.tuple #[.pointer (some ⟨B, 0, none⟩), .agg #[.int .i64 d.first, .slice A d.ms.length c], .bool true]) ∧ d.OK j ∧ KeyAt w' B d.pt ∧ w.heap.size ≤ B ∧ Rds w' (fun b => b = B) A (d.ms.map Value.string))
theorem Sm.Rds.rowOf {w : World} {S : Nat → Prop} {A : Option Addr} {cs : List Value} (h : Rds w S A cs) : Rds w (fun b => S b ∨ w.heap.size ≤ b) A cs := fun hl => by
  obtain ⟨b, off, e, hlt, hn, hc⟩ := h hl
  exact ⟨b, off, e, hlt, fun hb => by rcases hb with hb | hb; exact hn hb; omega, hc⟩
/-- a row that was there is none of the blocks that came -/
theorem Sm.Rds.oldRow {w w' : World} {S : Nat → Prop} {A : Option Addr} {cs : List Value} (h : Rds w S A cs) (hb : Below w.heap.size w w') {B C D N : Nat} (hS : ∀ b, (b = B ∨ b = C ∨ b = D) → S b) : Rds w' (fun b => b = B ∨ b = C ∨ b = D ∨ (w.heap.size ≤ b ∧ b < N)) A cs := fun hl => by
  obtain ⟨b, off, e, hlt, hn, hc⟩ := h hl
  refine ⟨b, off, e, Nat.lt_of_lt_of_le hlt hb.size, fun hq => ?_, fun j c hj => (hb.cell (p := ⟨b, off + j, none⟩) hlt).trans (hc j c hj)⟩
  rcases hq with hq | hq | hq | hq
  · exact hn (hS b (.inl hq))
  · exact hn (hS b (.inr (.inl hq)))
  · exact hn (hS b (.inr (.inr hq)))
  · omega
theorem Sm.zero29 : Tryz.prog.built 29 [] = some #[.int .i64 0, .slice none 0 0] := by kernel_rfl
set_option maxRecDepth 100000 in
set_option maxHeartbeats 4000000 in
theorem Sm.turned_not (f : ByteArray) (n c : Nat) (A : Option Addr) (w : World) (hf : f.size ≤ 1000) (hb : ¬ (1 ≤ f.size ∧ f.size ≤ 64)) :
    Calls Tryz.prog 9 #[.string f, .slice A n c] w (TurnedPost w) := by
  obtain ⟨W1, hW1⟩ : ∃ v, w.alloc (.cells #[.int .i64 0, .slice none 0 0] 29) = v := ⟨_, rfl⟩
  have hb1 : Below w.heap.size w W1 := by rw [← hW1]; exact (Below.refl _ w).alloc (Nat.le_refl _) _
  have hk1 : Blk W1 w.heap.size 29 #[.int .i64 0, .slice none 0 0] := by rw [← hW1]; exact Blk.new w 29 _
  have HK := Lib.hid (KNew_no f W1 (by omega) hb)
  have HRN := Lib.hid (fun W => refNew_no f W hb)
  have HW1 := Lib.hid hW1
  have HB1 := Lib.hid hb1
  have HK1 := Lib.hid hk1
  clear hW1 hb1 hk1 hb
  go_enter Tryz.func9, Tryz.ntmps9
  go_upto_region 1 with fail
  rw [HW1.out]
  go_upto_region 3 with (first
    | (go_at_call 25; (with_reducible refine HK.out.mono ?_); rintro e w2 ⟨rfl, hb2⟩)
    | (go_at_call 27; (with_reducible refine (HRN.out w2).mono ?_); rintro e w3 ⟨rfl, hb3⟩))
  obtain ⟨B9, hB9⟩ : ∃ b, w3.heap.size = b := ⟨_, rfl⟩
  obtain ⟨W4, hW4⟩ : ∃ v, w3.alloc (.cells #[.int .i64 0, .slice none 0 0] 29) = v := ⟨_, rfl⟩
  have hb34 : Below w3.heap.size w3 W4 := by rw [← hW4]; exact (Below.refl _ _).alloc (Nat.le_refl _) _
  have hb14 : Below W1.heap.size W1 W4 := (hb2.trans (hb3.mono hb2.size)).trans (hb34.mono (by have := hb2.size; have := hb3.size; omega))
  have h9 : Blk W4 B9 29 #[.int .i64 0, .slice none 0 0] := by rw [← hW4, ← hB9]; exact Blk.new w3 29 _
  have h5 := HK1.out.keep hb14
  have HB4 := Lib.hid (HB1.out.trans (hb14.mono HB1.out.size))
  have c90 := h9.cell 0
  have c91 := h9.cell 1
  have c50 := h5.cell 0
  have c51 := h5.cell 1
  have f50 := h5.frozen 0
  have f51 := h5.frozen 1
  have hl5 := h5.lt
  have hl9 := h9.lt
  have hne9 : w.heap.size < B9 := by rw [← hB9]; have := HK1.out.lt; have := hb2.size; have := hb3.size; omega
  have HH5 := Lib.hid h5
  simp only [List.getElem?_toArray, List.getElem?_cons_zero, List.getElem?_cons_succ] at c90 c91 c50 c51
  rw [hW4, hB9]
  clear hW4 hB9 hb34 hb14 hb2 hb3 h9 h5 HK HRN HK1
  go_upto_region 4 with (go_at_call 12; (with_reducible refine (num_any _ _).mono ?_); rintro e w5 ⟨rfl, rfl⟩)
  have s0 : W4.drew.cell? ⟨B9, 0, none⟩ = some (.int .i64 0) ∧ W4.drew.cell? ⟨B9, 1, none⟩ = some (.slice none 0 0) := ⟨c90, c91⟩
  have s2 : ∀ x y, ((W4.setCell ⟨w.heap.size, 0, none⟩ x).setCell ⟨w.heap.size, 1, none⟩ y).drew.cell? ⟨B9, 0, none⟩ = some (.int .i64 0) ∧ ((W4.setCell ⟨w.heap.size, 0, none⟩ x).setCell ⟨w.heap.size, 1, none⟩ y).drew.cell? ⟨B9, 1, none⟩ = some (.slice none 0 0) := fun x y =>
    ⟨((but_set2 W4 w.heap.size x y).cell (p := ⟨B9, 0, none⟩) hl9 (by simp; omega)).trans c90, ((but_set2 W4 w.heap.size x y).cell (p := ⟨B9, 1, none⟩) hl9 (by simp; omega)).trans c91⟩
  go_region_held_law (fun W => W.cell? ⟨B9, 0, none⟩ = some (.int .i64 0) ∧ W.cell? ⟨B9, 1, none⟩ = some (.slice none 0 0))
    (first | exact s0 | exact s2 _ _)
    (first
      | (go_at_call 12; (with_reducible refine (num_any _ _).mono ?_); rintro e w5 ⟨rfl, rfl⟩))
  all_goals go_wp2_with fail
  all_goals have hz := blk_set2 HH5.out (.int .i64 0) (.slice none 0 0)
  all_goals have e0 := hz.cell 0
  all_goals have e1 := hz.cell 1
  all_goals simp only [List.getElem?_toArray, List.getElem?_cons_zero, List.getElem?_cons_succ] at e0 e1
  all_goals exact bodyPost_ret (v := .tuple #[.pointer none, .agg #[.int .i64 0, .slice none 0 0], .bool true]) (by simp [results, Tryz.results9, go_sem, e0, e1]) rfl ⟨((HB4.out.setCell (p := ⟨w.heap.size, 0, none⟩) (by simp) _).setCell (p := ⟨w.heap.size, 1, none⟩) (by simp) _).drew, .inl ⟨_, _, _, _, rfl⟩⟩
theorem Sm.TnI.keep {w wr w' : World} {B B9 : Nat} {d : Kd} {A : Option Addr} {c j : Nat} (h : TnI w wr B B9 d A c j) (hb : Below wr.heap.size wr w') : TnI w w' B B9 d A c j :=
  ⟨Blk.keep h.key hb, h.ok, h.box.keep hb, h.res.keep hb, h.row.below hb, h.below.trans (hb.mono h.below.size), h.ne⟩
set_option maxRecDepth 100000 in
theorem Sm.turned_ret {w wo w' : World} {B B9 j c : Nat} {d : Kd} {A : Option Addr} {a : Act} (h : TnI w wo B B9 d A c j) (hj : j ≤ 20) (h5 : Blk w' w.heap.size 29 #[.int .i64 0, .slice none 0 0]) (hb : Below wo.heap.size wo w')
    (h4 : a.tmps[4]?.getD undef = .pointer (some ⟨B, 0, none⟩)) (hp : a.tmps[5]?.getD undef = .pointer (some ⟨w.heap.size, 0, none⟩)) (h6 : a.tmps[6]?.getD undef = .bool true) (hd : a.defers = []) :
    bodyPost Tryz.prog Tryz.f9 (TurnedPost w) Exit.ret a ((w'.setCell ⟨w.heap.size, 0, none⟩ (.int .i64 d.first)).setCell ⟨w.heap.size, 1, none⟩ (.slice A d.ms.length c)) := by
  have hI := h.keep hb
  have hne := hI.ne
  have hst := but_set2 w' w.heap.size (.int .i64 d.first) (.slice A d.ms.length c)
  have hz := blk_set2 h5 (.int .i64 d.first) (.slice A d.ms.length c)
  have e0 := hz.cell 0
  have e1 := hz.cell 1
  simp only [List.getElem?_toArray, List.getElem?_cons_zero, List.getElem?_cons_succ] at e0 e1
  refine bodyPost_ret (v := .tuple #[.pointer (some ⟨B, 0, none⟩), .agg #[.int .i64 d.first, .slice A d.ms.length c], .bool true]) (by simp [results, Tryz.results9, go_sem, e0, e1, h4, hp, h6]) hd ⟨(hI.below.setCell (p := ⟨w.heap.size, 0, none⟩) (by simp) _).setCell (p := ⟨w.heap.size, 1, none⟩) (by simp) _, .inr ⟨B, d, A, c, j, hj, rfl, hI.ok, Blk.but hI.key hst (by omega), by omega, ?_⟩⟩
  exact ((hI.row.but hst (fun q e => .inr (.inr e))).weaker (fun q e => .inl e))
set_option maxRecDepth 100000 in
set_option maxHeartbeats 1000000 in
theorem Sm.turned_all (f : ByteArray) (n c : Nat) (A : Option Addr) (ss : List ByteArray) (w : World) (h1 : 1 ≤ f.size) (h2 : f.size ≤ 64) (hl : ss.length = n) (hn : n ≤ 12) (hx : ∀ x ∈ ss, x.size ≤ 100) (hr : Rds w (fun _ => False) A (ss.map Value.string)) :
    Calls Tryz.prog 9 #[.string f, .slice A n c] w (TurnedPost w) := by
  obtain ⟨W1, hW1⟩ : ∃ v, w.alloc (.cells #[.int .i64 0, .slice none 0 0] 29) = v := ⟨_, rfl⟩
  have hb1 : Below w.heap.size w W1 := by rw [← hW1]; exact (Below.refl _ w).alloc (Nat.le_refl _) _
  have hk1 : Blk W1 w.heap.size 29 #[.int .i64 0, .slice none 0 0] := by rw [← hW1]; exact Blk.new w 29 _
  have HK := Lib.hid (KNew_ok f W1 h1 h2)
  have HRN : Hid (∀ W : World, Calls Tryz.prog 27 #[.string f] W fun e w' => ∃ A, e = .returned (.tuple #[.agg #[.int .i64 0, .slice A 1 1], .int .i64 0]) ∧ Rds w' (fun b => b < W.heap.size) A [.string f] ∧ Below W.heap.size W w') := Lib.hid (fun W => (refNew_ok f W h1 h2).mono fun e w' ⟨⟨A, a, b⟩, c⟩ => ⟨A, a, b, c⟩)
  have HW1 := Lib.hid hW1
  have HB1 := Lib.hid hb1
  have HK1 := Lib.hid hk1
  have HOK := Lib.hid (Kd.new h1 h2)
  have HL := Lib.hid hl
  have HX := Lib.hid hx
  have HR := Lib.hid hr
  clear hW1 hb1 hk1 h1 h2 hl hx hr
  go_enter Tryz.func9, Tryz.ntmps9
  go_upto_region 1 with fail
  rw [HW1.out]
  go_upto_region 3 with (first
    | (go_at_call 25; (with_reducible refine HK.out.mono ?_); rintro e w2 ⟨B, rfl, hBl, hKB, hb2⟩)
    | (go_at_call 27; (with_reducible refine (HRN.out w2).mono ?_); rintro e w3 ⟨A3, rfl, hrow3, hb3⟩))
  obtain ⟨B9, hB9⟩ : ∃ b, w3.heap.size = b := ⟨_, rfl⟩
  obtain ⟨W4, hW4⟩ : ∃ v, w3.alloc (.cells #[.int .i64 0, .slice A3 1 1] 29) = v := ⟨_, rfl⟩
  have hb34 : Below w3.heap.size w3 W4 := by rw [← hW4]; exact (Below.refl _ _).alloc (Nat.le_refl _) _
  have hb24 : Below w2.heap.size w2 W4 := hb3.trans (hb34.mono hb3.size)
  have hb14 : Below W1.heap.size W1 W4 := hb2.trans (hb24.mono hb2.size)
  have hBlt := Blk.lt hKB
  have hz1 := HK1.out.lt
  have hI : TnI w W4 B B9 ⟨0, [f]⟩ A3 1 0 := ⟨Blk.keep hKB hb24, HOK.out, by rw [← hW4, ← hB9]; exact Blk.new w3 29 _, HK1.out.keep hb14, (Rds.below (Rds.rowOf hrow3) hb34).weaker (fun b e => by rcases e with rfl | rfl | rfl <;> first | (left; omega) | (right; omega)), HB1.out.trans (hb14.mono HB1.out.size), by omega, by have := hb3.size; omega⟩
  have HI := Lib.hid hI
  have hl9 : B9 < W4.heap.size := hI.box.lt
  rw [hW4, hB9]
  clear hW4 hB9 hb34 hb24 hb14 hb2 hb3 hrow3 hI hKB hBlt hBl hz1 HK HRN HOK HK1
  go_upto_region 6 with (go_at_call 12; (with_reducible refine (num_any _ _).mono ?_); rintro e w5 ⟨rfl, rfl⟩)
  go_loopw [11] (fun s11 wr => ∃ (j : Nat) (d : Kd) (A9 : Option Addr) (c9 : Nat), j ≤ n ∧ s11 = .int .i64 (j : Int) ∧ Hid (TnI w wr B B9 d A9 c9 j)) (fun s11 _ => n - (intOf s11).toNat)
  case atStart => exact ⟨0, _, _, _, Nat.zero_le _, rfl, HI⟩
  case round =>
    obtain ⟨wo, rfl⟩ : ∃ wo : World, wo = wr := ⟨_, rfl⟩
    obtain ⟨j, d, A9, c9, hj, rfl, HJ⟩ := hrel
    clear HI hl9
    have hlo := HJ.out.ok.lo
    have hhi := HJ.out.ok.hi
    have hso := HJ.out.ok.some
    have hmo := HJ.out.ok.most
    have hnu := Kd.num HJ.out.ok
    have hth := Kd.there HJ.out.ok
    have HTH := Lib.hid hth
    have c90 := HJ.out.box.cell 0
    have c91 := HJ.out.box.cell 1
    simp only [List.getElem?_toArray, List.getElem?_cons_zero, List.getElem?_cons_succ] at c90 c91
    have hl9 : B9 < wo.heap.size := HJ.out.box.lt
    clear hth
    by_cases hlt : j < n
    · have hjl : j < ss.length := by rw [HL.out]; exact hlt
      obtain ⟨b, off, rfl, hbl, _, hcell⟩ := HR.out (by rw [List.length_map]; omega)
      have hc := hcell j (.string ss[j]) (by rw [List.getElem?_map, List.getElem?_eq_getElem hjl]; rfl)
      have hx100 := HX.out ss[j] (List.getElem_mem hjl)
      obtain ⟨x, hx⟩ : ∃ x, ss[j] = x := ⟨_, rfl⟩
      rw [hx] at hc hx100
      have hcw := (HJ.out.below.cell (p := ⟨b, off + j, none⟩) hbl).trans hc
      have hwl : b < wo.heap.size := Nat.lt_of_lt_of_le hbl HJ.out.below.size
      have hbB : b ≠ B := by have := HJ.out.ne.1; omega
      have hbB9 : b ≠ B9 := by have := HJ.out.ne; omega
      have hji : (j : Int) < (n : Int) := by omega
      clear hc hcell hx hjl
      have hS : ∀ W : World, Below wo.heap.size wo W → W.cell? ⟨B9, 0, none⟩ = some (.int .i64 d.first) ∧ W.cell? ⟨B9, 1, none⟩ = some (.slice A9 d.ms.length c9) ∧ W.cell? ⟨b, off + j, none⟩ = some (.string x) := fun W hb => by
        have h9 := HJ.out.box.keep hb
        exact ⟨h9.cell 0, h9.cell 1, (hb.cell (p := ⟨b, off + j, none⟩) hwl).trans hcw⟩
      have HS := Lib.hid hS
      -- what the document answers
      obtain ⟨d', no, hd', hok', hcase⟩ : ∃ (d' : Kd) (no : Int), (d' = d ∨ d' = d.turn x) ∧ d'.OK (j + 1) ∧ ((1 ≤ x.size ∧ x.size ≤ 64 ∧ no = 0 ∧ d' = d.turn x) ∨ (¬ (1 ≤ x.size ∧ x.size ≤ 64) ∧ no = 2 ∧ d' = d)) := by
        by_cases hv : 1 ≤ x.size ∧ x.size ≤ 64
        · exact ⟨d.turn x, 0, .inr rfl, Kd.turn_ok HJ.out.ok hv.1 hv.2, .inl ⟨hv.1, hv.2, rfl, rfl⟩⟩
        · exact ⟨d, 2, .inl rfl, Kd.more HJ.out.ok, .inr ⟨hv, rfl, rfl⟩⟩
      have hTN : ∀ W : World, Below wo.heap.size wo W → Calls Tryz.prog 22 #[.agg #[.int .i64 d.first, .slice A9 d.ms.length c9], .string x] W fun e w' => ∃ A' c', e = .returned (.tuple #[.agg #[.int .i64 d'.first, .slice A' d'.ms.length c'], .int .i64 no]) ∧ Rds w' (fun b => b = B ∨ b = B9 ∨ b = w.heap.size ∨ (wo.heap.size ≤ b ∧ b < W.heap.size)) A' (d'.ms.map Value.string) ∧ (w'.cell? ⟨B9, 0, none⟩ = some (.int .i64 d.first) ∧ w'.cell? ⟨B9, 1, none⟩ = some (.slice A9 d.ms.length c9) ∧ w'.cell? ⟨b, off + j, none⟩ = some (.string x)) ∧ Below wo.heap.size wo w' ∧ W.heap.size ≤ w'.heap.size ∧ Below W.heap.size W w' := fun W hb => by
        have hrowW := HJ.out.row.below hb
        rcases hcase with ⟨hv1, hv2, hno, hdd⟩ | ⟨hv, hno, hdd⟩
        · rw [hno, hdd]
          refine (refTurn_ok d j c9 A9 x W HJ.out.ok (by omega) hv1 hv2 (hrowW.weaker (fun _ h => h.elim))).mono ?_
          rintro e w' ⟨⟨A', c', rfl, hrd⟩, hb'⟩
          have hbb := hb.trans (hb'.mono hb.size)
          refine ⟨A', c', rfl, hrd.weaker (fun q hq => ?_), hS _ hbb, hbb, hb'.size, hb'⟩
          have h1 := HJ.out.key.lt
          have h2 := HJ.out.ne
          have h3 := hb.size
          rcases hq with rfl | rfl | rfl | hq <;> omega
        · rw [hno, hdd]
          refine (refTurn_no d.first d.ms.length c9 A9 x W hv).mono ?_
          rintro e w' ⟨rfl, hb'⟩
          have hbb := hb.trans (hb'.mono hb.size)
          refine ⟨A9, c9, rfl, ?_, hS _ hbb, hbb, hb'.size, hb'⟩
          have hro := HJ.out.row
          exact Rds.oldRow hro hbb (fun _ h => h)
      have TN := Lib.hid hTN
      have HOK := Lib.hid hok'
      have HCS := Lib.hid hcase
      have s0 := hS wo.drew (Below.refl _ _).drew
      have b0 : Below wo.heap.size wo wo.drew := (Below.refl _ _).drew
      have b0a : ∀ o, Below wo.heap.size wo (wo.alloc o).drew := fun o => ((Below.refl _ wo).alloc (Nat.le_refl _) o).drew
      have hza : ∀ o, ((wo.alloc o).drew).heap.size = wo.heap.size + 1 := fun o => by show (wo.alloc o).heap.size = _; simp
      clear hS hTN hd' hok' hcase c90 c91 hcw
      go_upto_region 8 with fail
      go_cut [12, 13] from 48 to 55 (fun s12 s13 wx => ∃ (B12 : Nat) (A' : Option Addr) (c' : Nat), s12 = .pointer (some ⟨B12, 0, none⟩) ∧ s13 = .int .i64 no ∧ wo.heap.size ≤ B12 ∧ Hid (Blk wx B12 29 #[.int .i64 d'.first, .slice A' d'.ms.length c']) ∧ Hid (Rds wx (fun b => b = B ∨ b = B9 ∨ b = w.heap.size ∨ b = B12) A' (d'.ms.map Value.string)) ∧ Hid (Below wo.heap.size wo wx))
      case first =>
        go_region_held_law (fun W => W.cell? ⟨B9, 0, none⟩ = some (.int .i64 d.first) ∧ W.cell? ⟨B9, 1, none⟩ = some (.slice A9 d.ms.length c9) ∧ W.cell? ⟨b, off + j, none⟩ = some (.string x))
          (first | exact sT | exact HS.out _ (bT.alloc bT.size _) | exact HS.out _ (b0a _) | exact HS.out _ ((bT.setCell (p := ⟨wo.heap.size, 0, none⟩) (by simp) _).setCell (p := ⟨wo.heap.size, 1, none⟩) (by simp) _) | exact s0)
          (first
            | (go_at_call 22; (with_reducible refine (TN.out _ b0).mono ?_); rintro e wT ⟨AT, cT, rfl, hrT, sT, bT, hsT, hbT⟩)
            | (go_at_call 22; (with_reducible refine (TN.out _ (b0a _)).mono ?_); rintro e wT ⟨AT, cT, rfl, hrT, sT, bT, hsT, hbT⟩; have hZ := (show Blk (wo.alloc (.cells #[.int .i64 0, .slice none 0 0] 29)).drew wo.heap.size 29 #[.int .i64 0, .slice none 0 0] from Blk.new wo 29 _).keep hbT; have z0 := hZ.cell 0; have z1 := hZ.cell 1; have y0 := hZ.frozen 0; have y1 := hZ.frozen 1; have yl := hZ.lt; simp only [List.getElem?_toArray, List.getElem?_cons_zero, List.getElem?_cons_succ] at z0 z1))
        · go_wp2_with fail
          go_meet
          refine ⟨wT.heap.size, AT, cT, rfl, rfl, bT.size, Lib.hid (Blk.new wT 29 _), Lib.hid ?_, Lib.hid (bT.alloc bT.size _)⟩
          refine ((Rds.rowOf hrT).below ((Below.refl _ wT).alloc (Nat.le_refl _) _)).weaker (fun q hq => ?_)
          rcases hq with hq | hq | hq | hq
          · exact .inl (.inl hq)
          · exact .inl (.inr (.inl hq))
          · exact .inl (.inr (.inr (.inl hq)))
          · exact .inr (by omega)
        · go_wp2_with fail
          go_meet
          have hzz := hza (.cells #[.int .i64 0, .slice none 0 0] 29)
          refine ⟨wo.heap.size, AT, cT, rfl, rfl, Nat.le_refl _, Lib.hid (blk_set2 hZ _ _), Lib.hid ?_, Lib.hid ((bT.setCell (p := ⟨wo.heap.size, 0, none⟩) (by simp) _).setCell (p := ⟨wo.heap.size, 1, none⟩) (by simp) _)⟩
          have hrw := hrT.but (but_set2 wT wo.heap.size (.int .i64 d'.first) (.slice AT d'.ms.length cT)) (fun q e => .inr (.inr (.inr (by have e : q = wo.heap.size := e; omega))))
          refine hrw.weaker (fun q hq => ?_)
          rcases hq with hq | hq | hq | hq
          · exact .inl hq
          · exact .inr (.inl hq)
          · exact .inr (.inr (.inl hq))
          · exact .inr (.inr (.inr (by omega)))
      case rest =>
        obtain ⟨W8, rfl⟩ : ∃ wo : World, wo = wc := ⟨_, rfl⟩
        obtain ⟨B12, A', c', rfl, rfl, hB12, H12, HR12, HB8⟩ := hcut
        have HJ8 := Lib.hid (HJ.out.keep HB8.out)
        have hne := HJ.out.ne
        have hl12 := H12.out.lt
        have hl8 : B < W8.heap.size := Blk.lt HJ8.out.key
        have hB12B : B12 ≠ B := by have := Blk.lt HJ.out.key; omega
        have hB12B9 : B12 ≠ B9 := by omega
        have hw8 : b < W8.heap.size := by have := HB8.out.size; omega
        have hc8 := (HS.out W8 HB8.out).2.2
        have hx2 : x.size ≤ 9223372036854775807 := by omega
        have hS9 : ∀ W : World, But (fun q => q = B) W8 W → W.cell? ⟨b, off + j, none⟩ = some (.string x) ∧ W.cell? ⟨B12, 0, none⟩ = some (.int .i64 d'.first) ∧ W.cell? ⟨B12, 1, none⟩ = some (.slice A' d'.ms.length c') := fun W hb => by
          have h9 : Blk W B12 29 #[.int .i64 d'.first, .slice A' d'.ms.length c'] := H12.out.but hb hB12B
          exact ⟨(hb.cell (p := ⟨b, off + j, none⟩) hw8 hbB).trans hc8, h9.cell 0, h9.cell 1⟩
        have hTC : ∀ W : World, Below W8.heap.size W8 W → Calls Tryz.prog 13 #[.pointer (some ⟨B, 0, none⟩), .string x] W fun e w' => e = .returned (.int .i64 no) ∧ KeyAt w' B d'.pt ∧ (w'.cell? ⟨b, off + j, none⟩ = some (.string x) ∧ w'.cell? ⟨B12, 0, none⟩ = some (.int .i64 d'.first) ∧ w'.cell? ⟨B12, 1, none⟩ = some (.slice A' d'.ms.length c')) ∧ But (fun q => q = B) W8 w' := fun W hb => by
          have hKW : KeyAt W B d.pt := Blk.keep HJ8.out.key hb
          have hbt0 : But (fun q => q = B) W8 W := But.of_all hb _
          rcases HCS.out with ⟨hv1, hv2, hno, hdd⟩ | ⟨hv, hno, hdd⟩
          · refine (Turn_ok x B d.pt W hv1 hv2 hKW HTH.out (by rw [hnu]; omega) (by rw [hnu]; omega)).mono ?_
            rintro e w' ⟨rfl, hk, hbt⟩
            have hbb := hbt0.trans hbt (fun _ _ e => e)
            refine ⟨by rw [hno], ?_, hS9 _ hbb, hbb⟩
            rw [hdd, Kd.turn_pt HJ.out.ok]
            exact hk
          · refine (Turn_arg x B d.pt W hx2 hv hKW HTH.out (by rw [hnu]; omega) (by rw [hnu]; omega)).mono ?_
            rintro e w' ⟨rfl, hbl⟩
            have hbb := hbt0.trans (But.of_all hbl (fun q => q = B)) (fun _ _ e => e)
            refine ⟨by rw [hno], ?_, hS9 _ hbb, hbb⟩
            rw [hdd]
            exact Blk.keep hKW hbl
        have hn' := Kd.num HOK.out
        have hlo' := HOK.out.lo
        have hhi' := HOK.out.hi
        have hmo' := HOK.out.most
        have hNC : ∀ W : World, KeyAt W B d'.pt → But (fun q => q = B) W8 W → Calls Tryz.prog 14 #[.pointer (some ⟨B, 0, none⟩)] W fun e w' => e = .returned (.int .i64 d'.pt.n0) ∧ KeyAt w' B d'.pt ∧ (w'.cell? ⟨b, off + j, none⟩ = some (.string x) ∧ w'.cell? ⟨B12, 0, none⟩ = some (.int .i64 d'.first) ∧ w'.cell? ⟨B12, 1, none⟩ = some (.slice A' d'.ms.length c')) ∧ But (fun q => q = B) W8 w' := fun W hk hb => by
          refine (Newest_any W _ d'.pt (.inr ⟨B, rfl, hk⟩)).mono ?_
          rintro e w' ⟨rfl, hbl⟩
          have hbb := hb.trans (But.of_all hbl (fun q => q = B)) (fun _ _ e => e)
          exact ⟨rfl, Blk.keep hk hbl, hS9 _ hbb, hbb⟩
        have hRC : ∀ W : World, KeyAt W B d'.pt → But (fun q => q = B) W8 W → Calls Tryz.prog 28 #[.agg #[.int .i64 d'.first, .slice A' d'.ms.length c']] W fun e w' => e = .returned (.int .i64 d'.pt.n0) ∧ KeyAt w' B d'.pt ∧ (w'.cell? ⟨b, off + j, none⟩ = some (.string x) ∧ w'.cell? ⟨B12, 0, none⟩ = some (.int .i64 d'.first) ∧ w'.cell? ⟨B12, 1, none⟩ = some (.slice A' d'.ms.length c')) ∧ But (fun q => q = B) W8 w' := fun W hk hb => by
          refine (refNewest_any d'.first d'.ms.length c' A' W hlo' (by omega) (by omega)).mono ?_
          rintro e w' ⟨rfl, hbl⟩
          have hbb := hb.trans (But.of_all hbl (fun q => q = B)) (fun _ _ e => e)
          exact ⟨by rw [hn'], Blk.keep hk hbl, hS9 _ hbb, hbb⟩
        obtain ⟨nn, hnn⟩ : ∃ z, d'.pt.n0 = z := ⟨_, rfl⟩
        rw [hnn] at hNC hRC
        have TC := Lib.hid hTC
        have NC := Lib.hid hNC
        have RC := Lib.hid hRC
        have s0' := hS9 W8.drew (But.refl _ W8).drew
        have b0' : Below W8.heap.size W8 W8.drew := (Below.refl _ _).drew
        clear hTC hNC hRC hS9 hnn hn' hc8 HS TN s0 b0 b0a hza HTH hnu
        go_upto_region 9 with fail
        go_cut [71] from 56 to 71 (fun s71 wx => s71 = .bool false ∧ Hid (KeyAt wx B d'.pt) ∧ Hid (But (fun q => q = B) W8 wx))
        case first =>
          go_region_held_law (fun W => W.cell? ⟨b, off + j, none⟩ = some (.string x) ∧ W.cell? ⟨B12, 0, none⟩ = some (.int .i64 d'.first) ∧ W.cell? ⟨B12, 1, none⟩ = some (.slice A' d'.ms.length c'))
            (first | exact s69 | exact s67 | exact s61 | exact s0')
            (first
              | (go_at_call 13; (with_reducible refine (TC.out _ b0').mono ?_); rintro e w61 ⟨rfl, k61, s61, t61⟩)
              | (go_at_call 12; (with_reducible refine (num_any _ _).mono ?_); rintro e w62 ⟨rfl, rfl⟩)
              | (go_at_call 14; (with_reducible refine (NC.out _ k61 t61).mono ?_); rintro e w67 ⟨rfl, k67, s67, t67⟩)
              | (go_at_call 14; (with_reducible refine (NC.out _ k69 t69).mono ?_); rintro e w67 ⟨rfl, k67, s67, t67⟩)
              | (go_at_call 28; (with_reducible refine (RC.out _ k61 t61).mono ?_); rintro e w69 ⟨rfl, k69, s69, t69⟩)
              | (go_at_call 28; (with_reducible refine (RC.out _ k67 t67).mono ?_); rintro e w69 ⟨rfl, k69, s69, t69⟩))
          all_goals go_wp2_with fail
          all_goals go_meet
          all_goals first | exact ⟨rfl, Lib.hid k69, Lib.hid t69⟩ | exact ⟨rfl, Lib.hid k67, Lib.hid t67⟩
        case rest =>
          obtain ⟨W10, rfl⟩ : ∃ wo : World, wo = wc := ⟨_, rfl⟩
          obtain ⟨rfl, HKX, HTX⟩ := hcut
          have h12 : Blk W10 B12 29 #[.int .i64 d'.first, .slice A' d'.ms.length c'] := H12.out.but HTX.out hB12B
          have h9 : Blk W10 B9 29 #[.int .i64 d.first, .slice A9 d.ms.length c9] := HJ8.out.box.but HTX.out (by omega)
          have HH9 := Lib.hid h9
          have z0 := h12.cell 0
          have z1 := h12.cell 1
          have x0 := h9.cell 0
          have x1 := h9.cell 1
          have y0 := h9.frozen 0
          have y1 := h9.frozen 1
          have yl := h9.lt
          have yl2 := h12.lt
          simp only [List.getElem?_toArray, List.getElem?_cons_zero, List.getElem?_cons_succ] at z0 z1 x0 x1
          clear h12 h9 TC NC RC s0' b0'
          go_wp2
          have hst := but_set2 W10 B9 (.int .i64 d'.first) (.slice A' d'.ms.length c')
          refine ⟨⟨j + 1, d', A', c', by omega, by go_num, Lib.hid ⟨Blk.but HKX.out hst (by omega), HOK.out, blk_set2 HH9.out _ _, (HJ8.out.res.but HTX.out (by omega)).but hst (by omega), ?_, But.below (But.below HJ8.out.below HTX.out (fun q e => by have e : q = B := e; omega)) hst (fun q e => by have e : q = B9 := e; omega), hne⟩⟩, by simp [intOf]; omega⟩
          refine ((HR12.out.but HTX.out (fun q e => .inl e)).but hst (fun q e => .inr (.inl e))).weaker (fun q hq => ?_)
          rcases hq with hq | hq | hq
          · exact .inl hq
          · exact .inr (.inl hq)
          · exact .inr (.inr (.inl hq))
    · obtain rfl : j = n := by omega
      have hne := HJ.out.ne
      have hji : ¬ (j : Int) < (j : Int) := by omega
      have hS : ∀ W : World, Below wo.heap.size wo W → W.cell? ⟨B9, 0, none⟩ = some (.int .i64 d.first) ∧ W.cell? ⟨B9, 1, none⟩ = some (.slice A9 d.ms.length c9) := fun W hb => by
        have h9 := HJ.out.box.keep hb
        exact ⟨h9.cell 0, h9.cell 1⟩
      have hset : ∀ (W : World) (x y : Value), (W.cell? ⟨B9, 0, none⟩ = some (.int .i64 d.first) ∧ W.cell? ⟨B9, 1, none⟩ = some (.slice A9 d.ms.length c9)) → ((W.setCell ⟨w.heap.size, 0, none⟩ x).setCell ⟨w.heap.size, 1, none⟩ y).cell? ⟨B9, 0, none⟩ = some (.int .i64 d.first) ∧ ((W.setCell ⟨w.heap.size, 0, none⟩ x).setCell ⟨w.heap.size, 1, none⟩ y).cell? ⟨B9, 1, none⟩ = some (.slice A9 d.ms.length c9) := fun W x y h => by
        have hl := World.block_lt_of_cell? W _ h.1
        have hbt := but_set2 W w.heap.size x y
        exact ⟨(hbt.cell (p := ⟨B9, 0, none⟩) hl (by simp; omega)).trans h.1, (hbt.cell (p := ⟨B9, 1, none⟩) hl (by simp; omega)).trans h.2⟩
      have hNC : ∀ W : World, Below wo.heap.size wo W → Calls Tryz.prog 14 #[.pointer (some ⟨B, 0, none⟩)] W fun e w' => e = .returned (.int .i64 d.pt.n0) ∧ (w'.cell? ⟨B9, 0, none⟩ = some (.int .i64 d.first) ∧ w'.cell? ⟨B9, 1, none⟩ = some (.slice A9 d.ms.length c9)) ∧ Below wo.heap.size wo w' ∧ (w'.cell? ⟨w.heap.size, 0, none⟩ = some (.int .i64 0) ∧ w'.cell? ⟨w.heap.size, 1, none⟩ = some (.slice none 0 0) ∧ w'.frozen? ⟨w.heap.size, 0, none⟩ = false ∧ w'.frozen? ⟨w.heap.size, 1, none⟩ = false ∧ w.heap.size < w'.heap.size) ∧ Hid (Blk w' w.heap.size 29 #[.int .i64 0, .slice none 0 0]) := fun W hb => by
        refine (Newest_any W _ d.pt (.inr ⟨B, rfl, Blk.keep HJ.out.key hb⟩)).mono ?_
        rintro e w' ⟨rfl, hbl⟩
        have hbb := hb.trans (hbl.mono hb.size)
        have h5 := HJ.out.res.keep hbb
        exact ⟨rfl, hS _ hbb, hbb, ⟨h5.cell 0, h5.cell 1, h5.frozen 0, h5.frozen 1, h5.lt⟩, Lib.hid h5⟩
      have hRC : ∀ W : World, Below wo.heap.size wo W → Calls Tryz.prog 28 #[.agg #[.int .i64 d.first, .slice A9 d.ms.length c9]] W fun e w' => e = .returned (.int .i64 d.pt.n0) ∧ (w'.cell? ⟨B9, 0, none⟩ = some (.int .i64 d.first) ∧ w'.cell? ⟨B9, 1, none⟩ = some (.slice A9 d.ms.length c9)) ∧ Below wo.heap.size wo w' ∧ (w'.cell? ⟨w.heap.size, 0, none⟩ = some (.int .i64 0) ∧ w'.cell? ⟨w.heap.size, 1, none⟩ = some (.slice none 0 0) ∧ w'.frozen? ⟨w.heap.size, 0, none⟩ = false ∧ w'.frozen? ⟨w.heap.size, 1, none⟩ = false ∧ w.heap.size < w'.heap.size) ∧ Hid (Blk w' w.heap.size 29 #[.int .i64 0, .slice none 0 0]) := fun W hb => by
        refine (refNewest_any d.first d.ms.length c9 A9 W hlo (by omega) (by omega)).mono ?_
        rintro e w' ⟨rfl, hbl⟩
        have hbb := hb.trans (hbl.mono hb.size)
        have h5 := HJ.out.res.keep hbb
        exact ⟨by rw [hnu], hS _ hbb, hbb, ⟨h5.cell 0, h5.cell 1, h5.frozen 0, h5.frozen 1, h5.lt⟩, Lib.hid h5⟩
      obtain ⟨nn, hnn⟩ : ∃ z, d.pt.n0 = z := ⟨_, rfl⟩
      rw [hnn] at hNC hRC
      have NC := Lib.hid hNC
      have RC := Lib.hid hRC
      have HSET := Lib.hid hset
      have s0 := hS wo.drew (Below.refl _ _).drew
      have b0 : Below wo.heap.size wo wo.drew := (Below.refl _ _).drew
      clear hS hset hNC hRC hnn hnu hji HTH c90 c91
      go_wp2_with fail
      go_region_held_law (fun W => W.cell? ⟨B9, 0, none⟩ = some (.int .i64 d.first) ∧ W.cell? ⟨B9, 1, none⟩ = some (.slice A9 d.ms.length c9))
        (first | exact HSET.out _ _ _ s79 | exact HSET.out _ _ _ s77 | exact s79 | exact s77 | exact s0)
        (first
          | (go_at_call 14; (with_reducible refine (NC.out _ b0).mono ?_); rintro e w77 ⟨rfl, s77, b77, ⟨v0, v1, v2, v3, v4⟩, H577⟩)
          | (go_at_call 14; (with_reducible refine (NC.out _ b79).mono ?_); rintro e w77 ⟨rfl, s77, b77, ⟨v0, v1, v2, v3, v4⟩, H577⟩)
          | (go_at_call 28; (with_reducible refine (RC.out _ b0).mono ?_); rintro e w79 ⟨rfl, s79, b79, ⟨u0, u1, u2, u3, u4⟩, H579⟩)
          | (go_at_call 28; (with_reducible refine (RC.out _ b77).mono ?_); rintro e w79 ⟨rfl, s79, b79, ⟨u0, u1, u2, u3, u4⟩, H579⟩))
      all_goals go_wp2_with fail
      · exact turned_ret HJ.out (by omega) H579.out b79 rfl rfl rfl rfl
end Go.Proofs
