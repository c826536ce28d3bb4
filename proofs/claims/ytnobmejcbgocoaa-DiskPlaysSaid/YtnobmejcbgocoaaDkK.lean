/-
  Bytes are put behind a file: Append. Conditions: as each theorem names them.
-/
import Derived.Test.YtnobmejcbgocoaaDkJ
namespace Go.Proofs
open Go Go.RowKit Sm Go.Lib Go.Maps Go.WideMaps
attribute [local go_sem] Oper.semAt_some
def Sm.appF (f : FileM) (l : List (BitVec 8)) (A : Option Addr) (c : Nat) : FileM := { f with bytes := f.bytes ++ l, A := A, c := c }
set_option maxRecDepth 100000 in
set_option maxHeartbeats 2000000 in
theorem Sm.append_any {p Mb base : Nat} {s : DSt} {G : List FileM} (x : ByteArray) (B : Nat) (Ab : Option Addr) (m cb : Nat) (l : List (BitVec 8)) (w : World) (h : DAt w p Mb base s G) (hxz : x.size ≤ 1000000) (hGl : G.length ≤ 1000000)
    (hB : B ≤ w.heap.size) (hrd : ∀ W, But (DMay p Mb) w W → Rd W B Ab l) (hl : l.length = m) (hm : m ≤ 1000000000) :
    Calls Try.prog 16 #[.pointer (some ⟨p, 0, none⟩), .string x, .slice Ab m cb] w fun e w' => ∃ er, e = .returned (.int .i64 er) ∧
      ((nameOK (strL x) = false ∧ er = 170 ∧ DAt w' p Mb base s G ∧ Below w.heap.size w w') ∨
       (nameOK (strL x) = true ∧ s.room < (usedG G : Int) + m ∧ er = 171 ∧ DAt w' p Mb base s G ∧ Below w.heap.size w w') ∨
       (nameOK (strL x) = true ∧ (usedG G : Int) + m ≤ s.room ∧ (nextD s).dead = true ∧ er = 172 ∧ DAt w' p Mb base (nextD s) G ∧ But (DMay p Mb) w w') ∨
       (nameOK (strL x) = true ∧ (usedG G : Int) + m ≤ s.room ∧ (nextD s).dead = false ∧ er = 0 ∧ ∃ f A' c', fileOr G (strL x) f ∧ (DAt w' p Mb base (nextD s) (putG (appF f l A' c') G) ∧ (∀ b, (Value.slice A' (f.bytes.length + m) c').ownBlock = some b → f.sl.ownBlock = some b ∨ w.heap.size ≤ b)) ∧ But (fun b => DMay p Mb b ∨ f.sl.ownBlock = some b) w w')) := by
  have hlow := h.low
  have hroom := h.room_
  obtain ⟨w2, hw2, hb2, hs2, hd2, hn2, hi2⟩ := boxes3 w p x (.slice Ab m cb) 36
  have hb20 : Below w2.heap.size w2 (w2.alloc (.cells #[.string x] 9)) := (Below.refl _ w2).alloc (Nat.le_refl _) _
  have hck := check_yes _ 1 1 [x] _ ((h.keep hb2).keep hb20) (row_one x w2) rfl (Nat.le_refl _) (by omega) (fun y hy => by simp at hy; subst hy; exact hxz)
  have c1 := cell_of_heap hd2 0
  have c2 := cell_of_heap hn2 0
  simp only [List.getElem?_toArray, List.getElem?_cons_zero] at c1 c2
  have HB2 := Lib.hid hb2
  have HB20 := Lib.hid hb20
  have HD2 := Lib.hid hd2
  have HN2 := Lib.hid hn2
  have HI2 := Lib.hid hi2
  have HS2 := Lib.hid hs2
  have H := Lib.hid h
  have HRD := Lib.hid hrd
  clear hb2 hd2 hn2 hi2 hs2 h hb20 hrd
  obtain ⟨er, hers⟩ : ∃ er, chkN [x] = er := ⟨_, rfl⟩
  rw [hers] at hck
  have HERS := Lib.hid hers
  clear hers
  go_enter Try.func16, Try.ntmps16
  go_upto_region 2 with (go_at_call 45; (with_reducible refine hck.mono ?_); clear hck; rintro e w4 ⟨rfl, hb3⟩)
  have hb24 := HB20.out.trans (hb3.mono HB20.out.size)
  have hsz2 := HS2.out
  have hb4 : Below w.heap.size w w4 := HB2.out.trans (hb24.mono HB2.out.size)
  have hd4 := (hb24.block w.heap.size (by omega)).trans HD2.out
  have hn4 := (hb24.block (w.heap.size + 1) (by omega)).trans HN2.out
  have hi4 := (hb24.block (w.heap.size + 1 + 1) (by omega)).trans HI2.out
  have hD4 := H.out.keep hb4
  have hblk := hD4.blk
  obtain ⟨U, hU⟩ : ∃ U, usedG G = U := ⟨_, rfl⟩
  obtain ⟨r, hr⟩ : ∃ r, s.room = r := ⟨_, rfl⟩
  rw [hU, hr] at hblk hroom
  have q0 : w4.cell? ⟨w.heap.size, 0, none⟩ = some (.pointer (some ⟨p, 0, none⟩)) ∧ w4.cell? ⟨w.heap.size + 1 + 1, 0, none⟩ = some (.slice Ab m cb) ∧ w4.cell? ⟨p, 3, none⟩ = some (.int .i64 r) ∧ w4.cell? ⟨p, 4, none⟩ = some (.int .i64 (U : Int)) := ⟨cell_of_heap hd4 0, cell_of_heap hi4 0, cell_of_heap hblk 3, cell_of_heap hblk 4⟩
  have c4 := q0.1
  have HD4 := Lib.hid hd4
  have HN4 := Lib.hid hn4
  have HI4 := Lib.hid hi4
  have HB4 := Lib.hid hb4
  have HDA := Lib.hid hD4
  have HU := Lib.hid hU
  have HR := Lib.hid hr
  have hmI : (0 : Int) ≤ (m : Int) ∧ (m : Int) ≤ 1000000000 ∧ (0 : Int) ≤ (U : Int) := by omega
  obtain ⟨hm0, hm1, hU0⟩ := hmI
  clear hd4 hn4 hi4 hb4 hD4 hblk hU hr hb24 hb3 hw2 c1 c2 hsz2
  obtain ⟨hr0, hr1, hr2⟩ := hroom
  have hrU : (0 : Int) ≤ r - (U : Int) ∧ r - (U : Int) ≤ 16777216 := by omega
  obtain ⟨hru0, hru1⟩ := hrU
  cases hok : nameOK (strL x) with
  | false =>
    have he : er = 170 := by rw [← HERS.out]; exact chk_one_bad hok
    have hef : (er == 0) = false := by rw [he]; decide
    have HE := Lib.hid he
    clear he
    have hdo := fun W => do_why (.pointer (some ⟨p, 0, none⟩)) (.func (.func 47) #[] #[.pointer (some ⟨w.heap.size, 0, none⟩), .pointer (some ⟨w.heap.size + 1, 0, none⟩), .pointer (some ⟨w.heap.size + 1 + 1, 0, none⟩)]) er (by rw [HE.out]; decide) W
    obtain ⟨q1, q2, q3, q4⟩ := q0
    go_region
    all_goals
      have hdo1 := hdo w4.drew
      clear hdo
      go_wp2_with (go_at_call 46; (with_reducible refine hdo1.mono ?_); clear hdo1; rintro e w5 ⟨rfl, rfl⟩)
      go_ret
      exact ⟨er, rfl, .inl ⟨hok, HE.out, HDA.out.keep (Below.refl _ _).drew, HB4.out.drew⟩⟩
  | true =>
    obtain rfl : er = 0 := by rw [← HERS.out]; exact chk_one hok
    by_cases hg : r - (U : Int) < (m : Int)
    · go_region_held_law (fun W => W.cell? ⟨w.heap.size, 0, none⟩ = some (.pointer (some ⟨p, 0, none⟩)) ∧ W.cell? ⟨w.heap.size + 1 + 1, 0, none⟩ = some (.slice Ab m cb) ∧ W.cell? ⟨p, 3, none⟩ = some (.int .i64 r) ∧ W.cell? ⟨p, 4, none⟩ = some (.int .i64 (U : Int))) (exact q0) (fail)
      all_goals
        rw [wrap_small (r - (U : Int)) hru0 (by omega)]
        have hdo1 := do_why (.pointer (some ⟨p, 0, none⟩)) (.func (.func 47) #[] #[.pointer (some ⟨w.heap.size, 0, none⟩), .pointer (some ⟨w.heap.size + 1, 0, none⟩), .pointer (some ⟨w.heap.size + 1 + 1, 0, none⟩)]) 171 (by decide) w4.drew
        go_wp2_with (go_at_call 46; (with_reducible refine hdo1.mono ?_); clear hdo1; rintro e w5 ⟨rfl, rfl⟩)
        go_ret
        exact ⟨171, rfl, .inr (.inl ⟨hok, by rw [HU.out, HR.out]; omega, rfl, HDA.out.keep (Below.refl _ _).drew, HB4.out.drew⟩)⟩
    · go_region_held_law (fun W => W.cell? ⟨w.heap.size, 0, none⟩ = some (.pointer (some ⟨p, 0, none⟩)) ∧ W.cell? ⟨w.heap.size + 1 + 1, 0, none⟩ = some (.slice Ab m cb) ∧ W.cell? ⟨p, 3, none⟩ = some (.int .i64 r) ∧ W.cell? ⟨p, 4, none⟩ = some (.int .i64 (U : Int))) (exact q0) (fail)
      all_goals
        rw [wrap_small (r - (U : Int)) hru0 (by omega)]
        obtain ⟨f, hf⟩ := fileOr_any G (strL x)
        have hrow := fileOr_row hf H.out
        have hfo : ∀ b, f.sl.ownBlock = some b → b < w.heap.size := fun b e => (hrow.1.lt b e).2
        have hbd4 : But (DMay p Mb) w w4.drew := (But.of_all HB4.out _).drew
        have hdo1 := do_47 #[.pointer (some ⟨w.heap.size, 0, none⟩), .pointer (some ⟨w.heap.size + 1, 0, none⟩), .pointer (some ⟨w.heap.size + 1 + 1, 0, none⟩)] w4.drew (HDA.out.keep (Below.refl _ _).drew) (fun w' => ∃ A' c', (DAt w' p Mb base (nextD s) (putG (appF f l A' c') G) ∧ (∀ b, (Value.slice A' (f.bytes.length + m) c').ownBlock = some b → f.sl.ownBlock = some b ∨ w.heap.size ≤ b)) ∧ But (fun b => DMay p Mb b ∨ f.sl.ownBlock = some b) w4.drew w')
          (fun _ W hD hb => (step_47 (bd := w.heap.size) (bn := w.heap.size + 1) (bb := w.heap.size + 1 + 1) x f B Ab m cb l W hD
            (hb.box HD4.out (fun e => by rcases e with e | e <;> omega)) (hb.box HN4.out (fun e => by rcases e with e | e <;> omega)) (hb.box HI4.out (fun e => by rcases e with e | e <;> omega)) (by omega)
            ⟨fun e => by have := hfo _ e; omega, fun e => by have := hfo _ e; omega, fun e => by have := hfo _ e; omega⟩
            (by have h1 := hb.size; have h2 := HB4.out.size; have h3 : w4.drew.heap.size = w4.heap.size := rfl; omega) (HRD.out W (hbd4.trans hb (fun b _ e => e))) hl hxz hf hok
            (by rw [HU.out]; have h2 : (nextD s).room = s.room := rfl; rw [h2, HR.out]; omega) hGl).mono
            (by rintro e w' ⟨rfl, A', c', h1, h2⟩; exact ⟨rfl, A', c', ⟨h1.1, fun b e => (h1.2 b e).imp id (fun e => by have h3 := hb.size; have h4 := HB4.out.size; have h5 : w4.drew.heap.size = w4.heap.size := rfl; omega)⟩, (hb.mono (fun b _ e => .inl e)).trans h2 (fun b _ e => e)⟩))
        go_wp2_with (go_at_call 46; (with_reducible refine hdo1.mono ?_); clear hdo1; rintro e w5 (⟨hd, rfl, hD5, hb5⟩ | ⟨hd, rfl, A', c', hD5, hb5⟩))
        · go_ret
          exact ⟨172, rfl, .inr (.inr (.inl ⟨hok, by rw [HU.out, HR.out]; omega, hd, rfl, hD5, hbd4.trans hb5 (fun b _ e => e)⟩))⟩
        · go_ret
          exact ⟨0, rfl, .inr (.inr (.inr ⟨hok, by rw [HU.out, HR.out]; omega, hd, rfl, f, A', c', hf, hD5, (hbd4.mono (fun b _ e => .inl e)).trans hb5 (fun b _ e => e)⟩))⟩
end Go.Proofs
