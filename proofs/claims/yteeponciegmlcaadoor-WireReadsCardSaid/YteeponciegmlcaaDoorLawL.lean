/-
  The contract of laid: the bytes that the document asks of a call of a writer, or its error.
-/
import Derived.Test.YteeponciegmlcaaDoorWorks
namespace Go.Proofs
open Go.RowKit Go.Shelf Sm
/-- a call of a writer, as data -/
structure Sm.ActD where
  what : Int
  ns : List Int
  n : Nat
  c : Nat
  A : Option Addr
  s : ByteArray
  b : Bool
def Sm.ActD.val (x : ActD) : Value := .agg #[.int .i64 x.what, .slice x.A x.n x.c, .string x.s, .bool x.b]
def Sm.ActD.cells (x : ActD) : List Value := [.int .i64 x.what, .slice x.A x.n x.c, .string x.s, .bool x.b]
/-- it is read, and not too long -/
structure Sm.ActD.ok (x : ActD) (w : World) : Prop where
  len : x.ns.length = x.n
  max : x.n ≤ 20
  rd : Rds w (fun _ => False) x.A (x.ns.map intC)
  text : x.s.size ≤ 200
theorem Sm.ActD.ok.below {x : ActD} {w w' : World} (h : x.ok w) (hb : Below w.heap.size w w') : x.ok w' := ⟨h.len, h.max, h.rd.but (But.of_all hb (fun _ => False)) (fun _ => id), h.text⟩
def Sm.allOk (ns : List Int) : Prop := ∀ n ∈ ns, okN n
instance Sm.okNDec (n : Int) : Decidable (okN n) := by unfold okN; exact inferInstance
instance Sm.allOkDec (ns : List Int) : Decidable (allOk ns) := by unfold allOk; exact inferInstance
/-- what it lays, or its error -/
def Sm.ActD.laid (x : ActD) : List (BitVec 8) × Int := if x.what = 0 then if allOk x.ns then (numsB x.ns, 0) else ([], 2) else if x.what = 1 then (textB x.s, 0) else (truthB x.b, 0)
def Sm.LaidPost (w : World) (x : ActD) (e : Ending) (w' : World) : Prop := (∃ v, e = .returned (.tuple #[v, .int .i64 x.laid.2]) ∧ w'.ownsRow w.heap.size 5 1 v x.laid.1.length (x.laid.1.map byteCell)) ∧ Below w.heap.size w w'
theorem Sm.numB_top {n : Int} (h : okN n) : n.toNat ≤ top := by
  have := h.2
  unfold top
  omega
set_option maxRecDepth 100000 in
set_option maxHeartbeats 8000000 in
theorem Sm.laid_nums (x : ActD) (w : World) (h : x.ok w) (hw : x.what = 0) : Calls Tryd.prog 14 #[x.val] w (LaidPost w x) := by
  obtain ⟨what, ns, n, c, A, s, b⟩ := x
  simp only at hw
  subst hw
  obtain ⟨i0, hi, hz0, hz1, hz2⟩ := info_parts info5
  have hlen : ns.length = n := h.len
  have hmax : n ≤ 20 := h.max
  have hrd : Rds w (fun _ => False) A (ns.map intC) := h.rd
  have hbx : (w.alloc (.cells #[.int .i64 0, .slice A n c, .string s, .bool b] 32)).heap[w.heap.size]? = some (.cells #[.int .i64 0, .slice A n c, .string s, .bool b] 32 (0, 0)) := World.alloc_heap_new w _
  have hb1 : Below w.heap.size w (w.alloc (.cells #[.int .i64 0, .slice A n c, .string s, .bool b] 32)) := (Below.refl _ _).alloc (Nat.le_refl _) _
  have hs1 : (w.alloc (.cells #[.int .i64 0, .slice A n c, .string s, .bool b] 32)).heap.size = w.heap.size + 1 := by simp
  unfold ActD.val
  go_enter Tryd.func14, Tryd.ntmps14
  go_wp2
  obtain ⟨w1, hw1⟩ : ∃ w1, w.alloc (.cells #[.int .i64 0, .slice A n c, .string s, .bool b] 32) = w1 := ⟨_, rfl⟩
  rw [hw1] at hbx hb1 hs1 ⊢
  clear hw1
  go_loopw [4, 5] (fun vo vi wr => ∃ k : Nat, k ≤ n ∧ vi = .int .i64 (k : Int) ∧ Hid (allOk (ns.take k)) ∧ Hid (wr.ownsRow w1.heap.size 5 1 vo (numsB (ns.take k)).length ((numsB (ns.take k)).map byteCell)) ∧ Below w1.heap.size w1 wr) (fun _ vi _ => n - (intOf vi).toNat)
  case atStart => exact ⟨0, Nat.zero_le _, rfl, Lib.hid (by unfold allOk; simp), Lib.hid (World.ownsRow_nil _ _ _ _), Below.refl _ _⟩
  case round =>
    obtain ⟨k, hk, rfl, HA, HO, hbr⟩ := hrel
    have hbk := (hbr.block w.heap.size (by omega)).trans hbx
    have c1 : wr.cell? ⟨w.heap.size, 1, none⟩ = some (.slice A n c) := cell_of_heap hbk 1
    by_cases hlt : k < n
    · obtain ⟨q, off, rfl, hq1, _, hcq⟩ := hrd.cell (k := k) (by simp; omega)
      obtain ⟨y, hy⟩ : ∃ y, ns[k]'(by omega) = y := ⟨_, rfl⟩
      have hcy : wr.cell? ⟨q, off + k, none⟩ = some (.int .i64 y) := by
        rw [hbr.cell (p := ⟨q, off + k, none⟩) (by show q < _; omega), hb1.cell (p := ⟨q, off + k, none⟩) hq1, hcq]
        simp [intC, hy]
      have htk : ns.take (k + 1) = ns.take k ++ [y] := by rw [List.take_succ_eq_append_getElem (by omega), hy]
      have HTK := Lib.hid htk
      have hym : y ∈ ns := by rw [← hy]; exact List.getElem_mem _
      clear hcq hy htk
      by_cases hok : okN y
      · obtain ⟨y1, y2⟩ := hok
        have hlb : (numsB (ns.take k)).length ≤ 180 := by
          have := numsB_len (ns.take k) HA.out
          rw [List.length_take] at this
          omega
        have h9 := numB_len9 (numB_top ⟨y1, y2⟩)
        obtain ⟨m, rfl⟩ : ∃ m : Nat, y = (m : Int) := ⟨y.toNat, by omega⟩
        have hnum := refNumber_any m wr (by unfold top; omega)
        have hown := HO.out
        have hsz := hbr.size
        rw [show ((m : Int)).toNat = m by omega] at h9
        go_wp2_with (first
          | (go_at_call 36; (with_reducible refine hnum.mono ?_); rintro e w3 ⟨v3, rfl, hown3, hb3⟩; obtain ⟨A3, c3, rfl⟩ := own_slice hown3; have hs3 := hb3.size; have ho3 := own_below hown hb3; have hr3 : Rd w3 w3.heap.size A3 (numB m) := Rd.of_own hown3 (Nat.le_refl _))
          | (at_builtin; refine wpList_append_rd _ rfl (.tmp 31) (.tmp 37) 27 rfl w1.heap.size 5 i0 _ Tryd.underlying27 hi hz0 hz1 hz2 rfl _ _ _ rfl ho3 w3.heap.size A3 (numB m).length c3 (numB m) rfl rfl hr3 ?_ ?_ ?_; omega; omega; intro v4 w4 hown4 hg4 hat4))
        have hb4 : Below w1.heap.size w1 w4 := (hbr.trans (hb3.mono hsz)).grown hg4 (by omega) (fun g e => (ho3.lt g e).1)
        go_roundw
        case rel =>
          refine ⟨k + 1, by omega, by go_num, Lib.hid ?_, Lib.hid ?_, hb4⟩
          · rw [HTK.out]
            intro z hz
            rcases List.mem_append.1 hz with hz | hz
            · exact HA.out z hz
            · simp at hz; subst hz; exact ⟨y1, y2⟩
          · rw [HTK.out, numsB_snoc, List.length_append, List.map_append]
            exact hown4
        case measure => simp [intOf]; omega
      · have hlaid : ActD.laid ⟨0, ns, n, c, some ⟨q, off, none⟩, s, b⟩ = ([], 2) := by
          unfold ActD.laid
          rw [if_pos rfl, if_neg (fun ha => hok (ha y hym))]
        have hfin : LaidPost w ⟨0, ns, n, c, some ⟨q, off, none⟩, s, b⟩ (.returned (.tuple #[.slice none 0 0, .int .i64 2])) wr := by
          unfold LaidPost
          rw [hlaid]
          exact ⟨⟨_, rfl, World.ownsRow_nil _ _ _ _⟩, hb1.trans (hbr.mono hb1.size)⟩
        have HFN := Lib.hid hfin
        clear hlaid hfin
        by_cases hy0 : y < 0
        · go_wp2
          go_ret2
          exact HFN.out
        · have hy2 : (4611686018427387904 : Int) < y := by
            unfold okN at hok
            omega
          go_wp2
          all_goals (go_ret2; exact HFN.out)
    · obtain rfl : k = n := by omega
      have hall : allOk ns := by
        have := HA.out
        rwa [List.take_of_length_le (by omega)] at this
      have hlaid : ActD.laid ⟨0, ns, k, c, A, s, b⟩ = (numsB ns, 0) := by
        unfold ActD.laid
        rw [if_pos rfl, if_pos hall]
      have hown := HO.out
      rw [List.take_of_length_le (by omega)] at hown
      go_wp2
      go_ret2
      unfold LaidPost
      rw [hlaid]
      exact ⟨⟨_, rfl, own_base hown (by omega)⟩, hb1.trans (hbr.mono hb1.size)⟩
set_option maxRecDepth 100000 in
set_option maxHeartbeats 4000000 in
theorem Sm.laid_text (x : ActD) (w : World) (h : x.ok w) (hw : x.what = 1) : Calls Tryd.prog 14 #[x.val] w (LaidPost w x) := by
  obtain ⟨what, ns, n, c, A, s, b⟩ := x
  simp only at hw
  subst hw
  have hb1 : Below w.heap.size w (w.alloc (.cells #[.int .i64 1, .slice A n c, .string s, .bool b] 32)) := (Below.refl _ _).alloc (Nat.le_refl _) _
  have ht := h.text
  have hct := refText_any s (w.alloc (.cells #[.int .i64 1, .slice A n c, .string s, .bool b] 32)) (by simp only at ht; omega)
  have hlaid : ActD.laid ⟨1, ns, n, c, A, s, b⟩ = (textB s, 0) := by
    unfold ActD.laid
    rw [if_neg (by simp), if_pos rfl]
  unfold ActD.val
  go_enter Tryd.func14, Tryd.ntmps14
  go_wp2_with (go_at_call 37; (with_reducible refine hct.mono ?_); rintro e w3 ⟨v3, rfl, hown3, hb3⟩)
  go_ret2
  unfold LaidPost
  rw [hlaid]
  exact ⟨⟨_, rfl, own_base hown3 hb1.size⟩, hb1.trans (hb3.mono hb1.size)⟩
set_option maxRecDepth 100000 in
set_option maxHeartbeats 4000000 in
theorem Sm.laid_truth (x : ActD) (w : World) (h0 : ¬ x.what = 0) (h1 : ¬ x.what = 1) : Calls Tryd.prog 14 #[x.val] w (LaidPost w x) := by
  obtain ⟨what, ns, n, c, A, s, b⟩ := x
  simp only at h0 h1
  have hb1 : Below w.heap.size w (w.alloc (.cells #[.int .i64 what, .slice A n c, .string s, .bool b] 32)) := (Below.refl _ _).alloc (Nat.le_refl _) _
  have hct := refTruth_any b (w.alloc (.cells #[.int .i64 what, .slice A n c, .string s, .bool b] 32))
  have hlaid : ActD.laid ⟨what, ns, n, c, A, s, b⟩ = (truthB b, 0) := by
    unfold ActD.laid
    rw [if_neg h0, if_neg h1]
  have e0 : (what == 0) = false := by simpa using h0
  have e1 : (what == 1) = false := by simpa using h1
  unfold ActD.val
  go_enter Tryd.func14, Tryd.ntmps14
  go_wp2_with (go_at_call 38; (with_reducible refine hct.mono ?_); rintro e w3 ⟨v3, rfl, hown3, hb3⟩)
  go_ret2
  unfold LaidPost
  rw [hlaid]
  exact ⟨⟨_, rfl, own_base hown3 hb1.size⟩, hb1.trans (hb3.mono hb1.size)⟩
theorem Sm.laid_any (x : ActD) (w : World) (h : x.ok w) : Calls Tryd.prog 14 #[x.val] w (LaidPost w x) := by
  by_cases h0 : x.what = 0
  · exact laid_nums x w h h0
  · by_cases h1 : x.what = 1
    · exact laid_text x w h h1
    · exact laid_truth x w h0 h1
