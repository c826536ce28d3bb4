/-
  The contract of laid: the bytes that the document asks of a call of a writer, or its error.
  The contract of lay: a call of a writer lays what the document asks, or refuses it. Condition: the call's data lie outside the writer's blocks.
  The contract of the reference reader's number.
  The walk of the law WireNumber: at every readable bytes and numbers it returns true and nothing that lay has turned, where the table lies in memory.
  Opening of calls of a writer that came in: each one's number, numbers, text and truth. Conditions: what the frame says of an argument that can be read.
  The contract of few: are calls few enough? No condition but that they are read.
  The walk of the law WireLays: at every readable calls of a writer it returns true and nothing that lay has turned, where the table lies in memory.
-/
import Derived.Test.YteeponciegmlcaaDoorWorks
import Derived.Deep.RegionHeldLaw
import Derived.Deep.DrawnRows
import Derived.Lib.SmallJoins
import Derived.Deep.Slices
import Derived.Test.YteeponciegmlcaaDoorOpen
import Derived.Test.YteeponciegmlcaaDoorLawF
namespace Go.Proofs
open Go.RowKit Go.Shelf Sm
/-- a call of a writer, as data -/
structure Sm.ActD where
  what : Int
  ns : List Int
  n : Nat
  c : Nat
  A : Option Addr
  s : ByteArray
  b : Bool
def Sm.ActD.val (x : ActD) : Value := .agg #[.int .i64 x.what, .slice x.A x.n x.c, .string x.s, .bool x.b]
def Sm.ActD.cells (x : ActD) : List Value := [.int .i64 x.what, .slice x.A x.n x.c, .string x.s, .bool x.b]
/-- it is read, and not too long -/
structure Sm.ActD.ok (x : ActD) (w : World) : Prop where
  len : x.ns.length = x.n
  max : x.n ≤ 20
  rd : Rds w (fun _ => False) x.A (x.ns.map intC)
  text : x.s.size ≤ 200
theorem Sm.ActD.ok.below {x : ActD} {w w' : World} (h : x.ok w) (hb : Below w.heap.size w w') : x.ok w' := ⟨h.len, h.max, h.rd.but (But.of_all hb (fun _ => False)) (fun _ => id), h.text⟩
def Sm.allOk (ns : List Int) : Prop := ∀ n ∈ ns, okN n
instance Sm.okNDec (n : Int) : Decidable (okN n) := by unfold okN; exact inferInstance
instance Sm.allOkDec (ns : List Int) : Decidable (allOk ns) := by unfold allOk; exact inferInstance
/-- what it lays, or its error -/
def Sm.ActD.laid (x : ActD) : List (BitVec 8) × Int := if x.what = 0 then if allOk x.ns then (numsB x.ns, 0) else ([], 2) else if x.what = 1 then (textB x.s, 0) else (truthB x.b, 0)
def Sm.LaidPost (w : World) (x : ActD) (e : Ending) (w' : World) : Prop := (∃ v, e = .returned (.tuple #[v, .int .i64 x.laid.2]) ∧ w'.ownsRow w.heap.size 5 1 v x.laid.1.length (x.laid.1.map byteCell)) ∧ Below w.heap.size w w'
theorem Sm.numB_top {n : Int} (h : okN n) : n.toNat ≤ top := by
  have := h.2
  unfold top
  omega
set_option maxRecDepth 100000 in
set_option maxHeartbeats 8000000 in
theorem Sm.laid_nums (x : ActD) (w : World) (h : x.ok w) (hw : x.what = 0) : Calls Tryd.prog 14 #[x.val] w (LaidPost w x) := by
  obtain ⟨what, ns, n, c, A, s, b⟩ := x
  simp only at hw
  subst hw
  obtain ⟨i0, hi, hz0, hz1, hz2⟩ := info_parts info5
  have hlen : ns.length = n := h.len
  have hmax : n ≤ 20 := h.max
  have hrd : Rds w (fun _ => False) A (ns.map intC) := h.rd
  have hbx : (w.alloc (.cells #[.int .i64 0, .slice A n c, .string s, .bool b] 32)).heap[w.heap.size]? = some (.cells #[.int .i64 0, .slice A n c, .string s, .bool b] 32 (0, 0)) := World.alloc_heap_new w _
  have hb1 : Below w.heap.size w (w.alloc (.cells #[.int .i64 0, .slice A n c, .string s, .bool b] 32)) := (Below.refl _ _).alloc (Nat.le_refl _) _
  have hs1 : (w.alloc (.cells #[.int .i64 0, .slice A n c, .string s, .bool b] 32)).heap.size = w.heap.size + 1 := by simp
  unfold ActD.val
  go_enter Tryd.func14, Tryd.ntmps14
  go_wp2
  obtain ⟨w1, hw1⟩ : ∃ w1, w.alloc (.cells #[.int .i64 0, .slice A n c, .string s, .bool b] 32) = w1 := ⟨_, rfl⟩
  rw [hw1] at hbx hb1 hs1 ⊢
  clear hw1
  go_loopw [4, 5] (fun vo vi wr => ∃ k : Nat, k ≤ n ∧ vi = .int .i64 (k : Int) ∧ Hid (allOk (ns.take k)) ∧ Hid (wr.ownsRow w1.heap.size 5 1 vo (numsB (ns.take k)).length ((numsB (ns.take k)).map byteCell)) ∧ Below w1.heap.size w1 wr) (fun _ vi _ => n - (intOf vi).toNat)
  case atStart => exact ⟨0, Nat.zero_le _, rfl, Lib.hid (by unfold allOk; simp), Lib.hid (World.ownsRow_nil _ _ _ _), Below.refl _ _⟩
  case round =>
    obtain ⟨k, hk, rfl, HA, HO, hbr⟩ := hrel
    have hbk := (hbr.block w.heap.size (by omega)).trans hbx
    have c1 : wr.cell? ⟨w.heap.size, 1, none⟩ = some (.slice A n c) := cell_of_heap hbk 1
    by_cases hlt : k < n
    · obtain ⟨q, off, rfl, hq1, _, hcq⟩ := hrd.cell (k := k) (by simp; omega)
      obtain ⟨y, hy⟩ : ∃ y, ns[k]'(by omega) = y := ⟨_, rfl⟩
      have hcy : wr.cell? ⟨q, off + k, none⟩ = some (.int .i64 y) := by
        rw [hbr.cell (p := ⟨q, off + k, none⟩) (by show q < _; omega), hb1.cell (p := ⟨q, off + k, none⟩) hq1, hcq]
        simp [intC, hy]
      have htk : ns.take (k + 1) = ns.take k ++ [y] := by rw [List.take_succ_eq_append_getElem (by omega), hy]
      have HTK := Lib.hid htk
      have hym : y ∈ ns := by rw [← hy]; exact List.getElem_mem _
      clear hcq hy htk
      by_cases hok : okN y
      · obtain ⟨y1, y2⟩ := hok
        have hlb : (numsB (ns.take k)).length ≤ 180 := by
          have := numsB_len (ns.take k) HA.out
          rw [List.length_take] at this
          omega
        have h9 := numB_len9 (numB_top ⟨y1, y2⟩)
        obtain ⟨m, rfl⟩ : ∃ m : Nat, y = (m : Int) := ⟨y.toNat, by omega⟩
        have hnum := refNumber_any m wr (by unfold top; omega)
        have hown := HO.out
        have hsz := hbr.size
        rw [show ((m : Int)).toNat = m by omega] at h9
        go_wp2_with (first
          | (go_at_call 36; (with_reducible refine hnum.mono ?_); rintro e w3 ⟨v3, rfl, hown3, hb3⟩; obtain ⟨A3, c3, rfl⟩ := own_slice hown3; have hs3 := hb3.size; have ho3 := own_below hown hb3; have hr3 : Rd w3 w3.heap.size A3 (numB m) := Rd.of_own hown3 (Nat.le_refl _))
          | (at_builtin; refine wpList_append_rd _ rfl (.tmp 31) (.tmp 37) 27 rfl w1.heap.size 5 i0 _ Tryd.underlying27 hi hz0 hz1 hz2 rfl _ _ _ rfl ho3 w3.heap.size A3 (numB m).length c3 (numB m) rfl rfl hr3 ?_ ?_ ?_; omega; omega; intro v4 w4 hown4 hg4 hat4))
        have hb4 : Below w1.heap.size w1 w4 := (hbr.trans (hb3.mono hsz)).grown hg4 (by omega) (fun g e => (ho3.lt g e).1)
        go_roundw
        case rel =>
          refine ⟨k + 1, by omega, by go_num, Lib.hid ?_, Lib.hid ?_, hb4⟩
          · rw [HTK.out]
            intro z hz
            rcases List.mem_append.1 hz with hz | hz
            · exact HA.out z hz
            · simp at hz; subst hz; exact ⟨y1, y2⟩
          · rw [HTK.out, numsB_snoc, List.length_append, List.map_append]
            exact hown4
        case measure => simp [intOf]; omega
      · have hlaid : ActD.laid ⟨0, ns, n, c, some ⟨q, off, none⟩, s, b⟩ = ([], 2) := by
          unfold ActD.laid
          rw [if_pos rfl, if_neg (fun ha => hok (ha y hym))]
        have hfin : LaidPost w ⟨0, ns, n, c, some ⟨q, off, none⟩, s, b⟩ (.returned (.tuple #[.slice none 0 0, .int .i64 2])) wr := by
          unfold LaidPost
          rw [hlaid]
          exact ⟨⟨_, rfl, World.ownsRow_nil _ _ _ _⟩, hb1.trans (hbr.mono hb1.size)⟩
        have HFN := Lib.hid hfin
        clear hlaid hfin
        by_cases hy0 : y < 0
        · go_wp2
          go_ret2
          exact HFN.out
        · have hy2 : (4611686018427387904 : Int) < y := by
            unfold okN at hok
            omega
          go_wp2
          all_goals (go_ret2; exact HFN.out)
    · obtain rfl : k = n := by omega
      have hall : allOk ns := by
        have := HA.out
        rwa [List.take_of_length_le (by omega)] at this
      have hlaid : ActD.laid ⟨0, ns, k, c, A, s, b⟩ = (numsB ns, 0) := by
        unfold ActD.laid
        rw [if_pos rfl, if_pos hall]
      have hown := HO.out
      rw [List.take_of_length_le (by omega)] at hown
      go_wp2
      go_ret2
      unfold LaidPost
      rw [hlaid]
      exact ⟨⟨_, rfl, own_base hown (by omega)⟩, hb1.trans (hbr.mono hb1.size)⟩
set_option maxRecDepth 100000 in
set_option maxHeartbeats 4000000 in
theorem Sm.laid_text (x : ActD) (w : World) (h : x.ok w) (hw : x.what = 1) : Calls Tryd.prog 14 #[x.val] w (LaidPost w x) := by
  obtain ⟨what, ns, n, c, A, s, b⟩ := x
  simp only at hw
  subst hw
  have hb1 : Below w.heap.size w (w.alloc (.cells #[.int .i64 1, .slice A n c, .string s, .bool b] 32)) := (Below.refl _ _).alloc (Nat.le_refl _) _
  have ht := h.text
  have hct := refText_any s (w.alloc (.cells #[.int .i64 1, .slice A n c, .string s, .bool b] 32)) (by simp only at ht; omega)
  have hlaid : ActD.laid ⟨1, ns, n, c, A, s, b⟩ = (textB s, 0) := by
    unfold ActD.laid
    rw [if_neg (by simp), if_pos rfl]
  unfold ActD.val
  go_enter Tryd.func14, Tryd.ntmps14
  go_wp2_with (go_at_call 37; (with_reducible refine hct.mono ?_); rintro e w3 ⟨v3, rfl, hown3, hb3⟩)
  go_ret2
  unfold LaidPost
  rw [hlaid]
  exact ⟨⟨_, rfl, own_base hown3 hb1.size⟩, hb1.trans (hb3.mono hb1.size)⟩
set_option maxRecDepth 100000 in
set_option maxHeartbeats 4000000 in
theorem Sm.laid_truth (x : ActD) (w : World) (h0 : ¬ x.what = 0) (h1 : ¬ x.what = 1) : Calls Tryd.prog 14 #[x.val] w (LaidPost w x) := by
  obtain ⟨what, ns, n, c, A, s, b⟩ := x
  simp only at h0 h1
  have hb1 : Below w.heap.size w (w.alloc (.cells #[.int .i64 what, .slice A n c, .string s, .bool b] 32)) := (Below.refl _ _).alloc (Nat.le_refl _) _
  have hct := refTruth_any b (w.alloc (.cells #[.int .i64 what, .slice A n c, .string s, .bool b] 32))
  have hlaid : ActD.laid ⟨what, ns, n, c, A, s, b⟩ = (truthB b, 0) := by
    unfold ActD.laid
    rw [if_neg h0, if_neg h1]
  have e0 : (what == 0) = false := by simpa using h0
  have e1 : (what == 1) = false := by simpa using h1
  unfold ActD.val
  go_enter Tryd.func14, Tryd.ntmps14
  go_wp2_with (go_at_call 38; (with_reducible refine hct.mono ?_); rintro e w3 ⟨v3, rfl, hown3, hb3⟩)
  go_ret2
  unfold LaidPost
  rw [hlaid]
  exact ⟨⟨_, rfl, own_base hown3 hb1.size⟩, hb1.trans (hb3.mono hb1.size)⟩
theorem Sm.laid_any (x : ActD) (w : World) (h : x.ok w) : Calls Tryd.prog 14 #[x.val] w (LaidPost w x) := by
  by_cases h0 : x.what = 0
  · exact laid_nums x w h h0
  · by_cases h1 : x.what = 1
    · exact laid_text x w h h1
    · exact laid_truth x w h0 h1
end Go.Proofs
namespace Go.Proofs
open Go.RowKit Go.Shelf Sm
/-- what a call of a writer leaves -/
def Sm.LayPost (w : World) (B : Nat) (v : Value) (l : List (BitVec 8)) (x : ActD) (e : Ending) (w' : World) : Prop := e = .returned (.int .i64 x.laid.2) ∧ ∃ v', Wr w' B v' (l ++ x.laid.1) ∧ WrGo B v v' w w'
theorem Sm.Rds.away {w : World} {S : Nat → Prop} {A : Option Addr} {cs : List Value} (h : Rds w (fun b => w.heap.size ≤ b) A cs) {w' : World} (hb : Below w.heap.size w w') (hS : ∀ b, S b → w.heap.size ≤ b) : Rds w' S A cs := fun hn => by
  obtain ⟨b, off, rfl, hlt, hns, hc⟩ := h hn
  exact ⟨b, off, rfl, Nat.lt_of_lt_of_le hlt hb.size, fun e => by have := hS b e; omega, fun j c hj => (hb.cell (p := ⟨b, off + j, none⟩) hlt).trans (hc j c hj)⟩
theorem Sm.Rds.far {w : World} {A : Option Addr} {cs : List Value} (h : Rds w (fun _ => False) A cs) : Rds w (fun b => w.heap.size ≤ b) A cs := fun hn => by
  obtain ⟨b, off, rfl, hlt, _, hc⟩ := h hn
  exact ⟨b, off, rfl, hlt, by omega, hc⟩
set_option maxRecDepth 100000 in
set_option maxHeartbeats 4000000 in
theorem Sm.layA_any (w0 w : World) {B : Nat} {v : Value} {l : List (BitVec 8)} (hw : Wr w B v l) (hl : l.length ≤ 1000000) (hb0 : Below w0.heap.size w0 w) (hB : w0.heap.size ≤ B) (x : ActD) (hx : x.ok w0) : Calls Tryd.prog 16 #[.pointer (some ⟨B, 0, none⟩), x.val] w (LayPost w B v l x) := by
  obtain ⟨what, ns, n, c, A, s, b⟩ := x
  have hlen : ns.length = n := hx.len
  have hmax : n ≤ 20 := hx.max
  have hs : s.size ≤ 200 := hx.text
  have hrd : Rds w0 (fun _ => False) A (ns.map intC) := hx.rd
  have hb1 : Below w.heap.size w (w.alloc (.cells #[.int .i64 what, .slice A n c, .string s, .bool b] 32)) := (Below.refl _ _).alloc (Nat.le_refl _) _
  have hw1 := hw.below hb1
  have hblk := hw.block
  have hbx : (w.alloc (.cells #[.int .i64 what, .slice A n c, .string s, .bool b] 32)).heap[w.heap.size]? = some (.cells #[.int .i64 what, .slice A n c, .string s, .bool b] 32 (0, 0)) := World.alloc_heap_new w _
  have hr1 : Rds (w.alloc (.cells #[.int .i64 what, .slice A n c, .string s, .bool b] 32)) (fun g => g = B ∨ v.ownBlock = some g) A (ns.map intC) := hrd.far.away (hb0.trans (hb1.mono hb0.size)) (fun g e => by
    rcases e with rfl | e
    · exact hB
    · have := (hblk g e).1; omega)
  clear hrd hx hblk
  unfold LayPost ActD.val
  by_cases h0 : what = 0
  · subst h0
    by_cases hall : allOk ns
    · have hc := WNumber_ok _ hw1 ns n c A (Lib.hid hlen) (by omega) hl hr1 (Lib.hid hall)
      have hlaid : ActD.laid ⟨0, ns, n, c, A, s, b⟩ = (numsB ns, 0) := by
        unfold ActD.laid
        rw [if_pos rfl, if_pos hall]
      rw [hlaid]
      clear hall hr1 hlaid
      go_enter Tryd.func16, Tryd.ntmps16
      go_wp2_with (go_at_call 18; (with_reducible refine hc.mono ?_); rintro e w3 ⟨rfl, v3, hw3, hg3⟩)
      go_ret
      exact ⟨rfl, v3, hw3, hg3.after hb1⟩
    · have hbad : ∃ y ∈ ns, ¬ okN y := by
        unfold allOk at hall
        simpa using hall
      have hc := WNumber_bad _ hw1 ns n c A _ (Lib.hid hlen) (by omega) hr1 (Lib.hid hbad)
      have hlaid : ActD.laid ⟨0, ns, n, c, A, s, b⟩ = ([], 2) := by
        unfold ActD.laid
        rw [if_pos rfl, if_neg hall]
      rw [hlaid]
      clear hall hr1 hlaid hbad
      go_enter Tryd.func16, Tryd.ntmps16
      go_wp2_with (go_at_call 18; (with_reducible refine hc.mono ?_); rintro e w3 ⟨rfl, rfl⟩)
      go_ret
      exact ⟨rfl, v, by rw [List.append_nil]; exact hw1, (WrGo.refl B v _).after hb1⟩
  · by_cases h1 : what = 1
    · subst h1
      have hc := WText_ok _ hw1 hl s (by omega)
      have hlaid : ActD.laid ⟨1, ns, n, c, A, s, b⟩ = (textB s, 0) := by
        unfold ActD.laid
        rw [if_neg (by simp), if_pos rfl]
      rw [hlaid]
      clear hr1 hlaid
      go_enter Tryd.func16, Tryd.ntmps16
      go_wp2_with (go_at_call 19; (with_reducible refine hc.mono ?_); rintro e w3 ⟨rfl, v3, hw3, hg3⟩)
      go_ret
      exact ⟨rfl, v3, hw3, hg3.after hb1⟩
    · have hc := WTruth_ok _ hw1 hl b
      have hlaid : ActD.laid ⟨what, ns, n, c, A, s, b⟩ = (truthB b, 0) := by
        unfold ActD.laid
        rw [if_neg h0, if_neg h1]
      rw [hlaid]
      have e0 : (what == 0) = false := by simpa using h0
      have e1 : (what == 1) = false := by simpa using h1
      clear hr1 hlaid h0 h1
      go_enter Tryd.func16, Tryd.ntmps16
      go_wp2_with (go_at_call 20; (with_reducible refine hc.mono ?_); rintro e w3 ⟨rfl, v3, hw3, hg3⟩)
      go_ret
      exact ⟨rfl, v3, hw3, hg3.after hb1⟩
/-- what any call lays is short -/
theorem Sm.ActD.laid_len {x : ActD} {w : World} (h : x.ok w) : x.laid.1.length ≤ 300 := by
  obtain ⟨what, ns, n, c, A, s, b⟩ := x
  have hlen : ns.length = n := h.len
  have hmax : n ≤ 20 := h.max
  have hs : s.size ≤ 200 := h.text
  unfold ActD.laid
  by_cases h0 : what = 0
  · by_cases hall : allOk ns
    · simp only [if_pos h0, if_pos hall]
      have := numsB_len ns hall
      omega
    · simp only [if_pos h0, if_neg hall]
      simp
  · by_cases h1 : what = 1
    · simp only [if_neg h0, if_pos h1]
      unfold textB
      have := numB_len9 (n := s.size) (by unfold top; omega)
      rw [List.length_append, strL_length]
      omega
    · simp only [if_neg h0, if_neg h1]
      unfold truthB
      cases b <;> simp
end Go.Proofs
namespace Go.Proofs
open Go.RowKit Go.Shelf Sm
def Sm.rdV (A : Option Addr) (n c : Nat) (e : Int) : Value := .agg #[.slice A n c, .int .i64 e]
/-- a reference reader of these bytes -/
structure Sm.RefAt (w : World) (A : Option Addr) (n c : Nat) (l : List (BitVec 8)) : Prop where
  len : l.length = n
  room : n ≤ c
  rd : Rd w w.heap.size A l
theorem Sm.RefAt.below {w w' : World} {A : Option Addr} {n c : Nat} {l : List (BitVec 8)} (h : RefAt w A n c l) (hb : Below w.heap.size w w') : RefAt w' A n c l := ⟨h.len, h.room, (h.rd.below hb).more hb.size⟩
def Sm.RefPost (w : World) (l' : List (BitVec 8)) (e' : Int) (out : List Value) (x : Ending) (w' : World) : Prop :=
  (∃ A' n' c', x = .returned (.tuple (rdV A' n' c' e' :: out).toArray) ∧ RefAt w' A' n' c' l') ∧ Below w.heap.size w w'
theorem Sm.RefAt.nil (w : World) : RefAt w none 0 0 [] := ⟨rfl, Nat.le_refl _, Rd.nil⟩
theorem Sm.alloc2 (w : World) (a b : Obj) : Below w.heap.size w ((w.alloc a).alloc b) := ((Below.refl _ w).alloc (Nat.le_refl _) _).alloc (by simp) _
set_option maxRecDepth 100000 in
set_option maxHeartbeats 4000000 in
theorem Sm.refFail_any (A : Option Addr) (n c : Nat) (e : Int) (w : World) : Calls Tryd.prog 49 #[.agg #[.slice A n c, .int .i64 e]] w fun x w' => x = .returned (.tuple #[.agg #[.slice none 0 0, .int .i64 120], .int .i64 120]) ∧ Below w.heap.size w w' := by
  go_enter Tryd.func49, Tryd.ntmps49
  go_wp2
  exact bodyPost_ret (v := .tuple #[.agg #[.slice none 0 0, .int .i64 120], .int .i64 120]) (by simp [results, Tryd.results49, go_sem]) rfl ⟨rfl, alloc2 _ _ _⟩
/-- the last of two blocks -/
theorem Sm.two_cell (w : World) (a : Obj) (x y : Value) (T : TypeId) : ((w.alloc a).alloc (.cells #[x, y] T)).cell? ⟨w.heap.size + 1, 0, none⟩ = some x ∧ ((w.alloc a).alloc (.cells #[x, y] T)).cell? ⟨w.heap.size + 1, 1, none⟩ = some y := by
  have h0 := World.cell?_alloc_new (w := w.alloc a) #[x, y] T 0
  have h1 := World.cell?_alloc_new (w := w.alloc a) #[x, y] T 1
  rw [World.size_alloc] at h0 h1
  exact ⟨h0, h1⟩
set_option maxRecDepth 100000 in
set_option maxHeartbeats 8000000 in
theorem Sm.refNum_err (A : Option Addr) (n c : Nat) (most : Int) (w : World) : Calls Tryd.prog 23 #[rdV A n c 120, .int .i64 most] w fun x w' => x = .returned (.tuple #[rdV A n c 120, .int .i64 0, .int .i64 120]) ∧ Below w.heap.size w w' := by
  unfold rdV
  go_enter Tryd.func23, Tryd.ntmps23
  go_wp2
  go_region
  all_goals go_wp2
  all_goals exact bodyPost_ret (v := .tuple #[.agg #[.slice A n c, .int .i64 120], .int .i64 0, .int .i64 120]) (by simp [results, Tryd.results23, go_sem]) rfl ⟨rfl, (alloc2 _ _ _).drew⟩
set_option maxRecDepth 100000 in
set_option maxHeartbeats 8000000 in
theorem Sm.refNum_arg (A : Option Addr) (n c : Nat) (most : Int) (w : World) (h : most < 0) : Calls Tryd.prog 23 #[rdV A n c 0, .int .i64 most] w fun x w' => x = .returned (.tuple #[rdV A n c 0, .int .i64 0, .int .i64 2]) ∧ Below w.heap.size w w' := by
  unfold rdV
  go_enter Tryd.func23, Tryd.ntmps23
  go_wp2
  exact bodyPost_ret (v := .tuple #[.agg #[.slice A n c, .int .i64 0], .int .i64 0, .int .i64 2]) (by simp [results, Tryd.results23, go_sem]) rfl ⟨rfl, alloc2 _ _ _⟩
set_option maxRecDepth 100000 in
set_option maxHeartbeats 8000000 in
theorem Sm.refNum_bad (A : Option Addr) (n c : Nat) (l : List (BitVec 8)) (most : Int) (w : World) (h : RefAt w A n c l) (hm : n ≤ 9223372036854775807) (h0 : ¬ most < 0) (hb : NoNum l most) : Calls Tryd.prog 23 #[rdV A n c 0, .int .i64 most] w fun x w' => x = .returned (.tuple #[rdV none 0 0 120, .int .i64 0, .int .i64 120]) ∧ Below w.heap.size w w' := by
  have hb2 := alloc2 w (.cells #[.slice A n c, .int .i64 0] 47) (.cells #[.slice none 0 0, .int .i64 0] 47)
  have hct := refTake_any l n c w.heap.size A _ (Lib.hid h.len) hm (h.rd.below hb2)
  have hcase : (∃ e : Int, e ≤ 0 ∧ takeV l = (0, e)) ∨ ∃ m k : Nat, takeV l = ((m : Int), (k : Int)) ∧ 0 < k ∧ most < (m : Int) := by
    unfold takeV
    rcases hg : getN l with _ | _ | ⟨m, k⟩
    · exact .inl ⟨0, by omega, rfl⟩
    · exact .inl ⟨-1, by omega, rfl⟩
    · refine .inr ⟨m, k, rfl, (getN_form hg).2.1, ?_⟩
      have := hb m k hg
      omega
  have hs2 : ((w.alloc (.cells #[.slice A n c, .int .i64 0] 47)).alloc (.cells #[.slice none 0 0, .int .i64 0] 47)).heap.size = w.heap.size + 1 + 1 := by simp
  have hnew : ((w.alloc (.cells #[.slice A n c, .int .i64 0] 47)).alloc (.cells #[.slice none 0 0, .int .i64 0] 47)).heap[w.heap.size + 1]? = some (.cells #[.slice none 0 0, .int .i64 0] 47 (0, 0)) := by
    have := World.alloc_heap_new (w.alloc (.cells #[.slice A n c, .int .i64 0] 47)) (.cells #[.slice none 0 0, .int .i64 0] 47)
    rwa [World.size_alloc] at this
  have hfail := (refFail_any A n c 0 ((w.alloc (.cells #[.slice A n c, .int .i64 0] 47)).alloc (.cells #[.slice none 0 0, .int .i64 0] 47))).mono (R' := fun x w3 => x = .returned (.tuple #[.agg #[.slice none 0 0, .int .i64 120], .int .i64 120]) ∧ Below w.heap.size w w3 ∧ w3.heap[w.heap.size + 1]? = some (.cells #[.slice none 0 0, .int .i64 0] 47 (0, 0)) ∧ w.heap.size + 1 < w3.heap.size ∧
      w3.cell? ⟨w.heap.size + 1, 0, none⟩ = some (.slice none 0 0) ∧ w3.cell? ⟨w.heap.size + 1, 1, none⟩ = some (.int .i64 0) ∧ w3.frozen? ⟨w.heap.size + 1, 0, none⟩ = false ∧ w3.frozen? ⟨w.heap.size + 1, 1, none⟩ = false) (fun x w3 ⟨hx, hb3⟩ => by
    have h3 := (hb3.block (w.heap.size + 1) (by omega)).trans hnew
    exact ⟨hx, hb2.trans (hb3.mono hb2.size), h3, (Array.getElem?_eq_some_iff.1 h3).1, cell_of_heap h3 0, cell_of_heap h3 1, frozen_of_heap h3 0, frozen_of_heap h3 1⟩)
  have hfin : ∀ w3 : World, w3.heap[w.heap.size + 1]? = some (.cells #[.slice none 0 0, .int .i64 0] 47 (0, 0)) → w.heap.size + 1 < w3.heap.size → Below w.heap.size w w3 → ∀ o : Obj, (((w3.setCell ⟨w.heap.size + 1, 0, none⟩ (.slice none 0 0)).setCell ⟨w.heap.size + 1, 1, none⟩ (.int .i64 120)).alloc o).cell? ⟨w.heap.size + 1, 0, none⟩ = some (.slice none 0 0) ∧ (((w3.setCell ⟨w.heap.size + 1, 0, none⟩ (.slice none 0 0)).setCell ⟨w.heap.size + 1, 1, none⟩ (.int .i64 120)).alloc o).cell? ⟨w.heap.size + 1, 1, none⟩ = some (.int .i64 120) ∧ Below w.heap.size w (((w3.setCell ⟨w.heap.size + 1, 0, none⟩ (.slice none 0 0)).setCell ⟨w.heap.size + 1, 1, none⟩ (.int .i64 120)).alloc o) := fun w3 h3 hlt hb o => by
    have h5 := heap_setCells (i := 1) (u := .int .i64 120) (heap_setCells (i := 0) (u := .slice none 0 0) h3)
    have h6 := (Below.heap_alloc _ o _ (by simp; exact hlt)).trans h5
    have hb6 := (hb.setCell (p := ⟨w.heap.size + 1, 0, none⟩) (by simp) (.slice none 0 0)).setCell (p := ⟨w.heap.size + 1, 1, none⟩) (by simp) (.int .i64 120)
    exact ⟨cell_of_heap h6 0, cell_of_heap h6 1, hb6.alloc hb6.size o⟩
  unfold rdV
  rcases hcase with ⟨e, he, hT⟩ | ⟨m, k, hT, hk, hmo⟩
  · rw [hT] at hct
    go_enter Tryd.func23, Tryd.ntmps23
    go_wp2_with (first
      | (go_at_call 48; (with_reducible refine hct.mono ?_); rintro e w2 ⟨rfl, rfl⟩)
      | (go_at_call 49; (with_reducible refine hfail.mono ?_); rintro e w3 ⟨rfl, hb3, h3, hlt, c0, c1, f0, f1⟩; have hg0 := Nat.ne_of_gt hlt))
    obtain ⟨z0, z1, z2⟩ := hfin w3 h3 hlt hb3 (.cells #[.slice none 0 0, .int .i64 120] 47)
    exact bodyPost_ret (v := .tuple #[.agg #[.slice none 0 0, .int .i64 120], .int .i64 0, .int .i64 120]) (by simp [results, Tryd.results23, go_sem, z0, z1]) rfl ⟨rfl, z2⟩
  · rw [hT] at hct
    go_enter Tryd.func23, Tryd.ntmps23
    go_wp2_with (first
      | (go_at_call 48; (with_reducible refine hct.mono ?_); rintro e w2 ⟨rfl, rfl⟩)
      | (go_at_call 49; (with_reducible refine hfail.mono ?_); rintro e w3 ⟨rfl, hb3, h3, hlt, c0, c1, f0, f1⟩; have hg0 := Nat.ne_of_gt hlt))
    obtain ⟨z0, z1, z2⟩ := hfin w3 h3 hlt hb3 (.cells #[.slice none 0 0, .int .i64 120] 47)
    exact bodyPost_ret (v := .tuple #[.agg #[.slice none 0 0, .int .i64 120], .int .i64 0, .int .i64 120]) (by simp [results, Tryd.results23, go_sem, z0, z1]) rfl ⟨rfl, z2⟩
set_option maxRecDepth 100000 in
set_option maxHeartbeats 8000000 in
theorem Sm.refNum_ok (A : Option Addr) (n c : Nat) (l : List (BitVec 8)) (most : Int) (m k : Nat) (w : World) (h : RefAt w A n c l) (hm : n ≤ 9223372036854775807) (h0 : ¬ most < 0) (hg : getN l = .num m k) (hmo : (m : Int) ≤ most) : Calls Tryd.prog 23 #[rdV A n c 0, .int .i64 most] w fun x w' => (∃ A', x = .returned (.tuple #[rdV A' (n - k) (c - k) 0, .int .i64 (m : Int), .int .i64 0]) ∧ RefAt w' A' (n - k) (c - k) (l.drop k)) ∧ Below w.heap.size w w' := by
  have hb2 := alloc2 w (.cells #[.slice A n c, .int .i64 0] 47) (.cells #[.slice none 0 0, .int .i64 0] 47)
  have hct := refTake_any l n c w.heap.size A _ (Lib.hid h.len) hm (h.rd.below hb2)
  have hT : takeV l = ((m : Int), (k : Int)) := by unfold takeV; rw [hg]
  rw [hT] at hct
  obtain ⟨_, hk0, hk9, hkl⟩ := getN_form hg
  have hlen := h.len
  have hroom := h.room
  rw [hlen] at hkl
  obtain ⟨b, off, rfl, hbl, _⟩ := h.rd (by omega)
  have hb3 : ∀ x : Value, Below w.heap.size w ((w.alloc (.cells #[.slice (some ⟨b, off, none⟩) n c, .int .i64 0] 47)).alloc (.cells #[x, .int .i64 0] 47)) := fun x => alloc2 _ _ _
  have x1 : (0 : Int) ≤ (k : Int) := by omega
  have x2 : (k : Int) ≤ (n : Int) := by omega
  have x3 : (n : Int) ≤ (c : Int) := by omega
  unfold rdV
  by_cases hkc : k = c
  · have hkn : k = n := by omega
    subst hkc
    subst hkn
    have hdrop : l.drop k = [] := List.drop_eq_nil_of_le (by omega)
    go_enter Tryd.func23, Tryd.ntmps23
    go_wp2_with (go_at_call 48; (with_reducible refine hct.mono ?_); rintro e w2 ⟨rfl, rfl⟩)
    refine bodyPost_ret (v := .tuple #[.agg #[.slice (some ⟨b, off, none⟩) 0 0, .int .i64 0], .int .i64 (m : Int), .int .i64 0]) (by simp [results, Tryd.results23, go_sem]) rfl ⟨⟨some ⟨b, off, none⟩, by rw [Nat.sub_self], ?_⟩, hb3 _⟩
    rw [hdrop, Nat.sub_self]
    exact ⟨rfl, Nat.le_refl _, Rd.nil⟩
  · go_enter Tryd.func23, Tryd.ntmps23
    go_wp2_with (go_at_call 48; (with_reducible refine hct.mono ?_); rintro e w2 ⟨rfl, rfl⟩)
    refine bodyPost_ret (v := .tuple #[.agg #[.slice (some ⟨b, off + k, none⟩) (n - k) (c - k), .int .i64 0], .int .i64 (m : Int), .int .i64 0]) (by simp [results, Tryd.results23, go_sem]) rfl ⟨⟨some ⟨b, off + k, none⟩, rfl, ?_⟩, hb3 _⟩
    exact ⟨by rw [List.length_drop, hlen], by omega, ((h.rd.drop k).below (hb3 _)).more (hb3 _).size⟩
/-- a number that is asked for -/
theorem Sm.refNum_any (A : Option Addr) (n c : Nat) (l : List (BitVec 8)) (most : Int) (w : World) (h : RefAt w A n c l) (hm : n ≤ 9223372036854775807) : Calls Tryd.prog 23 #[rdV A n c 0, .int .i64 most] w fun x w' =>
    (∃ A' n' c', x = .returned (.tuple #[rdV A' n' c' (numS l 0 most).2.1, .int .i64 (numS l 0 most).2.2.1, .int .i64 (numS l 0 most).2.2.2]) ∧ RefAt w' A' n' c' (numS l 0 most).1) ∧ Below w.heap.size w w' := by
  by_cases h0 : most < 0
  · have e1 : numS l 0 most = (l, 0, 0, 2) := by unfold numS; rw [if_neg (by simp), if_pos h0]
    rw [e1]
    refine (refNum_arg A n c most w h0).mono ?_
    rintro x w' ⟨rfl, hb⟩
    exact ⟨⟨A, n, c, rfl, h.below hb⟩, hb⟩
  · rcases num_ways l most with ⟨m, k, hg, hmo⟩ | hbad
    · rw [numS_ok h0 hg hmo]
      refine (refNum_ok A n c l most m k w h hm h0 hg hmo).mono ?_
      rintro x w' ⟨⟨A', rfl, hr⟩, hb⟩
      exact ⟨⟨A', _, _, rfl, hr⟩, hb⟩
    · rw [numS_bad h0 hbad]
      refine (refNum_bad A n c l most w h hm h0 hbad).mono ?_
      rintro x w' ⟨rfl, hb⟩
      exact ⟨⟨none, 0, 0, rfl, RefAt.nil _⟩, hb⟩
end Go.Proofs
namespace Go.Proofs
open Go.RowKit Go.Shelf Sm
attribute [local go_sem ↓] Go.wp_at_zero Go.wp_at_succ
def Sm.oneAct (a : Int) (N : Nat) : ActD := ⟨0, [a], 1, 1, some ⟨N, 0, none⟩, ⟨#[]⟩, false⟩
theorem Sm.oneAct_ok (a : Int) (w : World) : (oneAct a w.heap.size).ok (w.alloc (.cells #[.int .i64 a] 2)) :=
  { len := rfl, max := (by show 1 ≤ 20; omega), text := (by show 0 ≤ 200; omega), rd := fun _ => by
      refine ⟨w.heap.size, 0, rfl, by simp, id, fun j c hj => ?_⟩
      match j, hj with
      | 0, hj => simp [oneAct, intC] at hj; subst hj; simp [World.cell?_alloc_new] }
theorem Sm.laid1_ok {a : Int} {A : Option Addr} {s : ByteArray} {b : Bool} (h : okN a) : ActD.laid ⟨0, [a], 1, 1, A, s, b⟩ = (numsB [a], 0) := by
  have h2 : allOk [a] := fun z hz => by simp at hz; subst hz; exact h
  unfold ActD.laid
  rw [if_pos rfl]
  exact if_pos h2
theorem Sm.laid1_bad {a : Int} {A : Option Addr} {s : ByteArray} {b : Bool} (h : ¬ okN a) : ActD.laid ⟨0, [a], 1, 1, A, s, b⟩ = ([], 2) := by
  have h2 : ¬ allOk [a] := fun h3 => h (h3 a (by simp))
  unfold ActD.laid
  rw [if_pos rfl]
  exact if_neg h2
set_option maxRecDepth 100000 in
set_option maxHeartbeats 8000000 in
theorem Sm.number_walk (a most : Int) (l : List (BitVec 8)) (n c : Nat) (A : Option Addr) (w : World) (hn : l.length = n) (hm : n ≤ 9223372036854775807) (hc : n ≤ c) (hr : Rd w w.heap.size A l) (ht : Tab w) :
    Calls Tryd.prog 4 #[.int .i64 a, .slice A n c, .int .i64 most] w fun e w' => e = .returned (.bool true) ∧ Below w.heap.size w w' := by
  have hb := Below.refl w.heap.size w
  by_cases h1 : 100 < n
  · go_enter Tryd.func4, Tryd.ntmps4
    go_wp2_with (go_at_call 12; (with_reducible refine (works_from hb ht).mono ?_); clear hb; rintro e w1 ⟨rfl, hb⟩)
    go_ret
    exact ⟨rfl, hb⟩
  · have hb0 : Below w.heap.size w (w.alloc (.cells #[.slice none 0 0, .bool true] 38)) := (Below.refl _ _).alloc (Nat.le_refl _) _
    have hw0 := Wr.new w
    obtain ⟨B, hB⟩ : ∃ B, w.heap.size = B := ⟨_, rfl⟩
    rw [hB] at hw0
    go_enter Tryd.func4, Tryd.ntmps4
    go_wp2_with (go_at_call 13; (with_reducible refine (New_any _).mono ?_); rintro e w1 ⟨rfl, rfl⟩)
    have hs1 : (w.alloc (.cells #[.slice none 0 0, .bool true] 38)).heap.size = B + 1 := by simp [hB]
    obtain ⟨W1, hW1⟩ : ∃ W1, w.alloc (.cells #[.slice none 0 0, .bool true] 38) = W1 := ⟨_, rfl⟩
    rw [hW1] at hb0 hw0 hs1 ⊢
    have hok := oneAct_ok a W1
    have hlaid := laid_any (oneAct a W1.heap.size) _ hok
    unfold ActD.val oneAct at hlaid
    rw [hs1] at hlaid
    obtain ⟨L, no, hL⟩ : ∃ L no, ActD.laid ⟨0, [a], 1, 1, some ⟨B + 1, 0, none⟩, ⟨#[]⟩, false⟩ = (L, no) := ⟨_, _, rfl⟩
    have hbn : Below W1.heap.size W1 (W1.alloc (.cells #[.int .i64 a] 2)) := (Below.refl _ _).alloc (Nat.le_refl _) _
    refine hlaid.mono ?_
    rintro e w2 ⟨⟨v2, rfl, hown2⟩, hb2⟩
    rw [hL] at hown2 ⊢
    obtain ⟨A2, c2, rfl⟩ := own_slice hown2
    have hb12 : Below W1.heap.size W1 w2 := hbn.trans (hb2.mono hbn.size)
    have hw2 := hw0.below hb12
    have hbw2 := hb0.trans (hb12.mono hb0.size)
    have hn2 : w.heap.size + 1 ≤ w2.heap.size := by have := hb12.size; omega
    clear hlaid hok hbn hb2 hb12
    have hA : Below w2.heap.size w2 (w2.alloc (.cells #[.int .i64 a] 2)).drew := ((Below.refl _ w2).alloc (Nat.le_refl _) _).drew
    have hD : Below w2.heap.size w2 w2.drew := (Below.refl _ w2).drew
    have hconv : ∀ wx : World, wx.ownsRow (W1.alloc (.cells #[.int .i64 a] 2)).heap.size 5 1 (.slice A2 L.length c2) L.length (L.map byteCell) → (convert 27 9 (.slice A2 L.length c2)).run Tryd.prog wx = .ok (.string (strB L)) wx := fun wx hx =>
      run_str wx 27 5 Tryd.underlying27 Tryd.underlying5 L L.length c2 wx.heap.size A2 rfl (Rd.of_own hx (Nat.le_refl _)) 9 Tryd.underlying9
    have K1 := hconv _ (own_below hown2 hD)
    have K2 := hconv _ (own_below hown2 hA)
    have hwA := hw2.below hA
    have hbA := hbw2.trans (hA.mono hbw2.size)
    have hone : Rds (w2.alloc (.cells #[.int .i64 a] 2)).drew (fun b => b = B ∨ (Value.slice none 0 0).ownBlock = some b) (some ⟨w2.heap.size, 0, none⟩) [.int .i64 a] := Rds.one w2 (.int .i64 a) 2 hw2
    have hrowB : ∀ q, (Value.slice A2 L.length c2).ownBlock = some q → q ≠ B := fun q hq e => by
      have := (hown2.lt q hq).1
      simp at this
      omega
    have hnum : Calls Tryd.prog 18 #[.pointer (some ⟨B, 0, none⟩), .slice (some ⟨w2.heap.size, 0, none⟩) 1 1] (w2.alloc (.cells #[.int .i64 a] 2)).drew fun e w' => e = .returned (.int .i64 no) ∧ (∃ v', Wr w' B v' L) ∧ w'.ownsRow (W1.alloc (.cells #[.int .i64 a] 2)).heap.size 5 1 (.slice A2 L.length c2) L.length (L.map byteCell) ∧ Below w.heap.size w w' ∧ (convert 27 9 (.slice A2 L.length c2)).run Tryd.prog w' = .ok (.string (strB L)) w' := by
      by_cases hk : okN a
      · have hlo : (numsB [a], (0 : Int)) = (L, no) := by
          rw [← hL, laid1_ok hk]
        injection hlo with e1 e2
        subst e1 e2
        refine (WNumber_ok _ hwA [a] 1 1 _ (Lib.hid rfl) (by omega) (by simp) hone (Lib.hid (fun z hz => by simp at hz; subst hz; exact hk))).mono ?_
        rintro e w' ⟨rfl, v', hw', hg⟩
        rw [List.nil_append] at hw'
        have hrow := hg.but.row (own_below hown2 hA) (fun q hq e => by
          rcases e with e | e
          · exact hrowB q hq e
          · simp [Value.ownBlock] at e)
        refine ⟨rfl, ⟨v', hw'⟩, hrow, hbA.trans (hg.but.to_below (n := w.heap.size) hbA.size (fun b e => by
          rcases e with e | e
          · omega
          · simp [Value.ownBlock] at e)), hconv _ hrow⟩
      · have hlo : (([] : List (BitVec 8)), (2 : Int)) = (L, no) := by
          rw [← hL, laid1_bad hk]
        injection hlo with e1 e2
        subst e1 e2
        refine (WNumber_bad _ hwA [a] 1 1 _ _ (Lib.hid rfl) (by omega) hone (Lib.hid ⟨a, by simp, hk⟩)).mono ?_
        rintro e w' ⟨rfl, rfl⟩
        exact ⟨rfl, ⟨_, hwA⟩, own_below hown2 hA, hbA, K2⟩
    have hLl : L.length ≤ 1000000 := by
      by_cases hk : okN a
      · have hlo : (numsB [a], (0 : Int)) = (L, no) := by
          rw [← hL, laid1_ok hk]
        injection hlo with e1 e2
        have := numsB_len [a] (fun z hz => by simp at hz; subst hz; exact hk)
        rw [← e1]
        simp at this
        omega
      · have hlo : (([] : List (BitVec 8)), (2 : Int)) = (L, no) := by
          rw [← hL, laid1_bad hk]
        injection hlo with e1 e2
        rw [← e1]
        simp
    have hall : ∀ w5 : World, (∃ v', Wr w5 B v' L) → w5.ownsRow (W1.alloc (.cells #[.int .i64 a] 2)).heap.size 5 1 (.slice A2 L.length c2) L.length (L.map byteCell) → Below w.heap.size w w5 → Calls Tryd.prog 17 #[.pointer (some ⟨B, 0, none⟩)] w5 fun e w' => ∃ A6 c6, e = .returned (.slice A6 L.length c6) ∧ (convert 27 9 (.slice A6 L.length c6)).run Tryd.prog w' = .ok (.string (strB L)) w' ∧ (convert 27 9 (.slice A2 L.length c2)).run Tryd.prog w' = .ok (.string (strB L)) w' ∧ Below w.heap.size w w' := fun w5 hw5 hr5 hb5 => by
      obtain ⟨v', hw5⟩ := hw5
      refine (All_any w5 hw5 hLl).mono ?_
      rintro e w' ⟨u, rfl, hu, hbu⟩
      obtain ⟨A6, c6, rfl⟩ := own_slice hu
      exact ⟨A6, c6, rfl, run_str w' 27 5 Tryd.underlying27 Tryd.underlying5 L L.length c6 w'.heap.size A6 rfl (Rd.of_own hu (Nat.le_refl _)) 9 Tryd.underlying9, hconv _ (own_below hr5 hbu), hb5.trans (hbu.mono hb5.size)⟩
    have HR := Lib.hid hr
    clear hconv hrowB hone hwA hbA hw2 hbw2 hown2 hA hD hb0 hw0 hr hL
    go_wp2_with fail
    go_region_held_law (fun wx => (convert 27 9 (.slice A2 L.length c2)).run Tryd.prog wx = .ok (.string (strB L)) wx) (first | exact s6 | exact k5 | exact K2 | exact K1) (first
      | (go_at_call 18; (with_reducible refine hnum.mono ?_); rintro e w5 ⟨rfl, hw5, hr5, hb5, k5⟩)
      | (go_at_call 15; (with_reducible refine (num_any _ _).mono ?_); rintro e w' ⟨rfl, rfl⟩)
      | (go_at_call 17; (with_reducible refine (hall w5 hw5 hr5 hb5).mono ?_); rintro e w6 ⟨A6, c6, rfl, t6, s6, hb6⟩))
    clear hnum hall K1 K2 t6 s6 k5 hw5 hr5 hb5 hLl
    have hr6 : Rd w6 w6.heap.size A l := (HR.out.below hb6).more hb6.size
    have hread := Read_any l n c w6.heap.size A w6 (Lib.hid hn) (by omega) (Nat.le_refl _) hr6
    obtain ⟨S, hS⟩ : ∃ S, numS l 0 most = S := ⟨_, rfl⟩
    have hnum : ∀ (w7 : World) (R : Nat), Rdr w7 R l 0 → w.heap.size ≤ R → Below w.heap.size w w7 → Calls Tryd.prog 22 #[.pointer (some ⟨R, 0, none⟩), .int .i64 most] w7 fun x w' => x = .returned (.tuple #[.int .i64 S.2.2.1, .int .i64 S.2.2.2]) ∧ Rdr w' R S.1 S.2.1 ∧ Below w.heap.size w w' := fun w7 R h hR hb => by
      rw [← hS]
      refine (Number_any h most).mono ?_
      rintro x w' ⟨rfl, h2, hbut⟩
      exact ⟨rfl, h2, hb.trans (hbut.to_below (n := w.heap.size) hb.size (fun b e => by omega))⟩
    have href : ∀ (w8 : World) (R : Nat), Rdr w8 R S.1 S.2.1 → Below w.heap.size w w8 → Calls Tryd.prog 23 #[.agg #[.slice A n c, .int .i64 0], .int .i64 most] w8 fun x w' => (∃ A' c', x = .returned (.tuple #[.agg #[.slice A' S.1.length c', .int .i64 S.2.1], .int .i64 S.2.2.1, .int .i64 S.2.2.2])) ∧ Rdr w' R S.1 S.2.1 ∧ Below w.heap.size w w' := fun w8 R h hb => by
      rw [← hS] at h ⊢
      refine (refNum_any A n c l most w8 ⟨hn, hc, (HR.out.below hb).more hb.size⟩ (by omega)).mono ?_
      rintro x w' ⟨⟨A', n', c', rfl, hra⟩, hb2⟩
      exact ⟨⟨A', c', by unfold rdV; rw [hra.len]⟩, h.below hb2, hb.trans (hb2.mono hb.size)⟩
    clear hr6
    go_wp2_with (first
      | (go_at_call 21; (with_reducible refine hread.mono ?_); rintro e w7 ⟨R, rfl, hR, hRb, hb7⟩; have hb7w := hb6.trans (hb7.mono hb6.size); have hRw := Nat.le_trans hb6.size hRb)
      | (go_at_call 22; (with_reducible refine (hnum w7 R hR hRw hb7w).mono ?_); rintro e w8 ⟨rfl, hR8, hb8⟩)
      | (go_at_call 23; (with_reducible refine (href w8 R hR8 hb8).mono ?_); rintro e w9 ⟨⟨A9, c9, rfl⟩, hR9, hb9⟩))
    have hz9 : Below w9.heap.size w9 (w9.alloc (.cells #[.slice A9 S.1.length c9, .int .i64 S.2.1] 47)).drew := ((Below.refl _ w9).alloc (Nat.le_refl _) _).drew
    have hZ : Below w.heap.size w (w9.alloc (.cells #[.slice A9 S.1.length c9, .int .i64 S.2.1] 47)).drew := hb9.trans (hz9.mono hb9.size)
    have zc : (w9.alloc (.cells #[.slice A9 S.1.length c9, .int .i64 S.2.1] 47)).drew.cell? ⟨w9.heap.size, 0, none⟩ = some (.slice A9 S.1.length c9) := (show _ = _ from World.cell?_alloc_new (w := w9) #[.slice A9 S.1.length c9, .int .i64 S.2.1] 47 0)
    have hRz := hR9.below hz9
    have hlz : w9.heap.size < (w9.alloc (.cells #[.slice A9 S.1.length c9, .int .i64 S.2.1] 47)).drew.heap.size := by simp
    clear hread hnum href hR8 hb8 hR hb7 hb7w hRw hRb hR9 hb9 hz9
    have hwk := (works_from hZ ht).mono (R' := fun e w' => e = .returned (.bool true) ∧ Below w.heap.size w w') (fun _ _ h => h)
    have hwk2 : Calls Tryd.prog 12 #[] (w9.alloc (.cells #[.slice A9 S.1.length c9, .int .i64 S.2.1] 47)).drew fun e w' => e = .returned (.bool true) ∧ Below w.heap.size w w' ∧ w'.cell? ⟨w9.heap.size, 0, none⟩ = some (.slice A9 S.1.length c9) := (works_any (w9.alloc (.cells #[.slice A9 S.1.length c9, .int .i64 S.2.1] 47)).drew (ht.belowTo hZ ht.1)).mono (fun e w' ⟨h1, h2⟩ => ⟨h1, hZ.trans (h2.mono hZ.size), (h2.cell (p := ⟨w9.heap.size, 0, none⟩) hlz).trans zc⟩)
    clear hwk
    go_wp2_with fail
    go_region_held_law (fun wx => wx.cell? ⟨w9.heap.size, 0, none⟩ = some (.slice A9 S.1.length c9)) (first | exact zc | exact k9) (first
      | (go_at_call 15; (with_reducible refine (num_any _ _).mono ?_); rintro e w' ⟨rfl, rfl⟩)
      | (go_at_call 24; (with_reducible refine (Left_any hRz).mono ?_); rintro e w' ⟨rfl, rfl⟩)
      | (go_at_call 12; (with_reducible refine hwk2.mono ?_); rintro e wz ⟨rfl, hbz, k9⟩))
    go_wp2
    go_ret
    exact ⟨rfl, hbz⟩
end Go.Proofs
namespace Go.Proofs
open Go Go.ChangeShapes Go.WideShapes Go.ChangeAt Go.WideMaps Go.WideElems Go.RowKit Sm Go.Deep
/-- a call that came in -/
structure Sm.ActD.came (x : ActD) (w : World) : Prop where
  len : x.ns.length = x.n
  rd : Rds w (fun _ => False) x.A (x.ns.map intC)
/-- calls that came in -/
def Sm.RdActs (w : World) (A : Option Addr) (xs : List ActD) : Prop :=
  0 < xs.length → ∃ b off, A = some ⟨b, off, none⟩ ∧ b < w.heap.size ∧ ∀ j x, xs[j]? = some x → w.cell? ⟨b, off + j * 4, none⟩ = some (.int .i64 x.what) ∧ w.cell? ⟨b, off + j * 4 + 1, none⟩ = some (.slice x.A x.n x.c) ∧ w.cell? ⟨b, off + j * 4 + 2, none⟩ = some (.string x.s) ∧ w.cell? ⟨b, off + j * 4 + 3, none⟩ = some (.bool x.b)
namespace YteeponciegmlcaaDoor
theorem c32 : Tryd.prog.cellsOf 32 = 4 := by kernel_rfl
theorem c3 : Tryd.prog.cellsOf 3 = 1 := by kernel_rfl
theorem c2 : Tryd.prog.cellsOf 2 = 1 := by kernel_rfl
theorem c30 : Tryd.prog.cellsOf 30 = 1 := by kernel_rfl
theorem c9 : Tryd.prog.cellsOf 9 = 1 := by kernel_rfl
theorem c4 : Tryd.prog.cellsOf 4 = 1 := by kernel_rfl
/-- numbers that came in -/
theorem nums_of_trod {H : Type} {enc : TypeId × Value → H} {W : World} {fuel : Nat} {cs : List Value} {x : DataW H × List MemPlace} (h : DataW.trod enc Tryd.prog W 0 (fun _ => true) true fuel 30 cs = some x) :
    ∃ (A : Option Addr) (n c : Nat) (l : List Int), cs = [.slice A n c] ∧ l.length = n ∧ n ≤ c ∧ c ≤ 9223372036854775807 ∧ Rds W (fun _ => False) A (l.map intC) := by
  rcases open_ints Tryd.underlying30 Tryd.underlying2 c2 h with ⟨rfl, _⟩ | ⟨a, len, cap, zs, rfl, _, hl, hm, hz, _, hcell, hwz⟩
  · exact ⟨none, 0, 0, [], rfl, rfl, Nat.le_refl _, by omega, fun h => absurd h (by simp)⟩
  · simp at hz
    refine ⟨some a, len, cap, zs.take len, rfl, by simp; omega, hl, by unfold maxLen at hm; omega, ?_⟩
    intro h0
    have hp : 0 < zs.length := by simp at h0; omega
    obtain ⟨b, off, rfl, hc⟩ := ints_at hcell hp
    refine ⟨b, off, rfl, World.block_lt_of_cell? W _ (hc 0 hp), id, fun j c hj => ?_⟩
    rw [List.getElem?_map, List.getElem?_take] at hj
    split at hj
    · rename_i hjl
      have hjz : j < zs.length := by omega
      rw [List.getElem?_eq_getElem hjz] at hj
      simp only [Option.map_some, Option.some.injEq] at hj
      subst hj
      rw [hc j hjz]
      unfold intC
      congr 2
      simp [List.getD_eq_getElem?_getD, hjz]
    · simp at hj
set_option maxRecDepth 100000 in
set_option maxHeartbeats 2000000 in
theorem open_acts {H : Type} {enc : TypeId × Value → H} {W : World} {base : Nat} {v : Value} {d : DataW H} {p : List MemPlace} (hok : Value.okWide Tryd.prog W .any base 22 v) (h : DataW.Trod enc Tryd.prog W 0 (fun _ => true) true 22 v d p) :
    ∃ (A : Option Addr) (n c : Nat) (xs : List ActD), v = .slice A n c ∧ xs.length = n ∧ n ≤ c ∧ c ≤ 9223372036854775807 ∧ RdActs W A xs ∧ ∀ x ∈ xs, ActD.came x W := by
  obtain ⟨a0, len, cap, rfl⟩ := okWide_slice Tryd.underlying22 hok
  obtain ⟨fuel, hf⟩ := h
  rcases open_slice Tryd.underlying22 (cs := [.slice a0 len cap]) (by simpa [Value.cells] using hf) with ⟨hcs, _⟩ | ⟨a, len', cap', m, n, D, Pl, hcs, _, hl, hm, hmm, _, hx⟩
  · simp only [List.cons.injEq, and_true] at hcs
    exact ⟨none, 0, 0, [], hcs, rfl, Nat.le_refl _, by omega, (fun h => absurd h (by simp)), fun q hq => by cases hq⟩
  · simp only [List.cons.injEq, and_true] at hcs
    have hlm : len' ≤ m := by rw [hmm]; simp; omega
    have hone : ∀ i, i < m → ∃ x : ActD, W.cell? (a.add (i * 4)) = some (.int .i64 x.what) ∧ W.cell? (a.add (i * 4 + 1)) = some (.slice x.A x.n x.c) ∧ W.cell? (a.add (i * 4 + 2)) = some (.string x.s) ∧ W.cell? (a.add (i * 4 + 3)) = some (.bool x.b) ∧ ActD.came x W := by
      intro i hi
      obtain ⟨cs', h1, h2⟩ := hx i hi
      rw [c32] at h1
      obtain ⟨_, hlen, hcell⟩ := World.cells?_some h1
      obtain ⟨y0, y1, y2, y3, k, _, _, g0, g1, g2, g3⟩ := Go.Joins.trod_struct4 Tryd.underlying32 h2
      match cs', hlen with
      | [v0, v1, v2, v3], _ =>
        simp [c3, c30, c9, c4] at g0 g1 g2 g3
        obtain ⟨z, e0, _⟩ := DataW.trod_int Tryd.underlying3 g0
        obtain ⟨A1, n1, c1, l1, e1, p1, p2, p3, p4⟩ := nums_of_trod g1
        obtain ⟨s, e2, _⟩ := DataW.trod_string Tryd.underlying9 g2
        obtain ⟨b, e3, _⟩ := DataW.trod_bool Tryd.underlying4 g3
        simp only [List.cons.injEq, and_true] at e0 e1 e2 e3
        subst e0 e1 e2 e3
        have q0 := hcell 0 (by omega)
        have q1 := hcell 1 (by omega)
        have q2 := hcell 2 (by omega)
        have q3 := hcell 3 (by omega)
        rw [add_add] at q0 q1 q2 q3
        exact ⟨⟨z, l1, n1, c1, A1, s, b⟩, by simpa using q0, by simpa using q1, by simpa using q2, by simpa using q3, p1, p4⟩
    haveI : Inhabited ActD := ⟨⟨0, [], 0, 0, none, ByteArray.empty, false⟩⟩
    obtain ⟨X, hX⟩ := choose_lt hone
    refine ⟨some a, len', cap', (List.range len').map X, hcs, by simp, hl, by unfold maxLen at hm; omega, ?_, ?_⟩
    · intro h0
      have hp : 0 < len' := by simpa using h0
      have c0 := (hX 0 (by omega)).1
      obtain ⟨b, off, spot⟩ := a
      have hspot : spot = none := by simpa [Addr.add] using World.cell?_spot c0
      subst hspot
      have hb : b < W.heap.size := by
        have := World.block_lt_of_cell? W _ c0
        rw [Go.WideShapes.add_plain] at this
        exact this
      refine ⟨b, off, rfl, hb, fun j q hj => ?_⟩
      rw [List.getElem?_map] at hj
      obtain ⟨r, hr1, rfl⟩ := Option.map_eq_some_iff.1 hj
      have hjl : j < len' := by have := (List.getElem?_eq_some_iff.1 hr1).1; simpa using this
      obtain rfl : j = r := by rw [List.getElem?_range hjl] at hr1; exact Option.some.inj hr1
      have := hX j (by omega)
      simp only [Go.WideShapes.add_plain] at this
      exact ⟨this.1, this.2.1, this.2.2.1, this.2.2.2.1⟩
    · intro q hq
      obtain ⟨r, hr, rfl⟩ := List.mem_map.1 hq
      exact (hX r (by have := List.mem_range.1 hr; omega)).2.2.2.2
end YteeponciegmlcaaDoor
end Go.Proofs
namespace Go.Proofs
open Go.RowKit Go.Shelf Sm
/-- a call that is not too long -/
def Sm.ActD.small (x : ActD) : Prop := x.n ≤ 20 ∧ x.s.size ≤ 200
instance Sm.ActD.smallDec (x : ActD) : Decidable x.small := by unfold ActD.small; exact inferInstance
def Sm.allSmall (xs : List ActD) : Prop := ∀ x ∈ xs, x.small
instance Sm.allSmallDec (xs : List ActD) : Decidable (allSmall xs) := by unfold allSmall; exact inferInstance
theorem Sm.ActD.came.below {x : ActD} {w w' : World} (h : x.came w) (hb : Below w.heap.size w w') : x.came w' := ⟨h.len, h.rd.but (But.of_all hb (fun _ => False)) (fun _ => id)⟩
theorem Sm.RdActs.below {w w' : World} {A : Option Addr} {xs : List ActD} (h : RdActs w A xs) (hb : Below w.heap.size w w') : RdActs w' A xs := fun hn => by
  obtain ⟨b, off, rfl, hlt, hc⟩ := h hn
  refine ⟨b, off, rfl, Nat.lt_of_lt_of_le hlt hb.size, fun j x hj => ?_⟩
  obtain ⟨h0, h1, h2, h3⟩ := hc j x hj
  exact ⟨(hb.cell (p := ⟨b, _, none⟩) hlt).trans h0, (hb.cell (p := ⟨b, _, none⟩) hlt).trans h1, (hb.cell (p := ⟨b, _, none⟩) hlt).trans h2, (hb.cell (p := ⟨b, _, none⟩) hlt).trans h3⟩
/-- one of them -/
theorem Sm.RdActs.at {w : World} {A : Option Addr} {xs : List ActD} (h : RdActs w A xs) {k : Nat} (hk : k < xs.length) : ∃ b off, A = some ⟨b, off, none⟩ ∧ b < w.heap.size ∧ w.cell? ⟨b, off + k * 4, none⟩ = some (.int .i64 xs[k].what) ∧ w.cell? ⟨b, off + k * 4 + 1, none⟩ = some (.slice xs[k].A xs[k].n xs[k].c) ∧ w.cell? ⟨b, off + k * 4 + 2, none⟩ = some (.string xs[k].s) ∧ w.cell? ⟨b, off + k * 4 + 3, none⟩ = some (.bool xs[k].b) := by
  obtain ⟨b, off, rfl, hlt, hc⟩ := h (by omega)
  exact ⟨b, off, rfl, hlt, hc k _ (List.getElem?_eq_getElem hk)⟩
/-- are they few enough? -/
def Sm.fewB (xs : List ActD) : Bool := decide (allSmall xs ∧ xs.length ≤ 40)
set_option maxRecDepth 100000 in
set_option maxHeartbeats 4000000 in
theorem Sm.few_yes (A : Option Addr) (n c : Nat) (xs : List ActD) (w : World) (hr : RdActs w A xs) (hn : xs.length = n) (hm : n ≤ 9223372036854775807) (hs : allSmall xs) : Calls Tryd.prog 11 #[.slice A n c] w fun e w' => e = .returned (.bool (decide ((n : Int) ≤ 40))) ∧ w = w' := by
  go_enter Tryd.func11, Tryd.ntmps11
  go_wp2
  go_loopw [3] (fun vi wr => ∃ k : Nat, k ≤ n ∧ vi = .int .i64 (k : Int) ∧ w = wr) (fun vi _ => n - (intOf vi).toNat)
  case atStart => exact ⟨0, Nat.zero_le _, rfl, rfl⟩
  case round =>
    obtain ⟨k, hk, rfl, rfl⟩ := hrel
    by_cases hlt : k < n
    · obtain ⟨b, off, rfl, _, c0, c1, c2, c3⟩ := hr.at (k := k) (by omega)
      obtain ⟨s1, s2⟩ := hs _ (List.getElem_mem (show k < xs.length by omega))
      go_wp2
      go_roundw
      case rel => exact ⟨k + 1, by omega, by go_num, trivial⟩
      case measure => simp [intOf]; omega
    · go_wp2
      go_ret
      exact ⟨rfl, rfl⟩
set_option maxRecDepth 100000 in
set_option maxHeartbeats 4000000 in
theorem Sm.few_no (A : Option Addr) (n c : Nat) (xs : List ActD) (w : World) (hr : RdActs w A xs) (hn : xs.length = n) (hm : n ≤ 9223372036854775807) (hs : ¬ allSmall xs) : Calls Tryd.prog 11 #[.slice A n c] w fun e w' => e = .returned (.bool false) ∧ w = w' := by
  go_enter Tryd.func11, Tryd.ntmps11
  go_wp2
  go_loopw [3] (fun vi wr => ∃ k : Nat, k ≤ n ∧ vi = .int .i64 (k : Int) ∧ w = wr ∧ Hid (allSmall (xs.take k))) (fun vi _ => n - (intOf vi).toNat)
  case atStart => exact ⟨0, Nat.zero_le _, rfl, rfl, Lib.hid (by unfold allSmall; simp)⟩
  case round =>
    obtain ⟨k, hk, rfl, rfl, HA⟩ := hrel
    by_cases hlt : k < n
    · obtain ⟨b, off, rfl, _, c0, c1, c2, c3⟩ := hr.at (k := k) (by omega)
      have htk : xs.take (k + 1) = xs.take k ++ [xs[k]'(by omega)] := by rw [List.take_succ_eq_append_getElem (by omega)]
      obtain ⟨y, hy⟩ : ∃ y, xs[k]'(by omega) = y := ⟨_, rfl⟩
      rw [hy] at c0 c1 c2 c3 htk
      have HT := Lib.hid htk
      clear htk hy
      by_cases h1 : y.n ≤ 20
      · by_cases h2 : y.s.size ≤ 200
        · go_wp2
          go_roundw
          case rel =>
            refine ⟨k + 1, by omega, by go_num, trivial, Lib.hid ?_⟩
            rw [HT.out]
            intro z hz
            rcases List.mem_append.1 hz with hz | hz
            · exact HA.out z hz
            · simp at hz; subst hz; exact ⟨h1, h2⟩
          case measure => simp [intOf]; omega
        · go_wp2
          go_ret
          exact ⟨rfl, rfl⟩
      · go_wp2
        go_ret
        exact ⟨rfl, rfl⟩
    · exfalso
      have := HA.out
      rw [List.take_of_length_le (by omega)] at this
      exact hs this
theorem Sm.few_any (A : Option Addr) (n c : Nat) (xs : List ActD) (w : World) (hr : RdActs w A xs) (hn : xs.length = n) (hm : n ≤ 9223372036854775807) : Calls Tryd.prog 11 #[.slice A n c] w fun e w' => e = .returned (.bool (fewB xs)) ∧ w = w' := by
  by_cases hs : allSmall xs
  · have : fewB xs = decide ((n : Int) ≤ 40) := by
      unfold fewB
      by_cases h : n ≤ 40
      · rw [decide_eq_true ⟨hs, by omega⟩, decide_eq_true (by omega)]
      · rw [decide_eq_false (fun e => by have := e.2; omega), decide_eq_false (by omega)]
    rw [this]
    exact few_yes A n c xs w hr hn hm hs
  · have : fewB xs = false := decide_eq_false (fun e => hs e.1)
    rw [this]
    exact few_no A n c xs w hr hn hm hs
/-- what few says of each -/
theorem Sm.few_ok {xs : List ActD} {w : World} (h : fewB xs = true) (hc : ∀ x ∈ xs, ActD.came x w) : xs.length ≤ 40 ∧ ∀ x ∈ xs, ActD.ok x w := by
  obtain ⟨h1, h2⟩ := of_decide_eq_true h
  exact ⟨h2, fun x hx => ⟨(hc x hx).len, (h1 x hx).1, (hc x hx).rd, (h1 x hx).2⟩⟩
end Go.Proofs
namespace Go.Proofs
open Go.RowKit Go.Shelf Sm
attribute [local go_sem ↓] Go.wp_at_zero Go.wp_at_succ
/-- the bytes of calls -/
def Sm.layL (xs : List ActD) : List (BitVec 8) := xs.flatMap fun x => x.laid.1
theorem Sm.layL_snoc {xs : List ActD} {k : Nat} (hk : k < xs.length) : layL (xs.take (k + 1)) = layL (xs.take k) ++ xs[k].laid.1 := by
  unfold layL
  rw [List.take_succ_eq_append_getElem hk, List.flatMap_append]
  simp
theorem Sm.layL_len {w : World} : ∀ (xs : List ActD), (∀ x ∈ xs, ActD.ok x w) → (layL xs).length ≤ 300 * xs.length
  | [], _ => by simp [layL]
  | x :: r, h => by
    have h1 := ActD.laid_len (h x (by simp))
    have h2 := layL_len r (fun y hy => h y (by simp [hy]))
    unfold layL at *
    rw [List.flatMap_cons, List.length_append, List.length_cons]
    omega
theorem Sm.layL_take {w : World} {xs : List ActD} (h : ∀ x ∈ xs, ActD.ok x w) (hx : xs.length ≤ 40) (k : Nat) : (layL (xs.take k)).length ≤ 12000 := by
  have h1 := layL_len (xs.take k) (fun x hx => h x (List.mem_of_mem_take hx))
  have h2 : (xs.take k).length ≤ xs.length := by rw [List.length_take]; omega
  omega
/-- how writer and wanted bytes stand -/
structure Sm.LaysAt (w wr : World) (v vw : Value) (L : List (BitVec 8)) : Prop where
  wr_ : Wr wr w.heap.size v L
  apart : ∀ g, vw.ownBlock = some g → v.ownBlock ≠ some g
  row : wr.ownsRow (w.heap.size + 1) 5 1 vw L.length (L.map byteCell)
  below : Below w.heap.size w wr
theorem Sm.row_block {w : World} {base : Nat} {e : TypeId} {size n : Nat} {v : Value} {xs : List Value} (h : w.ownsRow base e size v n xs) : ∀ g, v.ownBlock = some g → base ≤ g ∧ g < w.heap.size := fun g hg => h.lt g hg
theorem Sm.LaysAt.on {w wr w' : World} {v vw : Value} {L : List (BitVec 8)} (h : LaysAt w wr v vw L) (hb : Below wr.heap.size wr w') : LaysAt w w' v vw L :=
  ⟨h.wr_.below hb, h.apart, own_below h.row hb, h.below.trans (hb.mono h.below.size)⟩
theorem Sm.LaysAt.set {w wr : World} {v vw : Value} {L : List (BitVec 8)} (h : LaysAt w wr v vw L) {g : Nat} (hg : w.heap.size < g) (h1 : v.ownBlock ≠ some g) (h2 : vw.ownBlock ≠ some g) (i : Nat) (u : Value) : LaysAt w (wr.setCell ⟨g, i, none⟩ u) v vw L := by
  have hbut : But (fun b => b = g) wr (wr.setCell ⟨g, i, none⟩ u) := (But.refl _ wr).set ⟨g, i, none⟩ u (.inl rfl)
  refine ⟨h.wr_.but hbut (fun e => ?_) (fun q hq e => ?_), h.apart, hbut.row h.row (fun q hq e => ?_), h.below.trans (hbut.to_below (n := w.heap.size) h.below.size (fun b e => ?_))⟩
  · omega
  · subst e; exact h1 hq
  · subst e; exact h2 hq
  · omega
/-- a call that was laid: the wanted bytes stand, and so do those of the call -/
theorem Sm.LaysAt.lay {w w1 w2 : World} {v v' vw : Value} {L : List (BitVec 8)} (h : LaysAt w w1 v vw L) (hg : WrGo w.heap.size v v' w1 w2) :
    w2.ownsRow (w.heap.size + 1) 5 1 vw L.length (L.map byteCell) ∧ Below w.heap.size w w2 ∧ (∀ g, vw.ownBlock = some g → v'.ownBlock ≠ some g) ∧
      (∀ (base : Nat) (u : Value) (m : Nat) (ys : List (BitVec 8)), w1.ownsRow base 5 1 u m (ys.map byteCell) → w.heap.size < base → (∀ g, v.ownBlock = some g → g < base) → w2.ownsRow base 5 1 u m (ys.map byteCell)) := by
  have hblk := h.wr_.block
  refine ⟨hg.but.row h.row (fun g e => ?_), h.below.trans (hg.but.to_below (n := w.heap.size) h.below.size (fun b e => ?_)), fun g e e' => ?_, fun base u m ys hu h1 h2 => hg.but.row hu (fun g e => ?_)⟩
  · rintro (rfl | h')
    · have := (row_block h.row _ e).1; omega
    · exact h.apart g e h'
  · rcases e with rfl | e
    · omega
    · have := (hblk b e).1; omega
  · have h1 := row_block h.row g e
    rcases hg.row with h2 | h2
    · exact h.apart g e (h2 ▸ e')
    · have := h2 g e'; omega
  · have h3 := (row_block hu g e).1
    rintro (rfl | h')
    · omega
    · have := h2 g h'; omega
theorem Sm.lays_push {w w2 w3 : World} {v' vw v3 : Value} {L l LL : List (BitVec 8)} (hLL : L ++ l = LL) (hl : Wr w2 w.heap.size v' LL) (hr : w2.ownsRow (w.heap.size + 1) 5 1 vw L.length (L.map byteCell)) (hb : Below w.heap.size w w2) (hn : ∀ g, vw.ownBlock = some g → v'.ownBlock ≠ some g)
    (h3 : w3.ownsRow (w.heap.size + 1) 5 1 v3 LL.length (L.map byteCell ++ l.map byteCell)) (hg : w2.grownBy w3 vw.ownBlock) (ha : v3.ownBlock = vw.ownBlock ∨ v3.ownBlock = some w2.heap.size) : LaysAt w w3 v' v3 LL := by
  subst hLL
  have hblk := hl.block
  have hlt := hl.lt
  refine ⟨hl.but (But.grown hg) ?_ ?_, fun g e e' => ?_, by rw [List.map_append]; exact h3, hb.trans ((But.grown hg).to_below (n := w.heap.size) hb.size (fun b e => ?_))⟩
  · intro e; have := (row_block hr _ e).1; omega
  · intro g e e'; exact hn g e' e
  · rcases ha with h | h
    · exact hn g (h ▸ e) e'
    · rw [h] at e; cases e; have := (hblk _ e').2; omega
  · have := (row_block hr _ e).1; omega
theorem Sm.NoWr.on {w w' : World} {v : Value} (h : NoWr w v) (hb : Below w.heap.size w w') : NoWr w' v := by
  rcases h with h | ⟨B, h, hc⟩
  · exact .inl h
  · exact .inr ⟨B, h, (hb.cell (p := ⟨B, 1, none⟩) (World.block_lt_of_cell? w _ hc)).trans hc⟩
set_option maxRecDepth 100000 in
set_option maxHeartbeats 4000000 in
theorem Sm.lays_walk (A : Option Addr) (n c : Nat) (xs : List ActD) (w : World) (hn : xs.length = n) (hm : n ≤ 9223372036854775807) (hr : RdActs w A xs) (hc : ∀ x ∈ xs, ActD.came x w) (ht : Tab w) :
    Calls Tryd.prog 3 #[.slice A n c] w fun e w' => e = .returned (.bool true) ∧ Below w.heap.size w w' := by
  obtain ⟨i0, hi, hz0, hz1, hz2⟩ := info_parts info5
  have hcf := few_any A n c xs w hr hn hm
  by_cases hf : fewB xs = true
  · rw [hf] at hcf
    obtain ⟨h40, hok⟩ := few_ok hf hc
    have HOK := Lib.hid hok
    have HLEN := Lib.hid (layL_take hok h40)
    clear hok hc hf
    have h40n : n ≤ 40 := by omega
    have hw0 : LaysAt w (w.alloc (.cells #[.slice none 0 0, .bool true] 38)) (.slice none 0 0) (.slice none 0 0) (layL (xs.take 0)) :=
      ⟨Wr.new w, fun g e => by simp [Value.ownBlock] at e, World.ownsRow_nil _ _ _ _, (Below.refl _ _).alloc (Nat.le_refl _) _⟩
    have HW0 := Lib.hid hw0
    clear hw0
    have HN := Lib.hid hn
    clear hn
    go_enter Tryd.func3, Tryd.ntmps3
    go_wp2_with (first
      | (go_at_call 11; (with_reducible refine hcf.mono ?_); rintro e w' ⟨rfl, rfl⟩)
      | (go_at_call 13; (with_reducible refine (New_any _).mono ?_); rintro e w' ⟨rfl, rfl⟩))
    clear hcf
    go_loopw [4, 5] (fun vw vi wr => ∃ (k : Nat) (v : Value), k ≤ n ∧ vi = .int .i64 (k : Int) ∧ Hid (LaysAt w wr v vw (layL (xs.take k))))
      (fun _ vi _ => n - (intOf vi).toNat)
    case atStart => exact ⟨0, _, Nat.zero_le _, rfl, HW0⟩
    case round =>
      obtain ⟨k, v, hk, rfl, HA⟩ := hrel
      clear HW0
      by_cases hlt : k < n
      · have hkx : k < xs.length := by have := HN.out; omega
        obtain ⟨x, hxe⟩ : ∃ x, x = xs[k] := ⟨_, rfl⟩
        have hxok : x.ok w := by rw [hxe]; exact HOK.out _ (List.getElem_mem _)
        obtain ⟨b, off, rfl, hbw, c0, c1, c2, c3⟩ := hr.at hkx
        rw [← hxe] at c0 c1 c2 c3
        obtain ⟨l, no, hL⟩ : ∃ l no, x.laid = (l, no) := ⟨_, _, rfl⟩
        have hsn := layL_snoc hkx
        rw [← hxe, hL] at hsn
        obtain ⟨L, hLk⟩ : ∃ L, layL (xs.take k) = L := ⟨_, rfl⟩
        have hLl : L.length ≤ 12000 := by rw [← hLk]; exact HLEN.out k
        have hLl2 : (L ++ l).length ≤ 12000 := by rw [← hLk, ← hsn]; exact HLEN.out (k + 1)
        rw [hLk] at hsn HA
        obtain ⟨LL, hLL⟩ : ∃ LL, L ++ l = LL := ⟨_, rfl⟩
        rw [hLL] at hsn hLl2
        have hMM : Hid (L.length + l.length = LL.length) := Lib.hid (by rw [← hLL, List.length_append])
        have HLL := Lib.hid hLL
        have HSN := Lib.hid hsn
        have hlaid : Calls Tryd.prog 14 #[.agg #[.int .i64 x.what, .slice x.A x.n x.c, .string x.s, .bool x.b]] wr fun e w1 => ∃ A1 c1, e = .returned (.tuple #[.slice A1 l.length c1, .int .i64 no]) ∧ w1.ownsRow wr.heap.size 5 1 (.slice A1 l.length c1) l.length (l.map byteCell) ∧ Below wr.heap.size wr w1 := by
          refine (laid_any x wr (hxok.below HA.out.below)).mono ?_
          rintro e w1 ⟨⟨v1, rfl, h1⟩, h2⟩
          rw [hL] at h1 ⊢
          obtain ⟨A1, c1, rfl⟩ := own_slice h1
          exact ⟨A1, c1, rfl, h1, h2⟩
        have hwlt : w.heap.size < wr.heap.size := HA.out.wr_.lt
        have hlay : ∀ w1, Below wr.heap.size wr w1 → Calls Tryd.prog 16 #[.pointer (some ⟨w.heap.size, 0, none⟩), .agg #[.int .i64 x.what, .slice x.A x.n x.c, .string x.s, .bool x.b]] w1 fun e w2 => e = .returned (.int .i64 no) ∧ ∃ v', Wr w2 w.heap.size v' LL ∧ WrGo w.heap.size v v' w1 w2 := fun w1 hb1 => by
          have h := layA_any w w1 (HA.out.on hb1).wr_ (by omega) (HA.out.on hb1).below (Nat.le_refl _) x hxok
          refine h.mono ?_
          rintro e w2 ⟨h1, h2⟩
          rw [hL] at h1 h2
          rw [hLL] at h2
          exact ⟨h1, h2⟩
        have hbr : b < wr.heap.size := Nat.lt_of_lt_of_le hbw HA.out.below.size
        have e0 : wr.cell? ⟨b, off + k * 4, none⟩ = some (.int .i64 x.what) := (HA.out.below.cell (p := ⟨b, off + k * 4, none⟩) hbw).trans c0
        have e1 : wr.cell? ⟨b, off + k * 4 + 1, none⟩ = some (.slice x.A x.n x.c) := (HA.out.below.cell (p := ⟨b, off + k * 4 + 1, none⟩) hbw).trans c1
        have e2 : wr.cell? ⟨b, off + k * 4 + 2, none⟩ = some (.string x.s) := (HA.out.below.cell (p := ⟨b, off + k * 4 + 2, none⟩) hbw).trans c2
        have e3 : wr.cell? ⟨b, off + k * 4 + 3, none⟩ = some (.bool x.b) := (HA.out.below.cell (p := ⟨b, off + k * 4 + 3, none⟩) hbw).trans c3
        have HVB : Hid (∀ g, v.ownBlock = some g → g < wr.heap.size) := Lib.hid fun g hg => (HA.out.wr_.block g hg).2
        clear c0 c1 c2 c3 hxok hL hsn hxe hLk hkx hLL
        go_wp2_with (first
          | (go_at_call 14; (with_reducible refine hlaid.mono ?_); clear hlaid; rintro e w1 ⟨A1, cc1, rfl, hown1, hb1⟩; have d0 := (hb1.cell (p := ⟨b, off + k * 4, none⟩) hbr).trans e0; have d1 := (hb1.cell (p := ⟨b, off + k * 4 + 1, none⟩) hbr).trans e1; have d2 := (hb1.cell (p := ⟨b, off + k * 4 + 2, none⟩) hbr).trans e2; have d3 := (hb1.cell (p := ⟨b, off + k * 4 + 3, none⟩) hbr).trans e3)
          | (go_at_call 16; (with_reducible refine (hlay w1 hb1).mono ?_); clear hlay; rintro e w2 ⟨rfl, v', hW2, hG2⟩; clear d0 d1 d2 d3 e0 e1 e2 e3; obtain ⟨hrow2, hb2, hn2, hoth⟩ := (HA.out.on hb1).lay hG2; have hrd2 : Rd w2 w2.heap.size A1 l := Rd.of_own (hoth _ _ _ _ hown1 hwlt HVB.out) (Nat.le_refl _); have hlt2 : w.heap.size + 1 ≤ w2.heap.size := hW2.lt; have Hoth := Lib.hid hn2; clear hoth hn2 hG2 hown1)
          | (go_at_call 15; (with_reducible refine (num_any _ _).mono ?_); rintro e w' ⟨rfl, rfl⟩)
          | (at_builtin; refine wpList_append_rd _ rfl (.tmp 39) (.tmp 40) 27 rfl (w.heap.size + 1) 5 i0 _ Tryd.underlying27 hi hz0 hz1 hz2 rfl _ L.length (L.map byteCell) rfl hrow2 w2.heap.size A1 l.length cc1 l rfl rfl hrd2 ?_ hlt2 ?_; (have := hMM.out; omega); intro v3 w3 h3 hg3 ha3; rw [hMM.out] at h3; have hA3 := lays_push HLL.out hW2 hrow2 hb2 Hoth.out h3 hg3 ha3; clear h3 hg3 ha3 hrow2 hb2 hrd2; have h3 := hA3.row; obtain ⟨A3, c3, rfl⟩ := own_slice h3)
          | (go_at_call 17; (with_reducible refine (All_any w3 hA3.wr_ (by omega)).mono ?_); rintro e w4 ⟨u, rfl, hu, hbu⟩; obtain ⟨A4, c4, rfl⟩ := own_slice hu; have hst4 := run_str (P := Tryd.prog) w4 27 5 Tryd.underlying27 Tryd.underlying5 LL LL.length c4 w4.heap.size A4 rfl (Rd.of_own hu (Nat.le_refl _)) 9 Tryd.underlying9; have hst3 := run_str (P := Tryd.prog) w4 27 5 Tryd.underlying27 Tryd.underlying5 LL LL.length c3 w4.heap.size A3 rfl (Rd.of_own (own_below h3 hbu) (Nat.le_refl _)) 9 Tryd.underlying9))
        clear hst3 hst4
        have HA4 := Lib.hid (hA3.on hbu)
        have h31 : w.heap.size < w3.heap.size := hA3.wr_.lt
        have H3v : Hid (∀ g, v'.ownBlock = some g → g < w3.heap.size) := Lib.hid fun g hg => (hA3.wr_.block g hg).2
        have H3w : Hid (∀ g, (Value.slice A3 LL.length c3).ownBlock = some g → g < w3.heap.size) := Lib.hid fun g hg => (row_block hA3.row g hg).2
        have HU := Lib.hid hu
        clear hu hbu hA3 h3 hW2 hb1 hwlt hlt2 HVB Hoth HA
        go_loopw [9] (fun vi wx => ∃ (j : Nat) (ys : List (BitVec 8)), j ≤ LL.length ∧ vi = .int .i64 (j : Int) ∧ Hid (ys.length = LL.length ∧ wx.ownsRow w3.heap.size 5 1 (.slice A4 LL.length c4) LL.length (ys.map byteCell)) ∧ Hid (LaysAt w wx v' (.slice A3 LL.length c3) LL))
          (fun vi _ => LL.length - (intOf vi).toNat)
        case atStart => exact ⟨0, LL, Nat.zero_le _, rfl, Lib.hid ⟨rfl, HU.out⟩, HA4⟩
        case round =>
          obtain ⟨j, ys, hj, rfl, HY, HX⟩ := hrel
          clear HU HA4
          by_cases hlj : j < LL.length
          · obtain ⟨g, cap, e, hg3, hgl, hcap⟩ := own_form HY.out.2 (by omega)
            injection e with e1 e2 e3
            subst e1
            have hky : j < ys.length := by have := HY.out.1; omega
            have ho1 := HY.out.2
            have hcell : wr.cell? ⟨g, j, none⟩ = some (.int .u8 (ib ys[j])) := by
              rw [ho1.cellAt j (by omega), List.getElem?_map, List.getElem?_eq_getElem hky]
              rfl
            have hfr : wr.frozen? ⟨g, j, none⟩ = false := ho1.frozenAt j
            obtain ⟨y, hy⟩ : ∃ y, y = ys[j] := ⟨_, rfl⟩
            rw [← hy] at hcell
            have HST := Lib.hid (own_set ho1 j (y + 1#8))
            have hinc := byte_inc y
            have hy0 := ib_lo y
            have hy1 := ib_hi y
            have HZ := Lib.hid (HX.out.set (g := g) (by omega) (fun e => by have := H3v.out g e; omega) (fun e => by have := H3w.out g e; omega) j (.int .u8 (ib (y + 1#8))))
            clear hy hky ho1 e2 e3
            go_wp2
            go_roundw
            case rel => exact ⟨j + 1, ys.set j (y + 1#8), by omega, by go_num, Lib.hid ⟨by rw [List.length_set]; exact HY.out.1, HST.out.1⟩, HZ⟩
            case measure => simp [intOf]; omega
          · obtain rfl : j = LL.length := by omega
            clear HY
            go_wp2
            go_roundw
            case rel => exact ⟨k + 1, v', by omega, by go_num, by rw [HSN.out]; exact HX⟩
            case measure => simp [intOf]; omega
      · obtain rfl : k = n := by omega
        obtain ⟨L, hLk⟩ : ∃ L, layL (xs.take k) = L := ⟨_, rfl⟩
        have hLl : L.length ≤ 12000 := by rw [← hLk]; exact HLEN.out k
        rw [hLk] at HA
        obtain ⟨Aw, cw, rfl⟩ := own_slice HA.out.row
        clear hLk
        have hpar : ∃ wz pv, (LaysAt w wz v (.slice Aw L.length cw) L ∧ NoWr wz pv) ∧ ((k % 2 = 1 ∧ wz = wr.alloc (.cells #[.slice none 0 0, .bool false] 38) ∧ pv = .pointer (some ⟨wr.heap.size, 0, none⟩)) ∨ (¬ k % 2 = 1 ∧ wz = wr ∧ pv = .pointer none)) := by
          by_cases hp : k % 2 = 1
          · exact ⟨_, _, ⟨HA.out.on ((Below.refl _ _).alloc (Nat.le_refl _) _), .inr ⟨wr.heap.size, rfl, World.cell?_alloc_new (w := wr) #[.slice none 0 0, .bool false] 38 1⟩⟩, .inl ⟨hp, rfl, rfl⟩⟩
          · exact ⟨_, _, ⟨HA.out, .inl rfl⟩, .inr ⟨hp, rfl, rfl⟩⟩
        obtain ⟨wz, pv, ⟨HZ, hno⟩, hpar⟩ := hpar
        have hD : Below wz.heap.size wz wz.drew := (Below.refl _ _).drew
        have hS : ∀ wx, Below wz.heap.size wz wx → (convert 27 9 (.slice Aw L.length cw)).run Tryd.prog wx = .ok (.string (strB L)) wx := fun wx hx =>
          run_str wx 27 5 Tryd.underlying27 Tryd.underlying5 L L.length cw wz.heap.size Aw rfl ((Rd.of_own HZ.row (Nat.le_refl _) : Rd wz wz.heap.size _ _).below hx) 9 Tryd.underlying9
        have hall : Calls Tryd.prog 17 #[.pointer (some ⟨w.heap.size, 0, none⟩)] wz.drew fun e w7 => ∃ A7 c7, e = .returned (.slice A7 L.length c7) ∧ (convert 27 9 (.slice A7 L.length c7)).run Tryd.prog w7 = .ok (.string (strB L)) w7 ∧ (convert 27 9 (.slice Aw L.length cw)).run Tryd.prog w7 = .ok (.string (strB L)) w7 ∧
            Below wz.heap.size wz (w7.alloc (.cells #[.int .i64 1] 2)) ∧ (convert 27 9 (.slice Aw L.length cw)).run Tryd.prog (w7.alloc (.cells #[.int .i64 1] 2)) = .ok (.string (strB L)) (w7.alloc (.cells #[.int .i64 1] 2)) := by
          refine (All_any _ (HZ.on hD).wr_ (by omega)).mono ?_
          rintro e w7 ⟨u, rfl, hu, hb⟩
          obtain ⟨A7, c7, rfl⟩ := own_slice hu
          have hb7 : Below wz.heap.size wz w7 := hD.trans (hb.mono hD.size)
          have hb8 : Below wz.heap.size wz (w7.alloc (.cells #[.int .i64 1] 2)) := hb7.alloc hb7.size _
          exact ⟨A7, c7, rfl, run_str w7 27 5 Tryd.underlying27 Tryd.underlying5 L L.length c7 w7.heap.size A7 rfl (Rd.of_own hu (Nat.le_refl _)) 9 Tryd.underlying9, hS _ hb7, hb8, hS _ hb8⟩
        have h18 : ∀ wx u, Below wz.heap.size wz wx → Calls Tryd.prog 18 #[pv, u] wx fun e w' => e = .returned (.int .i64 1) ∧ wx = w' := fun wx u hb => WNumber_no wx pv (hno.on hb) u
        have h19 : ∀ wx u, Below wz.heap.size wz wx → Calls Tryd.prog 19 #[pv, u] wx fun e w' => e = .returned (.int .i64 1) ∧ wx = w' := fun wx u hb => WText_no wx pv (hno.on hb) u
        have h20 : ∀ wx b, Below wz.heap.size wz wx → Calls Tryd.prog 20 #[pv, .bool b] wx fun e w' => e = .returned (.int .i64 1) ∧ Below wz.heap.size wz w' ∧ (convert 27 9 (.slice Aw L.length cw)).run Tryd.prog w' = .ok (.string (strB L)) w' := fun wx b hb => (WTruth_no wx pv (hno.on hb) b).mono fun e w' ⟨h1, h2⟩ => ⟨h1, hb.trans (h2.mono hb.size), hS _ (hb.trans (h2.mono hb.size))⟩
        have h17 : ∀ wx, Below wz.heap.size wz wx → Calls Tryd.prog 17 #[pv] wx fun e w' => e = .returned (.slice none 0 0) ∧ wx = w' := fun wx hb => All_no wx pv (hno.on hb)
        have h12 : ∀ wx, Below wz.heap.size wz wx → Calls Tryd.prog 12 #[] wx fun e w' => e = .returned (.bool true) ∧ Below w.heap.size w w' ∧ (convert 27 9 (.slice Aw L.length cw)).run Tryd.prog w' = .ok (.string (strB L)) w' := fun wx hb => by
          have hbz := HZ.below.trans (hb.mono HZ.below.size)
          refine (works_any wx (ht.belowTo hbz ht.1)).mono ?_
          rintro e w' ⟨h1, h2⟩
          exact ⟨h1, hbz.trans (h2.mono hbz.size), hS _ (hb.trans (h2.mono hb.size))⟩
        have sD := hS _ hD
        clear hS hD hno HZ HA ht
        rcases hpar with ⟨hp, rfl, rfl⟩ | ⟨hp, rfl, rfl⟩
        · have p1 : ((k : Int) % 2 == 1) = true := by simp; omega
          go_wp2_with fail
          clear p1
          go_region_held_law (fun wx => (convert 27 9 (.slice Aw L.length cw)).run Tryd.prog wx = .ok (.string (strB L)) wx) (first | exact s10 | exact s9 | exact s8 | exact s7 | exact sD) (first
            | (go_at_call 17; (with_reducible refine hall.mono ?_); clear hall; rintro e w7 ⟨A7, c7, rfl, t7, s7, hb8, s8⟩)
            | (go_at_call 18; (with_reducible refine (h18 _ _ hb8).mono ?_); rintro e w' ⟨rfl, rfl⟩)
            | (go_at_call 19; (with_reducible refine (h19 _ _ hb8).mono ?_); rintro e w' ⟨rfl, rfl⟩)
            | (go_at_call 20; (with_reducible refine (h20 _ _ hb8).mono ?_); rintro e w9 ⟨rfl, hb9, s9⟩)
            | (go_at_call 17; (with_reducible refine (h17 _ hb9).mono ?_); rintro e w' ⟨rfl, rfl⟩)
            | (go_at_call 15; (with_reducible refine (num_any _ _).mono ?_); rintro e w' ⟨rfl, rfl⟩)
            | (go_at_call 12; (with_reducible refine (h12 _ hb9).mono ?_); rintro e w10 ⟨rfl, hb10, s10⟩))
          go_wp2
          go_ret
          exact ⟨rfl, hb10⟩
        · have p1 : ((k : Int) % 2 == 1) = false := by simp; omega
          go_wp2_with fail
          clear p1
          go_region_held_law (fun wx => (convert 27 9 (.slice Aw L.length cw)).run Tryd.prog wx = .ok (.string (strB L)) wx) (first | exact s10 | exact s9 | exact s8 | exact s7 | exact sD) (first
            | (go_at_call 17; (with_reducible refine hall.mono ?_); clear hall; rintro e w7 ⟨A7, c7, rfl, t7, s7, hb8, s8⟩)
            | (go_at_call 18; (with_reducible refine (h18 _ _ hb8).mono ?_); rintro e w' ⟨rfl, rfl⟩)
            | (go_at_call 19; (with_reducible refine (h19 _ _ hb8).mono ?_); rintro e w' ⟨rfl, rfl⟩)
            | (go_at_call 20; (with_reducible refine (h20 _ _ hb8).mono ?_); rintro e w9 ⟨rfl, hb9, s9⟩)
            | (go_at_call 17; (with_reducible refine (h17 _ hb9).mono ?_); rintro e w' ⟨rfl, rfl⟩)
            | (go_at_call 15; (with_reducible refine (num_any _ _).mono ?_); rintro e w' ⟨rfl, rfl⟩)
            | (go_at_call 12; (with_reducible refine (h12 _ hb9).mono ?_); rintro e w10 ⟨rfl, hb10, s10⟩))
          go_wp2
          go_ret
          exact ⟨rfl, hb10⟩
  · have hff : fewB xs = false := by simpa using hf
    rw [hff] at hcf
    have hb := Below.refl w.heap.size w
    clear hf hff hc hr
    go_enter Tryd.func3, Tryd.ntmps3
    go_wp2_with (first
      | (go_at_call 11; (with_reducible refine hcf.mono ?_); rintro e w' ⟨rfl, rfl⟩)
      | (go_at_call 12; (with_reducible refine (works_from hb ht).mono ?_); clear hb; rintro e w1 ⟨rfl, hb⟩))
    go_ret
    exact ⟨rfl, hb⟩
end Go.Proofs
