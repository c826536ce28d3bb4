/-
  What was laid is read back by the same call. Conditions: numbers that may be laid, texts of at most 1000 bytes.
  Frames one behind the other, cut off at a place: which are told, and where each one ends. Condition: texts of at most 100 bytes.
  The calls that were not refused: their bytes are those of all, and where their fields lie in a row. No condition.
  What stands while calls are laid and read back, and frames put together: rows of calls and of ends. No condition but what each theorem names.
  Opening of texts that came in. Conditions: what the frame says of an argument that can be read.
  The walk of the law WireBack: at every readable calls, texts and place it returns true and nothing that lay has turned, where the table lies in memory.
-/
import Derived.Test.YteeponciegmlcaaDoorM1
import Derived.Test.YteeponciegmlcaaDoorFrE
import Derived.Test.YteeponciegmlcaaDoorRdH
import Derived.Test.YteeponciegmlcaaDoorLawV
import Derived.Maps.AppendAt
import Derived.SliceStrings
import Derived.Test.YteeponciegmlcaaDoorOpen
import Derived.Deep.RegionHeldLaw
import Derived.Deep.RegionWith
import Derived.Deep.DrawnRows
import Derived.Deep.DeepCutAuto
import Derived.Deep.CutRange
import Derived.Deep.QuietTactic
import Derived.BigQuiet
namespace Go.Proofs
open Go.RowKit Go.Shelf Sm
theorem Sm.numS_back {n : Int} (h : okN n) (r : List (BitVec 8)) : numS (numB n.toNat ++ r) 0 4611686018427387904 = (r, 0, n, 0) := by
  have hg := getN_numB (numB_top h) r
  have h1 := h.1
  have h2 := h.2
  unfold numS
  rw [if_neg (by omega), if_neg (by omega), hg]
  simp only
  rw [if_pos (by omega), drop_numB]
  simp
  omega
theorem Sm.textS_back (s : ByteArray) (h : s.size ≤ 1000) (r : List (BitVec 8)) : textS (textB s ++ r) 0 1000 = (r, 0, strL s, 0) := by
  have hg := getN_numB (n := s.size) (by unfold top; omega) (strL s ++ r)
  have hl := strL_length s
  unfold textS textB
  rw [if_neg (by omega), if_neg (by omega), List.append_assoc, hg]
  simp only
  have h1 : (numB s.size ++ (strL s ++ r)).length - (numB s.size).length = s.size + r.length := by
    rw [List.length_append, List.length_append, hl]
    omega
  rw [if_pos ⟨by omega, by omega⟩, drop_numB]
  have h2 : ((strL s ++ r).drop s.size) = r := by rw [← hl]; simp
  have h3 : ((strL s ++ r).take s.size) = strL s := by rw [← hl]; simp
  rw [h2, h3]
theorem Sm.truthS_back (b : Bool) (r : List (BitVec 8)) : truthS (truthB b ++ r) 0 = (r, 0, b, 0) := by
  have h0 := getN_numB (n := 0) (by unfold top; omega) r
  have h1 := getN_numB (n := 1) (by unfold top; omega) r
  have e0 : numB 0 = [0#8] := by decide +kernel
  have e1 : numB 1 = [1#8] := by decide +kernel
  rw [e0] at h0
  rw [e1] at h1
  unfold truthS truthB
  cases b
  · simp at h0 ⊢
    simp [h0]
  · simp at h1 ⊢
    simp [h1]
theorem Sm.numsB_drop {ns : List Int} {k : Nat} (hk : k < ns.length) : numsB (ns.drop k) = numB (ns[k]).toNat ++ numsB (ns.drop (k + 1)) := by
  unfold numsB
  rw [List.drop_eq_getElem_cons hk, List.flatMap_cons]
set_option maxRecDepth 100000 in
set_option maxHeartbeats 4000000 in
theorem Sm.read_any (w0 w : World) {B : Nat} (r : List (BitVec 8)) (x : ActD) (hr : Rdr w B (x.laid.1 ++ r) 0) (hb0 : Below w0.heap.size w0 w) (hB : w0.heap.size ≤ B) (hx : x.ok w0) (hl : x.laid.2 = 0) :
    Calls Tryd.prog 35 #[.pointer (some ⟨B, 0, none⟩), x.val] w fun e w' => e = .returned (.bool true) ∧ Rdr w' B r 0 ∧ But (fun b => b = B) w w' := by
  obtain ⟨what, ns, n, c, A, s, b⟩ := x
  have hlen : ns.length = n := hx.len
  have hmax : n ≤ 20 := hx.max
  have hs : s.size ≤ 200 := hx.text
  have hrd : Rds w0 (fun _ => False) A (ns.map intC) := hx.rd
  have hBw : B < w.heap.size := hr.lt
  obtain ⟨w1, hw1⟩ : ∃ w1, w.alloc (.cells #[.int .i64 what, .slice A n c, .string s, .bool b] 32) = w1 := ⟨_, rfl⟩
  have hb1 : Below w.heap.size w w1 := by rw [← hw1]; exact (Below.refl _ _).alloc (Nat.le_refl _) _
  have hbx : w1.heap[w.heap.size]? = some (.cells #[.int .i64 what, .slice A n c, .string s, .bool b] 32 (0, 0)) := by rw [← hw1]; exact World.alloc_heap_new w _
  have hr1 : Rdr w1 B ((ActD.laid ⟨what, ns, n, c, A, s, b⟩).1 ++ r) 0 := hr.but (But.of_all hb1 (fun _ => False)) (fun _ _ => id)
  have hrd1 : Rds w1 (fun g => g = B) A (ns.map intC) := hrd.far.away (hb0.trans (hb1.mono hb0.size)) (fun g e => by subst e; exact hB)
  have hbut : But (fun g => g = B) w w1 := But.of_all hb1 _
  have c0 : w1.cell? ⟨w.heap.size, 0, none⟩ = some (.int .i64 what) := cell_of_heap hbx 0
  clear hrd hx hr hb0
  unfold ActD.val
  by_cases h0 : what = 0
  · subst h0
    have hall : allOk ns := by
      unfold ActD.laid at hl
      by_cases h : allOk ns
      · exact h
      · rw [if_pos rfl, if_neg h] at hl; simp at hl
    have hlaid : ActD.laid ⟨0, ns, n, c, A, s, b⟩ = (numsB ns, 0) := by
      unfold ActD.laid
      rw [if_pos rfl, if_pos hall]
    rw [hlaid] at hr1
    have HAll := Lib.hid hall
    have HLen := Lib.hid hlen
    have HR1 : Hid (Rdr w1 B (numsB (ns.drop 0) ++ r) 0) := Lib.hid hr1
    have HRd := Lib.hid hrd1
    have HBt := Lib.hid hbut
    have HBx := Lib.hid hbx
    clear hall hr1 hlaid hl hrd1 hbut hbx hlen
    go_enter Tryd.func35, Tryd.ntmps35
    go_wp2
    go_loopw [5] (fun vi wr => ∃ k : Nat, k ≤ n ∧ vi = .int .i64 (k : Int) ∧ Hid (Rdr wr B (numsB (ns.drop k) ++ r) 0) ∧ Hid (But (fun g => g = B) w1 wr)) (fun vi _ => n - (intOf vi).toNat)
    case atStart => exact ⟨0, Nat.zero_le _, rfl, HR1, Lib.hid (But.refl _ _)⟩
    case round =>
      obtain ⟨k, hk, rfl, HR, HW⟩ := hrel
      have hbk := HW.out.box HBx.out (by omega)
      have c1 : wr.cell? ⟨w.heap.size, 1, none⟩ = some (.slice A n c) := cell_of_heap hbk 1
      clear hbk
      by_cases hlt : k < n
      · have hkn : k < ns.length := by have := HLen.out; omega
        obtain ⟨q, off, rfl, hq1, hqB, hcq⟩ := HRd.out.cell (k := k) (by simpa using hkn)
        obtain ⟨y, hy⟩ : ∃ y, ns[k]'hkn = y := ⟨_, rfl⟩
        have hok : okN y := HAll.out y (by rw [← hy]; exact List.getElem_mem _)
        have hcy : w1.cell? ⟨q, off + k, none⟩ = some (.int .i64 y) := by
          rw [hcq]
          simp [intC, hy]
        have h22 : Calls Tryd.prog 22 #[.pointer (some ⟨B, 0, none⟩), .int .i64 4611686018427387904] wr fun e w' => e = .returned (.tuple #[.int .i64 y, .int .i64 0]) ∧ Rdr w' B (numsB (ns.drop (k + 1)) ++ r) 0 ∧ But (fun g => g = B) wr w' := by
          have h1 := HR.out
          rw [numsB_drop hkn, hy, List.append_assoc] at h1
          have h2 := Number_any h1 4611686018427387904
          rw [numS_back hok] at h2
          exact h2
        clear hy hcq hok
        go_wp2_with (first
          | (go_at_call 22; (with_reducible refine h22.mono ?_); clear h22; rintro e w3 ⟨rfl, hr3, hb3⟩; have HR3 := Lib.hid hr3; have hb13 := HW.out.trans hb3 (fun _ _ e => e); have c3 := cell_of_heap (hb13.box HBx.out (by omega)) 1; have c4 := (hb13.cell (p := ⟨q, off + k, none⟩) hq1 hqB).trans hcy; have HB3 := Lib.hid hb13; clear hr3 hb13)
          | (go_at_call 15; (with_reducible refine (num_any _ _).mono ?_); rintro e w' ⟨rfl, rfl⟩))
        go_roundw
        case rel => exact ⟨k + 1, by omega, by go_num, HR3, HB3⟩
        case measure => simp [intOf]; omega
      · obtain rfl : k = n := by omega
        have he : ns.drop k = [] := List.drop_eq_nil_of_le (by have := HLen.out; omega)
        have HR2 : Hid (Rdr wr B r 0) := Lib.hid (by have := HR.out; rw [he] at this; exact this)
        clear he
        go_wp2
        go_ret
        exact ⟨rfl, HR2.out, HBt.out.trans HW.out (fun _ _ e => e)⟩
  · by_cases h1 : what = 1
    · subst h1
      have hlaid : ActD.laid ⟨1, ns, n, c, A, s, b⟩ = (textB s, 0) := by
        unfold ActD.laid
        rw [if_neg (by simp), if_pos rfl]
      rw [hlaid] at hr1
      have h26 := Text_any hr1 1000
      rw [textS_back s (by omega)] at h26
      have h26' : Calls Tryd.prog 26 #[.pointer (some ⟨B, 0, none⟩), .int .i64 1000] w1 fun e w' => e = .returned (.tuple #[.string s, .int .i64 0]) ∧ Rdr w' B r 0 ∧ But (fun g => g = B) w1 w' := by
        refine h26.mono ?_
        rintro e w' ⟨he, h⟩
        refine ⟨?_, h⟩
        rw [he]
        show Ending.returned (.tuple #[.string (strB (strL s)), .int .i64 0]) = _
        rw [strB_strL]
      clear h26 hl hlaid hrd1
      go_enter Tryd.func35, Tryd.ntmps35
      go_wp2_with (first
        | (go_at_call 26; (with_reducible refine h26'.mono ?_); clear h26'; rintro e w3 ⟨rfl, hr3, hb3⟩; have c3 := cell_of_heap (hb3.box hbx (by omega)) 2)
        | (go_at_call 15; (with_reducible refine (num_any _ _).mono ?_); rintro e w' ⟨rfl, rfl⟩))
      go_ret
      exact ⟨rfl, hr3, hbut.trans hb3 (fun _ _ e => e)⟩
    · have hlaid : ActD.laid ⟨what, ns, n, c, A, s, b⟩ = (truthB b, 0) := by
        unfold ActD.laid
        rw [if_neg h0, if_neg h1]
      rw [hlaid] at hr1
      have h27 := Truth_any hr1
      rw [truthS_back b] at h27
      have h27' : Calls Tryd.prog 27 #[.pointer (some ⟨B, 0, none⟩)] w1 fun e w' => e = .returned (.tuple #[.bool b, .int .i64 0]) ∧ Rdr w' B r 0 ∧ But (fun g => g = B) w1 w' := h27
      clear h27 hl hlaid hrd1
      go_enter Tryd.func35, Tryd.ntmps35
      go_wp2_with (first
        | (go_at_call 27; (with_reducible refine h27'.mono ?_); clear h27'; rintro e w3 ⟨rfl, hr3, hb3⟩; have c3 := cell_of_heap (hb3.box hbx (by omega)) 3)
        | (go_at_call 15; (with_reducible refine (num_any _ _).mono ?_); rintro e w' ⟨rfl, rfl⟩))
      go_ret
      exact ⟨rfl, hr3, hbut.trans hb3 (fun _ _ e => e)⟩
end Go.Proofs
namespace Go.Proofs
open Go.RowKit Go.Shelf Sm
theorem Sm.lead_take : ∀ (l : List (BitVec 8)) (m : Nat), m ≤ lead l → lead (l.take m) = m
  | [], m, h => by
    simp [lead] at h
    subst h
    simp [lead]
  | c :: r, 0, _ => by simp [lead]
  | c :: r, m + 1, h => by
    rw [List.take_succ_cons, lead]
    rw [lead] at h
    split at h
    · rename_i hc
      rw [if_pos hc, lead_take r m (by omega)]
    · omega
/-- a frame that is cut off has no size -/
theorem Sm.splitS_short (l r : List (BitVec 8)) (m : Nat) (hm : m < (frameB l).length) (h : l.length ≤ 4096) : (splitS ((frameB l ++ r).take m)).2.1 = 0 := by
  have ht : l.length + 4 ≤ top := by unfold top; omega
  have h9 := numB_len9 ht
  have hp := numB_pos (l.length + 4)
  have hfl : (frameB l).length = (numB (l.length + 4)).length + (l.length + 4) := by
    unfold frameB
    rw [List.length_append, List.length_append, leN_length]
  by_cases h1 : (numB (l.length + 4)).length ≤ m
  · have e : (frameB l ++ r).take m = numB (l.length + 4) ++ ((l ++ leN (sumB l) 4) ++ r).take (m - (numB (l.length + 4)).length) := by
      unfold frameB
      rw [List.append_assoc, List.take_append, List.take_of_length_le h1]
    have hg := getN_numB ht (((l ++ leN (sumB l) 4) ++ r).take (m - (numB (l.length + 4)).length))
    have hlen : (numB (l.length + 4) ++ ((l ++ leN (sumB l) 4) ++ r).take (m - (numB (l.length + 4)).length)).length - (numB (l.length + 4)).length < l.length + 4 := by
      rw [List.length_append, List.length_take]
      omega
    rw [e]
    unfold splitS
    rw [hg]
    simp only
    rw [if_neg (by omega), if_pos hlen]
  · have hl := lead_numB (l.length + 4) ((l ++ leN (sumB l) 4) ++ r)
    have e : frameB l ++ r = numB (l.length + 4) ++ ((l ++ leN (sumB l) 4) ++ r) := by
      unfold frameB
      rw [List.append_assoc]
    rw [← e] at hl
    have h2 := lead_take (frameB l ++ r) m (by omega)
    have h3 : ((frameB l ++ r).take m).length = m := by
      rw [List.length_take, List.length_append]
      omega
    unfold splitS
    rw [getN_cut (by rw [h2, h3]) (by omega)]
theorem Sm.framesB_drop {ss : List ByteArray} {k : Nat} (hk : k < ss.length) : framesB (ss.drop k) = frameB (strL ss[k]) ++ framesB (ss.drop (k + 1)) := by
  unfold framesB
  rw [List.drop_eq_getElem_cons hk, List.flatMap_cons]
theorem Sm.framesB_split (ss : List ByteArray) (k : Nat) : framesB ss = framesB (ss.take k) ++ framesB (ss.drop k) := by
  unfold framesB
  rw [← List.flatMap_append, List.take_append_drop]
/-- what stands from the k-th frame on -/
theorem Sm.cut_drop (ss : List ByteArray) (k cut : Nat) (h : (framesB (ss.take k)).length ≤ cut) : ((framesB ss).take cut).drop (framesB (ss.take k)).length = (framesB (ss.drop k)).take (cut - (framesB (ss.take k)).length) := by
  rw [framesB_split ss k, List.take_append, List.take_of_length_le h, List.drop_append_of_le_length (Nat.le_refl _), List.drop_of_length_le (Nat.le_refl _), List.nil_append]
theorem Sm.frames_fit (ss : List ByteArray) (k cut : Nat) (hs : ∀ s ∈ ss, s.size ≤ 100) (hk : k < ss.length) (h : (framesB (ss.take k)).length ≤ cut) (ho : offK ((framesB ss).take cut) k = (framesB (ss.take k)).length) :
    ((framesB (ss.take (k + 1))).length ≤ cut ∧ bodyK ((framesB ss).take cut) k = strL ss[k] ∧ szK ((framesB ss).take cut) k = (frameB (strL ss[k])).length ∧ offK ((framesB ss).take cut) (k + 1) = (framesB (ss.take (k + 1))).length) ∨
    (cut < (framesB (ss.take (k + 1))).length ∧ szK ((framesB ss).take cut) k = 0) := by
  have h1 : (strL ss[k]).length ≤ 4096 := by
    rw [strL_length]
    have := hs _ (List.getElem_mem hk)
    omega
  have hsn : (framesB (ss.take (k + 1))).length = (framesB (ss.take k)).length + (frameB (strL ss[k])).length := by rw [framesB_snoc hk, List.length_append]
  have hd := cut_drop ss k cut h
  rw [framesB_drop hk] at hd
  by_cases hf : (frameB (strL ss[k])).length ≤ cut - (framesB (ss.take k)).length
  · left
    have hsp := splitS_frame (strL ss[k]) ((framesB (ss.drop (k + 1))).take (cut - (framesB (ss.take k)).length - (frameB (strL ss[k])).length)) h1
    rw [List.take_append, List.take_of_length_le hf] at hd
    have hsz : szK ((framesB ss).take cut) k = (frameB (strL ss[k])).length := by
      unfold szK
      rw [ho, hd, hsp]
    refine ⟨by omega, ?_, hsz, ?_⟩
    · unfold bodyK
      rw [ho, hd, hsp]
    · rw [offK_succ, hsz, ho, hsn]
  · right
    refine ⟨by omega, ?_⟩
    unfold szK
    rw [ho, hd]
    exact splitS_short _ _ _ (by omega) h1
theorem Sm.frames_cut (ss : List ByteArray) (cut : Nat) (hs : ∀ s ∈ ss, s.size ≤ 100) : ∀ k, k ≤ cntK ((framesB ss).take cut) → k ≤ ss.length ∧ (framesB (ss.take k)).length ≤ cut ∧ offK ((framesB ss).take cut) k = (framesB (ss.take k)).length
  | 0, _ => ⟨Nat.zero_le _, by simp [framesB], by simp [framesB, offK]⟩
  | k + 1, h => by
    obtain ⟨h1, h2, h3⟩ := frames_cut ss cut hs k (by omega)
    have hz := cntK_pos ((framesB ss).take cut) (j := k) (by omega)
    by_cases hk : k < ss.length
    · rcases frames_fit ss k cut hs hk h2 h3 with ⟨f1, _, _, f4⟩ | ⟨_, f2⟩
      · exact ⟨by omega, f1, f4⟩
      · exact absurd f2 hz
    · exfalso
      apply hz
      have hd := cut_drop ss k cut h2
      have hq : ss.drop k = [] := List.drop_of_length_le (by omega)
      rw [hq] at hd
      unfold szK
      rw [h3, hd]
      have : (framesB []).take (cut - (framesB (ss.take k)).length) = [] := by simp [framesB]
      rw [this, splitS_nil]
/-- what is told, and where all ends -/
theorem Sm.frames_told (ss : List ByteArray) (cut : Nat) (hs : ∀ s ∈ ss, s.size ≤ 100) :
    cntK ((framesB ss).take cut) ≤ ss.length ∧ (∀ k, k < cntK ((framesB ss).take cut) → offK ((framesB ss).take cut) (k + 1) = (framesB (ss.take (k + 1))).length ∧ ∃ h : k < ss.length, bodyK ((framesB ss).take cut) k = strL ss[k]) ∧
    (cntK ((framesB ss).take cut) = ss.length ∨ cut < (framesB (ss.take (cntK ((framesB ss).take cut) + 1))).length) := by
  have hc := frames_cut ss cut hs
  obtain ⟨c1, c2, c3⟩ := hc _ (Nat.le_refl _)
  refine ⟨c1, fun k hk => ?_, ?_⟩
  · obtain ⟨h1, h2, h3⟩ := hc k (by omega)
    obtain ⟨g1, g2, g3⟩ := hc (k + 1) (by omega)
    refine ⟨g3, by omega, ?_⟩
    rcases frames_fit ss k cut hs (by omega) h2 h3 with ⟨_, f2, _, _⟩ | ⟨f1, _⟩
    · exact f2
    · omega
  · by_cases hk : cntK ((framesB ss).take cut) < ss.length
    · right
      rcases frames_fit ss _ cut hs hk c2 c3 with ⟨f1, _, f3, _⟩ | ⟨f1, _⟩
      · exfalso
        have hz := cntK_zero ((framesB ss).take cut)
        rw [hz] at f3
        have hp := numB_pos ((strL ss[cntK ((framesB ss).take cut)]).length + 4)
        unfold frameB at f3
        rw [List.length_append] at f3
        omega
      · exact f1
    · left
      omega
end Go.Proofs
namespace Go.Proofs
open Go.RowKit Go.Shelf Sm
/-- the calls that were not refused -/
def Sm.doneL (xs : List ActD) : List ActD := xs.filter fun x => decide (x.laid.2 = 0)
theorem Sm.laid_refused {x : ActD} (h : ¬ x.laid.2 = 0) : x.laid.1 = [] := by
  unfold ActD.laid at h ⊢
  split
  · split
    · rename_i h1 h2
      rw [if_pos h1, if_pos h2] at h
      exact absurd rfl h
    · rfl
  · rename_i h1
    rw [if_neg h1] at h
    split
    · rename_i h2
      rw [if_pos h2] at h
      exact absurd rfl h
    · rename_i h2
      rw [if_neg h2] at h
      exact absurd rfl h
theorem Sm.doneL_bytes : ∀ xs : List ActD, layL (doneL xs) = layL xs
  | [] => rfl
  | x :: r => by
    have ih := doneL_bytes r
    unfold layL doneL at *
    by_cases h : x.laid.2 = 0
    · rw [List.filter_cons_of_pos (by simpa using h), List.flatMap_cons, List.flatMap_cons, ih]
    · rw [List.filter_cons_of_neg (by simpa using h), List.flatMap_cons, ih, laid_refused h, List.nil_append]
theorem Sm.doneL_snoc {xs : List ActD} {k : Nat} (hk : k < xs.length) : doneL (xs.take (k + 1)) = if xs[k].laid.2 = 0 then doneL (xs.take k) ++ [xs[k]] else doneL (xs.take k) := by
  unfold doneL
  rw [List.take_succ_eq_append_getElem hk, List.filter_append]
  split
  · rename_i h
    rw [List.filter_cons_of_pos (by simpa using h)]
    simp
  · rename_i h
    rw [List.filter_cons_of_neg (by simpa using h)]
    simp
theorem Sm.doneL_mem {xs : List ActD} {x : ActD} (h : x ∈ doneL xs) : x ∈ xs ∧ x.laid.2 = 0 := by
  unfold doneL at h
  simpa using h
theorem Sm.layL_drop {xs : List ActD} {k : Nat} (hk : k < xs.length) : layL (xs.drop k) = xs[k].laid.1 ++ layL (xs.drop (k + 1)) := by
  unfold layL
  rw [List.drop_eq_getElem_cons hk, List.flatMap_cons]
/-- the cells of calls in a row -/
theorem Sm.acts_get : ∀ (xs : List ActD) (k j : Nat) (hk : k < xs.length), j < 4 → (xs.flatMap ActD.cells)[k * 4 + j]? = (xs[k]).cells[j]?
  | x :: r, 0, j, _, hj => by
    rw [List.flatMap_cons, List.getElem?_append_left (by simp [ActD.cells]; omega)]
    simp
  | x :: r, k + 1, j, hk, hj => by
    have hl : x.cells.length = 4 := rfl
    rw [List.flatMap_cons, List.getElem?_append_right (by rw [hl]; omega), hl, show (k + 1) * 4 + j - 4 = k * 4 + j by omega]
    exact acts_get r k j (by simp at hk; omega) hj
theorem Sm.acts_len (xs : List ActD) : (xs.flatMap ActD.cells).length = xs.length * 4 := by
  induction xs with
  | nil => rfl
  | cons x r ih =>
    have hl : x.cells.length = 4 := rfl
    rw [List.flatMap_cons, List.length_append, ih, hl, List.length_cons]
    omega
end Go.Proofs
namespace Go.Proofs
open Go.RowKit Go.Shelf Sm
theorem Sm.info32 : (Tryd.prog.info? 32).map (fun i => (i.zero, i.size, i.bytes)) = some (some (.agg #[.int .i64 0, .slice none 0 0, .string ⟨#[]⟩, .bool false]), 4, 56) := by kernel_rfl
theorem Sm.info3 : (Tryd.prog.info? 3).map (fun i => (i.zero, i.size, i.bytes)) = some (some (.int .i64 0), 1, 8) := by kernel_rfl
theorem Sm.cell_four_new (w : World) (x y z u : Value) (t : TypeId) : ∀ j v, [x, y, z, u][j]? = some v → (w.alloc (.cells #[x, y, z, u] t)).cell? ((⟨w.heap.size, 0, none⟩ : Addr).add j) = some v := by
  intro j v hj
  match j, hj with
  | 0, hj =>
    simp at hj
    subst hj
    exact World.cell?_alloc_new (w := w) #[x, y, z, u] t 0
  | 1, hj =>
    simp at hj
    subst hj
    exact World.cell?_alloc_new (w := w) #[x, y, z, u] t 1
  | 2, hj =>
    simp at hj
    subst hj
    exact World.cell?_alloc_new (w := w) #[x, y, z, u] t 2
  | 3, hj =>
    simp at hj
    subst hj
    exact World.cell?_alloc_new (w := w) #[x, y, z, u] t 3
theorem Sm.doneL_len (xs : List ActD) : (doneL xs).length ≤ xs.length := List.length_filter_le _ _
/-- the texts' box and the law's answer stand -/
structure Sm.KeptB (w wr : World) (A : Option Addr) (n c : Nat) : Prop where
  box : wr.heap[w.heap.size]? = some (.cells #[.slice A n c] 82 (0, 0))
  res : wr.heap[w.heap.size + 1]? = some (.cells #[.bool false] 4 (0, 0))
  below : Below w.heap.size w wr
theorem Sm.KeptB.new (w : World) (A : Option Addr) (n c : Nat) : KeptB w ((w.alloc (.cells #[.slice A n c] 82)).alloc (.cells #[.bool false] 4)) A n c := by
  refine ⟨(Below.heap_alloc _ _ _ (by simp)).trans (World.alloc_heap_new w _), ?_, ((Below.refl _ w).alloc (Nat.le_refl _) _).alloc (by simp) _⟩
  have := World.alloc_heap_new (w.alloc (.cells #[.slice A n c] 82)) (.cells #[.bool false] 4)
  rwa [World.size_alloc] at this
theorem Sm.KeptB.on {w wr w' : World} {A : Option Addr} {n c m : Nat} (h : KeptB w wr A n c) (hb : Below m wr w') (hm : w.heap.size + 2 ≤ m) : KeptB w w' A n c :=
  ⟨(hb.block _ (by omega)).trans h.box, (hb.block _ (by omega)).trans h.res, h.below.trans (hb.mono (by omega))⟩
theorem Sm.KeptB.lt {w wr : World} {A : Option Addr} {n c : Nat} (h : KeptB w wr A n c) : w.heap.size + 2 ≤ wr.heap.size := by
  have := (Array.getElem?_eq_some_iff.1 h.res).1
  omega
theorem Sm.KeptB.works {w wr : World} {A : Option Addr} {n c : Nat} (h : KeptB w wr A n c) (ht : Tab w) : Calls Tryd.prog 12 #[] wr fun e w' => e = .returned (.bool true) ∧ KeptB w w' A n c ∧ w'.cell? ⟨w.heap.size + 1, 0, none⟩ = some (.bool false) ∧ w'.frozen? ⟨w.heap.size + 1, 0, none⟩ = false ∧ Below wr.heap.size wr w' := by
  refine (works_any wr (ht.belowTo h.below ht.1)).mono ?_
  rintro e w' ⟨h1, h2⟩
  have h3 := h.on h2 h.lt
  exact ⟨h1, h3, cell_of_heap h3.res 0, frozen_of_heap h3.res 0, h2⟩
theorem Sm.KeptB.told {w wr : World} {A : Option Addr} {n c : Nat} (h : KeptB w wr A n c) : (wr.setCell ⟨w.heap.size + 1, 0, none⟩ (.bool true)).heap[w.heap.size + 1]? = some (.cells #[.bool true] 4 (0, 0)) ∧ Below w.heap.size w (wr.setCell ⟨w.heap.size + 1, 0, none⟩ (.bool true)) :=
  ⟨heap_setCells (i := 0) (u := .bool true) h.res, h.below.setCell (p := ⟨w.heap.size + 1, 0, none⟩) (by simp) _⟩
/-- a writer, and the calls that were not refused -/
structure Sm.DoneAt (w wr : World) (v vd : Value) (L : List (BitVec 8)) (ds : List ActD) : Prop where
  wr_ : Wr wr w.heap.size v L
  apart : ∀ g, vd.ownBlock = some g → v.ownBlock ≠ some g
  row : wr.ownsRow (w.heap.size + 1) 32 4 vd ds.length (ds.flatMap ActD.cells)
  below : Below w.heap.size w wr
theorem Sm.DoneAt.lay {w w1 w2 : World} {v v' vd : Value} {L LL : List (BitVec 8)} {ds : List ActD} (h : DoneAt w w1 v vd L ds) (hW : Wr w2 w.heap.size v' LL) (hg : WrGo w.heap.size v v' w1 w2) : DoneAt w w2 v' vd LL ds := by
  have hblk := h.wr_.block
  refine ⟨hW, fun g e e' => ?_, hg.but.row h.row (fun g e => ?_), h.below.trans (hg.but.to_below (n := w.heap.size) h.below.size (fun b e => ?_))⟩
  · have h1 := h.row.lt g e
    rcases hg.row with h2 | h2
    · exact h.apart g e (h2 ▸ e')
    · have := h2 g e'; omega
  · rintro (rfl | h')
    · have := (h.row.lt _ e).1; omega
    · exact h.apart g e h'
  · rcases e with rfl | e
    · omega
    · have := (hblk b e).1; omega
theorem Sm.DoneAt.push {w w2 w3 : World} {v vd v3 : Value} {L : List (BitVec 8)} {ds : List ActD} {o : Obj} (x : ActD) (h : DoneAt w w2 v vd L ds)
    (h3 : w3.ownsRow (w.heap.size + 1) 32 4 v3 (ds.length + 1) (ds.flatMap ActD.cells ++ [.int .i64 x.what, .slice x.A x.n x.c, .string x.s, .bool x.b])) (hg : (w2.alloc o).grownBy w3 vd.ownBlock) (ha : v3.ownBlock = vd.ownBlock ∨ v3.ownBlock = some (w2.alloc o).heap.size) : DoneAt w w3 v v3 L (ds ++ [x]) := by
  have hbW : Below w2.heap.size w2 (w2.alloc o) := (Below.refl _ _).alloc (Nat.le_refl _) _
  have hW := h.wr_.below hbW
  have hR := own_below h.row hbW
  have hblk := hW.block
  have hB : Below w.heap.size w (w2.alloc o) := h.below.trans (hbW.mono h.below.size)
  refine ⟨hW.but (But.grown hg) ?_ ?_, fun g e e' => ?_, ?_, hB.trans ((But.grown hg).to_below (n := w.heap.size) hB.size (fun b e => ?_))⟩
  · intro e; have := (hR.lt _ e).1; omega
  · intro g e e'; exact h.apart g e' e
  · rcases ha with h' | h'
    · exact h.apart g (h' ▸ e) e'
    · rw [h'] at e; cases e; have := (hblk _ e').2; omega
  · rw [List.flatMap_append, List.length_append]
    exact h3
  · have := (hR.lt _ e).1; omega
/-- where each frame ends -/
def Sm.endsL (ss : List ByteArray) (k : Nat) : List Int := (List.range k).map fun j => ((framesB (ss.take (j + 1))).length : Int)
theorem Sm.endsL_succ (ss : List ByteArray) (k : Nat) : endsL ss (k + 1) = endsL ss k ++ [((framesB (ss.take (k + 1))).length : Int)] := by
  unfold endsL
  rw [List.range_succ, List.map_append]
  rfl
theorem Sm.endsL_get (ss : List ByteArray) {j k : Nat} (h : j < k) : ((endsL ss k).map intC)[j]? = some (.int .i64 ((framesB (ss.take (j + 1))).length : Int)) := by
  unfold endsL intC
  simp [h]
/-- frames put together, and where each one ends -/
structure Sm.EndsAt (w wr : World) (vb ve : Value) (B : List (BitVec 8)) (k : Nat) (es : List Int) : Prop where
  own : wr.ownsRow (w.heap.size + 1) 5 1 vb B.length (B.map byteCell)
  ends : wr.ownsRow (w.heap.size + 1) 3 1 ve k (es.map intC)
  box : wr.heap[w.heap.size]? = some (.cells #[ve] 85 (0, 0))
  below : Below w.heap.size w wr
theorem Sm.EndsAt.lt {w wr : World} {vb ve : Value} {B : List (BitVec 8)} {k : Nat} {es : List Int} (h : EndsAt w wr vb ve B k es) : w.heap.size + 1 ≤ wr.heap.size := (Array.getElem?_eq_some_iff.1 h.box).1
theorem Sm.EndsAt.on {w wr w' : World} {vb ve : Value} {B : List (BitVec 8)} {k : Nat} {es : List Int} (h : EndsAt w wr vb ve B k es) (hb : Below wr.heap.size wr w') : EndsAt w w' vb ve B k es :=
  ⟨own_below h.own hb, own_below h.ends hb, (hb.block _ h.lt).trans h.box, h.below.trans (hb.mono h.below.size)⟩
theorem Sm.EndsAt.push {w w2 w3 : World} {vb v3 ve : Value} {B F BB : List (BitVec 8)} {k : Nat} {es : List Int} (h : EndsAt w w2 vb ve B k es) (hBB : B ++ F = BB) (h3 : w3.ownsRow (w.heap.size + 1) 5 1 v3 BB.length (B.map byteCell ++ F.map byteCell)) (hg : w2.grownBy w3 vb.ownBlock) : EndsAt w w3 v3 ve BB k es := by
  subst hBB
  refine ⟨by rw [List.map_append]; exact h3, (But.grown hg).row h.ends (fun g e1 e2 => own_types (by decide) h.ends h.own g e1 e2), (But.grown hg).box h.box (fun e => ?_), h.below.trans ((But.grown hg).to_below (n := w.heap.size) h.below.size (fun b e => ?_))⟩
  · have := (h.own.lt _ e).1; omega
  · have := (h.own.lt _ e).1; omega
theorem Sm.EndsAt.push2 {w w4 w5 : World} {vb ve v5 : Value} {B : List (BitVec 8)} {k : Nat} {es : List Int} {o : Obj} {z : Int} (h : EndsAt w w4 vb ve B k es) (h5 : w5.ownsRow (w.heap.size + 1) 3 1 v5 (k + 1) (es.map intC ++ [.int .i64 z])) (hg : (w4.alloc o).grownBy w5 ve.ownBlock) :
    w5.heap[w.heap.size]? = some (.cells #[ve] 85 (0, 0)) ∧ EndsAt w (w5.setCell ⟨w.heap.size, 0, none⟩ v5) vb v5 B (k + 1) (es ++ [z]) := by
  have hW := h.on ((Below.refl _ w4).alloc (Nat.le_refl _) o)
  have hbut := But.grown hg
  have box5 := hbut.box hW.box (fun e => by have := (hW.ends.lt _ e).1; omega)
  have own5 := hbut.row hW.own (fun g e1 e2 => own_types (by decide) hW.own hW.ends g e1 e2)
  have bel5 := hW.below.trans (hbut.to_below (n := w.heap.size) hW.below.size (fun b e => by have := (hW.ends.lt _ e).1; omega))
  have hs : But (fun b => b = w.heap.size) w5 (w5.setCell ⟨w.heap.size, 0, none⟩ v5) := (But.refl _ w5).set ⟨w.heap.size, 0, none⟩ v5 (.inl rfl)
  refine ⟨box5, hs.row own5 (fun g e h => ?_), ?_, heap_setCells (i := 0) (u := v5) box5, bel5.trans (hs.to_below (n := w.heap.size) bel5.size (fun b e => by omega))⟩
  · have := (own5.lt _ e).1; omega
  · rw [List.map_append]
    exact hs.row h5 (fun g e h => by have := (h5.lt _ e).1; omega)
end Go.Proofs
namespace Go.Proofs
open Go Go.ChangeShapes Go.WideShapes Go.ChangeAt Go.WideMaps Go.WideElems Go.RowKit Sm
namespace YteeponciegmlcaaDoor
theorem c9s : Tryd.prog.cellsOf 9 = 1 := by kernel_rfl
set_option maxRecDepth 100000 in
theorem open_strs {H : Type} {enc : TypeId × Value → H} {W : World} {base : Nat} {v : Value} {d : DataW H} {p : List MemPlace} (hok : Value.okWide Tryd.prog W .any base 82 v) (h : DataW.Trod enc Tryd.prog W 0 (fun _ => true) true 82 v d p) :
    ∃ (A : Option Addr) (n c : Nat) (ss : List ByteArray), v = .slice A n c ∧ ss.length = n ∧ n ≤ c ∧ c ≤ 9223372036854775807 ∧ RdStrs W A ss := by
  obtain ⟨a0, len, cap, rfl⟩ := okWide_slice Tryd.underlying82 hok
  obtain ⟨fuel, hf⟩ := h
  rcases open_strings Tryd.underlying82 Tryd.underlying9 c9s (cs := [.slice a0 len cap]) (by simpa [Value.cells] using hf) with ⟨hcs, _⟩ | ⟨a, len', cap', ss, hcs, _, hl, hm, hsl, _, hc, _⟩
  · simp only [List.cons.injEq, and_true] at hcs
    exact ⟨none, 0, 0, [], hcs, rfl, Nat.le_refl _, by omega, (fun h => absurd h (by simp))⟩
  · simp only [List.cons.injEq, and_true] at hcs
    have hlm : len' ≤ ss.length := by rw [hsl]; simp; omega
    refine ⟨some a, len', cap', ss.take len', hcs, by rw [List.length_take]; omega, hl, by unfold maxLen at hm; omega, ?_⟩
    intro h0
    rw [List.length_take] at h0
    have c0 := hc 0 (by omega)
    obtain ⟨b, off, spot⟩ := a
    have hspot : spot = none := by simpa [Addr.add] using World.cell?_spot c0
    subst hspot
    have hb : b < W.heap.size := by
      have := World.block_lt_of_cell? W _ c0
      rw [Go.WideShapes.add_plain] at this
      exact this
    refine ⟨b, off, rfl, hb, fun j s hj => ?_⟩
    rw [List.getElem?_take] at hj
    split at hj
    · rename_i hjl
      have hjz : j < ss.length := (List.getElem?_eq_some_iff.1 hj).1
      have := hc j hjz
      simp only [Go.WideShapes.add_plain] at this
      rw [this]
      rw [List.getD_eq_getElem?_getD, hj]
      rfl
    · simp at hj
end YteeponciegmlcaaDoor
end Go.Proofs
namespace Go.Proofs
open Go.RowKit Go.Shelf Sm
attribute [local go_sem ↓] Go.wp_at_zero Go.wp_at_succ
attribute [local go_sem] Oper.semAt_some
set_option maxRecDepth 100000 in
set_option maxHeartbeats 16000000 in
theorem Sm.back_walk (A : Option Addr) (n c : Nat) (xs : List ActD) (Af : Option Addr) (nf cf : Nat) (ss : List ByteArray) (cut : Int) (w : World) (hn : xs.length = n) (hm : n ≤ 9223372036854775807) (hr : RdActs w A xs) (hc : ∀ x ∈ xs, ActD.came x w)
    (hnf : ss.length = nf) (hmf : nf ≤ 9223372036854775807) (hrf : RdStrs w Af ss) (hc0 : -9223372036854775808 ≤ cut) (hc1 : cut ≤ 9223372036854775807) (ht : Tab w) :
    Calls Tryd.prog 10 #[.slice A n c, .slice Af nf cf, .int .i64 cut] w fun e w' => e = .returned (.bool true) ∧ Below w.heap.size w w' := by
  obtain ⟨i0, hi, hz0, hz1, hz2⟩ := info_parts info5
  obtain ⟨i8, hi8, hy0, hy1, hy2⟩ := info_parts info32
  obtain ⟨i3, hi3, hx0, hx1, hx2⟩ := info_parts info3
  obtain ⟨w2, hw2⟩ : ∃ w2, (w.alloc (.cells #[.slice Af nf cf] 82)).alloc (.cells #[.bool false] 4) = w2 := ⟨_, rfl⟩
  have hK2 : KeptB w w2 Af nf cf := by rw [← hw2]; exact KeptB.new w Af nf cf
  have hr2 := hr.below hK2.below
  have hc2 : ∀ x ∈ xs, ActD.came x w2 := fun x hx => (hc x hx).below hK2.below
  have hcf := few_any A n c xs w2 hr2 hn hm
  have kb := cell_of_heap hK2.box 0
  simp only [List.getElem?_toArray, List.getElem?_cons_zero] at kb
  clear hr hc
  refine (callsIn_wide (n := 3)).1 (callsIn_of_wp_marks Tryd.func10 rfl trivial ?_ rfl)
  refine wpIn_wide.2 ?_
  simp only [Tryd.ntmps10, List.size_toArray, List.length_cons, List.length_nil, Nat.reduceAdd, Nat.reduceSub, Array.replicate_succ, Array.replicate_zero, List.push_toArray, List.append_toArray, List.nil_append, List.cons_append]
  go_upto_region 1 with fail
  clear hw2
  by_cases hf : fewB xs = true ∧ nf ≤ 8
  · obtain ⟨hf, h8⟩ := hf
    rw [hf] at hcf
    obtain ⟨h40, hok⟩ := few_ok hf hc2
    have HOK := Lib.hid hok
    have HLEN := Lib.hid (layL_take hok h40)
    have h40n : n ≤ 40 := by omega
    have HK2 := Lib.hid hK2
    have HR2 := Lib.hid hr2
    have HN := Lib.hid hn
    have HNF := Lib.hid hnf
    have HRF := Lib.hid hrf
    have HTL := Lib.hid ht
    have hw0 : DoneAt w2 (w2.alloc (.cells #[.slice none 0 0, .bool true] 38)) (.slice none 0 0) (.slice none 0 0) (layL (xs.take 0)) (doneL (xs.take 0)) :=
      ⟨Wr.new w2, fun g e => by simp [Value.ownBlock] at e, World.ownsRow_nil _ _ _ _, (Below.refl _ _).alloc (Nat.le_refl _) _⟩
    have HW0 := Lib.hid hw0
    clear hw0 hok hc2 hf hn hnf hrf ht hK2 hr2
    go_wp2_with (first
      | (go_at_call 11; (with_reducible refine hcf.mono ?_); rintro e w' ⟨rfl, rfl⟩)
      | (go_at_call 13; (with_reducible refine (New_any _).mono ?_); rintro e w' ⟨rfl, rfl⟩))
    clear hcf kb
    go_loopw [8, 9] (fun vd vi wr => ∃ (k : Nat) (v u : Value), k ≤ n ∧ u = vd ∧ vi = .int .i64 (k : Int) ∧ Hid (DoneAt w2 wr v u (layL (xs.take k)) (doneL (xs.take k))))
      (fun _ vi _ => n - (intOf vi).toNat)
    case atStart => exact ⟨0, _, _, Nat.zero_le _, rfl, rfl, HW0⟩
    case round =>
      obtain ⟨k, v, vd, hk, rfl, rfl, HA⟩ := hrel
      clear HW0
      by_cases hlt : k < n
      · have hkx : k < xs.length := by have := HN.out; omega
        obtain ⟨x, hxe⟩ : ∃ x, x = xs[k] := ⟨_, rfl⟩
        have hxok : x.ok w2 := by rw [hxe]; exact HOK.out _ (List.getElem_mem _)
        obtain ⟨b, off, rfl, hbw, c0, c1, c2, c3⟩ := HR2.out.at hkx
        rw [← hxe] at c0 c1 c2 c3
        obtain ⟨l, no, hL⟩ : ∃ l no, x.laid = (l, no) := ⟨_, _, rfl⟩
        have hsn := layL_snoc hkx
        rw [← hxe, hL] at hsn
        have hds := doneL_snoc hkx
        rw [← hxe, hL] at hds
        simp only at hsn hds
        obtain ⟨L, hLk⟩ : ∃ L, layL (xs.take k) = L := ⟨_, rfl⟩
        obtain ⟨ds, hdk⟩ : ∃ ds, doneL (xs.take k) = ds := ⟨_, rfl⟩
        have hdl : ds.length ≤ 40 := by
          have h1 := doneL_len (xs.take k)
          rw [hdk, List.length_take] at h1
          omega
        have hLl : L.length ≤ 12000 := by rw [← hLk]; exact HLEN.out k
        rw [hLk] at hsn
        rw [hLk, hdk] at HA
        rw [hdk] at hds
        obtain ⟨LL, hLL⟩ : ∃ LL, L ++ l = LL := ⟨_, rfl⟩
        rw [hLL] at hsn
        have HSN := Lib.hid hsn
        have hlay : Calls Tryd.prog 16 #[.pointer (some ⟨w2.heap.size, 0, none⟩), .agg #[.int .i64 x.what, .slice x.A x.n x.c, .string x.s, .bool x.b]] wr fun e w1 => e = .returned (.int .i64 no) ∧ ∃ v', DoneAt w2 w1 v' vd LL ds ∧ w2.heap.size ≤ w1.heap.size := by
          have h := layA_any w2 wr HA.out.wr_ (by omega) HA.out.below (Nat.le_refl _) x hxok
          refine h.mono ?_
          rintro e w1 ⟨h1, v', h2, h3⟩
          rw [hL] at h1 h2
          rw [hLL] at h2
          have h4 := HA.out.lay h2 h3
          exact ⟨h1, v', h4, h4.below.size⟩
        have e0 : wr.cell? ⟨b, off + k * 4, none⟩ = some (.int .i64 x.what) := (HA.out.below.cell (p := ⟨b, off + k * 4, none⟩) hbw).trans c0
        have e1 : wr.cell? ⟨b, off + k * 4 + 1, none⟩ = some (.slice x.A x.n x.c) := (HA.out.below.cell (p := ⟨b, off + k * 4 + 1, none⟩) hbw).trans c1
        have e2 : wr.cell? ⟨b, off + k * 4 + 2, none⟩ = some (.string x.s) := (HA.out.below.cell (p := ⟨b, off + k * 4 + 2, none⟩) hbw).trans c2
        have e3 : wr.cell? ⟨b, off + k * 4 + 3, none⟩ = some (.bool x.b) := (HA.out.below.cell (p := ⟨b, off + k * 4 + 3, none⟩) hbw).trans c3
        clear hsn hLk hdk hLL hL hxok hxe hkx
        by_cases hno : no = 0
        · subst hno
          rw [if_pos rfl] at hds
          have HDS := Lib.hid hds
          clear hds
          go_wp2_with (first
            | (go_at_call 16; (with_reducible refine hlay.mono ?_); clear hlay; rintro e w1 ⟨rfl, v', hD1, hs1⟩; have d0 := (hD1.below.cell (p := ⟨b, off + k * 4, none⟩) hbw).trans c0; have d1 := (hD1.below.cell (p := ⟨b, off + k * 4 + 1, none⟩) hbw).trans c1; have d2 := (hD1.below.cell (p := ⟨b, off + k * 4 + 2, none⟩) hbw).trans c2; have d3 := (hD1.below.cell (p := ⟨b, off + k * 4 + 3, none⟩) hbw).trans c3; clear e0 e1 e2 e3 c0 c1 c2 c3)
            | (go_at_call 15; (with_reducible refine (num_any _ _).mono ?_); rintro e w' ⟨rfl, rfl⟩)
            | (at_builtin; refine wpList_append_own_at _ rfl (.tmp 44) (.tmp 49) 22 rfl (w2.heap.size + 1) 32 i8 _ 4 56 Tryd.underlying22 hi8 hy0 hy1 hy2 rfl (by decide) _ ds.length (ds.flatMap ActD.cells) rfl (hD1.row.alloc _) ⟨w1.heap.size, 0, none⟩ 1 1 [.int .i64 x.what, .slice x.A x.n x.c, .string x.s, .bool x.b] rfl rfl (cell_four_new _ _ _ _ _ _) (by simp [Value.oneCell']) ?_ ?_ ?_ ?_; (unfold maxLen; omega); omega; (simp; omega); intro v3 w3 hown3 hg3 _ hat3; have HD3 := Lib.hid (hD1.push x hown3 hg3 hat3); clear hown3 hg3 hat3 d0 d1 d2 d3 hD1))
          go_roundw
          case rel => exact ⟨k + 1, v', _, by omega, rfl, by go_num, by rw [HSN.out, HDS.out]; exact HD3⟩
          case measure => simp [intOf]; omega
        · rw [if_neg hno] at hds
          have HDS := Lib.hid hds
          have p1 : (no == 0) = false := by simpa using hno
          clear hds hno
          go_wp2_with (first
            | (go_at_call 16; (with_reducible refine hlay.mono ?_); clear hlay; rintro e w1 ⟨rfl, v', hD1, hs1⟩; have HD1 := Lib.hid hD1; clear hD1 e0 e1 e2 e3 c0 c1 c2 c3)
            | (go_at_call 15; (with_reducible refine (num_any _ _).mono ?_); rintro e w' ⟨rfl, rfl⟩))
          go_roundw
          case rel => exact ⟨k + 1, v', _, by omega, rfl, by go_num, by rw [HSN.out, HDS.out]; exact HD1⟩
          case measure => simp [intOf]; omega
      · obtain rfl : k = n := by omega
        have htk : xs.take k = xs := List.take_of_length_le (by have := HN.out; omega)
        rw [htk] at HA
        obtain ⟨L, hL⟩ : ∃ L, layL xs = L := ⟨_, rfl⟩
        obtain ⟨ds, hds⟩ : ∃ ds, doneL xs = ds := ⟨_, rfl⟩
        have hLl : L.length ≤ 12000 := by have := HLEN.out k; rwa [htk, hL] at this
        have hLd : layL ds = L := by rw [← hds, doneL_bytes, hL]
        have HDM : Hid (∀ x ∈ ds, x.ok w2 ∧ x.laid.2 = 0) := Lib.hid fun x hx => by
          rw [← hds] at hx
          exact ⟨HOK.out x (doneL_mem hx).1, (doneL_mem hx).2⟩
        rw [hL, hds] at HA
        have hdl : ds.length ≤ 40 := by
          have h1 := doneL_len xs
          rw [hds] at h1
          have := HN.out
          omega
        obtain ⟨Ad, cd, rfl⟩ := row_slice HA.out.row
        have hall := All_any wr HA.out.wr_ (by omega)
        clear htk hL hds HOK HLEN HR2
        go_wp2_with (first
          | (go_at_call 17; (with_reducible refine hall.mono ?_); clear hall; rintro e w4 ⟨u, rfl, hu, hb4⟩; obtain ⟨A4, c4, rfl⟩ := own_slice hu; have hrd := Read_any L L.length c4 w4.heap.size A4 w4 (Lib.hid rfl) (by omega) (Nat.le_refl _) (Rd.of_own hu (Nat.le_refl _)); have HRW := Lib.hid (own_below HA.out.row hb4); have HB4 : Hid (Below w2.heap.size w2 w4) := Lib.hid (HA.out.below.trans (hb4.mono HA.out.below.size)); clear hu hb4)
          | (go_at_call 21; (with_reducible refine hrd.mono ?_); clear hrd; rintro e w5 ⟨Bk, rfl, hR5, hBk, hb5⟩))
        have HB25 : Hid (Below w2.heap.size w2 w5) := Lib.hid (HB4.out.trans (hb5.mono HB4.out.size))
        have HRW5 := Lib.hid (own_below HRW.out hb5)
        have HBL : Hid (∀ g, (Value.slice Ad ds.length cd).ownBlock = some g → g < Bk) := Lib.hid fun g e => by have := (HRW.out.lt g e).2; omega
        have h2B : w2.heap.size ≤ Bk := by have := HB4.out.size; omega
        have HR5 : Hid (Rdr w5 Bk (layL (ds.drop 0)) 0) := Lib.hid (by rw [List.drop_zero, hLd]; exact hR5)
        clear hR5 hb5 HRW hLd HA hBk
        go_loopw [11] (fun vi wx => ∃ q : Nat, q ≤ ds.length ∧ vi = .int .i64 (q : Int) ∧ Hid (Rdr wx Bk (layL (ds.drop q)) 0) ∧ Hid (But (fun b => b = Bk) w5 wx)) (fun vi _ => ds.length - (intOf vi).toNat)
        case atStart => exact ⟨0, Nat.zero_le _, rfl, HR5, Lib.hid (But.refl _ _)⟩
        case round =>
          obtain ⟨q, hq, rfl, HR, HW⟩ := hrel
          clear HR5
          have HB2r : Hid (Below w2.heap.size w2 wr) := Lib.hid (HB25.out.trans (HW.out.to_below (n := w2.heap.size) HB25.out.size (fun b e => by omega)))
          by_cases hlq : q < ds.length
          · obtain ⟨y, hy⟩ : ∃ y, y = ds[q] := ⟨_, rfl⟩
            obtain ⟨hyok, hy0⟩ := HDM.out y (by rw [hy]; exact List.getElem_mem _)
            have hrow := HW.out.row HRW5.out (fun g e h => by have := HBL.out g e; omega)
            obtain ⟨g, cap, eg, hgb, hgl⟩ := hrow.form (by omega)
            injection eg with e1 e2 e3
            subst e1 e3
            have g0 := acts_get ds q 0 hlq (by omega)
            have g1 := acts_get ds q 1 hlq (by omega)
            have g2 := acts_get ds q 2 hlq (by omega)
            have g3 := acts_get ds q 3 hlq (by omega)
            rw [← hy] at g0 g1 g2 g3
            have c0 : wr.cell? ⟨g, q * 4, none⟩ = some (.int .i64 y.what) := (hrow.cellAt (q * 4) (by omega)).trans g0
            have c1 : wr.cell? ⟨g, q * 4 + 1, none⟩ = some (.slice y.A y.n y.c) := (hrow.cellAt (q * 4 + 1) (by omega)).trans g1
            have c2 : wr.cell? ⟨g, q * 4 + 2, none⟩ = some (.string y.s) := (hrow.cellAt (q * 4 + 2) (by omega)).trans g2
            have c3 : wr.cell? ⟨g, q * 4 + 3, none⟩ = some (.bool y.b) := (hrow.cellAt (q * 4 + 3) (by omega)).trans g3
            have hread : Calls Tryd.prog 35 #[.pointer (some ⟨Bk, 0, none⟩), .agg #[.int .i64 y.what, .slice y.A y.n y.c, .string y.s, .bool y.b]] wr fun e w' => e = .returned (.bool true) ∧ Rdr w' Bk (layL (ds.drop (q + 1))) 0 ∧ But (fun b => b = Bk) wr w' :=
              read_any w2 wr (layL (ds.drop (q + 1))) y (by have := HR.out; rw [layL_drop hlq, ← hy] at this; exact this) HB2r.out h2B hyok hy0
            clear hrow g0 g1 g2 g3 hy e2 hyok hy0
            go_wp2_with (go_at_call 35; (with_reducible refine hread.mono ?_); clear hread; rintro e w6 ⟨rfl, hR6, hb6⟩; have HR6 := Lib.hid hR6; have HW6 := Lib.hid (HW.out.trans hb6 (fun _ _ e => e)); clear hR6 hb6)
            go_roundw
            case rel => exact ⟨q + 1, by omega, by go_num, HR6, HW6⟩
            case measure => simp [intOf]; omega
          · have hqe : ds.drop q = [] := List.drop_eq_nil_of_le (by omega)
            have hRx : Rdr wr Bk [] 0 := by have := HR.out; rw [hqe] at this; exact this
            have hq1 : decide (q < ds.length) = false := by simpa using hlq
            have hleft : Calls Tryd.prog 24 #[.pointer (some ⟨Bk, 0, none⟩)] wr fun x w' => x = .returned (.int .i64 0) ∧ wr = w' := Left_any hRx
            have hend : Calls Tryd.prog 28 #[.pointer (some ⟨Bk, 0, none⟩)] wr fun x w' => x = .returned (.int .i64 0) ∧ But (fun b => b = Bk) wr w' := (End_any hRx).mono fun x w' ⟨h1, _, h3⟩ => ⟨h1, h3⟩
            obtain rfl : q = ds.length := by omega
            clear HR hqe hRx hq1
            go_wp2_with (first
              | (go_at_call 24; (with_reducible refine hleft.mono ?_); clear hleft; rintro e w' ⟨rfl, rfl⟩)
              | (go_at_call 28; (with_reducible refine hend.mono ?_); clear hend; rintro e w6 ⟨rfl, hb6⟩)
              | (go_at_call 15; (with_reducible refine (num_any _ _).mono ?_); rintro e w' ⟨rfl, rfl⟩))
            have hB26 : Below w2.heap.size w2 w6 := HB2r.out.trans (hb6.to_below (n := w2.heap.size) HB2r.out.size (fun b e => by omega))
            have HK6 := Lib.hid (HK2.out.on hB26 HK2.out.lt)
            have hlt6 : w.heap.size + 2 ≤ w6.heap.size := HK6.out.lt
            have hE0 : EndsAt w6 (w6.alloc (.cells #[.slice none 0 0] 85)) (.slice none 0 0) (.slice none 0 0) (framesB (ss.take 0)) 0 (endsL ss 0) :=
              ⟨World.ownsRow_nil _ _ _ _, World.ownsRow_nil _ _ _ _, World.alloc_heap_new w6 _, (Below.refl _ _).alloc (Nat.le_refl _) _⟩
            have HE0 := Lib.hid hE0
            clear hE0 hB26 hb6 HB2r HW HRW5 HBL HB25 HDM
            go_loopw [12, 14] (fun vb vi wy => ∃ (p : Nat) (u ve : Value), p ≤ nf ∧ u = vb ∧ vi = .int .i64 (p : Int) ∧ Hid (∀ s ∈ ss.take p, s.size ≤ 100) ∧ Hid (EndsAt w6 wy u ve (framesB (ss.take p)) p (endsL ss p)))
              (fun _ vi _ => nf - (intOf vi).toNat)
            case atStart => exact ⟨0, _, _, Nat.zero_le _, rfl, rfl, Lib.hid (by simp), HE0⟩
            case round =>
              obtain ⟨p, vb, ve, hp, rfl, rfl, HS, HE⟩ := hrel
              clear HE0
              have hKr := HK6.out.on HE.out.below hlt6
              have kb : wr.cell? ⟨w.heap.size, 0, none⟩ = some (.slice Af nf cf) := cell_of_heap hKr.box 0
              by_cases hlp : p < nf
              · have hpx : p < ss.length := by have := HNF.out; omega
                obtain ⟨bf, off, rfl, hbw, c0⟩ := HRF.out.at hpx
                have hsn := framesB_snoc hpx
                have hes := endsL_succ ss p
                have htk : ss.take (p + 1) = ss.take p ++ [ss[p]] := List.take_succ_eq_append_getElem hpx
                obtain ⟨s, hs⟩ : ∃ s, s = ss[p] := ⟨_, rfl⟩
                rw [← hs] at c0 hsn htk
                have c1 := (hKr.below.cell (p := ⟨bf, off + p, none⟩) hbw).trans c0
                clear c0 hs hpx
                by_cases h100 : 100 < s.size
                · have h12 := hKr.works HTL.out
                  clear hKr hsn hes htk
                  go_wp2_with (go_at_call 12; (with_reducible refine h12.mono ?_); clear h12; rintro e w1 ⟨rfl, h1, h2, h3, h4⟩)
                  obtain ⟨r1, r2⟩ := h1.told
                  have r3 := cell_of_heap r1 0
                  exact retM (v := .bool true) (by simp [results, Tryd.results10, go_sem, r3]) rfl ⟨rfl, r2⟩
                · obtain ⟨c8, w8, hcv, hrd8, hb8, hc8, hs8⟩ := conv_str s wr
                  obtain ⟨B, hB⟩ : ∃ B, framesB (ss.take p) = B := ⟨_, rfl⟩
                  obtain ⟨F, hF⟩ : ∃ F, frameB (strL s) = F := ⟨_, rfl⟩
                  obtain ⟨BB, hBB⟩ : ∃ BB, B ++ F = BB := ⟨_, rfl⟩
                  obtain ⟨es, hese⟩ : ∃ es, endsL ss p = es := ⟨_, rfl⟩
                  have hp8 : p ≤ 8 := by omega
                  have hBl : B.length ≤ 904 := by
                    have h1 := framesB_len (ss.take p) HS.out
                    have h2 : (ss.take p).length ≤ 8 := by rw [List.length_take]; omega
                    rw [hB] at h1
                    omega
                  have hFl : F.length ≤ 113 := by
                    have := frameB_len (strL s) (by rw [strL_length]; omega)
                    rw [strL_length, hF] at this
                    omega
                  have hMM : Hid (B.length + F.length = BB.length) := Lib.hid (by rw [← hBB, List.length_append])
                  have hBBl : BB.length ≤ 1017 := by have := hMM.out; omega
                  have hfr := Frame_ok (strL s) s.size c8 _ w8 (strL_length s) (by omega) hrd8 (HTL.out.belowTo (hKr.below.trans (hb8.mono hKr.below.size)) HTL.out.1)
                  have HFB : Hid (framesB (ss.take (p + 1)) = BB) := Lib.hid (by rw [hsn, hB, hF]; exact hBB)
                  rw [hB, hese] at HE
                  rw [hF] at hfr
                  rw [HFB.out, hese] at hes
                  have HES := Lib.hid hes
                  have HBB := Lib.hid hBB
                  have HS1 : Hid (∀ q ∈ ss.take (p + 1), q.size ≤ 100) := Lib.hid (by
                    rw [htk]
                    intro q hq
                    rcases List.mem_append.1 hq with h | h
                    · exact HS.out q h
                    · simp at h; subst h; omega)
                  have hE8 := Lib.hid (HE.out.on hb8)
                  clear hB hF hBB hrd8 htk hsn hes hese hb8 hs8 hKr
                  go_wp2_with (first
                    | (go_at_call 29; (with_reducible refine hfr.mono ?_); clear hfr; rintro e w9 ⟨v9, rfl, hown9, hb9⟩; obtain ⟨A9, c9, rfl⟩ := own_slice hown9; have hE9 := hE8.out.on hb9; have hrd9 : Rd w9 w9.heap.size A9 F := Rd.of_own hown9 (Nat.le_refl _); have hlt9 : w6.heap.size + 1 ≤ w9.heap.size := hE9.lt; clear hown9 c1 kb hcv)
                    | (go_at_call 15; (with_reducible refine (num_any _ _).mono ?_); rintro e w' ⟨rfl, rfl⟩)
                    | (at_builtin; refine wpList_append_rd _ rfl (.tmp 101) (.tmp 102) 27 rfl (w6.heap.size + 1) 5 i0 _ Tryd.underlying27 hi hz0 hz1 hz2 rfl _ B.length (B.map byteCell) rfl hE9.own w9.heap.size A9 F.length c9 F rfl rfl hrd9 ?_ hlt9 ?_; omega; intro v4 w10 h4 hg4 ha4; rw [hMM.out] at h4; have hE10 := hE9.push HBB.out h4 hg4; obtain ⟨A10, c10, rfl⟩ := own_slice h4; have t10 : w10.cell? ⟨w6.heap.size, 0, none⟩ = some ve := cell_of_heap hE10.box 0; have hlt10 : w6.heap.size + 1 ≤ w10.heap.size := hE10.lt; clear h4 hg4 ha4 hE9 hrd9)
                    | (at_builtin; refine wpList_append_own_at _ rfl (.tmp 104) (.tmp 107) 85 rfl (w6.heap.size + 1) 3 i3 _ 1 8 Tryd.underlying85 hi3 hx0 hx1 hx2 rfl (by decide) _ p (es.map intC) rfl (hE10.ends.alloc _) ⟨w10.heap.size, 0, none⟩ 1 1 [.int .i64 (BB.length : Int)] rfl rfl (cell_one_new _ _ _) (by simp [Value.oneCell']) ?_ ?_ ?_ ?_; (unfold maxLen; omega); omega; (simp; omega); intro v5 w11 hown5 hg5 _ ha5; obtain ⟨hbx11, hE11⟩ := hE10.push2 hown5 hg5; obtain ⟨A11, c11, rfl⟩ := own_slice hown5; have t11 : w11.cell? ⟨w6.heap.size, 0, none⟩ = some ve := cell_of_heap hbx11 0; have f11 := frozen_of_heap hbx11 0; have HE11 := Lib.hid hE11; clear hown5 hg5 ha5 hE10 hE11 hbx11 t10))
                  go_roundw
                  case rel => exact ⟨p + 1, _, _, by omega, rfl, by go_num, HS1, by rw [HFB.out, HES.out]; exact HE11⟩
                  case measure => simp [intOf]; omega
              · obtain rfl : p = nf := by omega
                have hss : ss.take p = ss := List.take_of_length_le (by have := HNF.out; omega)
                rw [hss] at HS HE
                obtain ⟨Bs, hBs⟩ : ∃ Bs, framesB ss = Bs := ⟨_, rfl⟩
                have hBl : Bs.length ≤ 904 := by
                  have h1 := framesB_len ss HS.out
                  have := HNF.out
                  rw [hBs] at h1
                  omega
                rw [hBs] at HE
                have HBS := Lib.hid hBs
                obtain ⟨Ab, cb, rfl⟩ := own_slice HE.out.own
                obtain ⟨Ae, ce, rfl⟩ := own_slice HE.out.ends
                obtain ⟨f, hf⟩ : ∃ f : Nat, (f : Int) = max 0 (min (Bs.length : Int) cut) := ⟨(max 0 (min (Bs.length : Int) cut)).toNat, by omega⟩
                have hfB : f ≤ Bs.length := by omega
                have HF := Lib.hid hf
                clear hss hBs hf
                go_upto_region 30 with fail
                clear kb
                go_cut [2] from 109 to 113 (fun s2 wx => s2 = .int .i64 (f : Int) ∧ wx = wr)
                case first =>
                  go_wp2
                  all_goals
                    go_meet
                    exact ⟨by congr 1; have := HF.out; omega, rfl⟩
                case rest =>
                  obtain ⟨rfl, rfl⟩ := hcut
                  clear HF hc0 hc1
                  obtain ⟨B3, hB3⟩ : ∃ B3, Bs.take f = B3 := ⟨_, rfl⟩
                  have hl3 : B3.length = f := by rw [← hB3, List.length_take]; omega
                  have hbs := HBS.out
                  obtain ⟨t1, t2, t3⟩ := frames_told ss f HS.out
                  rw [hbs, hB3] at t1 t2 t3
                  rw [HNF.out] at t1 t3
                  have HT2 := Lib.hid t2
                  have HT3 := Lib.hid t3
                  have hKc := HK6.out.on HE.out.below hlt6
                  have HKc := Lib.hid hKc
                  have hltc : w6.heap.size + 1 ≤ wc.heap.size := HE.out.lt
                  have hfc : f ≤ cb := by
                    rcases HE.out.own.2 with ⟨e1, e2⟩ | ⟨g, cap, cur, e1, _, _, h3, _⟩
                    · injection e1 with e2 e3 e4
                      omega
                    · injection e1 with e2 e3 e4
                      omega
                  have hrdc : Rd wc wc.heap.size Ab B3 := by
                    rw [← hB3]
                    exact (Rd.of_own HE.out.own (Nat.le_refl _)).take f
                  have h34 : ∀ wx, Below wc.heap.size wc wx → Calls Tryd.prog 34 #[.slice Ab f cb] wx fun e w' => ∃ Bx A4 c4, e = .returned (.func (.func 63) #[] #[.pointer (some ⟨Bx, 0, none⟩)]) ∧ Cap w' w'.heap.size Bx A4 f c4 B3 ∧ wx.heap.size ≤ Bx ∧ (∀ b off, A4 = some ⟨b, off, none⟩ → wx.heap.size ≤ b) ∧ Below wx.heap.size wx w' := fun wx h =>
                    Frames_any B3 f cb Ab wx (Lib.hid hl3) (by omega) ((hrdc.below h).more h.size) (HTL.out.belowTo (hKc.below.trans (h.mono hKc.below.size)) HTL.out.1)
                  have H34 := Lib.hid h34
                  have hbn : Below wc.heap.size wc (wc.alloc (.cells #[.int .i64 0] 3)) := (Below.refl _ wc).alloc (Nat.le_refl _) _
                  have h34a := h34 _ hbn
                  have hfn : ∀ (wx : World) (a : Addr), (binOp .eql 77 (.func (.func 63) #[] #[.pointer (some a)]) .nilFunc).run Tryd.prog wx = .ok (.bool false) wx := fun wx a => by kernel_rfl
                  have i1 : (0 : Int) ≤ (f : Int) := by omega
                  have i2 : (f : Int) ≤ (cb : Int) := by omega
                  clear h34 hrdc hKc hbs hB3 t2 t3
                  go_wp2_with (first
                    | (go_at_call 34; (with_reducible refine h34a.mono ?_); clear h34a; rintro e w12 ⟨Bx, A12, c12, rfl, hcap1, hBx1, hA1, hb12⟩; have hbw12 : Below wc.heap.size wc w12 := hbn.trans (hb12.mono hbn.size); have h34b := H34.out _ hbw12)
                    | (go_at_call 34; (with_reducible refine h34b.mono ?_); clear h34b; rintro e w13 ⟨By, A13, c13, rfl, hcap, hBy, hA13, hb13⟩))
                  have hs12 : wc.heap.size + 1 ≤ w12.heap.size := by have := hb12.size; simp at this; omega
                  have hs13 : w12.heap.size ≤ w13.heap.size := hb13.size
                  have hbw13 : Below wc.heap.size wc w13 := hbw12.trans (hb13.mono hbw12.size)
                  have hboxn : w13.heap[wc.heap.size]? = some (.cells #[.int .i64 0] 3 (0, 0)) :=
                    (hb13.block _ (by omega)).trans ((hb12.block _ (by simp)).trans (World.alloc_heap_new wc _))
                  have h0w : 0 < w.heap.size := HTL.out.1
                  have HBW := Lib.hid hbw13
                  have HT1 := Lib.hid t1
                  clear hbw13 hbw12 hb12 hb13 hbn hcap1 hBx1 hA1 H34 hfn
                  refine (wpIn_wide (n := 3)).1 ?_
                  refine wpIn_range2 (gf := 63) (lb := #[.pointer (some ⟨By, 0, none⟩)]) rfl (enters_of Tryd.func63 (by kernel_rfl) rfl)
                    (frames_seq B3 A13 f c13 By w13 (fun b => b = wc.heap.size) hcap (by omega) (fun b e => by omega) (fun b off e h => by have := hA13 b off e; omega) (fun h => by omega))
                    (fun b e => by omega) ?hH ?hrow 123 124 18 19 rfl ?hargs
                    (fun q W => But (fun b => b = wc.heap.size) w13 W ∧ W.heap[wc.heap.size]? = some (.cells #[.int .i64 (q : Int)] 3 (0, 0)) ∧ q ≤ cntK B3)
                    (fun _ _ _ => False) ?hI ?hIx ⟨But.refl _ _, hboxn, Nat.zero_le _⟩ ?assign ?body ?done ?stop
                  case hH =>
                    rintro k args W1 W' ⟨h1, Av, cv, rfl, ho⟩ hb
                    exact ⟨h1, Av, cv, rfl, hb.row ho (fun g e h => by have := (ho.lt g e).1; omega)⟩
                  case hrow =>
                    rintro k args W1 b ⟨h1, Av, cv, rfl, ho⟩ ⟨x, v, e, e2⟩
                    simp only [Array.mk.injEq, List.cons.injEq, and_true] at e
                    obtain ⟨_, e3⟩ := e
                    rw [← e3] at e2
                    exact (ho.lt b e2).1
                  case hargs =>
                    rintro k args W1 ⟨h1, Av, cv, rfl, ho⟩
                    exact ⟨_, _, rfl⟩
                  case hI =>
                    rintro k W1 W' ⟨i1, i2, i3⟩ hb
                    exact ⟨i1.trans (But.of_below hb) (fun b h1 h2 => by omega), (hb.block _ (by omega)).trans i2, i3⟩
                  case hIx =>
                    rintro cd k W1 W' h hb
                    exact h
                  case assign =>
                    intro l0 x v W1 K hK
                    simp only [List.setIfInBounds_toArray, List.set_cons_zero, List.set_cons_succ] at hK ⊢
                    gi_wp2
                    exact hK
                  case body =>
                    rintro l0 q x v W1 hsz ⟨i1, i2, i3⟩ ⟨hq, Av, cv, e, ho⟩
                    simp only [Array.mk.injEq, List.cons.injEq, and_true] at e
                    obtain ⟨rfl, rfl⟩ := e
                    simp only [List.setIfInBounds_toArray, List.set_cons_zero, List.set_cons_succ]
                    have hbW : Below wc.heap.size wc W1 := HBW.out.trans (i1.to_below (n := wc.heap.size) HBW.out.size (fun b e => by omega))
                    have hE1 := HE.out.on hbW
                    have hK1 := HKc.out.on hbW (by omega)
                    have hqp : q < p := by have := HT1.out; omega
                    obtain ⟨ht1, hqs, ht2⟩ := HT2.out q hq
                    obtain ⟨ge, cap, eg, hgb, hgl⟩ := hE1.ends.form (by omega)
                    injection eg with e1 e2 e3
                    subst e1 e3
                    have ce := (hE1.ends.cellAt q (by omega)).trans (endsL_get ss hqp)
                    rw [← ht1] at ce
                    obtain ⟨bf, off, rfl, hbw, c0⟩ := HRF.out.at hqs
                    have cs := (hK1.below.cell (p := ⟨bf, off + q, none⟩) hbw).trans c0
                    obtain ⟨s, hs⟩ : ∃ s, ss[q] = s := ⟨_, rfl⟩
                    rw [hs] at cs ht2
                    have k1 := cell_of_heap i2 0
                    have k2 := frozen_of_heap i2 0
                    have k3 := cell_of_heap hK1.box 0
                    have k4 := cell_of_heap hE1.box 0
                    simp only [List.getElem?_toArray, List.getElem?_cons_zero] at k1 k3 k4
                    obtain ⟨m, hm⟩ : ∃ m, (bodyK B3 q).length = m := ⟨_, rfl⟩
                    obtain ⟨at_, hat⟩ : ∃ a, offK B3 (q + 1) = a := ⟨_, rfl⟩
                    have d1 : ∀ j : Nat, (convert 27 9 (.slice Av m cv)).run Tryd.prog (W1.drewN j) = .ok (.string s) (W1.drewN j) := fun j => by
                      have h := run_str (P := Tryd.prog) (W1.drewN j) 27 5 Tryd.underlying27 Tryd.underlying5 (bodyK B3 q) m cv W1.heap.size Av hm (Rd.of_own ho (Nat.le_refl _)) 9 Tryd.underlying9
                      rw [ht2, strB_strL] at h
                      exact h
                    rw [hm]
                    rw [hat] at ce ⊢
                    have hq1 : (q : Int) < (p : Int) := by omega
                    have hq2 : decide (p ≤ q) = false := by simp; omega
                    have kq : q ≤ 8 := by omega
                    have HI1 := Lib.hid i1
                    have HI2 := Lib.hid i2
                    clear hE1 hK1 ht1 ht2 hs c0 i1 i2 ho hm hat hbW hqs
                    gi_wp2
                    refine wpIn_round_quiet (by kernel_rfl) (by kernel_rfl) (by kernel_rfl) ?_
                    repeat (go_big_quiet_step (fail))
                    refine wpQuiet_nil ?_
                    intro _ hw'
                    obtain ⟨nq, hw''⟩ := hw'
                    subst hw''
                    have hbq : But (fun b => b = wc.heap.size) W1 ((W1.drewN nq).setCell ⟨wc.heap.size, 0, none⟩ (.int .i64 ((q + 1 : Nat) : Int))) := by
                      have h0 : But (fun b => b = wc.heap.size) W1 (W1.drewN nq) := But.of_all (⟨rfl, rfl, rfl, Nat.le_refl _, fun _ _ => rfl⟩ : Below W1.heap.size W1 (W1.drewN nq)) _
                      exact h0.set ⟨wc.heap.size, 0, none⟩ _ (.inl rfl)
                    have hbx : ((W1.drewN nq).setCell ⟨wc.heap.size, 0, none⟩ (.int .i64 ((q + 1 : Nat) : Int))).heap[wc.heap.size]? = some (.cells #[.int .i64 ((q + 1 : Nat) : Int)] 3 (0, 0)) := heap_setCells (w := W1.drewN nq) (i := 0) (u := .int .i64 ((q + 1 : Nat) : Int)) HI2.out
                    have hbi := HI1.out.trans hbq (fun b _ e => e)
                    have hsc : ((q + 1 : Nat) : Int) = (q : Int) + 1 := by omega
                    have HBQ := Lib.hid hbq
                    have HBX := Lib.hid hbx
                    have HBI := Lib.hid hbi
                    rw [hsc] at HBQ HBX HBI
                    clear hbq hbx hbi hsc d1
                    gi_wp2
                    exact ⟨trivial, HBQ.out.mono (fun b _ e => .inl e), HBI.out, by rw [show ((q + 1 : Nat) : Int) = (q : Int) + 1 by omega]; exact HBX.out, hq⟩
                  case done =>
                    rintro q W1 hq ⟨i1, i2, i3⟩ hD
                    have hbW : Below wc.heap.size wc W1 := HBW.out.trans (i1.to_below (n := wc.heap.size) HBW.out.size (fun b e => by omega))
                    have hE1 := HE.out.on hbW
                    have hK1 := HKc.out.on hbW (by omega)
                    have hs1 : w13.heap.size < W1.heap.size := (Array.getElem?_eq_some_iff.1 hD).1
                    have hqp : q ≤ p := by have := HT1.out; omega
                    have k1 := cell_of_heap i2 0
                    have k3 := cell_of_heap hK1.box 0
                    have k4 := cell_of_heap hE1.box 0
                    simp only [List.getElem?_toArray, List.getElem?_cons_zero] at k1 k3 k4
                    have h12 : Calls Tryd.prog 12 #[] W1 fun e w9 => e = .returned (.bool true) ∧ KeptB w w9 Af p cf ∧ w9.cell? ⟨w.heap.size + 1, 0, none⟩ = some (.bool false) ∧ w9.frozen? ⟨w.heap.size + 1, 0, none⟩ = false ∧ w9.heap[w13.heap.size]? = some (.deferred (some [])) := by
                      refine (hK1.works HTL.out).mono ?_
                      rintro e w9 ⟨h1, h2, h3, h4, h5⟩
                      exact ⟨h1, h2, h3, h4, (h5.block _ hs1).trans hD⟩
                    by_cases hqe : q = p
                    · have p1 : ((q : Int) == (p : Int)) = true := by simp; omega
                      clear hE1 hK1 i1 i2 hD hbW HT3 k4 hq
                      go_wp2_with (go_at_call 12; (with_reducible refine h12.mono ?_); clear h12; rintro e w9 ⟨rfl, r1, r2, r3, r5⟩)
                      obtain ⟨z1, z2⟩ := r1.told
                      have z5 : (w9.setCell ⟨w.heap.size + 1, 0, none⟩ (.bool true)).heap[w13.heap.size]? = some (.deferred (some [])) := (Below.heap_setCell _ ⟨w.heap.size + 1, 0, none⟩ _ _ (by simp; omega)).trans r5
                      have z4 : ((w9.setCell ⟨w.heap.size + 1, 0, none⟩ (.bool true)).putObj w13.heap.size (.deferred none)).cell? ⟨w.heap.size + 1, 0, none⟩ = some (.bool true) :=
                        cell_of_heap ((World.putObj_heap_other (by omega)).trans z1) 0
                      exact retM1 (v := .bool true) rfl z5 (by simp [results, Tryd.results10, go_sem, z4]) ⟨rfl, z2.trans ((put_but _ _ _).to_below z2.size (fun b e => by omega))⟩
                    · have hlt : q < p := by omega
                      have p1 : ((q : Int) == (p : Int)) = false := by simp; omega
                      have hgt : f < (framesB (ss.take (q + 1))).length := by
                        rcases HT3.out with h | h
                        · omega
                        · rw [hq]; exact h
                      obtain ⟨ge, cap, eg, hgb, hgl⟩ := hE1.ends.form (by omega)
                      injection eg with e1 e2 e3
                      subst e1 e3
                      have ce := (hE1.ends.cellAt q (by omega)).trans (endsL_get ss hlt)
                      obtain ⟨at_, hat⟩ : ∃ a, (framesB (ss.take (q + 1))).length = a := ⟨_, rfl⟩
                      rw [hat] at ce hgt
                      have p2 : (f : Int) < (at_ : Int) := by omega
                      clear hE1 hK1 i1 i2 hD hbW HT3 hat hq
                      go_wp2_with (go_at_call 12; (with_reducible refine h12.mono ?_); clear h12; rintro e w9 ⟨rfl, r1, r2, r3, r5⟩)
                      obtain ⟨z1, z2⟩ := r1.told
                      have z5 : (w9.setCell ⟨w.heap.size + 1, 0, none⟩ (.bool true)).heap[w13.heap.size]? = some (.deferred (some [])) := (Below.heap_setCell _ ⟨w.heap.size + 1, 0, none⟩ _ _ (by simp; omega)).trans r5
                      have z4 : ((w9.setCell ⟨w.heap.size + 1, 0, none⟩ (.bool true)).putObj w13.heap.size (.deferred none)).cell? ⟨w.heap.size + 1, 0, none⟩ = some (.bool true) :=
                        cell_of_heap ((World.putObj_heap_other (by omega)).trans z1) 0
                      exact retM1 (v := .bool true) rfl z5 (by simp [results, Tryd.results10, go_sem, z4]) ⟨rfl, z2.trans ((put_but _ _ _).to_below z2.size (fun b e => by omega))⟩
                  case stop =>
                    rintro cd q W1 _ h
                    exact h.elim
  · have h12 := hK2.works ht
    by_cases hf2 : fewB xs = true
    · have h8 : 8 < nf := by
        by_cases h : nf ≤ 8
        · exact absurd ⟨hf2, h⟩ hf
        · omega
      rw [hf2] at hcf
      clear hK2 hr2 hc2 hf hf2
      go_wp2_with (first
        | (go_at_call 11; (with_reducible refine hcf.mono ?_); rintro e w' ⟨rfl, rfl⟩)
        | (go_at_call 12; (with_reducible refine h12.mono ?_); clear h12; rintro e w1 ⟨rfl, h1, h2, h3, h4⟩))
      obtain ⟨r1, r2⟩ := h1.told
      have r3 := cell_of_heap r1 0
      exact retM (v := .bool true) (by simp [results, Tryd.results10, go_sem, r3]) rfl ⟨rfl, r2⟩
    · have hf3 : fewB xs = false := by simpa using hf2
      rw [hf3] at hcf
      clear hK2 hr2 hc2 hf hf2 hf3
      go_wp2_with (first
        | (go_at_call 11; (with_reducible refine hcf.mono ?_); rintro e w' ⟨rfl, rfl⟩)
        | (go_at_call 12; (with_reducible refine h12.mono ?_); clear h12; rintro e w1 ⟨rfl, h1, h2, h3, h4⟩))
      obtain ⟨r1, r2⟩ := h1.told
      have r3 := cell_of_heap r1 0
      exact retM (v := .bool true) (by simp [results, Tryd.results10, go_sem, r3]) rfl ⟨rfl, r2⟩
end Go.Proofs
