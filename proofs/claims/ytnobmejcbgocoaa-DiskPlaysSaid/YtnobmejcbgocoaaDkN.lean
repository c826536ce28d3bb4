/-
  Names of files: what isSign and isName answer. No condition beyond a text that is not too long.
-/
import Derived.Laws.RangeString
import Derived.Laws.RangeAny
import Derived.LoopTactic
import Derived.Deep.CutRange
import Derived.Deep.DeepCutAuto
import Derived.Test.YtnobmejcbgocoaaWBut
import Derived.Test.YtnobmejcbgocoaaItr1
import Derived.Test.YtnobmejcbgocoaaTxMath
import Derived.Test.YtnobmejcbgocoaaProg
namespace Go.Proofs
open Go Go.RowKit Sm Go.Lib
attribute [local go_sem] Oper.semAt_some
/-- may a file's name have such a sign? -/
def Sm.signN (x : Nat) : Bool := decide ((97 ≤ x ∧ x ≤ 122) ∨ (48 ≤ x ∧ x ≤ 57) ∨ x = 46)
/-- may a file be called so? -/
def Sm.nameOK (l : List (BitVec 8)) : Bool := decide (1 ≤ l.length ∧ l.length ≤ 20) && l.all fun b => signN b.toNat
theorem Sm.vb {a b : Bool} (h : a = true ↔ b = true) : Value.bool a = Value.bool b := by rw [Bool.eq_iff_iff.2 h]
set_option maxRecDepth 100000 in
theorem Sm.isSign_any (x : Nat) (w : World) : Calls Try.prog 75 #[.int .i32 (x : Int)] w fun e w' => e = .returned (.bool (signN x)) ∧ w = w' := by
  have hs : signN x = (decide ((97 : Int) ≤ (x : Int)) && decide ((x : Int) ≤ 122) || (decide ((48 : Int) ≤ (x : Int)) && decide ((x : Int) ≤ 57) || ((x : Int) == 46))) := by
    unfold signN
    by_cases a : 97 ≤ x <;> by_cases b : x ≤ 122 <;> by_cases c : 48 ≤ x <;> by_cases d : x ≤ 57 <;> by_cases e : x = 46 <;> simp [a, b, c, d, e] <;> omega
  have HS := Lib.hid hs
  clear hs
  go_enter Try.func75, Try.ntmps75
  go_upto_region 1 with fail
  go_cut [2] from 3 to 20 (fun s2 wx => s2 = .bool (signN x) ∧ wx = w)
  case first =>
    by_cases a : (97 : Int) ≤ (x : Int)
    · by_cases b : (x : Int) ≤ 122
      · go_wp2
        go_meet
        exact ⟨by rw [HS.out]; exact vb (by simp <;> omega), rfl⟩
      · by_cases c : (48 : Int) ≤ (x : Int)
        · by_cases d : (x : Int) ≤ 57
          · go_wp2
            go_meet
            exact ⟨by rw [HS.out]; exact vb (by simp <;> omega), rfl⟩
          · go_wp2
            go_meet
            exact ⟨by rw [HS.out]; exact vb (by simp <;> omega), rfl⟩
        · go_wp2
          go_meet
          exact ⟨by rw [HS.out]; exact vb (by simp <;> omega), rfl⟩
    · by_cases c : (48 : Int) ≤ (x : Int)
      · by_cases d : (x : Int) ≤ 57
        · go_wp2
          go_meet
          exact ⟨by rw [HS.out]; exact vb (by simp <;> omega), rfl⟩
        · go_wp2
          go_meet
          exact ⟨by rw [HS.out]; exact vb (by simp <;> omega), rfl⟩
      · go_wp2
        go_meet
        exact ⟨by rw [HS.out]; exact vb (by simp <;> omega), rfl⟩
  case rest =>
    obtain ⟨rfl, rfl⟩ := hcut
    go_wp2
    go_ret
    exact ⟨rfl, rfl⟩
theorem Sm.run_next_at {P : Program} (W : World) (it : Nat) (s : ByteArray) (pos : Nat) (ty : TypeId) (hb : W.heap[it]? = some (.stringIter s pos)) (h : pos < s.size) :
    (Instr.next (.pointer (some ⟨it, 0, none⟩)) true ty).run P W = .ok (.tuple #[.bool true, .int .i64 pos, .int .i32 (Utf8.decode s pos).1]) (W.putObj it (.stringIter s (pos + (Utf8.decode s pos).2))) := by
  simp only [Instr.next, getObj, setObj, Sem.run_bind, Sem.run, hb, Result.andThen, h, if_true]
  simp [goInt, World.putObj]
theorem Sm.run_next_stop {P : Program} (W : World) (it : Nat) (s : ByteArray) (pos : Nat) (ty : TypeId) (hb : W.heap[it]? = some (.stringIter s pos)) (h : ¬ pos < s.size) :
    (Instr.next (.pointer (some ⟨it, 0, none⟩)) true ty).run P W = .ok (.tuple #[.bool false]) W := by
  simp [Instr.next, getObj, Sem.run, hb, h]
theorem Sm.iterPos_at {W : World} {it p : Nat} {s : ByteArray} (h : W.heap[it]? = some (.stringIter s p)) : W.iterPos it = p := by simp [World.iterPos, h]
theorem Sm.decodeN_low (n b0 b1 b2 b3 : Nat) (h : b0 < 128) : decodeN n b0 b1 b2 b3 = (b0, 1) := by
  unfold decodeN
  rw [if_pos h]
theorem Sm.dec_low {s : ByteArray} {p : Nat} (h : (s.get! p).toNat < 128) : Utf8.decode s p = ((s.get! p).toNat, 1) := by
  rw [decode_at, decodeN_low _ _ _ _ _ h]
theorem Sm.dec_big {s : ByteArray} {p : Nat} (h : 128 ≤ (s.get! p).toNat) : 128 ≤ (Utf8.decode s p).1 := by
  rw [decode_at]
  have hb := (s.get! p).toNat_lt
  generalize (s.get! p).toNat = b0 at h hb ⊢
  generalize (s.get! (p + 1)).toNat = b1
  generalize (s.get! (p + 2)).toNat = b2
  generalize (s.get! (p + 3)).toNat = b3
  generalize s.size - p = n
  unfold decodeN
  repeat' split
  all_goals (simp only; omega)
theorem Sm.signN_big {x : Nat} (h : 128 ≤ x) : signN x = false := by
  unfold signN
  exact decide_eq_false (by omega)
theorem Sm.byte_get' (s : ByteArray) {j : Nat} {b : BitVec 8} (hj : (strL s)[j]? = some b) : (s.get! j).toNat = b.toNat := by
  unfold strL at hj
  rw [List.getElem?_map] at hj
  cases s with
  | mk a =>
    show (a[j]!).toNat = _
    have h2 : a.toList[j]? = a[j]? := by simp
    rw [show (ByteArray.mk a).data.toList[j]? = a[j]? from h2] at hj
    cases ha : a[j]? with
    | none => rw [ha] at hj; cases hj
    | some y =>
      rw [ha] at hj
      injection hj with hj
      subst hj
      rw [getElem!_def, ha]
      rfl
/-- where signs are all of one byte each up to a place -/
structure Sm.NmA (s : ByteArray) (w W : World) (L k : Nat) : Prop where
  le : k ≤ s.size
  ok : ((strL s).take k).all (fun b => signN b.toNat) = true
  it : W.heap[L]? = some (.stringIter s k)
  below : Below w.heap.size w W
set_option maxRecDepth 100000 in
set_option maxHeartbeats 2000000 in
theorem Sm.isName_any (s : ByteArray) (w : World) (hm : s.size ≤ 1000000) : Calls Try.prog 64 #[.string s] w fun e w' => e = .returned (.bool (nameOK (strL s))) ∧ Below w.heap.size w w' := by
  have hlen := strL_length s
  by_cases hbad : s.size < 1 ∨ 20 < s.size
  · have hn : nameOK (strL s) = false := by
      unfold nameOK
      rw [decide_eq_false (by omega), Bool.false_and]
    have HN := Lib.hid hn
    clear hn
    clear hlen
    go_enter Try.func64, Try.ntmps64
    go_upto_region 1 with fail
    go_cut [12] from 5 to 12 (fun s12 wx => s12 = .bool true ∧ wx = w)
    case first =>
      by_cases h1 : s.size < 1
      · go_wp2
        go_meet
        exact ⟨by first | rfl | exact vb (by simp <;> omega), rfl⟩
      · have h2 : 20 < s.size := by omega
        go_wp2
        go_meet
        exact ⟨by first | rfl | exact vb (by simp <;> omega), rfl⟩
    case rest =>
      obtain ⟨rfl, rfl⟩ := hcut
      go_wp2
      go_ret
      exact ⟨by rw [HN.out]; rfl, Below.refl _ _⟩
  · have hn : nameOK (strL s) = (strL s).all fun b => signN b.toNat := by
      unfold nameOK
      rw [decide_eq_true (by omega), Bool.true_and]
    have HN := Lib.hid hn
    have h1' : ¬ (s.size : Int) < 1 := by omega
    have h2' : ¬ (20 : Int) < (s.size : Int) := by omega
    have HL := Lib.hid hlen
    obtain ⟨L, hL⟩ : ∃ L, w.heap.size = L := ⟨_, rfl⟩
    have hI0 : NmA s w (w.alloc (.stringIter s 0)) L 0 := ⟨Nat.zero_le _, rfl, by rw [← hL]; exact World.alloc_heap_new w _, (Below.refl _ w).alloc (Nat.le_refl _) _⟩
    have HI0 := Lib.hid hI0
    have HWL := Lib.hid hL
    clear hbad hlen hn hI0
    go_enter Try.func64, Try.ntmps64
    go_wp2
    go_loopw [4] (fun _ wr => ∃ k : Nat, Hid (NmA s w wr L k)) (fun _ wr => s.size - wr.iterPos L)
    case atStart => exact ⟨0, HI0⟩
    case round =>
      obtain ⟨wo, rfl⟩ : ∃ wo : World, wo = wr := ⟨_, rfl⟩
      obtain ⟨k, HE⟩ := hrel
      clear HI0
      have hpo := iterPos_at HE.out.it
      by_cases hlt : k < s.size
      · have hnx : ∀ ty, (Instr.next (.pointer (some ⟨L, 0, none⟩)) true ty).run Try.prog wo = _ := fun ty => run_next_at wo L s k ty HE.out.it hlt
        have hkl : k < (strL s).length := by rw [HL.out]; exact hlt
        have hgb := byte_get' s (List.getElem?_eq_getElem hkl)
        have htk : (strL s).take (k + 1) = (strL s).take k ++ [(strL s)[k]] := List.take_succ_eq_append_getElem hkl
        have hLo : L < wo.heap.size := (Array.getElem?_eq_some_iff.1 HE.out.it).1
        by_cases h128 : (s.get! k).toNat < 128
        · rw [dec_low h128] at hnx
          simp only at hnx
          obtain ⟨w1, hw1⟩ : ∃ w1, wo.putObj L (.stringIter s (k + 1)) = w1 := ⟨_, rfl⟩
          have hit1 : w1.heap[L]? = some (.stringIter s (k + 1)) := by rw [← hw1]; simp [World.putObj, hLo]
          have hb1 : Below w.heap.size w w1 := by
            rw [← hw1]
            exact HE.out.below.trans ((put_but _ _ _).to_below HE.out.below.size (fun b e => by rw [e, ← HWL.out]; exact Nat.le_refl _))
          have hsg := isSign_any (s.get! k).toNat
          obtain ⟨x, hx⟩ : ∃ x, (s.get! k).toNat = x := ⟨_, rfl⟩
          rw [hx] at hsg hnx hgb
          rw [hw1] at hnx
          by_cases hok : signN x = true
          · have HN1 : Hid (NmA s w w1 L (k + 1)) := Lib.hid ⟨hlt, by rw [htk, List.all_append, HE.out.ok]; simp [← hgb, hok], hit1, hb1⟩
            have hp1 := iterPos_at hit1
            rw [hok] at hsg
            clear hw1 hit1 hb1 htk hgb hkl h128 hx hok
            go_wp2_with (go_at_call 75; (with_reducible refine (hsg _).mono ?_); rintro e w' ⟨rfl, rfl⟩)
            refine ⟨⟨k + 1, HN1⟩, ?_⟩
            rw [hp1, hpo]
            omega
          · have hok2 : signN x = false := by simpa using hok
            have hall : ((strL s).all fun b => signN b.toNat) = false := by
              rw [Bool.eq_false_iff]
              intro h
              have := List.all_eq_true.1 h _ (List.getElem_mem hkl)
              rw [← hgb] at this
              exact hok this
            rw [hok2] at hsg
            have HALL := Lib.hid hall
            have HB1 := Lib.hid hb1
            clear hw1 hit1 hb1 htk hgb hkl h128 hx hok hok2 hall
            go_wp2_with (go_at_call 75; (with_reducible refine (hsg _).mono ?_); rintro e w' ⟨rfl, rfl⟩)
            go_ret
            exact ⟨by rw [HN.out, HALL.out]; rfl, HB1.out⟩
        · obtain ⟨w1, hw1⟩ : ∃ w1, wo.putObj L (.stringIter s (k + (Utf8.decode s k).2)) = w1 := ⟨_, rfl⟩
          have hb1 : Below w.heap.size w w1 := by
            rw [← hw1]
            exact HE.out.below.trans ((put_but _ _ _).to_below HE.out.below.size (fun b e => by rw [e, ← HWL.out]; exact Nat.le_refl _))
          have hbig := dec_big (s := s) (p := k) (by omega)
          have hall : ((strL s).all fun b => signN b.toNat) = false := by
            rw [Bool.eq_false_iff]
            intro h
            have h2 := List.all_eq_true.1 h _ (List.getElem_mem hkl)
            rw [← hgb, signN_big (by omega)] at h2
            cases h2
          have hsg := isSign_any (Utf8.decode s k).1
          rw [signN_big hbig] at hsg
          rw [hw1] at hnx
          have HALL := Lib.hid hall
          have HB1 := Lib.hid hb1
          obtain ⟨x, hx⟩ : ∃ x, (Utf8.decode s k).1 = x := ⟨_, rfl⟩
          rw [hx] at hsg hnx
          clear hw1 hb1 htk hgb hkl h128 hx hbig hall
          go_wp2_with (go_at_call 75; (with_reducible refine (hsg _).mono ?_); rintro e w' ⟨rfl, rfl⟩)
          go_ret
          exact ⟨by rw [HN.out, HALL.out]; rfl, HB1.out⟩
      · have hnx : ∀ ty, (Instr.next (.pointer (some ⟨L, 0, none⟩)) true ty).run Try.prog wo = _ := fun ty => run_next_stop wo L s k ty HE.out.it hlt
        have hke : k = s.size := by have := HE.out.le; omega
        have hall : ((strL s).all fun b => signN b.toNat) = true := by
          have := HE.out.ok
          rw [hke, List.take_of_length_le (by rw [HL.out]; exact Nat.le_refl _)] at this
          exact this
        have HALL := Lib.hid hall
        clear hke hall
        go_wp2
        go_ret
        exact ⟨by rw [HN.out, HALL.out]; rfl, HE.out.below⟩
end Go.Proofs
