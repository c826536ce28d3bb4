/-
  Numbers as bytes, and the number with which bytes begin: what is laid is read. No condition.
  Texts as bytes, and a text laid behind a row. No condition.
  The contracts of within and lay, and of a writer's small calls.
  The contract of bytes.Clone at readable bytes, at most 1000000.
-/
import Derived.Test.YtbnemingkdofmaaDoorQ00
import Derived.Lib.AppendStr
import Derived.Test.YtbnemingkdofmaaDoorQ32
namespace Go.Proofs.Sm
/-- the bytes of a number -/
def numB (n : Nat) : List (BitVec 8) := if n < 128 then [BitVec.ofNat 8 n] else BitVec.ofNat 8 (128 + n % 128) :: numB (n / 128)
termination_by n
decreasing_by omega
theorem numB_small {n : Nat} (h : n < 128) : numB n = [BitVec.ofNat 8 n] := by rw [numB, if_pos h]
theorem numB_big {n : Nat} (h : 128 ≤ n) : numB n = BitVec.ofNat 8 (128 + n % 128) :: numB (n / 128) := by rw [numB, if_neg (by omega)]
theorem numB_pos (n : Nat) : 0 < (numB n).length := by
  rw [numB]; split <;> simp
theorem numB_len (f : Nat) : ∀ n, n < 128 ^ (f + 1) → (numB n).length ≤ f + 1 := by
  induction f with
  | zero =>
    intro n h
    rw [numB_small (by simpa using h)]; simp
  | succ f ih =>
    intro n h
    by_cases hn : n < 128
    · rw [numB_small hn]; simp
    · rw [numB_big (by omega), List.length_cons]
      have := ih (n / 128) (by rw [Nat.pow_succ] at h; omega)
      omega
/-- the greatest number -/
def top : Nat := 4611686018427387904
theorem numB_len9 {n : Nat} (h : n ≤ top) : (numB n).length ≤ 9 := numB_len 8 n (by unfold top at h; omega)
/-- the number of bytes, seven bits each -/
def numV : List (BitVec 8) → Nat
  | [] => 0
  | c :: r => c.toNat % 128 + 128 * numV r
/-- how many bytes with 128 more lie ahead -/
def lead : List (BitVec 8) → Nat
  | [] => 0
  | c :: r => if 128 ≤ c.toNat then lead r + 1 else 0
inductive Got
  | cut
  | bad
  | num (n k : Nat)
/-- the number with which bytes begin, and how many bytes it has; cut: it goes on behind them; bad: there is none -/
def getN (l : List (BitVec 8)) : Got :=
  if 9 ≤ lead l then .bad
  else match l[lead l]? with
    | none => .cut
    | some c => if (0 < lead l ∧ c.toNat = 0) ∨ top < numV (l.take (lead l + 1)) then .bad else .num (numV (l.take (lead l + 1))) (lead l + 1)
theorem lead_le (l : List (BitVec 8)) : lead l ≤ l.length := by
  induction l with
  | nil => simp [lead]
  | cons c r ih => rw [lead]; split <;> simp <;> omega
theorem lead_byte (l : List (BitVec 8)) : ∀ i c, i < lead l → l[i]? = some c → 128 ≤ c.toNat := by
  induction l with
  | nil => intro i c h; simp [lead] at h
  | cons d r ih =>
    intro i c h hc
    rw [lead] at h
    split at h
    · match i with
      | 0 => simp at hc; subst hc; assumption
      | i + 1 => exact ih i c (by omega) (by simpa using hc)
    · omega
theorem lead_end (l : List (BitVec 8)) (c : BitVec 8) (h : l[lead l]? = some c) : c.toNat < 128 := by
  induction l with
  | nil => simp at h
  | cons d r ih =>
    rw [lead] at h
    split at h
    · exact ih (by simpa using h)
    · simp at h; subst h; omega
theorem lead_more (l : List (BitVec 8)) (i : Nat) (c : BitVec 8) (hi : i ≤ lead l) (hc : l[i]? = some c) (h : 128 ≤ c.toNat) : i + 1 ≤ lead l := by
  rcases Nat.lt_or_ge i (lead l) with h1 | h1
  · exact h1
  · have : i = lead l := by omega
    subst this
    have := lead_end l c hc
    omega
theorem lead_eq (l : List (BitVec 8)) (i : Nat) (c : BitVec 8) (hi : i ≤ lead l) (hc : l[i]? = some c) (h : c.toNat < 128) : lead l = i := by
  rcases Nat.lt_or_ge i (lead l) with h1 | h1
  · have := lead_byte l i c h1 hc
    omega
  · omega
theorem numV_snoc (l : List (BitVec 8)) (c : BitVec 8) : numV (l ++ [c]) = numV l + 128 ^ l.length * (c.toNat % 128) := by
  induction l with
  | nil => simp [numV]
  | cons d r ih =>
    rw [List.cons_append, numV, ih, numV, List.length_cons, Nat.pow_succ, Nat.mul_add, Nat.mul_comm (128 ^ r.length) 128, Nat.mul_assoc]
    omega
theorem numV_lt (l : List (BitVec 8)) : numV l < 128 ^ l.length := by
  induction l with
  | nil => simp [numV]
  | cons d r ih =>
    rw [numV, List.length_cons, Nat.pow_succ]
    omega
theorem getN_cut {l : List (BitVec 8)} (h : lead l = l.length) (h9 : l.length < 9) : getN l = .cut := by
  unfold getN
  rw [if_neg (by omega), List.getElem?_eq_none (by omega)]
theorem getN_long {l : List (BitVec 8)} (h : 9 ≤ lead l) : getN l = .bad := by unfold getN; rw [if_pos h]
theorem getN_zero {l : List (BitVec 8)} {c : BitVec 8} {i : Nat} (hi : lead l = i) (h0 : 0 < i) (h9 : i < 9) (hc : l[i]? = some c) (hz : c.toNat = 0) : getN l = .bad := by
  subst hi
  unfold getN
  rw [if_neg (by omega), hc]
  simp only
  rw [if_pos (.inl ⟨h0, hz⟩)]
theorem getN_over {l : List (BitVec 8)} {c : BitVec 8} {i : Nat} (hi : lead l = i) (h9 : i < 9) (hc : l[i]? = some c) (ht : top < numV (l.take (i + 1))) : getN l = .bad := by
  subst hi
  unfold getN
  rw [if_neg (by omega), hc]
  simp only
  rw [if_pos (.inr ht)]
theorem getN_num {l : List (BitVec 8)} {c : BitVec 8} {i : Nat} (hi : lead l = i) (h9 : i < 9) (hc : l[i]? = some c) (hz : ¬ (0 < i ∧ c.toNat = 0)) (ht : numV (l.take (i + 1)) ≤ top) : getN l = .num (numV (l.take (i + 1))) (i + 1) := by
  subst hi
  unfold getN
  rw [if_neg (by omega), hc]
  simp only
  rw [if_neg (by rintro (h | h); exact hz h; omega)]
theorem getN_form {l : List (BitVec 8)} {n k : Nat} (h : getN l = .num n k) : n ≤ top ∧ 0 < k ∧ k ≤ 9 ∧ k ≤ l.length := by
  unfold getN at h
  split at h
  · cases h
  · split at h
    · cases h
    · rename_i c hc
      split at h
      · cases h
      · rename_i h2
        injection h with h3 h4
        subst h3 h4
        have := (List.getElem?_eq_some_iff.1 hc).1
        refine ⟨?_, by omega, by omega, by omega⟩
        rcases Nat.lt_or_ge top (numV (l.take (lead l + 1))) with h5 | h5
        · exact absurd (.inr h5) h2
        · exact h5
theorem take_succ_get {l : List (BitVec 8)} {i : Nat} {c : BitVec 8} (hc : l[i]? = some c) : numV (l.take (i + 1)) = numV (l.take i) + 128 ^ i * (c.toNat % 128) := by
  obtain ⟨hi, e⟩ := List.getElem?_eq_some_iff.1 hc
  rw [List.take_succ_eq_append_getElem hi, numV_snoc, List.length_take, Nat.min_eq_left (by omega), e]
theorem ofNat_small {n : Nat} (h : n < 128) : (BitVec.ofNat 8 n).toNat = n := by simp; omega
theorem ofNat_big (n : Nat) : (BitVec.ofNat 8 (128 + n % 128)).toNat = 128 + n % 128 := by simp; omega
/-- what is laid is read -/
theorem lead_numB (n : Nat) (r : List (BitVec 8)) : lead (numB n ++ r) = (numB n).length - 1 := by
  induction n using Nat.strongRecOn with
  | ind n ih =>
    by_cases h : n < 128
    · rw [numB_small h, List.cons_append, lead, ofNat_small h, if_neg (by omega)]; rfl
    · rw [numB_big (by omega), List.cons_append, lead, ofNat_big, if_pos (by omega), ih (n / 128) (by omega), List.length_cons]
      have := numB_pos (n / 128)
      omega
theorem numV_numB (n : Nat) : numV (numB n) = n := by
  induction n using Nat.strongRecOn with
  | ind n ih =>
    by_cases h : n < 128
    · rw [numB_small h, numV, ofNat_small h, numV]; omega
    · rw [numB_big (by omega), numV, ofNat_big, ih (n / 128) (by omega)]; omega
theorem last_numB (n : Nat) : ∃ c, (numB n)[(numB n).length - 1]? = some c ∧ ¬ (0 < (numB n).length - 1 ∧ c.toNat = 0) := by
  induction n using Nat.strongRecOn with
  | ind n ih =>
    by_cases h : n < 128
    · rw [numB_small h]; exact ⟨_, rfl, by simp⟩
    · obtain ⟨c, hc, hz⟩ := ih (n / 128) (by omega)
      rw [numB_big (by omega)]
      have hp := numB_pos (n / 128)
      refine ⟨c, ?_, ?_⟩
      · rw [List.length_cons, Nat.add_sub_cancel]
        obtain ⟨m, hm⟩ : ∃ m, (numB (n / 128)).length = m + 1 := ⟨_, (Nat.succ_pred_eq_of_pos hp).symm⟩
        rw [hm] at hc ⊢
        simpa using hc
      · rw [List.length_cons, Nat.add_sub_cancel]
        rintro ⟨_, h0⟩
        by_cases h1 : n / 128 < 128
        · rw [numB_small h1] at hc
          simp at hc
          rw [← hc, ofNat_small h1] at h0
          omega
        · refine hz ⟨?_, h0⟩
          rw [numB_big (by omega), List.length_cons]
          have := numB_pos (n / 128 / 128)
          omega
theorem getN_numB {n : Nat} (h : n ≤ top) (r : List (BitVec 8)) : getN (numB n ++ r) = .num n (numB n).length := by
  obtain ⟨c, hc, hz⟩ := last_numB n
  have hp := numB_pos n
  have h9 := numB_len9 h
  have e : (numB n).length - 1 + 1 = (numB n).length := by omega
  have et : (numB n ++ r).take ((numB n).length - 1 + 1) = numB n := by rw [e, List.take_append_of_le_length (Nat.le_refl _), List.take_of_length_le (Nat.le_refl _)]
  have := getN_num (l := numB n ++ r) (c := c) (lead_numB n r) (by omega) (by rw [List.getElem?_append_left (by omega)]; exact hc) hz (by rw [et, numV_numB]; exact h)
  rw [et, numV_numB, e] at this
  exact this
theorem drop_numB (n : Nat) (r : List (BitVec 8)) : (numB n ++ r).drop (numB n).length = r := by rw [List.drop_append_of_le_length (Nat.le_refl _), List.drop_of_length_le (Nat.le_refl _), List.nil_append]
end Go.Proofs.Sm
namespace Go.Proofs
open Go.RowKit Go.Shelf Sm
namespace Sm
/-- a text's bytes -/
def strL (s : ByteArray) : List (BitVec 8) := s.data.toList.map (·.toBitVec)
theorem strL_length (s : ByteArray) : (strL s).length = s.size := by rw [strL, List.length_map, Array.length_toList]; rfl
theorem strL_cells (s : ByteArray) : Lib.strCells s = (strL s).map byteCell := by
  rw [Lib.strCells, strL, List.map_map]
  rfl
theorem strB_data (l : List (BitVec 8)) : (strB l).data.toList = l.map (fun c => UInt8.ofBitVec c) := by
  unfold strB
  rw [strOfNums_data, List.map_map]
  refine List.map_congr_left fun c _ => ?_
  apply UInt8.toNat_inj.1
  have := c.isLt
  simp [ib]
theorem strL_strB (l : List (BitVec 8)) : strL (strB l) = l := by
  rw [strL, strB_data, List.map_map]
  conv => rhs; rw [← List.map_id l]
  rfl
theorem strB_strL (s : ByteArray) : strB (strL s) = s := by
  have h : (strB (strL s)).data.toList = s.data.toList := by
    rw [strB_data, strL, List.map_map]
    conv => rhs; rw [← List.map_id s.data.toList]
    rfl
  have h2 : (strB (strL s)).data = s.data := Array.toList_inj.1 h
  cases s
  exact congrArg ByteArray.mk h2
theorem str_cmp (s t : ByteArray) : (s.toList == t.toList) = decide (strL s = strL t) := by
  rw [← strB_strL s, ← strB_strL t, strB_eq, strL_strB, strL_strB]
end Sm
section
variable {P : Program} (w : World)
/-- append of a text behind a row of the call's own -/
theorem Sm.run_append_str (base : Nat) (t u ty e : TypeId) (i : TypeInfo) (ht : P.underlying t = some (.slice e)) (hu : P.underlying u = some .string) (hi : P.info? e = some i) (hz : i.zero = some (.int .u8 0))
    (hsize : i.size = 1) (hby : i.bytes = 1)
    (v : Value) (n : Nat) (xs : List Value) (hown : w.ownsRow base e 1 v n xs) (hn : 0 < n) (s : ByteArray) (hnm : n + s.size ≤ 1000000000) (hbase : base ≤ w.heap.size) :
    ∃ v' w', (Builtin.append_ #[t, u] ty #[v, .string s]).run P w = .ok v' w' ∧ w'.ownsRow base e 1 v' (n + s.size) (xs ++ (strL s).map byteCell) ∧ w.grownBy w' v.ownBlock ∧ (v'.ownBlock = v.ownBlock ∨ v'.ownBlock = some w.heap.size) := by
  obtain ⟨v', w', hr, h1, h2, _⟩ := Lib.run_append_own_string (P := P) w base t u ty e i ht hu hi hz hsize hby v n xs hown s (by unfold maxLen; omega) (by omega) hbase
  rw [strL_cells] at h1
  refine ⟨v', w', hr, h1, h2, ?_⟩
  rcases hown.2 with ⟨rfl, rfl⟩ | ⟨g, cap, cur, rfl, hbg, hg, hnc, hcm, hcs, htake⟩
  · omega
  · by_cases hroom : n + s.size ≤ cap
    · have h3 := Lib.run_append_room_string (P := P) w t u ty e i ht hu hi hsize g n cap cur hg s hroom (by omega)
      rw [hr] at h3
      injection h3 with h4 h5
      subst h4
      exact .inl rfl
    · have h3 := Lib.run_append_grow_string (P := P) w t u ty e i (.int .u8 0) ht hu hi hz ⟨g, 0, none⟩ n cap xs (by rw [hsize]; exact hown.1) (hown.cells (g := g) rfl) s (by omega) (by unfold maxLen at hcm; omega) (by rw [hby]; exact growslice_fits (by omega) (by omega))
      rw [hr] at h3
      injection h3 with h4 h5
      subst h4
      exact .inr rfl
theorem Sm.wpList_append_str {ops : Array Oper} {rest : List Oper} {o : Oper} {a : Act} {Q : Exit → Act → World → Prop} (hgd : o.guard = none) (sl x : Operand) (t u : TypeId)
    (ho : o.op = .call { callee := .builtin .append, args := #[sl, x], argTypes := #[t, u] })
    (base : Nat) (e : TypeId) (i : TypeInfo) (ht : P.underlying t = some (.slice e)) (hu : P.underlying u = some .string) (hi : P.info? e = some i) (hz : i.zero = some (.int .u8 0))
    (hsize : i.size = 1) (hby : i.bytes = 1)
    (v : Value) (n : Nat) (xs : List Value) (hs : a.eval sl = v) (hown : w.ownsRow base e 1 v n xs) (hn : 0 < n) (s : ByteArray) (hx : a.eval x = .string s) (hnm : n + s.size ≤ 1000000000) (hbase : base ≤ w.heap.size)
    (h : ∀ v' w', w'.ownsRow base e 1 v' (n + s.size) (xs ++ (strL s).map byteCell) → w.grownBy w' v.ownBlock → (v'.ownBlock = v.ownBlock ∨ v'.ownBlock = some w.heap.size) → wpList P ops Q rest (a.put o.dst v') w') : wpList P ops Q (o :: rest) a w := by
  refine wpList_plain hgd fun K hK => ?_
  obtain ⟨v', w', hr, h2, h3, h4⟩ := run_append_str (P := P) w base t u o.type e i ht hu hi hz hsize hby v n xs hown hn s hnm hbase
  unfold Oper.wp execOp
  simp only [ho, resolve, invoke, builtin, Sem.run_bind, Sem.run_pure, Result.andThen_ok, List.map_toArray, List.map_cons, List.map_nil, hs, hx, hr]
  exact hK _ _ (h v' w' h2 h3 h4)
end
end Go.Proofs
namespace Go.Proofs
open Go.RowKit Go.Shelf Sm
set_option maxHeartbeats 400000 in
theorem Sm.within_yes (a n b : Int) (h1 : a ≤ n) (h2 : n ≤ b) (w : World) : Calls Tryd.prog 56 #[.int .i64 a, .int .i64 n, .int .i64 b] w fun e w' => e = .returned (.bool true) ∧ w = w' := by
  go_enter Tryd.func56, Tryd.ntmps56
  go_wp2
  go_ret
  exact ⟨rfl, rfl⟩
set_option maxHeartbeats 400000 in
theorem Sm.within_no (a n b : Int) (h : ¬ (a ≤ n ∧ n ≤ b)) (w : World) : Calls Tryd.prog 56 #[.int .i64 a, .int .i64 n, .int .i64 b] w fun e w' => e = .returned (.bool false) ∧ w = w' := by
  by_cases h1 : a ≤ n
  · have h2 : ¬ n ≤ b := fun h2 => h ⟨h1, h2⟩
    clear h
    go_enter Tryd.func56, Tryd.ntmps56
    go_wp2
    go_ret
    exact ⟨rfl, rfl⟩
  · clear h
    go_enter Tryd.func56, Tryd.ntmps56
    go_wp2
    go_ret
    refine ⟨?_, rfl⟩
    show Ending.returned (Value.bool _) = _
    simp
theorem Sm.or128 (n : Nat) : bits .or .u8 ((n : Int) % (256 : Int)) 128 = ib (BitVec.ofNat 8 (128 + n % 128)) := by
  have h : ∀ r : Fin 256, bits .or .u8 ((r.val : Nat) : Int) 128 = ib (BitVec.ofNat 8 (128 + r.val % 128)) := by decide +kernel
  have e : (n : Int) % (256 : Int) = (((⟨n % 256, Nat.mod_lt _ (by decide)⟩ : Fin 256).val : Nat) : Int) := by simp
  rw [e, h]
  simp only
  rw [Nat.mod_mod_of_dvd _ (by decide : 128 ∣ 256)]
theorem Sm.low_num (n : Nat) : (n : Int) % (256 : Int) = ib (BitVec.ofNat 8 n) := by
  unfold ib
  simp
set_option maxRecDepth 100000 in
set_option maxHeartbeats 2000000 in
theorem Sm.layN_any (base : Nat) (v : Value) (n0 : Nat) (xs : List (BitVec 8)) (m : Nat) (w : World) (hown : w.ownsRow base 5 1 v n0 (xs.map byteCell)) (hbase : base ≤ w.heap.size) (hm : m ≤ top) (hn0 : n0 ≤ 100000000) :
    Calls Tryd.prog 57 #[v, .int .i64 (m : Int)] w fun e w' => ∃ v', e = .returned v' ∧ w'.ownsRow base 5 1 v' (n0 + (numB m).length) ((xs ++ numB m).map byteCell) ∧ But (fun b => v.ownBlock = some b) w w' ∧ Stays w v v' := by
  obtain ⟨i0, hi, hz0, hz1, hz2⟩ := info_parts info5
  go_enter Tryd.func57, Tryd.ntmps57
  go_wp2
  go_loopw [0, 1] (fun vv vm wr => ∃ (ys : List (BitVec 8)) (k : Nat), vm = .int .i64 (k : Int) ∧ k ≤ m ∧ ys ++ numB k = numB m ∧ wr.ownsRow base 5 1 vv (n0 + ys.length) ((xs ++ ys).map byteCell) ∧ ys.length + (numB k).length ≤ 9 ∧ But (fun b => v.ownBlock = some b) w wr ∧ Stays w v vv)
    (fun _ vm _ => (intOf vm).toNat)
  case atStart => exact ⟨[], m, rfl, by omega, rfl, by simpa using hown, by simpa using numB_len9 hm, But.refl _ _, Stays.refl _ _⟩
  case round =>
    obtain ⟨ys, k, rfl, hk, hy, hown, hlen, hb, hs⟩ := hrel
    have hsz := hb.size
    by_cases hlt : 128 ≤ k
    · have hlo := or128 k
      have hbig := numB_big hlt
      have hlb : (numB k).length = (numB (k / 128)).length + 1 := by rw [hbig, List.length_cons]
      clear hbig
      go_wp2_with (at_builtin; refine wpList_append_own_at _ rfl _ _ 22 rfl base 5 i0 _ 1 1 Tryd.underlying22 hi hz0 hz1 hz2 rfl (by decide) _ _ _ rfl (hown.alloc _) ⟨wr.heap.size, 0, none⟩ 1 1 [byteCell (BitVec.ofNat 8 (128 + k % 128))] rfl rfl ?_ (by simp [Value.oneCell', byteCell]) (by unfold maxLen; omega) (by omega) (by simp; omega) ?_; (exact cell_one_new _ _ _); intro v3 w3 hown3 hg3 _ hat3)
      have hb3 : But (fun b => v.ownBlock = some b) w w3 := (hb.alloc _).rows (hs.after (Nat.le_refl _)) (But.grown hg3)
      have hs3 : Stays w v v3 := hs.trans (Stays.of hat3) (by simp; omega)
      have e1 : n0 + (ys ++ [BitVec.ofNat 8 (128 + k % 128)]).length = n0 + ys.length + 1 := by simp; omega
      have hr3 : w3.ownsRow base 5 1 v3 (n0 + (ys ++ [BitVec.ofNat 8 (128 + k % 128)]).length) ((xs ++ (ys ++ [BitVec.ofNat 8 (128 + k % 128)])).map byteCell) := by
        rw [e1, ← List.append_assoc, List.map_append]; exact hown3
      go_roundw
      case rel => exact ⟨ys ++ [BitVec.ofNat 8 (128 + k % 128)], k / 128, by simp, by omega, by rw [← hy, numB_big hlt, List.append_assoc]; rfl, hr3, by simp; omega, hb3, hs3⟩
      case measure => simp [intOf]; omega
    · have hln : byteCell (BitVec.ofNat 8 k) = .int .u8 (k : Int) := by unfold byteCell; rw [← low_num, Int.emod_eq_of_lt (by omega) (by omega)]
      have hsm := numB_small (n := k) (by omega)
      rw [hsm] at hy
      have hl9 : ys.length ≤ 9 := by omega
      clear hsm hlen
      go_wp2_with (at_builtin; refine wpList_append_own_at _ rfl _ _ 22 rfl base 5 i0 _ 1 1 Tryd.underlying22 hi hz0 hz1 hz2 rfl (by decide) _ _ _ rfl (hown.alloc _) ⟨wr.heap.size, 0, none⟩ 1 1 [.int .u8 (k : Int)] rfl rfl ?_ (by simp [Value.oneCell']) (by unfold maxLen; omega) (by omega) (by simp; omega) ?_; (exact cell_one_new _ _ _); intro v3 w3 hown3 hg3 _ hat3)
      have hb3 : But (fun b => v.ownBlock = some b) w w3 := (hb.alloc _).rows (hs.after (Nat.le_refl _)) (But.grown hg3)
      have hs3 : Stays w v v3 := hs.trans (Stays.of hat3) (by simp; omega)
      go_ret
      refine ⟨v3, rfl, ?_, hb3, hs3⟩
      rw [← hy, ← List.append_assoc, List.map_append]
      have e1 : n0 + (ys ++ [BitVec.ofNat 8 k]).length = n0 + ys.length + 1 := by simp; omega
      rw [e1]
      show w3.ownsRow base 5 1 v3 _ (_ ++ [byteCell (BitVec.ofNat 8 k)])
      rw [hln]
      exact hown3
end Go.Proofs
namespace Go.Proofs
open Go.RowKit Go.Shelf Sm
set_option maxRecDepth 100000 in
set_option maxHeartbeats 1000000 in
theorem Sm.BClone_some (l : List (BitVec 8)) (n c N : Nat) (ad : Addr) (w : World) (hn : Hid (l.length = n)) (hm : n ≤ 1000000) (hN : N ≤ w.heap.size) (hr : Rd w N (some ad) l) :
    Calls Tryd.prog 58 #[.slice (some ad) n c] w fun e w' => ∃ v, e = .returned v ∧ w'.ownsRow w.heap.size 5 1 v n (l.map byteCell) ∧ Below w.heap.size w w' := by
  obtain ⟨i0, hi, hz0, hz1, hz2⟩ := info_parts info5
  have hq : ∀ wx : World, (binOp .eql 22 (.slice (some ad) n c) (.slice none 0 0)).run Tryd.prog wx = .ok (.bool false) wx := fun wx => Lib.run_eql_slice_nil wx 22 5 (some ad) n c 0 0 Tryd.underlying22
  go_enter Tryd.func58, Tryd.ntmps58
  go_wp2_with (at_builtin; refine wpList_append_own_at _ rfl _ _ 22 rfl w.heap.size 5 i0 _ 1 1 Tryd.underlying22 hi hz0 hz1 hz2 rfl (by decide) _ 0 [] rfl ?_ ad n c (l.map byteCell) rfl ?_ ?_ ?_ ?_ ?_ ?_ ?_; exact World.ownsRow_made w #[] 0 (Nat.le_refl _) (by decide) rfl; (rw [List.length_map, hn.out, Nat.mul_one]); exact (hr.alloc hN _).news; exact byteCell_one l; (unfold maxLen; omega); omega; (simp); intro v3 w3 hown3 hg3 _ _)
  go_ret
  refine ⟨v3, rfl, by simpa using hown3, ?_⟩
  refine ((Below.refl _ _).alloc (Nat.le_refl _) _).grown hg3 (by simp) (fun g e => ?_)
  cases e
  exact Nat.le_refl _
set_option maxRecDepth 100000 in
set_option maxHeartbeats 1000000 in
theorem Sm.BClone_none (c : Nat) (w : World) :
    Calls Tryd.prog 58 #[.slice none 0 c] w fun e w' => e = .returned (.slice none 0 0) ∧ w = w' := by
  have hq : ∀ wx : World, (binOp .eql 22 (.slice none 0 c) (.slice none 0 0)).run Tryd.prog wx = .ok (.bool true) wx := fun wx => Lib.run_eql_slice_nil wx 22 5 none 0 c 0 0 Tryd.underlying22
  go_enter Tryd.func58, Tryd.ntmps58
  go_wp2
  go_ret
  exact ⟨rfl, rfl⟩
theorem Sm.BClone_any (l : List (BitVec 8)) (n c N : Nat) (A : Option Addr) (w : World) (hn : Hid (l.length = n)) (hm : n ≤ 1000000) (hN : N ≤ w.heap.size) (hr : Rd w N A l) :
    Calls Tryd.prog 58 #[.slice A n c] w fun e w' => ∃ v, e = .returned v ∧ w'.ownsRow w.heap.size 5 1 v n (l.map byteCell) ∧ Below w.heap.size w w' := by
  rcases A with _ | ad
  · have hl : l = [] := by
      cases l with
      | nil => rfl
      | cons x r =>
        obtain ⟨b, off, h, _⟩ := hr (by simp)
        cases h
    subst hl
    obtain rfl : 0 = n := hn.out
    refine (BClone_none c w).mono ?_
    rintro e w' ⟨rfl, rfl⟩
    exact ⟨_, rfl, World.ownsRow_nil _ _ _ _, Below.refl _ _⟩
  · exact BClone_some l n c N ad w hn hm hN hr
theorem Sm.Rd.drop {w : World} {B b off : Nat} {l : List (BitVec 8)} (h : Rd w B (some ⟨b, off, none⟩) l) (k : Nat) : Rd w B (some ⟨b, off + k, none⟩) (l.drop k) := by
  intro hl
  have h0 : 0 < l.length := by rw [List.length_drop] at hl; omega
  obtain ⟨b', off', e, hb, hc⟩ := h h0
  simp only [Option.some.injEq, Addr.mk.injEq, and_true] at e
  obtain ⟨rfl, rfl⟩ := e
  refine ⟨b, off + k, rfl, hb, fun j c hj => ?_⟩
  rw [List.getElem?_drop] at hj
  rw [Nat.add_assoc]
  exact hc _ c hj
theorem Sm.below_drewN (w : World) (n : Nat) : Below w.heap.size w (w.drewN n) := ⟨rfl, rfl, rfl, Nat.le_refl _, fun _ _ => rfl⟩
end Go.Proofs
