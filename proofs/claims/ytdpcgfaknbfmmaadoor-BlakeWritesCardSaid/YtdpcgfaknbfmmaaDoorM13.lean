/-
  A hash that is none: Write, Sum, Len, Copy of it; and Len of one that there is.
  A hash's own Len, where there is one.
  The walk of the law BlakeWrites where there are too many parts, too long a key, or no hash.
  Facts for the walk of the law BlakeWrites where there is a hash. No condition.
  The walk of the law BlakeWrites where there is a hash.
-/
import Derived.Test.YtdpcgfaknbfmmaaDoorM11
import Derived.Deep.QuietTactic
import Derived.BigQuiet
import Derived.Deep.CutRange
namespace Go.Proofs
open Go.RowKit Sm
/-- a hash that is none -/
def Sm.NoneH (w : World) (v : Value) : Prop := v = .pointer none ∨ ∃ g, v = .pointer (some ⟨g, 0, none⟩) ∧ w.cell? ⟨g, 74, none⟩ = some (.int .i64 0)
theorem Sm.NoneH.keep {w w' : World} {v : Value} (h : NoneH w v) (hb : Below w.heap.size w w') : NoneH w' v := by
  rcases h with rfl | ⟨g, rfl, hc⟩
  · exact .inl rfl
  · exact .inr ⟨g, rfl, (hb.cell (p := ⟨g, 74, none⟩) (World.block_lt_of_cell? _ _ hc)).trans hc⟩
set_option maxHeartbeats 1000000 in
theorem Sm.there_none (w : World) (v : Value) (h : NoneH w v) : Calls Tryd.prog 51 #[v] w fun e w' => e = .returned (.bool false) ∧ w = w' := by
  rcases h with rfl | ⟨g, rfl, hc⟩
  · go_enter Tryd.func51, Tryd.ntmps51
    go_wp2
    go_ret
    exact ⟨rfl, rfl⟩
  · go_enter Tryd.func51, Tryd.ntmps51
    go_wp2
    go_ret
    exact ⟨rfl, rfl⟩
set_option maxHeartbeats 1000000 in
theorem Sm.Write_none (w : World) (v : Value) (A : Option Addr) (n c : Nat) (h : NoneH w v) : Calls Tryd.prog 25 #[v, .slice A n c] w fun e w' => e = .returned (.int .i64 1) ∧ w = w' := by
  have ht := there_none w v h
  clear h
  go_enter Tryd.func25, Tryd.ntmps25
  go_wp2_with (go_at_call 51; (with_reducible refine ht.mono ?_); clear ht; rintro e w' ⟨rfl, rfl⟩)
  go_ret
  exact ⟨rfl, rfl⟩
set_option maxHeartbeats 1000000 in
theorem Sm.HSum_none (w : World) (v : Value) (h : NoneH w v) : Calls Tryd.prog 26 #[v] w fun e w' => e = .returned (.slice none 0 0) ∧ w = w' := by
  have ht := there_none w v h
  clear h
  go_enter Tryd.func26, Tryd.ntmps26
  go_wp2_with (go_at_call 51; (with_reducible refine ht.mono ?_); clear ht; rintro e w' ⟨rfl, rfl⟩)
  go_ret
  exact ⟨rfl, rfl⟩
set_option maxHeartbeats 1000000 in
theorem Sm.Len_none (w : World) (v : Value) (h : NoneH w v) : Calls Tryd.prog 27 #[v] w fun e w' => e = .returned (.int .i64 0) ∧ w = w' := by
  have ht := there_none w v h
  clear h
  go_enter Tryd.func27, Tryd.ntmps27
  go_wp2_with (go_at_call 51; (with_reducible refine ht.mono ?_); clear ht; rintro e w' ⟨rfl, rfl⟩)
  go_ret
  exact ⟨rfl, rfl⟩
set_option maxHeartbeats 1000000 in
theorem Sm.Copy_none (w : World) (v : Value) (h : NoneH w v) : Calls Tryd.prog 28 #[v] w fun e w' => e = .returned (.pointer none) ∧ w = w' := by
  have ht := there_none w v h
  clear h
  go_enter Tryd.func28, Tryd.ntmps28
  go_wp2_with (go_at_call 51; (with_reducible refine ht.mono ?_); clear ht; rintro e w' ⟨rfl, rfl⟩)
  go_ret
  exact ⟨rfl, rfl⟩
end Go.Proofs
namespace Go.Proofs
open Go.RowKit Sm
theorem Sm.HsAt.cellP {w : World} {g : Nat} {s : HS} {size : Int} {ahead : Nat} (h : HsAt w g s size ahead) : w.cell? ⟨g, 8, none⟩ = some (.int .u64 (s.p : Int)) := by
  have := range_of (A := wl s.ws) (B := [Value.int .u64 (s.p : Int)]) (C := blc (pad s.cur) s.cur.length ++ [Value.int .i64 size, Value.int .i64 (ahead : Int)]) (t := 0x33) (g := g) (w := w) (by simpa [stc] using h.blk)
  have e : (wl s.ws).length = 8 := by simp [wl, h.wlen]
  rw [e] at this
  exact this 0 _ rfl
theorem Sm.HsAt.cellCur {w : World} {g : Nat} {s : HS} {size : Int} {ahead : Nat} (h : HsAt w g s size ahead) : w.cell? ⟨g, 73, none⟩ = some (.int .i64 (s.cur.length : Int)) := by
  have := range_of (A := wl s.ws ++ Value.int .u64 (s.p : Int) :: (pad s.cur).map byteCell) (B := [Value.int .i64 (s.cur.length : Int)]) (C := [Value.int .i64 size, Value.int .i64 (ahead : Int)]) (t := 0x33) (g := g) (w := w) (by simpa [stc, blc] using h.blk)
  have e : (wl s.ws ++ Value.int .u64 (s.p : Int) :: (pad s.cur).map byteCell).length = 73 := by simp [wl, h.wlen, h.blen]
  rw [e] at this
  exact this 0 _ rfl
set_option maxRecDepth 100000 in
set_option maxHeartbeats 2000000 in
theorem Sm.Len_any (g : Nat) (s : HS) (size : Int) (ahead : Nat) (w : World) (h : HsAt w g s size ahead) (h1 : 0 < size) (m : Nat) (hp : s.p + s.cur.length = ahead + m) (ha : ahead ≤ 64) (hm : m ≤ 1000000000) :
    Calls Tryd.prog 27 #[.pointer (some ⟨g, 0, none⟩)] w fun e w' => e = .returned (.int .i64 (m : Int)) ∧ Below w.heap.size w w' := by
  have hth := there_yes w g s size ahead h h1
  have c8 := h.cellP
  have c73 := h.cellCur
  have c75 := h.cellAhead
  have hpc : s.p ≤ 1000000064 := by omega
  have hcc : s.cur.length ≤ 1000000064 := by omega
  have hpc2 : (s.p : Int) + ((s.cur.length : Int) - (ahead : Int)) = (m : Int) := by omega
  clear h
  obtain ⟨pp, hpp⟩ : ∃ p, s.p = p := ⟨_, rfl⟩
  obtain ⟨cc, hcc'⟩ : ∃ p, s.cur.length = p := ⟨_, rfl⟩
  rw [hpp] at c8 hpc hpc2 hp
  rw [hcc'] at c73 hcc hpc2 hp
  clear hpp hcc'
  have e1 : IntKind.i64.wrap ((cc : Int) - (ahead : Int)) = (cc : Int) - (ahead : Int) := IntWalk.i64_in _ (by omega)
  have e2 : IntKind.i64.wrap ((pp : Int) + ((cc : Int) - (ahead : Int))) = (m : Int) := by rw [hpc2]; exact IntWalk.i64_in _ (by omega)
  have e3 : IntKind.i64.wrap (pp : Int) = (pp : Int) := IntWalk.i64_in _ (by omega)
  clear hp ha hm hpc2
  go_enter Tryd.func27, Tryd.ntmps27
  go_wp2_with (go_at_call 51; (with_reducible refine hth.mono ?_); clear hth; rintro e w' ⟨rfl, rfl⟩)
  go_quiet (fail)
  go_wp2
  go_ret
  refine ⟨?_, rfl, rfl, rfl, Nat.le_refl _, fun _ _ => rfl⟩
  first | rfl | (simp only [e1, e2, e3])
end Go.Proofs
namespace Go.Proofs
open Go.RowKit Sm
/-- a box of noughts is none -/
theorem Sm.none_new (w : World) : NoneH (w.alloc (.cells zz54.toArray 0x33)) (.pointer (some ⟨w.heap.size, 0, none⟩)) := .inr ⟨w.heap.size, rfl, by rw [World.cell?_alloc_mark]; rfl⟩
theorem Sm.mod_two (n : Nat) : ((n : Int) % 2 == 1) = false ∨ ((n : Int) % 2 == 1) = true := by
  cases h : ((n : Int) % 2 == 1)
  · exact .inl rfl
  · exact .inr rfl
set_option maxRecDepth 100000 in
set_option maxHeartbeats 2000000 in
theorem Sm.writes_few (size : Int) (n1 c1 n c : Nat) (A1 A : Option Addr) (ps : List Pt) (w : World) (ht : Tabs w) (h : PsC w A n ps) (hnm : n ≤ 9223372036854775807) (hf : ¬ Few 20 ps) :
    Calls Tryd.prog 6 #[.int .i64 size, .slice A1 n1 c1, .slice A n c] w fun e w' => e = .returned (.bool true) ∧ Below w.heap.size w w' := by
  have hj := joined_no A n c ps w h hnm hf
  have hw := fun v (hb : Below w.heap.size w v) => works_from hb ht
  clear h hf ht
  go_enter Tryd.func6, Tryd.ntmps6
  go_wp2_with (first
    | (go_at_call 18; (with_reducible refine hj.mono ?_); clear hj; rintro e w1 ⟨rfl, hb1⟩)
    | (go_at_call 17; (with_reducible refine (hw _ hb1).mono ?_); clear hw; rintro e w2 ⟨rfl, hb2⟩))
  go_ret
  exact ⟨rfl, hb2⟩
set_option maxRecDepth 100000 in
set_option maxHeartbeats 2000000 in
theorem Sm.writes_key (size : Int) (n1 c1 n c : Nat) (A1 A : Option Addr) (ps : List Pt) (w : World) (ht : Tabs w) (h : PsC w A n ps) (hf : Few 20 ps) (hl : 100 < n1) :
    Calls Tryd.prog 6 #[.int .i64 size, .slice A1 n1 c1, .slice A n c] w fun e w' => e = .returned (.bool true) ∧ Below w.heap.size w w' := by
  have hj := joined_yes A n c ps w h hf
  have hl1 : (100 : Int) < (n1 : Int) := by omega
  have HJ := Lib.hid hj
  have hw := fun v (hb : Below w.heap.size w v) => works_from hb ht
  clear h hf ht hj
  go_enter Tryd.func6, Tryd.ntmps6
  go_wp2_with (first
    | (go_at_call 18; (with_reducible refine HJ.out.mono ?_); rintro e w1 ⟨v1, rfl, _, hb1⟩)
    | (go_at_call 17; (with_reducible refine (hw _ hb1).mono ?_); clear hw; rintro e w2 ⟨rfl, hb2⟩))
  go_ret
  exact ⟨rfl, hb2⟩
set_option maxRecDepth 100000 in
set_option maxHeartbeats 4000000 in
theorem Sm.writes_bad (size : Int) (n1 c1 n c : Nat) (A1 A : Option Addr) (ps : List Pt) (w : World) (ht : Tabs w) (h : PsC w A n ps) (hf : Few 20 ps) (hl : n1 ≤ 100) (hno : size < 1 ∨ 32 < size ∨ 32 < n1) :
    Calls Tryd.prog 6 #[.int .i64 size, .slice A1 n1 c1, .slice A n c] w fun e w' => e = .returned (.bool true) ∧ Below w.heap.size w w' := by
  have hj := joined_yes A n c ps w h hf
  have hl1 : ¬ ((100 : Int) < (n1 : Int)) := by omega
  have hz54 := (zero_of_info z54).1
  have htm := mod_two n
  have HJ := Lib.hid hj
  have HT := Lib.hid ht
  have HNO := Lib.hid hno
  have HL := Lib.hid hl
  have HTM := Lib.hid htm
  have HZ := Lib.hid hz54
  clear h hf ht hj hno hl htm hz54
  go_enter Tryd.func6, Tryd.ntmps6
  go_upto_if 41 with (first
    | (go_at_call 18; (with_reducible refine HJ.out.mono ?_); rintro e w1 ⟨v1, rfl, _, hb1⟩)
    | (go_at_call 24; (with_reducible refine (New_no size n1 c1 A1 w1 (by have := HL.out; omega) HNO.out).mono ?_); rintro e w' ⟨rfl, rfl⟩))
  go_cut [11] from 41 to 43 (fun s11 wx => Hid (NoneH wx s11 ∧ Below w1.heap.size w1 wx))
  case first =>
    rcases HTM.out with htm | htm
    · go_wp2_with fail
      go_meet
      exact Lib.hid ⟨.inl rfl, Below.refl _ _⟩
    · have hz := HZ.out
      go_wp2_with fail
      go_meet
      exact Lib.hid ⟨none_new w1, (Below.refl _ _).alloc (Nat.le_refl _) _⟩
  case rest =>
    have HN := Lib.hid hcut.out.1
    have HB := Lib.hid (hb1.trans (hcut.out.2.mono hb1.size))
    clear hcut hb1
    go_wp2_with (first
      | (go_at_call 25; (with_reducible refine (Write_none _ _ _ _ _ HN.out).mono ?_); rintro e w' ⟨rfl, rfl⟩)
      | (go_at_call 26; (with_reducible refine (HSum_none _ _ HN.out).mono ?_); rintro e w' ⟨rfl, rfl⟩)
      | (go_at_call 27; (with_reducible refine (Len_none _ _ HN.out).mono ?_); rintro e w' ⟨rfl, rfl⟩)
      | (go_at_call 28; (with_reducible refine (Copy_none _ _ HN.out).mono ?_); rintro e w' ⟨rfl, rfl⟩)
      | (go_at_call 22; (with_reducible refine (right_no size n1 c1 A1 _ HNO.out).mono ?_); rintro e w' ⟨rfl, rfl⟩)
      | (go_at_call 23; (with_reducible refine (num_any _ _).mono ?_); rintro e w' ⟨rfl, rfl⟩)
      | (go_at_call 17; (with_reducible refine (works_from HB.out HT.out).mono ?_); rintro e w8 ⟨rfl, hb8⟩))
    go_ret
    exact ⟨rfl, hb8⟩
end Go.Proofs
namespace Go.Proofs
open Go.RowKit Sm
/-- a row of the call's own as a part, beside a hash below it -/
theorem Sm.pt_of_own {w : World} {base g n c : Nat} {A : Option Addr} {l : List (BitVec 8)} (h : w.ownsRow base 5 1 (.slice A n c) n (l.map byteCell)) (hl : l.length = n) (hg : g < base) : PtOK w g A n c l := by
  rcases h.2 with ⟨e, e2⟩ | ⟨k, cap, cur, e, hb, hk, hnc, hcm, hcs, htake⟩
  · cases e
    exact ⟨hl, Nat.le_refl _, by decide, fun h0 => by rw [List.length_map] at h0; omega⟩
  · simp only [Value.slice.injEq] at e
    obtain ⟨rfl, _, rfl⟩ := e
    have hr := Rd.of_own h (Nat.le_refl _)
    refine ⟨hl, hnc, hcm, fun h0 => ?_⟩
    obtain ⟨b, off, e, hb2, hc⟩ := hr (by rw [List.length_map] at h0; exact h0)
    cases e
    refine ⟨k, 0, rfl, hb2, by omega, fun j v hj => ?_⟩
    rw [List.getElem?_map] at hj
    obtain ⟨x, hx, rfl⟩ := Option.map_eq_some_iff.1 hj
    exact hc j x hx
theorem Sm.rd_cut0 {w : World} {N c : Nat} {A : Option Addr} {l : List (BitVec 8)} (h : Rd w N A l) (m : Nat) : Rd w N (cutA A 0 c) (l.take m) := by
  have e : ∀ hl : 0 < (l.take m).length, cutA A 0 c = A := fun hl => by
    obtain ⟨b, off, rfl, _⟩ := h (by rw [List.length_take] at hl; omega)
    unfold cutA
    split
    · rfl
    · rw [Option.map_some, Addr.add_mid, Nat.add_zero]
  intro hl
  rw [e hl]
  exact h.take m hl
theorem Sm.joinP_cut (ps : List Pt) (k : Nat) : (joinP ps).take (joinP (ps.take k)).length = joinP (ps.take k) := by
  have e : joinP ps = joinP (ps.take k) ++ joinP (ps.drop k) := by
    unfold joinP
    rw [← List.flatMap_append, List.take_append_drop]
  rw [e, List.take_left']
  rfl
theorem Sm.joinP_len (ps : List Pt) (k : Nat) : (joinP (ps.take k)).length ≤ (joinP ps).length := by
  have := congrArg List.length (joinP_cut ps k)
  rw [List.length_take] at this
  omega
theorem Sm.takeS_none (s : HS) (h : s.cur.length ≤ 64) : takeS s [] = s := by
  obtain ⟨ws, p, cur⟩ := s
  have hc : cnt cur = 0 := by unfold cnt; simp only at h; omega
  unfold takeS
  simp [hc, pressK]
/-- a store into a row of the call's own -/
theorem Sm.inc_byte (y : BitVec 8) : (ib y + 1) % 256 = ib (y + 1#8) := by
  unfold ib
  rw [BitVec.toNat_add]
  simp
theorem Sm.own_put {w : World} {base n cap g : Nat} {ys : List (BitVec 8)} (h : w.ownsRow base 5 1 (.slice (some ⟨g, 0, none⟩) n cap) n (ys.map byteCell)) (j : Nat) (y : BitVec 8) :
    (w.setCell ⟨g, j, none⟩ (.int .u8 (ib y))).ownsRow base 5 1 (.slice (some ⟨g, 0, none⟩) n cap) n ((ys.set j y).map byteCell) := by
  have := (h.stored j (.int .u8 (ib y))).1
  rw [List.map_set]
  exact this
theorem Sm.own_at {w : World} {base n : Nat} {e : TypeId} {A : Option Addr} {c : Nat} {xs : List Value} (h : w.ownsRow base e 1 (.slice A n c) n xs) (hn : 0 < n) : ∃ g, A = some ⟨g, 0, none⟩ ∧ base ≤ g := by
  obtain ⟨g, cap, hv, hb, _⟩ := h.form hn
  cases hv
  exact ⟨g, rfl, hb⟩
end Go.Proofs
namespace Go.Proofs
open Go.RowKit Sm
theorem Sm.own_room {w : World} {base n c : Nat} {e : TypeId} {A : Option Addr} {xs : List Value} (h : w.ownsRow base e 1 (.slice A n c) n xs) : n ≤ c := by
  rcases h.2 with ⟨e, e2⟩ | ⟨k, cap, cur, e, hb, hk, hnc, hcm, hcs, htake⟩
  · omega
  · simp only [Value.slice.injEq] at e
    obtain ⟨rfl, _, rfl⟩ := e
    exact hnc
set_option maxRecDepth 100000 in
set_option maxHeartbeats 8000000 in
theorem Sm.writes_yes (size n1 c1 n c : Nat) (A1 A : Option Addr) (key : List (BitVec 8)) (ps : List Pt) (w : World) (ht : Tabs w) (h : PsC w A n ps) (hf : Few 20 ps) (hk : key.length = n1) (hr : Rd w w.heap.size A1 key) (hs0 : 1 ≤ size) (hs1 : size ≤ 32) (hn1 : n1 ≤ 32) :
    Calls Tryd.prog 6 #[.int .i64 (size : Int), .slice A1 n1 c1, .slice A n c] w fun e w' => e = .returned (.bool true) ∧ Below w.heap.size w w' := by
  obtain ⟨i0, hi, hz0, hz1, hz2⟩ := info_parts info5
  have hj := joined_yes A n c ps w h hf
  have hlen : (joinP ps).length ≤ 4000 := by
    have := joinP_take_le ps ps.length (fun p hp => by rw [List.take_length] at hp; rw [(h.each p hp).len]; exact hf.2 p hp) hf.1
    rwa [List.take_length] at this
  have hl1 : ¬ ((100 : Int) < (n1 : Int)) := by omega
  have hz54 := (zero_of_info z54).1
  have htm := mod_two n
  have hsc := startS_cur size key (by omega)
  have hsp : (startS size key).p = 0 := rfl
  have hnew := fun v (hb : Below w.heap.size w v) => New_yes size n1 c1 A1 key v (ht.keep hb) hs0 hs1 hn1 hk (rds_of_rd ((hr.below hb).more hb.size))
  have hrt := fun v => right_yes size n1 c1 A1 v hs0 hs1 hn1
  have hrf : ∀ (v0 v : World) (A3 : Option Addr) (L c3 : Nat) (b : List (BitVec 8)), b.length = L → L ≤ 4200 → Below w.heap.size w v0 → Rd v0 v0.heap.size A3 b → Below v0.heap.size v0 v → Calls Tryd.prog 20 #[.int .i64 (size : Int), .slice A1 n1 c1, .slice A3 L c3] v fun e w' => ∃ A' c', e = .returned (.slice A' size c') ∧ (convert 0x1e 9 (.slice A' size c')).run Tryd.prog w' = .ok (.string (strB ((hashW size key b).take size))) w' ∧ Below v0.heap.size v0 w' := fun v0 v A3 L c3 b hL hL2 hb0 hr3 hb =>
    refKeyed_from (w := v0) (v := v) size n1 c1 L c3 A1 A3 key b _ hs0 hs1 hn1 hk hL (by omega) ((hr.below hb0).more hb0.size) hr3 rfl hb
  have hW : ∀ (v : World) (g : Nat) (b l : List (BitVec 8)) (A2 : Option Addr) (m c2 : Nat), Below w.heap.size w v → w.heap.size ≤ g → PtOK v g A2 m c2 l → b.length ≤ 4000 → m ≤ 200 → HsAt v g (takeS (startS size key) b) (size : Int) (startS size key).cur.length →
      Calls Tryd.prog 25 #[.pointer (some ⟨g, 0, none⟩), .slice A2 m c2] v fun e w' => e = .returned (.int .i64 0) ∧ HsAt w' g (takeS (startS size key) (b ++ l)) (size : Int) (startS size key).cur.length ∧ But (fun b => b = g) v w' := fun v g b l A2 m c2 hb hg hpt hbl hm hh => by
    have hc := takeS_count (startS size key) b
    have hlm := hpt.len
    refine (Write_any g (takeS (startS size key) b) (size : Int) (startS size key).cur.length A2 m c2 l v hh (by omega) (takeS_cur_le _ _) hpt (by have := ht.size; omega) (ht.keep hb) (by rw [List.length_append]; omega)).mono ?_
    rw [takeS_takeS]
    exact fun _ _ h => h
  have hS : ∀ (v : World) (g : Nat) (b : List (BitVec 8)), Below w.heap.size w v → b.length ≤ 4200 → HsAt v g (takeS (startS size key) b) (size : Int) (startS size key).cur.length →
      Calls Tryd.prog 26 #[.pointer (some ⟨g, 0, none⟩)] v fun e w' => ∃ v', e = .returned v' ∧ w'.ownsRow v.heap.size 5 1 v' size (((hashW size key b).take size).map byteCell) ∧ Below v.heap.size v w' := fun v g b hb hbl hh => by
    have hc := takeS_count (startS size key) b
    exact HSum_any g (takeS (startS size key) b) size (startS size key).cur.length v hh hs0 hs1 (takeS_cur_le _ _) (ht.keep hb) (by omega)
  have hLn : ∀ (v0 v : World) (g : Nat) (b : List (BitVec 8)) (m : Int), (b.length : Int) = m → b.length ≤ 4200 → HsAt v g (takeS (startS size key) b) (size : Int) (startS size key).cur.length → Below v0.heap.size v0 v →
      Calls Tryd.prog 27 #[.pointer (some ⟨g, 0, none⟩)] v fun e w' => e = .returned (.int .i64 m) ∧ Below v0.heap.size v0 w' := fun v0 v g b m hm hbl hh hbv => by
    have hc := takeS_count (startS size key) b
    refine (Len_any g (takeS (startS size key) b) (size : Int) (startS size key).cur.length v hh (by omega) b.length (by omega) hsc (by omega)).mono ?_
    rintro e w' ⟨rfl, hb⟩
    exact ⟨by rw [hm], hbv.trans (hb.mono hbv.size)⟩
  have hDl : ∀ b, ((hashW size key b).take size).length = size := fun b => by rw [List.length_take, hashW_length]; omega
  have h0 : takeS (startS size key) [] = startS size key := takeS_none _ hsc
  rw [← h0] at hnew
  obtain ⟨al, hal⟩ : ∃ al, (takeS (startS size key) []).cur.length = al := ⟨_, rfl⟩
  have hal2 : (startS size key).cur.length = al := by rw [← hal, h0]
  simp only [hal] at hnew
  simp only [hal2] at hW hS hLn
  obtain ⟨Dg, hDg⟩ : ∃ f : List (BitVec 8) → List (BitVec 8), ∀ b, (hashW size key b).take size = f b := ⟨_, fun _ => rfl⟩
  simp only [hDg] at hrf hS hDl
  obtain ⟨Tk, hTk⟩ : ∃ f : List (BitVec 8) → HS, ∀ b, takeS (startS size key) b = f b := ⟨_, fun _ => rfl⟩
  simp only [hTk] at hnew hW hS hLn
  obtain ⟨sz, hsz⟩ : ∃ e : Int, (size : Int) = e := ⟨_, rfl⟩
  simp only [hsz] at hnew hrf hrt hW hS hLn
  rw [hsz]
  have hpl := h.len
  have hn20 := hf.1
  have HJ := Lib.hid hj
  have HT := Lib.hid ht
  have HP := Lib.hid h
  have HF := Lib.hid hf
  have HLEN := Lib.hid hlen
  have HNEW := Lib.hid hnew
  have HRT := Lib.hid hrt
  have HRF := Lib.hid hrf
  have HWR := Lib.hid hW
  have HSM := Lib.hid hS
  have HLN := Lib.hid hLn
  have HDL := Lib.hid hDl
  have HTM := Lib.hid htm
  have HZ := Lib.hid hz54
  have HPL := Lib.hid hpl
  clear h hf ht hj hk hr hlen hsc hsp hnew hrt hrf hW hS hLn hDl h0 hal hal2 hDg hTk hsz htm hz54 hs0 hn1 hpl
  go_enter Tryd.func6, Tryd.ntmps6
  go_upto_if 41 with (first
    | (go_at_call 18; (with_reducible refine HJ.out.mono ?_); rintro e w1 ⟨v1, rfl, hown1, hb1⟩)
    | (go_at_call 24; (with_reducible refine (HNEW.out w1 hb1).mono ?_); rintro e w2 ⟨g, rfl, hg, hh2, hb2⟩))
  obtain ⟨A7, c7, rfl⟩ := own_slice hown1
  have hc7 : (joinP ps).length ≤ c7 := own_room hown1
  have hr7 : Rd w1 w1.heap.size A7 (joinP ps) := Rd.of_own hown1 (Nat.le_refl _)
  have HH2 := Lib.hid hh2
  have HB1 := Lib.hid hb1
  have HB2 := Lib.hid hb2
  have HR7 := Lib.hid hr7
  have hgw : w.heap.size ≤ g := Nat.le_trans hb1.size hg
  clear hh2 hb1 hb2 hr7 hown1 HJ HNEW
  go_cut [11] from 41 to 43 (fun s11 wx => Hid (NoneH wx s11 ∧ Below w2.heap.size w2 wx))
  case first =>
    rcases HTM.out with htm | htm
    · go_wp2_with fail
      go_meet
      exact Lib.hid ⟨.inl rfl, Below.refl _ _⟩
    · have hz := HZ.out
      go_wp2_with fail
      go_meet
      exact Lib.hid ⟨none_new w2, (Below.refl _ _).alloc (Nat.le_refl _) _⟩
  case rest =>
    have HN := Lib.hid hcut.out.1
    have HH := Lib.hid (HH2.out.keep hcut.out.2)
    have HB := Lib.hid (HB2.out.trans (hcut.out.2.mono HB2.out.size))
    clear hcut HH2 HB2 HTM HZ
    go_wp2_with (first
      | (go_at_call 25; (with_reducible refine (Write_none _ _ _ _ _ HN.out).mono ?_); rintro e w' ⟨rfl, rfl⟩)
      | (go_at_call 26; (with_reducible refine (HSum_none _ _ HN.out).mono ?_); rintro e w' ⟨rfl, rfl⟩)
      | (go_at_call 27; (with_reducible refine (Len_none _ _ HN.out).mono ?_); rintro e w' ⟨rfl, rfl⟩)
      | (go_at_call 28; (with_reducible refine (Copy_none _ _ HN.out).mono ?_); rintro e w' ⟨rfl, rfl⟩)
      | (go_at_call 22; (with_reducible refine (HRT.out _).mono ?_); rintro e w' ⟨rfl, rfl⟩)
      | (go_at_call 23; (with_reducible refine (num_any _ _).mono ?_); rintro e w' ⟨rfl, rfl⟩))
    clear HN HRT
    go_loopw [12, 13] (fun s12 s13 wr => ∃ (k : Nat) (N : Nat), k ≤ n ∧ s13 = .int .i64 (k : Int) ∧ s12 = .int .i64 (N : Int) ∧ Hid ((joinP (ps.take k)).length = N) ∧ Hid (HsAt wr g (Tk (joinP (ps.take k))) sz al) ∧ Hid (Below w1.heap.size w1 wr)) (fun _ s13 _ => n - (intOf s13).toNat)
    case atStart => exact ⟨0, 0, Nat.zero_le _, rfl, rfl, Lib.hid rfl, HH, HB⟩
    case round =>
      obtain ⟨wo, rfl⟩ : ∃ wo : World, wo = wr := ⟨_, rfl⟩
      obtain ⟨k, N, hk, rfl, rfl, HNL, HHr, HBr⟩ := hrel
      clear HH HB
      by_cases hlt : k < n
      · have hkl : k < ps.length := by rw [HPL.out]; exact hlt
        have hbw : Below w.heap.size w wo := HB1.out.trans (HBr.out.mono HB1.out.size)
        obtain ⟨b, off, rfl, hblt, hc0⟩ := HP.out.at_ hkl
        have hpc := HP.out.each ps[k] (List.getElem_mem hkl)
        have hpn := HF.out.2 ps[k] (List.getElem_mem hkl)
        have hsn := joinP_snoc ps k hkl
        have hle1 := joinP_len ps k
        have hle2 := joinP_len ps (k + 1)
        have hcu := joinP_cut ps (k + 1)
        obtain ⟨p, hp⟩ : ∃ p, ps[k] = p := ⟨_, rfl⟩
        rw [hp] at hc0 hpc hpn hsn
        obtain ⟨ba, hba⟩ : ∃ ba, joinP (ps.take k) = ba := ⟨_, rfl⟩
        obtain ⟨bb, hbb⟩ : ∃ bb, joinP (ps.take (k + 1)) = bb := ⟨_, rfl⟩
        have hnl := HNL.out
        have hh := HHr.out
        rw [hba] at hsn hle1 hnl hh
        rw [hbb] at hsn hle2 hcu
        have hbbl : bb.length = N + p.n := by rw [hsn, List.length_append, hnl, hpc.len]
        have hN4 : N ≤ 4000 := by have := HLEN.out; omega
        have hL7 : N + p.n ≤ (joinP ps).length := by omega
        have hb0 := hbw.size
        have hc := ((hbw.alloc hb0 (.cells #[] 5)).cell (p := ⟨b, off + k, none⟩) hblt).trans hc0
        have hb1o := HBr.out.size
        have hglt := hh.lt
        have HC0 := Lib.hid (And.intro hblt hc0)
        have HPC := Lib.hid hpc
        have HRD := Lib.hid (hpc.rd.below hbw)
        have HSN := Lib.hid hsn
        have HBA := Lib.hid (And.intro hba hbb)
        have HBL := Lib.hid (And.intro hnl hbbl)
        have HCU := Lib.hid hcu
        have HHo := Lib.hid hh
        have HBW := Lib.hid hbw
        clear hblt hc0 hpc hsn hle1 hle2 hcu hp hba hbb hnl hh hbbl hbw HHr HNL
        go_upto_region 17 with (at_builtin; refine wpList_append_rd _ rfl (.tmp 84) (.tmp 88) 0x1e rfl wo.heap.size 5 i0 _ Tryd.underlying30 hi hz0 hz1 hz2 rfl _ 0 [] rfl (World.ownsRow_made wo #[] 0 (Nat.le_refl _) (by decide) rfl) w.heap.size p.A p.n p.c p.l rfl HPC.out.len (HRD.out.alloc hb0 _) (by omega) (by simp) ?_; intro v14 w14 hown14 hg14 _)
        simp only [Nat.zero_add, List.nil_append] at hown14
        obtain ⟨A14, c14, rfl⟩ := own_slice hown14
        have hal14 : Below wo.heap.size wo (wo.alloc (.cells #[] 5)) := (Below.refl _ _).alloc (Nat.le_refl _) _
        have hb14 : Below wo.heap.size wo w14 := hal14.grown hg14 hal14.size (fun g e => by cases e; exact Nat.le_refl _)
        have hw := HWR.out w14 g ba p.l A14 p.n c14 (HBW.out.trans (hb14.mono HBW.out.size)) hgw (pt_of_own hown14 HPC.out.len hglt) (by rw [HBL.out.1]; exact hN4) hpn (HHo.out.keep hb14)
        rw [← HSN.out] at hw
        have HW14 := Lib.hid hw
        have HOWN := Lib.hid hown14
        have HB14 := Lib.hid (HBr.out.trans (hb14.mono HBr.out.size))
        clear hal14 hb14 hg14 hown14 hc hw HHo HBW HBr HRD
        go_upto_region 18 with (go_at_call 25; (with_reducible refine HW14.out.mono ?_); rintro e w15 ⟨rfl, hh15, hbt15⟩)
        have hg1 : w1.heap.size ≤ g := hg
        have HO15 := Lib.hid (hbt15.row HOWN.out (fun b e1 e2 => by have := own_ge HOWN.out b e1; omega))
        have HB15 := Lib.hid (But.below HB14.out hbt15 (fun b e => by omega))
        have HH15 := Lib.hid hh15
        have HOG := Lib.hid (fun b (e : (Value.slice A14 p.n c14).ownBlock = some b) => own_ge HOWN.out b e)
        clear hbt15 hh15 HOWN HB14 HW14
        go_wp2_with fail
        go_loopw [16] (fun vi wr => ∃ (j : Nat) (ys : List (BitVec 8)), j ≤ p.n ∧ vi = .int .i64 (j : Int) ∧ Hid (ys.length = p.n ∧ wr.ownsRow wo.heap.size 5 1 (.slice A14 p.n c14) p.n (ys.map byteCell)) ∧ Hid (But (fun b => (Value.slice A14 p.n c14).ownBlock = some b) w15 wr)) (fun vi _ => p.n - (intOf vi).toNat)
        case atStart => exact ⟨0, p.l, Nat.zero_le _, rfl, Lib.hid ⟨HPC.out.len, HO15.out⟩, Lib.hid (But.refl _ _)⟩
        case round =>
          obtain ⟨wi, rfl⟩ : ∃ wi : World, wi = wr := ⟨_, rfl⟩
          obtain ⟨j, ys, hj, rfl, HY, HW⟩ := hrel
          by_cases hlj : j < p.n
          · have ho1 := HY.out.2
            obtain ⟨g2, rfl, hgb2⟩ := own_at ho1 (by omega)
            have hky : j < ys.length := by have := HY.out.1; omega
            have hc : wi.cell? ⟨g2, j, none⟩ = some (.int .u8 (ib ys[j])) := by
              rw [ho1.cellAt j (by omega), List.getElem?_map, List.getElem?_eq_getElem hky]
              rfl
            have hf : wi.frozen? ⟨g2, j, none⟩ = false := ho1.frozenAt j
            obtain ⟨y, hy⟩ : ∃ y, y = ys[j] := ⟨_, rfl⟩
            rw [← hy] at hc
            have HST := Lib.hid (own_put ho1 j (y + 1#8))
            have hinc := inc_byte y
            have hy0 := ib_lo y
            have hy1 := ib_hi y
            clear hy hky ho1
            go_wp2
            go_roundw
            case rel => exact ⟨j + 1, ys.set j (y + 1#8), by omega, by go_num, Lib.hid ⟨by rw [List.length_set]; exact HY.out.1, HST.out⟩, Lib.hid (HW.out.set ⟨g2, j, none⟩ _ (.inl rfl))⟩
            case measure => simp [intOf]; omega
          · obtain rfl : j = p.n := by omega
            have hh16 := HH15.out.but HW.out (fun e => by have := HOG.out _ e; omega)
            have hb16 := But.below HB15.out HW.out (fun b e => by have := HOG.out _ e; omega)
            have hbw16 : Below w.heap.size w wi := HB1.out.trans (hb16.mono HB1.out.size)
            have hc := (hbw16.cell (p := ⟨b, off + k, none⟩) HC0.out.1).trans HC0.out.2
            have hsm := HSM.out wi g bb hbw16 (by have := HBL.out.2; omega) hh16
            have hgi1 := hh16.lt
            have hgi2 := hb16.size
            have HH16 := Lib.hid hh16
            have HB16 := Lib.hid hb16
            have HBW16 := Lib.hid hbw16
            have HSM16 := Lib.hid hsm
            clear hh16 hb16 hbw16 hsm HY HW HH15 HB15 HO15 HOG
            go_upto_region 24 with (go_at_call 26; (with_reducible refine HSM16.out.mono ?_); rintro e w17 ⟨v17, rfl, hown17, hb17⟩)
            obtain ⟨A17, c17, rfl⟩ := own_slice hown17
            have hDl := HDL.out bb
            have hr7 : Rd w17 w17.heap.size (cutA A7 0 c7) bb := by
              have h1 := (HR7.out.below (HB16.out.trans (hb17.mono HB16.out.size))).more (Nat.le_trans HB16.out.size hb17.size)
              have h2 := rd_cut0 (c := c7) h1 bb.length
              rwa [HCU.out] at h2
            have hsl := fun W => cut_h A7 (joinP ps).length c7 (N + p.n) (by omega) W
            simp only [Int.natCast_add] at hsl
            have hbw17 : Below w.heap.size w w17 := HBW16.out.trans (hb17.mono HBW16.out.size)
            have hh17 := HH16.out.keep hb17
            have hln := fun v (hv : Below w17.heap.size w17 v) => HLN.out w17 v g bb ((N : Int) + (p.n : Int)) (by rw [HBL.out.2, Int.natCast_add]) (by have := HBL.out.2; omega) (hh17.keep hv) hv
            have hrf := fun v (hv : Below w17.heap.size w17 v) => HRF.out w17 v (cutA A7 0 c7) (N + p.n) c7 bb HBL.out.2 (by omega) hbw17 hr7 hv
            have hcv : ∀ W, Below w17.heap.size w17 W → (convert 0x1e 9 (.slice A17 size c17)).run Tryd.prog W = .ok (.string (strB (Dg bb))) W := fun W hbW => conv_rd hDl ((Rd.of_own (own_below hown17 hbW) (Nat.le_refl _)))
            obtain ⟨D, hD⟩ : ∃ D, Dg bb = D := ⟨_, rfl⟩
            rw [hD] at hown17 hDl
            simp only [hD] at hrf hcv
            have HOW := Lib.hid hown17
            have HDL17 := Lib.hid hDl
            have HLN17 := Lib.hid hln
            have HRF17 := Lib.hid hrf
            have HCV := Lib.hid hcv
            have HB17 := Lib.hid (HB16.out.trans (hb17.mono HB16.out.size))
            have HH17 := Lib.hid hh17
            clear hown17 hDl hln hrf hh17 hbw17 hr7 hD hb17 hc HSM16 HB16 HH16 HBW16
            go_cut [136] from 78 to 150 (fun s136 wx => s136 = .bool false ∧ Hid (Below w17.heap.size w17 wx))
            case first =>
              have k0 := hcv w17 (Below.refl _ _)
              have k0d := hcv w17.drew (Below.refl _ _).drew
              clear hcv
              go_region_held_law (fun W => (convert 0x1e 9 (.slice A17 size c17)).run Tryd.prog W = .ok (.string (strB D)) W)
                (first | exact k19 | exact k18 | exact k0d | exact k0)
                (first
                | (go_at_call 23; (with_reducible refine (num_any _ _).mono ?_); rintro e w' ⟨rfl, rfl⟩)
                | (go_at_call 27; (with_reducible refine (HLN17.out _ (Below.refl _ _).drew).mono ?_); rintro e w18 ⟨rfl, hb18⟩; have k18 := HCV.out w18 hb18)
                | (go_at_call 20; (with_reducible refine (HRF17.out _ hb18).mono ?_); rintro e w19 ⟨A19, c19, rfl, t19, hb19⟩; have k19 := HCV.out w19 hb19))
              all_goals
               go_wp2_with fail
               go_meet
               exact ⟨rfl, Lib.hid hb19⟩
            case rest =>
              obtain ⟨rfl, HC⟩ := hcut
              have HOC := Lib.hid (own_below HOW.out HC.out)
              have HBC := Lib.hid (HB17.out.trans (HC.out.mono HB17.out.size))
              have HHC := Lib.hid (HH17.out.keep HC.out)
              have HOG := Lib.hid (fun b (e : (Value.slice A17 size c17).ownBlock = some b) => own_ge HOW.out b e)
              clear hcv hsl HOW HB17 HH17 HCV HRF17 HLN17 HC
              go_wp2_with fail
              go_loopw [18] (fun vi wr => ∃ (j : Nat) (ys : List (BitVec 8)), j ≤ size ∧ vi = .int .i64 (j : Int) ∧ Hid (ys.length = size ∧ wr.ownsRow wi.heap.size 5 1 (.slice A17 size c17) size (ys.map byteCell)) ∧ Hid (But (fun b => (Value.slice A17 size c17).ownBlock = some b) wc wr)) (fun vi _ => size - (intOf vi).toNat)
              case atStart => exact ⟨0, D, Nat.zero_le _, rfl, Lib.hid ⟨HDL17.out, HOC.out⟩, Lib.hid (But.refl _ _)⟩
              case round =>
                obtain ⟨j, ys, hj, rfl, HY, HW⟩ := hrel
                by_cases hlj : j < size
                · have ho1 := HY.out.2
                  obtain ⟨g2, rfl, hgb2⟩ := own_at ho1 (by omega)
                  have hky : j < ys.length := by have := HY.out.1; omega
                  have hc : wr.cell? ⟨g2, j, none⟩ = some (.int .u8 (ib ys[j])) := by
                    rw [ho1.cellAt j (by omega), List.getElem?_map, List.getElem?_eq_getElem hky]
                    rfl
                  have hf : wr.frozen? ⟨g2, j, none⟩ = false := ho1.frozenAt j
                  obtain ⟨y, hy⟩ : ∃ y, y = ys[j] := ⟨_, rfl⟩
                  rw [← hy] at hc
                  have HST := Lib.hid (own_put ho1 j (y + 1#8))
                  have hinc := inc_byte y
                  have hy0 := ib_lo y
                  have hy1 := ib_hi y
                  clear hy hky ho1
                  go_wp2
                  go_roundw
                  case rel => exact ⟨j + 1, ys.set j (y + 1#8), by omega, by go_num, Lib.hid ⟨by rw [List.length_set]; exact HY.out.1, HST.out⟩, Lib.hid (HW.out.set ⟨g2, j, none⟩ _ (.inl rfl))⟩
                  case measure => simp [intOf]; omega
                · obtain rfl : j = size := by omega
                  have HHZ := Lib.hid (HHC.out.but HW.out (fun e => by have := HOG.out _ e; omega))
                  have HBZ := Lib.hid (But.below HBC.out HW.out (fun b e => by have := HOG.out _ e; omega))
                  clear HY HW HHC HBC HOC HOG
                  go_wp2
                  refine ⟨⟨k + 1, N + p.n, by omega, by go_num, by go_num, Lib.hid ?_, Lib.hid ?_, HBZ⟩, by simp [intOf]; omega⟩
                  · rw [HBA.out.2]; exact HBL.out.2
                  · rw [HBA.out.2]; exact HHZ.out
      · obtain rfl : k = n := by omega
        have hall : ps.take k = ps := List.take_of_length_le (by rw [HPL.out]; exact Nat.le_refl _)
        have hhr := HHr.out
        rw [hall] at hhr
        have hbw : Below w.heap.size w wo := HB1.out.trans (HBr.out.mono HB1.out.size)
        have hr7 : Rd wo wo.heap.size A7 (joinP ps) := (HR7.out.below HBr.out).more HBr.out.size
        have ht7 := HT.out.keep hbw
        have hsm := fun v (hv : Below wo.heap.size wo v) => HSM.out v g (joinP ps) (hbw.trans (hv.mono hbw.size)) (by have := HLEN.out; omega) (hhr.keep hv)
        have hrf := fun v (hv : Below wo.heap.size wo v) => HRF.out v v A7 (joinP ps).length c7 (joinP ps) rfl (by have := HLEN.out; omega) (hbw.trans (hv.mono hbw.size)) ((hr7.below hv).more hv.size) (Below.refl _ _)
        have hDl := HDL.out (joinP ps)
        obtain ⟨D, hD⟩ : ∃ D, Dg (joinP ps) = D := ⟨_, rfl⟩
        rw [hD] at hDl
        simp only [hD] at hsm hrf
        have HSM7 := Lib.hid hsm
        have HRF7 := Lib.hid hrf
        have HDL7 := Lib.hid hDl
        have HT7 := Lib.hid ht7
        have HB7 := Lib.hid hbw
        clear hall hhr hbw hr7 ht7 hsm hrf hDl hD HNL HHr HBr HR7 HB1 HSM HRF HLN HWR HDL
        go_upto_region 30 with fail
        go_region_held_law (fun W => True)
          (exact trivial)
          (first
          | (go_at_call 23; (with_reducible refine (num_any _ _).mono ?_); rintro e w' ⟨rfl, rfl⟩)
          | (go_at_call 26; (with_reducible refine (HSM7.out _ (Below.refl _ _).drew).mono ?_); rintro e w8 ⟨v8, rfl, hown8, hb8⟩; obtain ⟨A8, c8, rfl⟩ := own_slice hown8; have t8 := conv_rd (c := c8) HDL7.out (Rd.of_own hown8 (Nat.le_refl _)); have hw8 : Below wo.heap.size wo w8 := (Below.refl _ _).drew.trans hb8)
          | (go_at_call 20; (with_reducible refine (HRF7.out w8 hw8).mono ?_); rintro e w9 ⟨A9, c9, rfl, t9, hb9⟩; have k9 := conv_rd (c := c8) HDL7.out (Rd.of_own (own_below hown8 hb9) (Nat.le_refl _)); have hw9 : Below wo.heap.size wo w9 := hw8.trans (hb9.mono hw8.size))
          | (go_at_call 17; (with_reducible refine (works_from hw9 HT7.out).mono ?_); rintro e w10 ⟨rfl, hb10⟩))
        all_goals
         go_wp2
         go_ret
         exact ⟨rfl, HB7.out.trans (hb10.mono HB7.out.size)⟩
theorem Sm.writes_law (size : Int) (n1 c1 n c : Nat) (A1 A : Option Addr) (key : List (BitVec 8)) (ps : List Pt) (w : World) (ht : Tabs w) (hk : key.length = n1) (hr : Rd w w.heap.size A1 key) (h : PsC w A n ps) (_ : n ≤ c) (hnm : n ≤ 9223372036854775807) :
    Calls Tryd.prog 6 #[.int .i64 size, .slice A1 n1 c1, .slice A n c] w fun e w' => e = .returned (.bool true) ∧ Below w.heap.size w w' := by
  by_cases hf : Few 20 ps
  · by_cases hl : n1 ≤ 100
    · by_cases hno : size < 1 ∨ 32 < size ∨ 32 < n1
      · exact writes_bad size n1 c1 n c A1 A ps w ht h hf hl hno
      · obtain ⟨sz, rfl⟩ : ∃ sz : Nat, size = (sz : Int) := ⟨size.toNat, by omega⟩
        exact writes_yes sz n1 c1 n c A1 A key ps w ht h hf hk hr (by omega) (by omega) (by omega)
    · exact writes_key size n1 c1 n c A1 A ps w ht h hf (by omega)
  · exact writes_few size n1 c1 n c A1 A ps w ht h (by omega) hf
end Go.Proofs
