/-
  A hash that is none: Write, Sum, Len, Copy of it; and Len of one that there is.
  A hash's own Len, where there is one.
  The walk of the law BlakeWrites where there are too many parts, too long a key, or no hash.
  Facts for the walk of the law BlakeWrites where there is a hash. No condition.
-/
import Derived.Test.YtmhmnmdobnkbgaaDoorM11
import Derived.Deep.QuietTactic
import Derived.BigQuiet
import Derived.Deep.CutRange
namespace Go.Proofs
open Go.RowKit Sm
/-- a hash that is none -/
def Sm.NoneH (w : World) (v : Value) : Prop := v = .pointer none ∨ ∃ g, v = .pointer (some ⟨g, 0, none⟩) ∧ w.cell? ⟨g, 74, none⟩ = some (.int .i64 0)
theorem Sm.NoneH.keep {w w' : World} {v : Value} (h : NoneH w v) (hb : Below w.heap.size w w') : NoneH w' v := by
  rcases h with rfl | ⟨g, rfl, hc⟩
  · exact .inl rfl
  · exact .inr ⟨g, rfl, (hb.cell (p := ⟨g, 74, none⟩) (World.block_lt_of_cell? _ _ hc)).trans hc⟩
set_option maxHeartbeats 1000000 in
theorem Sm.there_none (w : World) (v : Value) (h : NoneH w v) : Calls Tryd.prog 71 #[v] w fun e w' => e = .returned (.bool false) ∧ w = w' := by
  rcases h with rfl | ⟨g, rfl, hc⟩
  · go_enter Tryd.func71, Tryd.ntmps71
    go_wp2
    go_ret
    exact ⟨rfl, rfl⟩
  · go_enter Tryd.func71, Tryd.ntmps71
    go_wp2
    go_ret
    exact ⟨rfl, rfl⟩
set_option maxHeartbeats 1000000 in
theorem Sm.Write_none (w : World) (v : Value) (A : Option Addr) (n c : Nat) (h : NoneH w v) : Calls Tryd.prog 70 #[v, .slice A n c] w fun e w' => e = .returned (.int .i64 1) ∧ w = w' := by
  have ht := there_none w v h
  clear h
  go_enter Tryd.func70, Tryd.ntmps70
  go_wp2_with (go_at_call 71; (with_reducible refine ht.mono ?_); clear ht; rintro e w' ⟨rfl, rfl⟩)
  go_ret
  exact ⟨rfl, rfl⟩
set_option maxHeartbeats 1000000 in
theorem Sm.HSum_none (w : World) (v : Value) (h : NoneH w v) : Calls Tryd.prog 91 #[v] w fun e w' => e = .returned (.slice none 0 0) ∧ w = w' := by
  have ht := there_none w v h
  clear h
  go_enter Tryd.func91, Tryd.ntmps91
  go_wp2_with (go_at_call 71; (with_reducible refine ht.mono ?_); clear ht; rintro e w' ⟨rfl, rfl⟩)
  go_ret
  exact ⟨rfl, rfl⟩
set_option maxHeartbeats 1000000 in
theorem Sm.Copy_none (w : World) (v : Value) (h : NoneH w v) : Calls Tryd.prog 46 #[v] w fun e w' => e = .returned (.pointer none) ∧ w = w' := by
  have ht := there_none w v h
  clear h
  go_enter Tryd.func46, Tryd.ntmps46
  go_wp2_with (go_at_call 71; (with_reducible refine ht.mono ?_); clear ht; rintro e w' ⟨rfl, rfl⟩)
  go_ret
  exact ⟨rfl, rfl⟩
end Go.Proofs
namespace Go.Proofs
open Go.RowKit Sm
theorem Sm.HsAt.cellP {w : World} {g : Nat} {s : HS} {size : Int} {ahead : Nat} (h : HsAt w g s size ahead) : w.cell? ⟨g, 8, none⟩ = some (.int .u64 (s.p : Int)) := by
  have := range_of (A := wl s.ws) (B := [Value.int .u64 (s.p : Int)]) (C := blc (pad s.cur) s.cur.length ++ [Value.int .i64 size, Value.int .i64 (ahead : Int)]) (t := 0x77) (g := g) (w := w) (by simpa [stc] using h.blk)
  have e : (wl s.ws).length = 8 := by simp [wl, h.wlen]
  rw [e] at this
  exact this 0 _ rfl
theorem Sm.HsAt.cellCur {w : World} {g : Nat} {s : HS} {size : Int} {ahead : Nat} (h : HsAt w g s size ahead) : w.cell? ⟨g, 73, none⟩ = some (.int .i64 (s.cur.length : Int)) := by
  have := range_of (A := wl s.ws ++ Value.int .u64 (s.p : Int) :: (pad s.cur).map byteCell) (B := [Value.int .i64 (s.cur.length : Int)]) (C := [Value.int .i64 size, Value.int .i64 (ahead : Int)]) (t := 0x77) (g := g) (w := w) (by simpa [stc, blc] using h.blk)
  have e : (wl s.ws ++ Value.int .u64 (s.p : Int) :: (pad s.cur).map byteCell).length = 73 := by simp [wl, h.wlen, h.blen]
  rw [e] at this
  exact this 0 _ rfl
end Go.Proofs
namespace Go.Proofs
open Go.RowKit Sm
/-- a box of noughts is none -/
theorem Sm.none_new (w : World) : NoneH (w.alloc (.cells zz54.toArray 0x77)) (.pointer (some ⟨w.heap.size, 0, none⟩)) := .inr ⟨w.heap.size, rfl, by rw [World.cell?_alloc_mark]; rfl⟩
theorem Sm.mod_two (n : Nat) : ((n : Int) % 2 == 1) = false ∨ ((n : Int) % 2 == 1) = true := by
  cases h : ((n : Int) % 2 == 1)
  · exact .inl rfl
  · exact .inr rfl
end Go.Proofs
namespace Go.Proofs
open Go.RowKit Sm
/-- a row of the call's own as a part, beside a hash below it -/
theorem Sm.pt_of_own {w : World} {base g n c : Nat} {A : Option Addr} {l : List (BitVec 8)} (h : w.ownsRow base 5 1 (.slice A n c) n (l.map byteCell)) (hl : l.length = n) (hg : g < base) : PtOK w g A n c l := by
  rcases h.2 with ⟨e, e2⟩ | ⟨k, cap, cur, e, hb, hk, hnc, hcm, hcs, htake⟩
  · cases e
    exact ⟨hl, Nat.le_refl _, by decide, fun h0 => by rw [List.length_map] at h0; omega⟩
  · simp only [Value.slice.injEq] at e
    obtain ⟨rfl, _, rfl⟩ := e
    have hr := Rd.of_own h (Nat.le_refl _)
    refine ⟨hl, hnc, hcm, fun h0 => ?_⟩
    obtain ⟨b, off, e, hb2, hc⟩ := hr (by rw [List.length_map] at h0; exact h0)
    cases e
    refine ⟨k, 0, rfl, hb2, by omega, fun j v hj => ?_⟩
    rw [List.getElem?_map] at hj
    obtain ⟨x, hx, rfl⟩ := Option.map_eq_some_iff.1 hj
    exact hc j x hx
theorem Sm.rd_cut0 {w : World} {N c : Nat} {A : Option Addr} {l : List (BitVec 8)} (h : Rd w N A l) (m : Nat) : Rd w N (cutA A 0 c) (l.take m) := by
  have e : ∀ hl : 0 < (l.take m).length, cutA A 0 c = A := fun hl => by
    obtain ⟨b, off, rfl, _⟩ := h (by rw [List.length_take] at hl; omega)
    unfold cutA
    split
    · rfl
    · rw [Option.map_some, Addr.add_mid, Nat.add_zero]
  intro hl
  rw [e hl]
  exact h.take m hl
theorem Sm.joinP_cut (ps : List Pt) (k : Nat) : (joinP ps).take (joinP (ps.take k)).length = joinP (ps.take k) := by
  have e : joinP ps = joinP (ps.take k) ++ joinP (ps.drop k) := by
    unfold joinP
    rw [← List.flatMap_append, List.take_append_drop]
  rw [e, List.take_left']
  rfl
theorem Sm.joinP_len (ps : List Pt) (k : Nat) : (joinP (ps.take k)).length ≤ (joinP ps).length := by
  have := congrArg List.length (joinP_cut ps k)
  rw [List.length_take] at this
  omega
theorem Sm.takeS_none (s : HS) (h : s.cur.length ≤ 64) : takeS s [] = s := by
  obtain ⟨ws, p, cur⟩ := s
  have hc : cnt cur = 0 := by unfold cnt; simp only at h; omega
  unfold takeS
  simp [hc, pressK]
/-- a store into a row of the call's own -/
theorem Sm.inc_byte (y : BitVec 8) : (ib y + 1) % 256 = ib (y + 1#8) := by
  unfold ib
  rw [BitVec.toNat_add]
  simp
theorem Sm.own_put {w : World} {base n cap g : Nat} {ys : List (BitVec 8)} (h : w.ownsRow base 5 1 (.slice (some ⟨g, 0, none⟩) n cap) n (ys.map byteCell)) (j : Nat) (y : BitVec 8) :
    (w.setCell ⟨g, j, none⟩ (.int .u8 (ib y))).ownsRow base 5 1 (.slice (some ⟨g, 0, none⟩) n cap) n ((ys.set j y).map byteCell) := by
  have := (h.stored j (.int .u8 (ib y))).1
  rw [List.map_set]
  exact this
theorem Sm.own_at {w : World} {base n : Nat} {e : TypeId} {A : Option Addr} {c : Nat} {xs : List Value} (h : w.ownsRow base e 1 (.slice A n c) n xs) (hn : 0 < n) : ∃ g, A = some ⟨g, 0, none⟩ ∧ base ≤ g := by
  obtain ⟨g, cap, hv, hb, _⟩ := h.form hn
  cases hv
  exact ⟨g, rfl, hb⟩
end Go.Proofs
