/-
  The contracts of within and lay, and of a writer's small calls.
  The contract of bytes.Clone at readable bytes, at most 1000000.
  The contracts of a writer's calls: New, there, All, Number, Text, Truth.
  The contracts of what a reader takes: next, and the number with which its bytes begin.
  The contracts of bound and end, and of what the deferred closure of take does.
-/
import Derived.Test.YtbojnblececnhaaGreatDoorQ21
import Derived.WalkLawsBesides
import Derived.RecoverIn
namespace Go.Proofs
open Go.RowKit Go.Shelf Sm
set_option maxHeartbeats 400000 in
theorem Sm.within_yes (a n b : Int) (h1 : a ≤ n) (h2 : n ≤ b) (w : World) : Calls Tryz.prog 75 #[.int .i64 a, .int .i64 n, .int .i64 b] w fun e w' => e = .returned (.bool true) ∧ w = w' := by
  go_enter Tryz.func75, Tryz.ntmps75
  go_wp2
  go_ret
  exact ⟨rfl, rfl⟩
set_option maxHeartbeats 400000 in
theorem Sm.within_no (a n b : Int) (h : ¬ (a ≤ n ∧ n ≤ b)) (w : World) : Calls Tryz.prog 75 #[.int .i64 a, .int .i64 n, .int .i64 b] w fun e w' => e = .returned (.bool false) ∧ w = w' := by
  by_cases h1 : a ≤ n
  · have h2 : ¬ n ≤ b := fun h2 => h ⟨h1, h2⟩
    clear h
    go_enter Tryz.func75, Tryz.ntmps75
    go_wp2
    go_ret
    exact ⟨rfl, rfl⟩
  · clear h
    go_enter Tryz.func75, Tryz.ntmps75
    go_wp2
    go_ret
    refine ⟨?_, rfl⟩
    show Ending.returned (Value.bool _) = _
    simp
theorem Sm.or128 (n : Nat) : bits .or .u8 ((n : Int) % (256 : Int)) 128 = ib (BitVec.ofNat 8 (128 + n % 128)) := by
  have h : ∀ r : Fin 256, bits .or .u8 ((r.val : Nat) : Int) 128 = ib (BitVec.ofNat 8 (128 + r.val % 128)) := by decide +kernel
  have e : (n : Int) % (256 : Int) = (((⟨n % 256, Nat.mod_lt _ (by decide)⟩ : Fin 256).val : Nat) : Int) := by simp
  rw [e, h]
  simp only
  rw [Nat.mod_mod_of_dvd _ (by decide : 128 ∣ 256)]
theorem Sm.low_num (n : Nat) : (n : Int) % (256 : Int) = ib (BitVec.ofNat 8 n) := by
  unfold ib
  simp
set_option maxRecDepth 100000 in
set_option maxHeartbeats 2000000 in
theorem Sm.layN_any (base : Nat) (v : Value) (n0 : Nat) (xs : List (BitVec 8)) (m : Nat) (w : World) (hown : w.ownsRow base 5 1 v n0 (xs.map byteCell)) (hbase : base ≤ w.heap.size) (hm : m ≤ top) (hn0 : n0 ≤ 100000000) :
    Calls Tryz.prog 76 #[v, .int .i64 (m : Int)] w fun e w' => ∃ v', e = .returned v' ∧ w'.ownsRow base 5 1 v' (n0 + (numB m).length) ((xs ++ numB m).map byteCell) ∧ But (fun b => v.ownBlock = some b) w w' ∧ Stays w v v' := by
  obtain ⟨i0, hi, hz0, hz1, hz2⟩ := info_parts info5
  go_enter Tryz.func76, Tryz.ntmps76
  go_wp2
  go_loopw [0, 1] (fun vv vm wr => ∃ (ys : List (BitVec 8)) (k : Nat), vm = .int .i64 (k : Int) ∧ k ≤ m ∧ ys ++ numB k = numB m ∧ wr.ownsRow base 5 1 vv (n0 + ys.length) ((xs ++ ys).map byteCell) ∧ ys.length + (numB k).length ≤ 9 ∧ But (fun b => v.ownBlock = some b) w wr ∧ Stays w v vv)
    (fun _ vm _ => (intOf vm).toNat)
  case atStart => exact ⟨[], m, rfl, by omega, rfl, by simpa using hown, by simpa using numB_len9 hm, But.refl _ _, Stays.refl _ _⟩
  case round =>
    obtain ⟨ys, k, rfl, hk, hy, hown, hlen, hb, hs⟩ := hrel
    have hsz := hb.size
    by_cases hlt : 128 ≤ k
    · have hlo := or128 k
      have hbig := numB_big hlt
      have hlb : (numB k).length = (numB (k / 128)).length + 1 := by rw [hbig, List.length_cons]
      clear hbig
      go_wp2_with (at_builtin; refine wpList_append_own_at _ rfl _ _ 0x38 rfl base 5 i0 _ 1 1 Tryz.underlying56 hi hz0 hz1 hz2 rfl (by decide) _ _ _ rfl (hown.alloc _) ⟨wr.heap.size, 0, none⟩ 1 1 [byteCell (BitVec.ofNat 8 (128 + k % 128))] rfl rfl ?_ (by simp [Value.oneCell', byteCell]) (by unfold maxLen; omega) (by omega) (by simp; omega) ?_; (exact cell_one_new _ _ _); intro v3 w3 hown3 hg3 _ hat3)
      have hb3 : But (fun b => v.ownBlock = some b) w w3 := (hb.alloc _).rows (hs.after (Nat.le_refl _)) (But.grown hg3)
      have hs3 : Stays w v v3 := hs.trans (Stays.of hat3) (by simp; omega)
      have e1 : n0 + (ys ++ [BitVec.ofNat 8 (128 + k % 128)]).length = n0 + ys.length + 1 := by simp; omega
      have hr3 : w3.ownsRow base 5 1 v3 (n0 + (ys ++ [BitVec.ofNat 8 (128 + k % 128)]).length) ((xs ++ (ys ++ [BitVec.ofNat 8 (128 + k % 128)])).map byteCell) := by
        rw [e1, ← List.append_assoc, List.map_append]; exact hown3
      go_roundw
      case rel => exact ⟨ys ++ [BitVec.ofNat 8 (128 + k % 128)], k / 128, by simp, by omega, by rw [← hy, numB_big hlt, List.append_assoc]; rfl, hr3, by simp; omega, hb3, hs3⟩
      case measure => simp [intOf]; omega
    · have hln : byteCell (BitVec.ofNat 8 k) = .int .u8 (k : Int) := by unfold byteCell; rw [← low_num, Int.emod_eq_of_lt (by omega) (by omega)]
      have hsm := numB_small (n := k) (by omega)
      rw [hsm] at hy
      have hl9 : ys.length ≤ 9 := by omega
      clear hsm hlen
      go_wp2_with (at_builtin; refine wpList_append_own_at _ rfl _ _ 0x38 rfl base 5 i0 _ 1 1 Tryz.underlying56 hi hz0 hz1 hz2 rfl (by decide) _ _ _ rfl (hown.alloc _) ⟨wr.heap.size, 0, none⟩ 1 1 [.int .u8 (k : Int)] rfl rfl ?_ (by simp [Value.oneCell']) (by unfold maxLen; omega) (by omega) (by simp; omega) ?_; (exact cell_one_new _ _ _); intro v3 w3 hown3 hg3 _ hat3)
      have hb3 : But (fun b => v.ownBlock = some b) w w3 := (hb.alloc _).rows (hs.after (Nat.le_refl _)) (But.grown hg3)
      have hs3 : Stays w v v3 := hs.trans (Stays.of hat3) (by simp; omega)
      go_ret
      refine ⟨v3, rfl, ?_, hb3, hs3⟩
      rw [← hy, ← List.append_assoc, List.map_append]
      have e1 : n0 + (ys ++ [BitVec.ofNat 8 k]).length = n0 + ys.length + 1 := by simp; omega
      rw [e1]
      show w3.ownsRow base 5 1 v3 _ (_ ++ [byteCell (BitVec.ofNat 8 k)])
      rw [hln]
      exact hown3
end Go.Proofs
namespace Go.Proofs
open Go.RowKit Go.Shelf Sm
set_option maxRecDepth 100000 in
set_option maxHeartbeats 1000000 in
theorem Sm.BClone_some (l : List (BitVec 8)) (n c N : Nat) (ad : Addr) (w : World) (hn : Hid (l.length = n)) (hm : n ≤ 1000000) (hN : N ≤ w.heap.size) (hr : Rd w N (some ad) l) :
    Calls Tryz.prog 77 #[.slice (some ad) n c] w fun e w' => ∃ v, e = .returned v ∧ w'.ownsRow w.heap.size 5 1 v n (l.map byteCell) ∧ Below w.heap.size w w' := by
  obtain ⟨i0, hi, hz0, hz1, hz2⟩ := info_parts info5
  have hq : ∀ wx : World, (binOp .eql 0x38 (.slice (some ad) n c) (.slice none 0 0)).run Tryz.prog wx = .ok (.bool false) wx := fun wx => Lib.run_eql_slice_nil wx 0x38 5 (some ad) n c 0 0 Tryz.underlying56
  go_enter Tryz.func77, Tryz.ntmps77
  go_wp2_with (at_builtin; refine wpList_append_own_at _ rfl _ _ 0x38 rfl w.heap.size 5 i0 _ 1 1 Tryz.underlying56 hi hz0 hz1 hz2 rfl (by decide) _ 0 [] rfl ?_ ad n c (l.map byteCell) rfl ?_ ?_ ?_ ?_ ?_ ?_ ?_; exact World.ownsRow_made w #[] 0 (Nat.le_refl _) (by decide) rfl; (rw [List.length_map, hn.out, Nat.mul_one]); exact (hr.alloc hN _).news; exact byteCell_one l; (unfold maxLen; omega); omega; (simp); intro v3 w3 hown3 hg3 _ _)
  go_ret
  refine ⟨v3, rfl, by simpa using hown3, ?_⟩
  refine ((Below.refl _ _).alloc (Nat.le_refl _) _).grown hg3 (by simp) (fun g e => ?_)
  cases e
  exact Nat.le_refl _
set_option maxRecDepth 100000 in
set_option maxHeartbeats 1000000 in
theorem Sm.BClone_none (c : Nat) (w : World) :
    Calls Tryz.prog 77 #[.slice none 0 c] w fun e w' => e = .returned (.slice none 0 0) ∧ w = w' := by
  have hq : ∀ wx : World, (binOp .eql 0x38 (.slice none 0 c) (.slice none 0 0)).run Tryz.prog wx = .ok (.bool true) wx := fun wx => Lib.run_eql_slice_nil wx 0x38 5 none 0 c 0 0 Tryz.underlying56
  go_enter Tryz.func77, Tryz.ntmps77
  go_wp2
  go_ret
  exact ⟨rfl, rfl⟩
theorem Sm.BClone_any (l : List (BitVec 8)) (n c N : Nat) (A : Option Addr) (w : World) (hn : Hid (l.length = n)) (hm : n ≤ 1000000) (hN : N ≤ w.heap.size) (hr : Rd w N A l) :
    Calls Tryz.prog 77 #[.slice A n c] w fun e w' => ∃ v, e = .returned v ∧ w'.ownsRow w.heap.size 5 1 v n (l.map byteCell) ∧ Below w.heap.size w w' := by
  rcases A with _ | ad
  · have hl : l = [] := by
      cases l with
      | nil => rfl
      | cons x r =>
        obtain ⟨b, off, h, _⟩ := hr (by simp)
        cases h
    subst hl
    obtain rfl : 0 = n := hn.out
    refine (BClone_none c w).mono ?_
    rintro e w' ⟨rfl, rfl⟩
    exact ⟨_, rfl, World.ownsRow_nil _ _ _ _, Below.refl _ _⟩
  · exact BClone_some l n c N ad w hn hm hN hr
theorem Sm.Rd.drop {w : World} {B b off : Nat} {l : List (BitVec 8)} (h : Rd w B (some ⟨b, off, none⟩) l) (k : Nat) : Rd w B (some ⟨b, off + k, none⟩) (l.drop k) := by
  intro hl
  have h0 : 0 < l.length := by rw [List.length_drop] at hl; omega
  obtain ⟨b', off', e, hb, hc⟩ := h h0
  simp only [Option.some.injEq, Addr.mk.injEq, and_true] at e
  obtain ⟨rfl, rfl⟩ := e
  refine ⟨b, off + k, rfl, hb, fun j c hj => ?_⟩
  rw [List.getElem?_drop] at hj
  rw [Nat.add_assoc]
  exact hc _ c hj
theorem Sm.below_drewN (w : World) (n : Nat) : Below w.heap.size w (w.drewN n) := ⟨rfl, rfl, rfl, Nat.le_refl _, fun _ _ => rfl⟩
end Go.Proofs
namespace Go.Proofs
open Go.RowKit Go.Shelf Sm
/-- a writer at block B that has laid these bytes, in the row v -/
def Sm.Wr (w : World) (B : Nat) (v : Value) (l : List (BitVec 8)) : Prop := w.heap[B]? = some (.cells #[v, .bool true] 0x78 (0, 0)) ∧ w.ownsRow (B + 1) 5 1 v l.length (l.map byteCell)
/-- what a writer's call turns -/
structure Sm.WrGo (B : Nat) (v v' : Value) (w w' : World) : Prop where
  but : But (fun b => b = B ∨ v.ownBlock = some b) w w'
  row : Stays w v v'
namespace Sm
section
variable {w w1 w' : World} {B : Nat} {v v1 v' : Value} {l : List (BitVec 8)}
theorem WrGo.refl (B : Nat) (v : Value) (w : World) : WrGo B v v w w := ⟨But.refl _ _, Stays.refl _ _⟩
theorem WrGo.trans (h : WrGo B v v1 w w1) (k : WrGo B v1 v' w1 w') : WrGo B v v' w w' :=
  ⟨h.but.trans k.but fun b hb e => by
    rcases e with e | e
    · exact .inl e
    · exact .inr (h.row.back hb e), h.row.trans k.row h.but.size⟩
theorem Wr.lt (h : Wr w B v l) : B < w.heap.size := (Array.getElem?_eq_some_iff.1 h.1).1
theorem Wr.cell0 (h : Wr w B v l) : w.cell? ⟨B, 0, none⟩ = some v := by simp [World.cell?, h.1]
theorem Wr.cell1 (h : Wr w B v l) : w.cell? ⟨B, 1, none⟩ = some (.bool true) := by simp [World.cell?, h.1]
theorem Wr.frozen0 (h : Wr w B v l) : w.frozen? ⟨B, 0, none⟩ = false := by simp [World.frozen?, h.1]
theorem Wr.block (h : Wr w B v l) : ∀ g, v.ownBlock = some g → B < g ∧ g < w.heap.size := fun g e => by
  have := h.2.lt g e
  omega
/-- whatever turns neither its block nor its row leaves a writer as it is -/
theorem Wr.but {S : Nat → Prop} (h : Wr w B v l) (hb : But S w w') (h1 : ¬ S B) (h2 : ∀ g, v.ownBlock = some g → ¬ S g) : Wr w' B v l := ⟨hb.box h.1 h1, hb.row h.2 h2⟩
theorem Wr.below (h : Wr w B v l) (hb : Below w.heap.size w w') : Wr w' B v l := h.but (But.of_all hb (fun _ => False)) id (fun _ _ => id)
end
end Sm
theorem Sm.heap_setCells {w : World} {B i : Nat} {cs : Array Value} {u : Value} {t : TypeId} {fr : Nat × Nat} (h : w.heap[B]? = some (.cells cs t fr)) : (w.setCell ⟨B, i, none⟩ u).heap[B]? = some (.cells (cs.setIfInBounds i u) t fr) := by
  show (w.heap.modify B _)[B]? = _
  rw [Array.getElem?_modify, if_pos rfl, h]
  rfl
set_option maxHeartbeats 400000 in
theorem Sm.New_any (w : World) : Calls Tryz.prog 53 #[] w fun e w' => e = .returned (.pointer (some ⟨w.heap.size, 0, none⟩)) ∧ w.alloc (.cells #[.slice none 0 0, .bool true] 0x78) = w' := by
  go_enter Tryz.func53, Tryz.ntmps53
  go_wp2
  go_ret
  exact ⟨rfl, rfl⟩
theorem Sm.Wr.new (w : World) : Wr (w.alloc (.cells #[.slice none 0 0, .bool true] 0x78)) w.heap.size (.slice none 0 0) [] := ⟨World.alloc_heap_new w _, World.ownsRow_nil _ _ _ _⟩
set_option maxHeartbeats 400000 in
theorem Sm.there_any {B : Nat} {v : Value} {l : List (BitVec 8)} (w : World) (h : Wr w B v l) : Calls Tryz.prog 74 #[.pointer (some ⟨B, 0, none⟩)] w fun e w' => e = .returned (.bool true) ∧ w = w' := by
  have h1 := h.cell1
  go_enter Tryz.func74, Tryz.ntmps74
  go_wp2
  go_ret
  exact ⟨rfl, rfl⟩
/-- no writer: nil, or one that New did not make -/
def Sm.NoWr (w : World) (v : Value) : Prop := v = .pointer none ∨ ∃ B, v = .pointer (some ⟨B, 0, none⟩) ∧ w.cell? ⟨B, 1, none⟩ = some (.bool false)
set_option maxHeartbeats 400000 in
theorem Sm.there_no (w : World) (v : Value) (h : NoWr w v) : Calls Tryz.prog 74 #[v] w fun e w' => e = .returned (.bool false) ∧ w = w' := by
  rcases h with rfl | ⟨B, rfl, h1⟩
  · go_enter Tryz.func74, Tryz.ntmps74
    go_wp2
    go_ret
    exact ⟨rfl, rfl⟩
  · go_enter Tryz.func74, Tryz.ntmps74
    go_wp2
    go_ret
    exact ⟨rfl, rfl⟩
set_option maxRecDepth 100000 in
set_option maxHeartbeats 1000000 in
theorem Sm.All_any {B : Nat} {v : Value} {l : List (BitVec 8)} (w : World) (h : Wr w B v l) (hm : l.length ≤ 1000000) : Calls Tryz.prog 55 #[.pointer (some ⟨B, 0, none⟩)] w fun e w' => ∃ u, e = .returned u ∧ w'.ownsRow w.heap.size 5 1 u l.length (l.map byteCell) ∧ Below w.heap.size w w' := by
  have h0 := h.cell0
  obtain ⟨A, c, rfl⟩ := own_slice h.2
  have hr : Rd w w.heap.size A l := Rd.of_own h.2 (Nat.le_refl _)
  go_enter Tryz.func55, Tryz.ntmps55
  go_wp2_with (first
    | (go_at_call 74; (with_reducible refine (there_any _ h).mono ?_); rintro e w1 ⟨rfl, rfl⟩)
    | (go_at_call 77; (with_reducible refine (BClone_any l l.length c w.heap.size A _ (Lib.hid rfl) hm (Nat.le_refl _) hr).mono ?_); rintro e w1 ⟨u, rfl, hown, hb⟩))
  go_ret
  exact ⟨u, rfl, hown, hb⟩
set_option maxHeartbeats 1000000 in
theorem Sm.All_no (w : World) (v : Value) (h : NoWr w v) : Calls Tryz.prog 55 #[v] w fun e w' => e = .returned (.slice none 0 0) ∧ w = w' := by
  go_enter Tryz.func55, Tryz.ntmps55
  go_wp2_with (go_at_call 74; (with_reducible refine (there_no _ v h).mono ?_); rintro e w1 ⟨rfl, rfl⟩)
  go_ret
  exact ⟨rfl, rfl⟩
/-- numbers as cells -/
def Sm.intC (n : Int) : Value := .int .i64 n
/-- may it be laid? -/
def Sm.okN (n : Int) : Prop := 0 ≤ n ∧ n ≤ 4611686018427387904
/-- the bytes of numbers -/
def Sm.numsB (l : List Int) : List (BitVec 8) := l.flatMap fun n => numB n.toNat
theorem Sm.numsB_len (l : List Int) (h : ∀ n ∈ l, okN n) : (numsB l).length ≤ 9 * l.length := by
  induction l with
  | nil => simp [numsB]
  | cons n r ih =>
    have h1 := ih fun m hm => h m (List.mem_cons_of_mem _ hm)
    have h2 := numB_len9 (n := n.toNat) (by have := (h n (List.mem_cons_self ..)).2; unfold top; omega)
    unfold numsB at *
    rw [List.flatMap_cons, List.length_append, List.length_cons]
    omega
theorem Sm.numsB_snoc (l : List Int) (n : Int) : numsB (l ++ [n]) = numsB l ++ numB n.toNat := by simp [numsB]
theorem Sm.Rds.cell {w : World} {S : Nat → Prop} {A : Option Addr} {cs : List Value} (h : Rds w S A cs) {k : Nat} (hk : k < cs.length) : ∃ b off, A = some ⟨b, off, none⟩ ∧ b < w.heap.size ∧ ¬ S b ∧ w.cell? ⟨b, off + k, none⟩ = some cs[k] := by
  obtain ⟨b, off, rfl, h1, h2, hc⟩ := h (by omega)
  exact ⟨b, off, rfl, h1, h2, hc k _ (List.getElem?_eq_getElem hk)⟩
theorem Sm.layN_keep {f : Nat} {args : Array Value} {w : World} {base m : Nat} {v u : Value} {xs : List (BitVec 8)} (B : Nat) (hB : B < w.heap.size) (hn : ¬ v.ownBlock = some B) (hc : w.cell? ⟨B, 0, none⟩ = some u) (hf : w.frozen? ⟨B, 0, none⟩ = false)
    (h : Calls Tryz.prog f args w fun e w' => ∃ v', e = .returned v' ∧ w'.ownsRow base 5 1 v' m (xs.map byteCell) ∧ But (fun b => v.ownBlock = some b) w w' ∧ Stays w v v') :
    Calls Tryz.prog f args w fun e w' => ∃ v', e = .returned v' ∧ w'.ownsRow base 5 1 v' m (xs.map byteCell) ∧ But (fun b => v.ownBlock = some b) w w' ∧ Stays w v v' ∧ w'.cell? ⟨B, 0, none⟩ = some u ∧ w'.frozen? ⟨B, 0, none⟩ = false :=
  h.mono fun _ _ ⟨v', h1, h2, h3, h4⟩ => ⟨v', h1, h2, h3, h4, (h3.cell (p := ⟨B, 0, none⟩) hB hn).trans hc, (h3.frozen (p := ⟨B, 0, none⟩) hB hn).trans hf⟩
set_option maxRecDepth 100000 in
set_option maxHeartbeats 2000000 in
theorem Sm.WNumber_bad {B : Nat} {v : Value} {l : List (BitVec 8)} (w : World) (h : Wr w B v l) (ns : List Int) (n c : Nat) (A : Option Addr) (S : Nat → Prop) (hn : Hid (ns.length = n)) (hm : n ≤ 1000000) (hr : Rds w S A (ns.map intC)) (hbad : Hid (∃ x ∈ ns, ¬ okN x)) :
    Calls Tryz.prog 54 #[.pointer (some ⟨B, 0, none⟩), .slice A n c] w fun e w' => e = .returned (.int .i64 2) ∧ w = w' := by
  go_enter Tryz.func54, Tryz.ntmps54
  go_wp2_with (go_at_call 74; (with_reducible refine (there_any _ h).mono ?_); rintro e w1 ⟨rfl, rfl⟩)
  go_loopw [14] (fun vi wr => ∃ k : Nat, k ≤ n ∧ vi = .int .i64 (k : Int) ∧ w = wr ∧ Hid (∀ x ∈ ns.take k, okN x)) (fun vi _ => n - (intOf vi).toNat)
  case atStart => exact ⟨0, Nat.zero_le _, rfl, rfl, Lib.hid (by simp)⟩
  case round =>
    obtain ⟨k, hk, rfl, rfl, HS⟩ := hrel
    have hlen := hn.out
    by_cases hlt : k < n
    · obtain ⟨b, off, rfl, hb1, hb2, hc⟩ := hr.cell (k := k) (by simp; omega)
      obtain ⟨x, hx⟩ : ∃ x, ns[k]'(by omega) = x := ⟨_, rfl⟩
      have hc2 : w.cell? ⟨b, off + k, none⟩ = some (.int .i64 x) := by rw [hc]; simp [intC, hx]
      clear hc
      by_cases hok : okN x
      · have H2 : Hid (∀ y ∈ ns.take (k + 1), okN y) := Lib.hid (fun y hy => by
          rw [List.take_succ_eq_append_getElem (by omega), hx] at hy
          rcases List.mem_append.1 hy with hy | hy
          · exact HS.out y hy
          · simp at hy; subst hy; exact hok)
        clear hlen hx
        obtain ⟨k1, k2⟩ := hok
        go_wp2_with (go_at_call 75; (with_reducible refine (within_yes _ _ _ k1 k2 _).mono ?_); rintro e w1 ⟨rfl, rfl⟩)
        go_roundw
        case rel => exact ⟨k + 1, by omega, by go_num, trivial, H2⟩
        case measure => simp [intOf]; omega
      · have hok2 : ¬ (0 ≤ x ∧ x ≤ 4611686018427387904) := hok
        clear hlen hx hok
        go_wp2_with (go_at_call 75; (with_reducible refine (within_no _ _ _ hok2 _).mono ?_); rintro e w1 ⟨rfl, rfl⟩)
        go_ret
        exact ⟨rfl, rfl⟩
    · exfalso
      obtain ⟨x, hx, hno⟩ := hbad.out
      exact hno (HS.out x (by rw [List.take_of_length_le (by omega)]; exact hx))
set_option maxRecDepth 100000 in
set_option maxHeartbeats 4000000 in
theorem Sm.WNumber_ok {B : Nat} {v : Value} {l : List (BitVec 8)} (w : World) (h : Wr w B v l) (ns : List Int) (n c : Nat) (A : Option Addr) (hn : Hid (ns.length = n)) (hm : n ≤ 1000000) (hl : l.length ≤ 1000000) (hr : Rds w (fun b => b = B ∨ v.ownBlock = some b) A (ns.map intC)) (hok : Hid (∀ x ∈ ns, okN x)) :
    Calls Tryz.prog 54 #[.pointer (some ⟨B, 0, none⟩), .slice A n c] w fun e w' => e = .returned (.int .i64 0) ∧ ∃ v', Wr w' B v' (l ++ numsB ns) ∧ WrGo B v v' w w' := by
  have HW := Lib.hid h
  go_enter Tryz.func54, Tryz.ntmps54
  go_wp2_with (go_at_call 74; (with_reducible refine (there_any _ h).mono ?_); rintro e w1 ⟨rfl, rfl⟩)
  clear h
  go_loopw [14] (fun vi wr => ∃ k : Nat, k ≤ n ∧ vi = .int .i64 (k : Int) ∧ w = wr) (fun vi _ => n - (intOf vi).toNat)
  case atStart => exact ⟨0, Nat.zero_le _, rfl, rfl⟩
  case round =>
    obtain ⟨k, hk, rfl, rfl⟩ := hrel
    have hlen := hn.out
    by_cases hlt : k < n
    · obtain ⟨b, off, rfl, hb1, hb2, hc⟩ := hr.cell (k := k) (by simp; omega)
      obtain ⟨x, hx⟩ : ∃ x, ns[k]'(by omega) = x := ⟨_, rfl⟩
      have hc2 : w.cell? ⟨b, off + k, none⟩ = some (.int .i64 x) := by rw [hc]; simp [intC, hx]
      obtain ⟨k1, k2⟩ := hok.out x (by rw [← hx]; exact List.getElem_mem _)
      clear hlen hx hc hb2
      go_wp2_with (go_at_call 75; (with_reducible refine (within_yes _ _ _ k1 k2 _).mono ?_); rintro e w1 ⟨rfl, rfl⟩)
      go_roundw
      case rel => exact ⟨k + 1, by omega, by go_num, trivial⟩
      case measure => simp [intOf]; omega
    · obtain rfl : k = n := by omega
      clear hlen
      go_wp2
      go_loopw [24] (fun vi wr => ∃ (k' : Nat) (v' : Value), k' ≤ k ∧ vi = .int .i64 (k' : Int) ∧ Hid (Wr wr B v' (l ++ numsB (ns.take k')) ∧ WrGo B v v' w wr)) (fun vi _ => k - (intOf vi).toNat)
      case atStart => exact ⟨0, v, Nat.zero_le _, rfl, Lib.hid ⟨by simpa [numsB] using HW.out, WrGo.refl _ _ _⟩⟩
      case round =>
        obtain ⟨j, v', hj, rfl, HR⟩ := hrel
        have hlen := hn.out
        by_cases hlt : j < k
        · obtain ⟨b, off, rfl, hb1, hb2, hc⟩ := hr.cell (k := j) (by simp; omega)
          obtain ⟨x, hx⟩ : ∃ x, ns[j]'(by omega) = x := ⟨_, rfl⟩
          have hxm : x ∈ ns := by rw [← hx]; exact List.getElem_mem _
          obtain ⟨k1, k2⟩ := hok.out x hxm
          have hc2 : wr.cell? ⟨b, off + j, none⟩ = some (.int .i64 x) := by
            rw [HR.out.2.but.cell (p := ⟨b, off + j, none⟩) hb1 hb2, hc]
            simp [intC, hx]
          have hc0 := HR.out.1.cell0
          have hf0 := HR.out.1.frozen0
          have hB := HR.out.1.lt
          have hlb : (l ++ numsB (ns.take j)).length ≤ 100000000 := by
            have h1 := numsB_len (ns.take j) (fun y hy => hok.out y (List.mem_of_mem_take hy))
            rw [List.length_append]
            rw [List.length_take] at h1
            omega
          obtain ⟨X, hX⟩ : ∃ X, l ++ numsB (ns.take j) = X := ⟨_, rfl⟩
          have hX2 : l ++ numsB (ns.take (j + 1)) = X ++ numB x.toNat := by rw [List.take_succ_eq_append_getElem (by omega), hx, numsB_snoc, ← List.append_assoc, hX]
          rw [hX] at HR hlb
          have hrow := HR.out.1.2
          obtain ⟨m, rfl⟩ : ∃ m : Nat, x = (m : Int) := ⟨x.toNat, by omega⟩
          have HX := Lib.hid hX2
          clear hlen hx hc hb2 hxm hX hX2
          have hnb : ¬ v'.ownBlock = some B := fun e => by have := (HR.out.1.block _ e).1; omega
          have hct := layN_keep B hB hnb hc0 hf0 (layN_any (B + 1) v' X.length X m wr hrow hB (by unfold top; omega) hlb)
          go_wp2_with (go_at_call 76; (with_reducible refine hct.mono ?_); rintro e w2 ⟨v2, rfl, hown2, hb2, hs2, hc2, hf2⟩; obtain ⟨A2, c2, rfl⟩ := own_slice hown2)
          go_roundw
          case rel =>
            refine ⟨j + 1, .slice A2 (X.length + (numB m).length) c2, by omega, by go_num, Lib.hid ?_⟩
            have hx2 : w2.heap[B]? = some (.cells #[v', .bool true] 0x78 (0, 0)) := hb2.box HR.out.1.1 hnb
            rw [HX.out]
            have hgo := fun u => (⟨(hb2.mono fun b _ e => Or.inr e).set ⟨B, 0, none⟩ u (.inl (.inl rfl)), hs2⟩ : WrGo B v' _ wr (w2.setCell ⟨B, 0, none⟩ u))
            refine ⟨⟨heap_setCells hx2, ?_⟩, HR.out.2.trans (hgo _)⟩
            rw [List.length_append]
            exact ownsRow_setCell_below hown2 (by simp) _
          case measure => simp [intOf]; omega
        · obtain rfl : j = k := by omega
          go_wp2
          go_ret
          refine ⟨rfl, v', ?_⟩
          have := HR.out
          rw [List.take_of_length_le (by omega)] at this
          exact this
set_option maxRecDepth 100000 in
set_option maxHeartbeats 1000000 in
theorem Sm.WNumber_no (w : World) (v : Value) (h : NoWr w v) (u : Value) : Calls Tryz.prog 54 #[v, u] w fun e w' => e = .returned (.int .i64 1) ∧ w = w' := by
  go_enter Tryz.func54, Tryz.ntmps54
  go_wp2_with (go_at_call 74; (with_reducible refine (there_no _ v h).mono ?_); rintro e w1 ⟨rfl, rfl⟩)
  go_ret
  exact ⟨rfl, rfl⟩
/-- the bytes of a text with its length -/
def Sm.textB (s : ByteArray) : List (BitVec 8) := numB s.size ++ strL s
theorem Sm.WrGo.after {B : Nat} {v v' : Value} {w w1 w' : World} (hb : Below w.heap.size w w1) (h : WrGo B v v' w1 w') : WrGo B v v' w w' := ⟨(But.of_all hb _).trans h.but fun _ _ e => e, h.row.after hb.size⟩
theorem Sm.Rds.one (w : World) (x : Value) (t : TypeId) {B : Nat} {v : Value} {l : List (BitVec 8)} (h : Wr w B v l) : Rds (w.alloc (.cells #[x] t)) (fun b => b = B ∨ v.ownBlock = some b) (some ⟨w.heap.size, 0, none⟩) [x] := fun _ => by
  refine ⟨w.heap.size, 0, rfl, by simp, ?_, fun j c hj => ?_⟩
  · rintro (e | e)
    · have := h.lt; omega
    · have := (h.block _ e).2; omega
  · match j, hj with
    | 0, hj => simp at hj; subst hj; simp [World.cell?_alloc_new]
def Sm.truthB (b : Bool) : List (BitVec 8) := if b then [1#8] else [0#8]
theorem Sm.NoWr.alloc {w : World} {v : Value} (h : NoWr w v) (o : Obj) : NoWr (w.alloc o) v := by
  rcases h with rfl | ⟨B, rfl, h1⟩
  · exact .inl rfl
  · exact .inr ⟨B, rfl, (World.cell?_alloc_lt w o _ (World.block_lt_of_cell? w _ h1)).trans h1⟩
end Go.Proofs
namespace Go.Proofs
open Go.RowKit Go.Shelf Sm
def Sm.pWrong : PanicEntry := { v := .iface 0x91 (.agg #[]), recovered := false }
def Sm.pCut : PanicEntry := { v := .iface 0xa0 (.agg #[]), recovered := false }
def Sm.pArg : PanicEntry := { v := .iface 0x28 (.int .i64 2), recovered := false }
set_option maxRecDepth 100000 in
set_option maxHeartbeats 1000000 in
theorem Sm.next_cut (w : World) (B n c : Nat) (k : Int) (A : Option Addr) (h : w.cell? ⟨B, 0, none⟩ = some (.slice A n c)) (hk : (n : Int) < k) :
    Calls Tryz.prog 92 #[.pointer (some ⟨B, 0, none⟩), .int .i64 k] w fun e w' => e = .panicked [pCut] ∧ w = w' := by
  go_enter Tryz.func92, Tryz.ntmps92
  go_wp2
  exact ⟨rfl, rfl, rfl⟩
set_option maxRecDepth 100000 in
set_option maxHeartbeats 1000000 in
theorem Sm.next_some (w : World) (B n c k : Nat) (a : Addr) (h : w.cell? ⟨B, 0, none⟩ = some (.slice (some a) n c)) (hf : w.frozen? ⟨B, 0, none⟩ = false) (hk : k ≤ n) (hc : n ≤ c) :
    Calls Tryz.prog 92 #[.pointer (some ⟨B, 0, none⟩), .int .i64 (k : Int)] w fun e w' => e = .returned (.slice (some a) k c) ∧ ∃ a', (a' = a.add k ∨ k = n) ∧ w.setCell ⟨B, 0, none⟩ (.slice (some a') (n - k) (c - k)) = w' := by
  have h1 : (k : Int) ≤ (n : Int) := by omega
  have h2 : (k : Int) ≤ (c : Int) := by omega
  have h3 : (n : Int) ≤ (c : Int) := by omega
  by_cases hkc : k = c
  · subst hkc
    go_enter Tryz.func92, Tryz.ntmps92
    go_wp2
    go_ret
    refine ⟨rfl, a, .inr (by omega), ?_⟩
    rw [show n - k = 0 by omega, show k - k = 0 by omega]
  · go_enter Tryz.func92, Tryz.ntmps92
    go_wp2
    go_ret
    exact ⟨rfl, a.add k, .inl rfl, rfl⟩
set_option maxRecDepth 100000 in
set_option maxHeartbeats 1000000 in
theorem Sm.next_none (w : World) (B : Nat) (h : w.cell? ⟨B, 0, none⟩ = some (.slice none 0 0)) (hf : w.frozen? ⟨B, 0, none⟩ = false) :
    Calls Tryz.prog 92 #[.pointer (some ⟨B, 0, none⟩), .int .i64 0] w fun e w' => e = .returned (.slice none 0 0) ∧ w.setCell ⟨B, 0, none⟩ (.slice none 0 0) = w' := by
  go_enter Tryz.func92, Tryz.ntmps92
  go_wp2
  go_ret
  exact ⟨rfl, rfl⟩
/-- what is left lies at block B's first cell: bytes of blocks below B -/
structure Sm.RestAt (w : World) (B : Nat) (A : Option Addr) (n c : Nat) (l : List (BitVec 8)) : Prop where
  cell : w.cell? ⟨B, 0, none⟩ = some (.slice A n c)
  frozen : w.frozen? ⟨B, 0, none⟩ = false
  len : l.length = n
  room : n ≤ c
  none_ : A = none → c = 0
  rd : Rd w B A l
/-- the first cell of block B may have been written, nothing else turned -/
def Sm.Moved (B : Nat) (w w' : World) : Prop := w' = w ∨ ∃ u, w' = w.setCell ⟨B, 0, none⟩ u
theorem Sm.setCell_twice (w : World) (B i : Nat) (u v : Value) : (w.setCell ⟨B, i, none⟩ u).setCell ⟨B, i, none⟩ v = w.setCell ⟨B, i, none⟩ v := by
  simp only [World.setCell]
  congr 1
  apply Array.ext
  · simp
  · intro j h1 h2
    simp only [Array.size_modify] at h1 h2
    simp only [Array.getElem_modify]
    split
    · cases w.heap[j] <;> simp
    · rfl
theorem Sm.Moved.trans {B : Nat} {w w1 w' : World} (h : Moved B w w1) (k : Moved B w1 w') : Moved B w w' := by
  rcases k with rfl | ⟨v, rfl⟩
  · exact h
  · rcases h with rfl | ⟨u, rfl⟩
    · exact .inr ⟨v, rfl⟩
    · exact .inr ⟨v, setCell_twice _ _ _ _ _⟩
theorem Sm.next_any {w : World} {B n c : Nat} {A : Option Addr} {l : List (BitVec 8)} (h : RestAt w B A n c l) (k : Nat) (hk : k ≤ n) :
    Calls Tryz.prog 92 #[.pointer (some ⟨B, 0, none⟩), .int .i64 (k : Int)] w fun e w' => e = .returned (.slice A k c) ∧ Rd w' B A (l.take k) ∧ Moved B w w' ∧ ∃ A', RestAt w' B A' (n - k) (c - k) (l.drop k) := by
  rcases A with _ | a
  · obtain rfl : c = 0 := h.none_ rfl
    obtain rfl : n = 0 := by have := h.room; omega
    obtain rfl : k = 0 := by omega
    have hl : l = [] := List.eq_nil_of_length_eq_zero h.len
    subst hl
    refine (next_none w B h.cell h.frozen).mono ?_
    rintro e w' ⟨rfl, rfl⟩
    exact ⟨rfl, Rd.nil, .inr ⟨_, rfl⟩, none, { cell := World.cell?_setCell_same _ _ _ h.cell, frozen := by rw [World.frozen?_setCell]; exact h.frozen, len := rfl, room := Nat.le_refl _, none_ := fun _ => rfl, rd := Rd.nil }⟩
  · refine (next_some w B n c k a h.cell h.frozen hk h.room).mono ?_
    rintro e w' ⟨rfl, a', ha, rfl⟩
    refine ⟨rfl, (h.rd.take k).setCell (Nat.le_refl _) _, .inr ⟨_, rfl⟩, some a', { cell := World.cell?_setCell_same _ _ _ h.cell, frozen := by rw [World.frozen?_setCell]; exact h.frozen, len := by rw [List.length_drop, h.len], room := by have := h.room; omega, none_ := fun e => by simp at e, rd := ?_ }⟩
    refine Rd.setCell ?_ (Nat.le_refl _) _
    rcases ha with rfl | rfl
    · rcases Nat.eq_zero_or_pos n with hz | hp
      · have hl : l = [] := List.eq_nil_of_length_eq_zero (by rw [h.len]; exact hz)
        subst hl
        rw [List.drop_nil]
        exact Rd.nil
      · obtain ⟨b, off, e, _⟩ := h.rd (by rw [h.len]; exact hp)
        cases e
        have ea : (⟨b, off, none⟩ : Addr).add k = ⟨b, off + k, none⟩ := by
          unfold Addr.add
          split
          · rename_i h0; subst h0; rfl
          · rfl
        rw [ea]
        exact h.rd.drop k
    · have hl : l.drop k = [] := List.drop_eq_nil_of_le (by rw [h.len]; exact Nat.le_refl _)
      rw [hl]
      exact Rd.nil
theorem Sm.next_one {w : World} {B n c : Nat} {A : Option Addr} {l : List (BitVec 8)} (h : RestAt w B A n c l) {x : BitVec 8} (hx : l[0]? = some x) :
    Calls Tryz.prog 92 #[.pointer (some ⟨B, 0, none⟩), .int .i64 1] w fun e w' => ∃ b off, e = .returned (.slice (some ⟨b, off, none⟩) 1 c) ∧ w'.cell? ⟨b, off, none⟩ = some (.int .u8 (ib x)) ∧ Moved B w w' ∧ ∃ A', RestAt w' B A' (n - 1) (c - 1) (l.drop 1) := by
  obtain ⟨h0, hx0⟩ := List.getElem?_eq_some_iff.1 hx
  have h1 : 1 ≤ n := by rw [← h.len]; omega
  refine (next_any h 1 h1).mono ?_
  rintro e w' ⟨rfl, hrd, hm, hA⟩
  obtain ⟨b, off, rfl, hb, hc⟩ := hrd.at_ (k := 0) (by rw [List.length_take]; omega)
  rw [Nat.add_zero, List.getElem_take, hx0] at hc
  exact ⟨b, off, rfl, hc, hm, hA⟩
theorem Sm.andNot128 (c : BitVec 8) : bits .andNot .u8 (ib c) 128 = ((c.toNat % 128 : Nat) : Int) := by
  have h : ∀ c : BitVec 8, bits .andNot .u8 (ib c) 128 = ((c.toNat % 128 : Nat) : Int) := by decide +kernel
  exact h c
theorem Sm.or_at (a b k : Nat) (ha : a < 2 ^ (7 * k)) (hb : b < 128) (hk : k ≤ 8) : bits .or .i64 (a : Int) (wrap64 ((b : Int) * 2 ^ (7 * k))) = ((a + 2 ^ (7 * k) * b : Nat) : Int) := by
  have hp : 2 ^ (7 * k) ≤ 2 ^ 56 := Nat.pow_le_pow_right (by decide) (by omega)
  have hm : 2 ^ (7 * k) * b ≤ 2 ^ 56 * 127 := Nat.mul_le_mul hp (by omega)
  have hor : 2 ^ (7 * k) * b ||| a = 2 ^ (7 * k) * b + a := (Nat.two_pow_add_eq_or_of_lt ha b).symm
  have e1 : ((b : Int) * 2 ^ (7 * k)) = ((2 ^ (7 * k) * b : Nat) : Int) := by rw [Nat.mul_comm]; simp [Int.mul_comm]
  rw [e1]
  generalize hM : 2 ^ (7 * k) * b = M at *
  generalize 2 ^ (7 * k) = p at *
  have e2 : wrap64 ((M : Nat) : Int) = (M : Int) := by unfold wrap64; omega
  rw [e2]
  show IntKind.i64.wrap ((BitVec.ofInt 64 (a : Int) ||| BitVec.ofInt 64 (M : Int)).toNat : Int) = _
  have e3 : (BitVec.ofInt 64 (a : Int) ||| BitVec.ofInt 64 (M : Int)).toNat = M + a := by
    rw [BitVec.toNat_or, BitVec.ofInt_natCast, BitVec.ofInt_natCast, BitVec.toNat_ofNat, BitVec.toNat_ofNat, Nat.mod_eq_of_lt (by omega), Nat.mod_eq_of_lt (by omega), Nat.or_comm, hor]
  rw [e3]
  simp [IntKind.wrap, IntKind.signed, IntKind.bits]
  omega
theorem Sm.or_numV {l : List (BitVec 8)} {k : Nat} {x : BitVec 8} (hk : k ≤ 8) (hx : l[k]? = some x) : bits .or .i64 (numV (l.take k) : Int) (wrap64 ((x.toNat : Int) % 128 * 2 ^ (7 * k))) = (numV (l.take (k + 1)) : Int) := by
  have hl : (l.take k).length = k := by rw [List.length_take]; have := (List.getElem?_eq_some_iff.1 hx).1; omega
  have hlt := numV_lt (l.take k)
  have hpw : 128 ^ k = 2 ^ (7 * k) := by rw [Nat.pow_mul]
  rw [hl, hpw] at hlt
  have h := or_at (numV (l.take k)) (x.toNat % 128) k hlt (Nat.mod_lt _ (by decide)) hk
  rw [take_succ_get hx, hpw, ← h]
  simp
/-- what number answers -/
def Sm.NumPost (l : List (BitVec 8)) (most : Int) (B n c : Nat) (e : Ending) (w' : World) : Prop :=
  match getN l with
  | .num m k => if (m : Int) ≤ most then e = .returned (.int .i64 (m : Int)) ∧ ∃ A', RestAt w' B A' (n - k) (c - k) (l.drop k) else e = .panicked [pWrong]
  | .cut => e = .panicked [pCut]
  | .bad => e = .panicked [pWrong]
set_option maxRecDepth 100000 in
set_option maxHeartbeats 4000000 in
theorem Sm.number_any {w : World} {B n c : Nat} {A : Option Addr} {l : List (BitVec 8)} (h : RestAt w B A n c l) (most : Int) (h0 : 0 ≤ most) (h1 : most ≤ 4611686018427387904) :
    Calls Tryz.prog 82 #[.pointer (some ⟨B, 0, none⟩), .int .i64 most] w fun e w' => NumPost l most B n c e w' ∧ Moved B w w' := by
  go_enter Tryz.func82, Tryz.ntmps82
  go_wp2
  go_loopw [5, 8] (fun vn vi wr => ∃ (k : Nat) (A' : Option Addr), k ≤ 9 ∧ vi = .int .i64 (k : Int) ∧ vn = .int .i64 (numV (l.take k) : Int) ∧ Hid (k ≤ lead l) ∧ Hid (RestAt wr B A' (n - k) (c - k) (l.drop k)) ∧ Hid (Moved B w wr)) (fun _ vi _ => 9 - (intOf vi).toNat)
  case atStart => exact ⟨0, A, by omega, rfl, by simp [numV], Lib.hid (Nat.zero_le _), Lib.hid h, Lib.hid (.inl rfl)⟩
  case round =>
    obtain ⟨k, A', hk, rfl, rfl, HL, HR, HM⟩ := hrel
    by_cases h9 : k < 9
    · by_cases hkn : k < n
      · have hlen := h.len
        obtain ⟨x, hx⟩ : ∃ x, l[k]'(by omega) = x := ⟨_, rfl⟩
        have hxl : l[k]? = some x := by rw [← hx]; exact List.getElem?_eq_getElem (by omega)
        have hx2 := andNot128 x
        have hor := or_numV (by omega) hxl
        have hnx := next_one HR.out (x := x) (by rw [List.getElem?_drop]; simpa using hxl)
        rw [List.drop_drop, Nat.sub_sub, Nat.sub_sub] at hnx
        have HX := Lib.hid hxl
        obtain ⟨m, hm⟩ : ∃ m, numV (l.take (k + 1)) = m := ⟨_, rfl⟩
        rw [hm] at hor
        have HMM := Lib.hid hm
        clear hlen hx hxl hm
        by_cases hge : (128 : Int) ≤ ib x
        · go_wp2_with (go_at_call 92; (with_reducible refine hnx.mono ?_); rintro e w2 ⟨b, off, rfl, hcx, hm2, A2, hr2⟩)
          go_roundw
          case rel => exact ⟨k + 1, A2, by omega, by go_num, by rw [HMM.out], Lib.hid (lead_more _ _ _ HL.out HX.out (by unfold ib at hge; omega)), Lib.hid hr2, Lib.hid (HM.out.trans hm2)⟩
          case measure => simp [intOf]; omega
        · have hlead := Lib.hid (lead_eq _ _ _ HL.out HX.out (by unfold ib at hge; omega))
          have fin : ∀ w2 A2, m ≤ 4611686018427387904 → (m : Int) ≤ most → ¬ (0 < k ∧ x.toNat = 0) → RestAt w2 B A2 (n - (k + 1)) (c - (k + 1)) (l.drop (k + 1)) → NumPost l most B n c (.returned (.int .i64 (m : Int))) w2 := fun w2 A2 ht hmo hnz hr2 => by
            unfold NumPost
            rw [getN_num hlead.out h9 HX.out hnz (by rw [HMM.out]; exact ht), HMM.out]
            simp only
            rw [if_pos hmo]
            exact ⟨trivial, A2, hr2⟩
          by_cases hx0 : ib x = 0
          · by_cases hk0 : 0 < k
            · go_wp2_with (go_at_call 92; (with_reducible refine hnx.mono ?_); rintro e w2 ⟨b, off, rfl, hcx, hm2, A2, hr2⟩)
              refine ⟨by first | trivial | rfl, ?_, HM.out.trans hm2⟩
              unfold NumPost
              rw [getN_zero hlead.out hk0 h9 HX.out (by unfold ib at hx0; omega)]
              rfl
            · obtain rfl : k = 0 := by omega
              have hx1 : x.toNat = 0 := by unfold ib at hx0; omega
              have hm0 : m = 0 := by
                have := take_succ_get HX.out
                rw [HMM.out, hx1] at this
                simpa [numV] using this
              subst hm0
              have hor0 : bits .or .i64 (numV [] : Int) (wrap64 (wrap64 (bits .andNot .u8 0 128))) = 0 := by kernel_rfl
              have HF := Lib.hid fin
              have h0m : (0 : Int) ≤ 0 := by omega
              clear fin hor
              go_wp2_with (first
                | (go_at_call 92; (with_reducible refine hnx.mono ?_); rintro e w2 ⟨b, off, rfl, hcx, hm2, A2, hr2⟩)
                | (go_at_call 75; (with_reducible refine (within_yes _ _ _ h0m h0 _).mono ?_); rintro e w3 ⟨rfl, rfl⟩))
              go_ret
              exact ⟨HF.out _ A2 (by omega) h0 (fun h => hk0 h.1) hr2, HM.out.trans hm2⟩
          · have HF := Lib.hid fin
            clear fin
            by_cases hmo : (m : Int) ≤ most
            · have h0m : (0 : Int) ≤ (m : Int) := by omega
              go_wp2_with (first
                | (go_at_call 92; (with_reducible refine hnx.mono ?_); rintro e w2 ⟨b, off, rfl, hcx, hm2, A2, hr2⟩)
                | (go_at_call 75; (with_reducible refine (within_yes _ _ _ h0m hmo _).mono ?_); rintro e w3 ⟨rfl, rfl⟩))
              go_ret
              exact ⟨HF.out _ A2 (by omega) hmo (fun h => hx0 (by unfold ib; omega)) hr2, HM.out.trans hm2⟩
            · have hno : ¬ ((0 : Int) ≤ (m : Int) ∧ (m : Int) ≤ most) := fun h => hmo h.2
              go_wp2_with (first
                | (go_at_call 92; (with_reducible refine hnx.mono ?_); rintro e w2 ⟨b, off, rfl, hcx, hm2, A2, hr2⟩)
                | (go_at_call 75; (with_reducible refine (within_no _ _ _ hno _).mono ?_); rintro e w3 ⟨rfl, rfl⟩))
              refine ⟨by first | trivial | rfl, ?_, HM.out.trans hm2⟩
              unfold NumPost
              by_cases ht : m ≤ top
              · rw [getN_num hlead.out h9 HX.out (fun h => hx0 (by unfold ib; omega)) (by rw [HMM.out]; exact ht), HMM.out]
                simp only
                rw [if_neg (by omega)]
                rfl
              · rw [getN_over hlead.out h9 HX.out (by rw [HMM.out]; omega)]
                rfl
      · have hnx := next_cut wr B (n - k) (c - k) 1 A' HR.out.cell (by omega)
        have hl := h.len
        go_wp2_with (go_at_call 92; (with_reducible refine hnx.mono ?_); rintro e w2 ⟨rfl, rfl⟩)
        refine ⟨rfl, ?_, HM.out⟩
        unfold NumPost
        have h1 := lead_le l
        have h2 := HL.out
        rw [getN_cut (by omega) (by omega)]
    · go_wp2
      refine ⟨rfl, ?_, HM.out⟩
      unfold NumPost
      have h2 := HL.out
      rw [getN_long (by omega)]
      rfl
end Go.Proofs
namespace Go.Proofs
open Go.RowKit Go.Shelf Sm
def Sm.cap (most : Int) : Int := if most ≤ 4611686018427387904 then most else 4611686018427387904
set_option maxHeartbeats 400000 in
theorem Sm.bound_neg (most : Int) (w : World) (h : most < 0) : Calls Tryz.prog 83 #[.int .i64 most] w fun e w' => e = .panicked [pArg] ∧ w = w' := by
  go_enter Tryz.func83, Tryz.ntmps83
  go_wp2
  exact ⟨rfl, rfl, rfl⟩
set_option maxHeartbeats 400000 in
theorem Sm.bound_ok (most : Int) (w : World) (h : 0 ≤ most) : Calls Tryz.prog 83 #[.int .i64 most] w fun e w' => e = .returned (.int .i64 (cap most)) ∧ w = w' := by
  by_cases h2 : most ≤ 4611686018427387904
  · go_enter Tryz.func83, Tryz.ntmps83
    go_wp2
    go_ret
    unfold cap
    rw [if_pos h2]
    refine ⟨?_, rfl⟩
    show Ending.returned (Value.int IntKind.i64 (min most 4611686018427387904)) = _
    rw [Int.min_eq_left h2]
  · go_enter Tryz.func83, Tryz.ntmps83
    go_wp2
    go_ret
    unfold cap
    rw [if_neg (by omega)]
    refine ⟨?_, rfl⟩
    show Ending.returned (Value.int IntKind.i64 (min most 4611686018427387904)) = _
    rw [Int.min_eq_right (by omega)]
theorem Sm.ta_errnoW (w : World) : (Instr.typeAssert (Value.iface 0x28 (Value.int IntKind.i64 2)) 20 0x28 true).run Tryz.prog w = .ok (.tuple #[.int .i64 2, .bool true]) w := by kernel_rfl
theorem Sm.ta_wrong (w : World) : (Instr.typeAssert (Value.iface 0x91 (Value.agg #[])) 20 0x28 true).run Tryz.prog w = .ok (.tuple #[.int .i64 0, .bool false]) w := by kernel_rfl
theorem Sm.ta_cut (w : World) : (Instr.typeAssert (Value.iface 0xa0 (Value.agg #[])) 20 0x28 true).run Tryz.prog w = .ok (.tuple #[.int .i64 0, .bool false]) w := by kernel_rfl
set_option maxRecDepth 100000 in
set_option maxHeartbeats 4000000 in
theorem Sm.catch_idle (p q : Addr) (w : World) :
    CallsD Tryz.prog 91 #[.pointer (some p), .pointer (some q)] .returning w fun e u' w' => (∃ v, e = .returned v) ∧ u' = .returning ∧ w' = w := by
  refine callsD_of_wpS Tryz.func91 rfl fun c₀ cs hu => ?_
  simp only [Tryz.ntmps91, List.size_toArray, List.length_cons, List.length_nil, Nat.reduceAdd, Nat.reduceSub, Array.replicate_succ, Array.replicate_zero, List.push_toArray, List.append_toArray, List.nil_append, List.cons_append]
  apply wpS_seq
  apply wpS_region
  simp [wpOpsS, go_sem, recoverD, hu, Exit.thenS]
  refine wpS_of_wp ?_
  go_wp2
  refine ⟨rfl, .returning, by cases c₀; simp_all, .tuple #[], by simp [results, Tryz.results91, go_sem], ⟨_, rfl⟩, rfl, rfl⟩
set_option maxRecDepth 100000 in
set_option maxHeartbeats 4000000 in
theorem Sm.catch_errno (p q : Addr) (w : World) (v : Value) (hp : w.cell? p = some v) (hz : w.frozen? p = false) (older : List PanicEntry) :
    CallsD Tryz.prog 91 #[.pointer (some p), .pointer (some q)] (.panicking (pArg :: older)) w fun e u' w' => (∃ v, e = .returned v) ∧ u' = .panicking ({ pArg with recovered := true } :: older) ∧ w' = w.setCell p (.int .i64 2) := by
  have hta := ta_errnoW
  refine callsD_of_wpS Tryz.func91 rfl fun c₀ cs hu => ?_
  unfold pArg at hu
  simp only [Tryz.ntmps91, List.size_toArray, List.length_cons, List.length_nil, Nat.reduceAdd, Nat.reduceSub, Array.replicate_succ, Array.replicate_zero, List.push_toArray, List.append_toArray, List.nil_append, List.cons_append]
  apply wpS_seq
  apply wpS_region
  simp [wpOpsS, go_sem, recoverD, hu, Exit.thenS]
  refine wpS_of_wp ?_
  go_wp2
  exact ⟨rfl, _, rfl, .tuple #[], by simp [results, Tryz.results91, go_sem], ⟨_, rfl⟩, rfl, rfl⟩
set_option maxRecDepth 100000 in
set_option maxHeartbeats 4000000 in
theorem Sm.catch_wire (p q : Addr) (B : Nat) (w : World) (T : TypeId) (hT : T = 0x91 ∨ T = 0xa0) (x : Value) (y : Int) (hp : w.cell? p = some x) (hz : w.frozen? p = false) (hq : w.cell? q = some (.pointer (some ⟨B, 0, none⟩)))
    (hB : w.cell? ⟨B, 1, none⟩ = some (.int .i64 y)) (hBz : w.frozen? ⟨B, 1, none⟩ = false) (hne : q ≠ ⟨B, 1, none⟩) (older : List PanicEntry) :
    CallsD Tryz.prog 91 #[.pointer (some p), .pointer (some q)] (.panicking ({ v := .iface T (.agg #[]), recovered := false } :: older)) w fun e u' w' => (∃ v, e = .returned v) ∧ u' = .panicking ({ v := .iface T (.agg #[]), recovered := true } :: older) ∧ w' = (w.setCell ⟨B, 1, none⟩ (.int .i64 120)).setCell p (.int .i64 120) := by
  have hta := ta_wrong
  have htb := ta_cut
  have hq2 : (w.setCell ⟨B, 1, none⟩ (.int .i64 120)).cell? q = some (.pointer (some ⟨B, 0, none⟩)) := (World.cell?_setCell_other w ⟨B, 1, none⟩ q _ hne.symm).trans hq
  have hB2 := World.cell?_setCell_same w ⟨B, 1, none⟩ (.int .i64 120) hB
  have hz2 : (w.setCell ⟨B, 1, none⟩ (.int .i64 120)).frozen? p = false := by rw [World.frozen?_setCell]; exact hz
  obtain ⟨x2, hp2⟩ : ∃ x2, (w.setCell ⟨B, 1, none⟩ (.int .i64 120)).cell? p = some x2 := by
    by_cases e : p = ⟨B, 1, none⟩
    · subst e; exact ⟨_, hB2⟩
    · exact ⟨x, (World.cell?_setCell_other w ⟨B, 1, none⟩ p _ (fun h => e h.symm)).trans hp⟩
  rcases hT with rfl | rfl
  · refine callsD_of_wpS Tryz.func91 rfl fun c₀ cs hu => ?_
    simp only [Tryz.ntmps91, List.size_toArray, List.length_cons, List.length_nil, Nat.reduceAdd, Nat.reduceSub, Array.replicate_succ, Array.replicate_zero, List.push_toArray, List.append_toArray, List.nil_append, List.cons_append]
    apply wpS_seq
    apply wpS_region
    simp [wpOpsS, go_sem, recoverD, hu, Exit.thenS]
    refine wpS_of_wp ?_
    go_wp2
    exact ⟨rfl, _, rfl, .tuple #[], by simp [results, Tryz.results91, go_sem], ⟨_, rfl⟩, rfl, rfl⟩
  · refine callsD_of_wpS Tryz.func91 rfl fun c₀ cs hu => ?_
    simp only [Tryz.ntmps91, List.size_toArray, List.length_cons, List.length_nil, Nat.reduceAdd, Nat.reduceSub, Array.replicate_succ, Array.replicate_zero, List.push_toArray, List.append_toArray, List.nil_append, List.cons_append]
    apply wpS_seq
    apply wpS_region
    simp [wpOpsS, go_sem, recoverD, hu, Exit.thenS]
    refine wpS_of_wp ?_
    go_wp2
    exact ⟨rfl, _, rfl, .tuple #[], by simp [results, Tryz.results91, go_sem], ⟨_, rfl⟩, rfl, rfl⟩
set_option maxRecDepth 100000 in
set_option maxHeartbeats 4000000 in
theorem Sm.take_ok (D : Nat) (lb : Array Value) (eg : ∀ args w, (callFunc D args).run Tryz.prog w = .ok (.enter D args) w) (B n c : Nat) (A : Option Addr) (w : World) (R : World → Prop) (h : w.heap[B]? = some (.cells #[.slice A n c, .int .i64 0, .bool true] 0x83 (0, 0)))
    (hd : Calls Tryz.prog D lb ((w.alloc (.cells #[.pointer (some ⟨B, 0, none⟩)] 0x61)).alloc (.cells #[.int .i64 0] 0x28)) fun e w' => (∃ v, e = .returned v) ∧ R w' ∧ w'.cell? ⟨w.heap.size + 1, 0, none⟩ = some (.int .i64 0) ∧ w'.frozen? ⟨w.heap.size + 1, 0, none⟩ = false) :
    Calls Tryz.prog 80 #[.pointer (some ⟨B, 0, none⟩), .func (.func D) #[] lb] w fun e w' => e = .returned (.int .i64 0) ∧ ∃ w2, R w2 ∧ w2.setCell ⟨w.heap.size + 1, 0, none⟩ (.int .i64 0) = w' := by
  have hB := (Array.getElem?_eq_some_iff.1 h).1
  have c1 : w.cell? ⟨B, 1, none⟩ = some (.int .i64 0) := by simp [World.cell?, h]
  have c2 : w.cell? ⟨B, 2, none⟩ = some (.bool true) := by simp [World.cell?, h]
  have hmf : ∀ (fn : Fn) (first cap : Array Value) (w : World), (Instr.makeFunc fn first cap).run Tryz.prog w = .ok (.func fn first cap) w := fun _ _ _ _ => rfl
  go_enter_defers Tryz.func80, Tryz.ntmps80
  go_wp2_with fail
  refine hd.mono ?_
  rintro e w2 ⟨⟨v, rfl⟩, hR, hc, hf⟩
  go_wp2
  refine leaves_cons (f := 91) (args := #[.pointer (some ⟨w.heap.size + 1, 0, none⟩), .pointer (some ⟨w.heap.size, 0, none⟩)]) (by simp) (by simp [go_sem]) ?_
  refine (catch_idle ⟨w.heap.size + 1, 0, none⟩ ⟨w.heap.size, 0, none⟩ _).mono ?_
  rintro e u' w'' ⟨⟨v, rfl⟩, rfl, rfl⟩
  have hs := World.cell?_setCell_same w2 ⟨w.heap.size + 1, 0, none⟩ (.int .i64 0) hc
  simp [Leaves, settle, results, Tryz.results80, go_sem, hs]
  exact ⟨w2, hR, rfl⟩
set_option maxRecDepth 100000 in
set_option maxHeartbeats 4000000 in
theorem Sm.take_arg (D : Nat) (lb : Array Value) (eg : ∀ args w, (callFunc D args).run Tryz.prog w = .ok (.enter D args) w) (B n c : Nat) (A : Option Addr) (w : World) (R : World → Prop) (h : w.heap[B]? = some (.cells #[.slice A n c, .int .i64 0, .bool true] 0x83 (0, 0)))
    (hd : Calls Tryz.prog D lb ((w.alloc (.cells #[.pointer (some ⟨B, 0, none⟩)] 0x61)).alloc (.cells #[.int .i64 0] 0x28)) fun e w' => e = .panicked [pArg] ∧ R w' ∧ w'.cell? ⟨w.heap.size + 1, 0, none⟩ = some (.int .i64 0) ∧ w'.frozen? ⟨w.heap.size + 1, 0, none⟩ = false) :
    Calls Tryz.prog 80 #[.pointer (some ⟨B, 0, none⟩), .func (.func D) #[] lb] w fun e w' => e = .returned (.int .i64 2) ∧ ∃ w2, R w2 ∧ w2.setCell ⟨w.heap.size + 1, 0, none⟩ (.int .i64 2) = w' := by
  have hB := (Array.getElem?_eq_some_iff.1 h).1
  have c1 : w.cell? ⟨B, 1, none⟩ = some (.int .i64 0) := by simp [World.cell?, h]
  have c2 : w.cell? ⟨B, 2, none⟩ = some (.bool true) := by simp [World.cell?, h]
  have hmf : ∀ (fn : Fn) (first cap : Array Value) (w : World), (Instr.makeFunc fn first cap).run Tryz.prog w = .ok (.func fn first cap) w := fun _ _ _ _ => rfl
  go_enter_defers Tryz.func80, Tryz.ntmps80
  go_wp2_with fail
  refine hd.mono ?_
  rintro e w2 ⟨rfl, hR, hc, hf⟩
  simp only
  refine leaves_cons (f := 91) (args := #[.pointer (some ⟨w.heap.size + 1, 0, none⟩), .pointer (some ⟨w.heap.size, 0, none⟩)]) (by simp) (by simp [go_sem]) ?_
  refine (catch_errno ⟨w.heap.size + 1, 0, none⟩ ⟨w.heap.size, 0, none⟩ _ _ hc hf []).mono ?_
  rintro e u' w'' ⟨⟨v, rfl⟩, rfl, rfl⟩
  have hs := World.cell?_setCell_same w2 ⟨w.heap.size + 1, 0, none⟩ (.int .i64 2) hc
  simp [Leaves, settle, results, Tryz.results80, go_sem, hs]
  exact ⟨w2, hR, rfl⟩
set_option maxRecDepth 100000 in
set_option maxHeartbeats 4000000 in
theorem Sm.take_bad (D : Nat) (lb : Array Value) (eg : ∀ args w, (callFunc D args).run Tryz.prog w = .ok (.enter D args) w) (B n c : Nat) (A : Option Addr) (w : World) (R : World → Prop) (h : w.heap[B]? = some (.cells #[.slice A n c, .int .i64 0, .bool true] 0x83 (0, 0)))
    (hd : Calls Tryz.prog D lb ((w.alloc (.cells #[.pointer (some ⟨B, 0, none⟩)] 0x61)).alloc (.cells #[.int .i64 0] 0x28)) fun e w' => (∃ T, (T = 0x91 ∨ T = 0xa0) ∧ e = .panicked [{ v := .iface T (.agg #[]), recovered := false }]) ∧ R w' ∧ w'.cell? ⟨w.heap.size + 1, 0, none⟩ = some (.int .i64 0) ∧ w'.frozen? ⟨w.heap.size + 1, 0, none⟩ = false ∧ w'.cell? ⟨w.heap.size, 0, none⟩ = some (.pointer (some ⟨B, 0, none⟩)) ∧ w'.cell? ⟨B, 1, none⟩ = some (.int .i64 0) ∧ w'.frozen? ⟨B, 1, none⟩ = false) :
    Calls Tryz.prog 80 #[.pointer (some ⟨B, 0, none⟩), .func (.func D) #[] lb] w fun e w' => e = .returned (.int .i64 120) ∧ ∃ w2, R w2 ∧ (w2.setCell ⟨B, 1, none⟩ (.int .i64 120)).setCell ⟨w.heap.size + 1, 0, none⟩ (.int .i64 120) = w' := by
  have hB := (Array.getElem?_eq_some_iff.1 h).1
  have c1 : w.cell? ⟨B, 1, none⟩ = some (.int .i64 0) := by simp [World.cell?, h]
  have c2 : w.cell? ⟨B, 2, none⟩ = some (.bool true) := by simp [World.cell?, h]
  have hmf : ∀ (fn : Fn) (first cap : Array Value) (w : World), (Instr.makeFunc fn first cap).run Tryz.prog w = .ok (.func fn first cap) w := fun _ _ _ _ => rfl
  go_enter_defers Tryz.func80, Tryz.ntmps80
  go_wp2_with fail
  refine hd.mono ?_
  rintro e w2 ⟨⟨T, hT, rfl⟩, hR, hc, hf, hq, hb, hbf⟩
  simp only
  refine leaves_cons (f := 91) (args := #[.pointer (some ⟨w.heap.size + 1, 0, none⟩), .pointer (some ⟨w.heap.size, 0, none⟩)]) (by simp) (by simp [go_sem]) ?_
  refine (catch_wire ⟨w.heap.size + 1, 0, none⟩ ⟨w.heap.size, 0, none⟩ B _ T hT _ _ hc hf hq hb hbf (by intro e; injection e with e1 e2; omega) []).mono ?_
  rintro e u' w'' ⟨⟨v, rfl⟩, rfl, rfl⟩
  have hs := World.cell?_setCell_same (w2.setCell ⟨B, 1, none⟩ (.int .i64 120)) ⟨w.heap.size + 1, 0, none⟩ (.int .i64 120) ((World.cell?_setCell_other w2 ⟨B, 1, none⟩ ⟨w.heap.size + 1, 0, none⟩ _ (by intro e; injection e with e1 e2; omega)).trans hc)
  simp [Leaves, settle, results, Tryz.results80, go_sem, hs]
  exact ⟨w2, hR, rfl⟩
set_option maxRecDepth 100000 in
set_option maxHeartbeats 4000000 in
theorem Sm.take_fault (B : Nat) (v : Value) (f : Int) (hf : ¬ f = 0) (w : World) (h : w.heap[B]? = some (.cells #[v, .int .i64 f, .bool true] 0x83 (0, 0))) (u : Value) :
    Calls Tryz.prog 80 #[.pointer (some ⟨B, 0, none⟩), u] w fun e w' => e = .returned (.int .i64 f) ∧ Below w.heap.size w w' := by
  have hB := (Array.getElem?_eq_some_iff.1 h).1
  have c1 : w.cell? ⟨B, 1, none⟩ = some (.int .i64 f) := by simp [World.cell?, h]
  have c2 : w.cell? ⟨B, 2, none⟩ = some (.bool true) := by simp [World.cell?, h]
  go_enter_defers Tryz.func80, Tryz.ntmps80
  go_wp2
  simp [bodyPostD, Leaves, results, Tryz.results80, go_sem]
  exact ((Below.refl _ w).alloc (Nat.le_refl _) _).alloc (by simp) _
/-- no reader: nil, or one that Read did not make -/
def Sm.NoRd (w : World) (v : Value) : Prop := v = .pointer none ∨ ∃ B, v = .pointer (some ⟨B, 0, none⟩) ∧ B < w.heap.size ∧ w.cell? ⟨B, 1, none⟩ = some (.int .i64 0) ∧ w.cell? ⟨B, 0, none⟩ = some (.slice none 0 0) ∧ w.cell? ⟨B, 2, none⟩ = some (.bool false)
set_option maxRecDepth 100000 in
set_option maxHeartbeats 4000000 in
theorem Sm.take_no (v : Value) (w : World) (h : NoRd w v) (u : Value) :
    Calls Tryz.prog 80 #[v, u] w fun e w' => e = .returned (.int .i64 1) ∧ Below w.heap.size w w' := by
  rcases h with rfl | ⟨B, rfl, hB, h1, h0, h2⟩
  · go_enter_defers Tryz.func80, Tryz.ntmps80
    go_wp2
    simp [bodyPostD, Leaves, results, Tryz.results80, go_sem]
    exact ((Below.refl _ w).alloc (Nat.le_refl _) _).alloc (by simp) _
  · go_enter_defers Tryz.func80, Tryz.ntmps80
    go_wp2
    simp [bodyPostD, Leaves, results, Tryz.results80, go_sem]
    exact ((Below.refl _ w).alloc (Nat.le_refl _) _).alloc (by simp) _
end Go.Proofs
