/-
  The contracts of a writer's calls: New, there, All, Number, Text, Truth.
-/
import Derived.Test.YteeponciegmlcaaDoorWrA
namespace Go.Proofs
open Go.RowKit Go.Shelf Sm
/-- a writer at block B that has laid these bytes, in the row v -/
def Sm.Wr (w : World) (B : Nat) (v : Value) (l : List (BitVec 8)) : Prop := w.heap[B]? = some (.cells #[v, .bool true] 38 (0, 0)) ∧ w.ownsRow (B + 1) 5 1 v l.length (l.map byteCell)
/-- what a writer's call turns -/
structure Sm.WrGo (B : Nat) (v v' : Value) (w w' : World) : Prop where
  but : But (fun b => b = B ∨ v.ownBlock = some b) w w'
  row : Stays w v v'
namespace Sm
section
variable {w w1 w' : World} {B : Nat} {v v1 v' : Value} {l : List (BitVec 8)}
theorem WrGo.refl (B : Nat) (v : Value) (w : World) : WrGo B v v w w := ⟨But.refl _ _, Stays.refl _ _⟩
theorem WrGo.trans (h : WrGo B v v1 w w1) (k : WrGo B v1 v' w1 w') : WrGo B v v' w w' :=
  ⟨h.but.trans k.but fun b hb e => by
    rcases e with e | e
    · exact .inl e
    · exact .inr (h.row.back hb e), h.row.trans k.row h.but.size⟩
theorem Wr.lt (h : Wr w B v l) : B < w.heap.size := (Array.getElem?_eq_some_iff.1 h.1).1
theorem Wr.cell0 (h : Wr w B v l) : w.cell? ⟨B, 0, none⟩ = some v := by simp [World.cell?, h.1]
theorem Wr.cell1 (h : Wr w B v l) : w.cell? ⟨B, 1, none⟩ = some (.bool true) := by simp [World.cell?, h.1]
theorem Wr.frozen0 (h : Wr w B v l) : w.frozen? ⟨B, 0, none⟩ = false := by simp [World.frozen?, h.1]
theorem Wr.block (h : Wr w B v l) : ∀ g, v.ownBlock = some g → B < g ∧ g < w.heap.size := fun g e => by
  have := h.2.lt g e
  omega
/-- whatever turns neither its block nor its row leaves a writer as it is -/
theorem Wr.but {S : Nat → Prop} (h : Wr w B v l) (hb : But S w w') (h1 : ¬ S B) (h2 : ∀ g, v.ownBlock = some g → ¬ S g) : Wr w' B v l := ⟨hb.box h.1 h1, hb.row h.2 h2⟩
theorem Wr.below (h : Wr w B v l) (hb : Below w.heap.size w w') : Wr w' B v l := h.but (But.of_all hb (fun _ => False)) id (fun _ _ => id)
end
end Sm
theorem Sm.heap_setCells {w : World} {B i : Nat} {cs : Array Value} {u : Value} {t : TypeId} {fr : Nat × Nat} (h : w.heap[B]? = some (.cells cs t fr)) : (w.setCell ⟨B, i, none⟩ u).heap[B]? = some (.cells (cs.setIfInBounds i u) t fr) := by
  show (w.heap.modify B _)[B]? = _
  rw [Array.getElem?_modify, if_pos rfl, h]
  rfl
set_option maxHeartbeats 400000 in
theorem Sm.New_any (w : World) : Calls Tryd.prog 13 #[] w fun e w' => e = .returned (.pointer (some ⟨w.heap.size, 0, none⟩)) ∧ w.alloc (.cells #[.slice none 0 0, .bool true] 38) = w' := by
  go_enter Tryd.func13, Tryd.ntmps13
  go_wp2
  go_ret
  exact ⟨rfl, rfl⟩
theorem Sm.Wr.new (w : World) : Wr (w.alloc (.cells #[.slice none 0 0, .bool true] 38)) w.heap.size (.slice none 0 0) [] := ⟨World.alloc_heap_new w _, World.ownsRow_nil _ _ _ _⟩
set_option maxHeartbeats 400000 in
theorem Sm.there_any {B : Nat} {v : Value} {l : List (BitVec 8)} (w : World) (h : Wr w B v l) : Calls Tryd.prog 39 #[.pointer (some ⟨B, 0, none⟩)] w fun e w' => e = .returned (.bool true) ∧ w = w' := by
  have h1 := h.cell1
  go_enter Tryd.func39, Tryd.ntmps39
  go_wp2
  go_ret
  exact ⟨rfl, rfl⟩
/-- no writer: nil, or one that New did not make -/
def Sm.NoWr (w : World) (v : Value) : Prop := v = .pointer none ∨ ∃ B, v = .pointer (some ⟨B, 0, none⟩) ∧ w.cell? ⟨B, 1, none⟩ = some (.bool false)
set_option maxHeartbeats 400000 in
theorem Sm.there_no (w : World) (v : Value) (h : NoWr w v) : Calls Tryd.prog 39 #[v] w fun e w' => e = .returned (.bool false) ∧ w = w' := by
  rcases h with rfl | ⟨B, rfl, h1⟩
  · go_enter Tryd.func39, Tryd.ntmps39
    go_wp2
    go_ret
    exact ⟨rfl, rfl⟩
  · go_enter Tryd.func39, Tryd.ntmps39
    go_wp2
    go_ret
    exact ⟨rfl, rfl⟩
set_option maxRecDepth 100000 in
set_option maxHeartbeats 1000000 in
theorem Sm.All_any {B : Nat} {v : Value} {l : List (BitVec 8)} (w : World) (h : Wr w B v l) (hm : l.length ≤ 1000000) : Calls Tryd.prog 17 #[.pointer (some ⟨B, 0, none⟩)] w fun e w' => ∃ u, e = .returned u ∧ w'.ownsRow w.heap.size 5 1 u l.length (l.map byteCell) ∧ Below w.heap.size w w' := by
  have h0 := h.cell0
  obtain ⟨A, c, rfl⟩ := own_slice h.2
  have hr : Rd w w.heap.size A l := Rd.of_own h.2 (Nat.le_refl _)
  go_enter Tryd.func17, Tryd.ntmps17
  go_wp2_with (first
    | (go_at_call 39; (with_reducible refine (there_any _ h).mono ?_); rintro e w1 ⟨rfl, rfl⟩)
    | (go_at_call 40; (with_reducible refine (Clone_any l l.length c w.heap.size A _ (Lib.hid rfl) hm (Nat.le_refl _) hr).mono ?_); rintro e w1 ⟨u, rfl, hown, hb⟩))
  go_ret
  exact ⟨u, rfl, hown, hb⟩
set_option maxHeartbeats 1000000 in
theorem Sm.All_no (w : World) (v : Value) (h : NoWr w v) : Calls Tryd.prog 17 #[v] w fun e w' => e = .returned (.slice none 0 0) ∧ w = w' := by
  go_enter Tryd.func17, Tryd.ntmps17
  go_wp2_with (go_at_call 39; (with_reducible refine (there_no _ v h).mono ?_); rintro e w1 ⟨rfl, rfl⟩)
  go_ret
  exact ⟨rfl, rfl⟩
/-- numbers as cells -/
def Sm.intC (n : Int) : Value := .int .i64 n
/-- may it be laid? -/
def Sm.okN (n : Int) : Prop := 0 ≤ n ∧ n ≤ 4611686018427387904
/-- the bytes of numbers -/
def Sm.numsB (l : List Int) : List (BitVec 8) := l.flatMap fun n => numB n.toNat
theorem Sm.numsB_len (l : List Int) (h : ∀ n ∈ l, okN n) : (numsB l).length ≤ 9 * l.length := by
  induction l with
  | nil => simp [numsB]
  | cons n r ih =>
    have h1 := ih fun m hm => h m (List.mem_cons_of_mem _ hm)
    have h2 := numB_len9 (n := n.toNat) (by have := (h n (List.mem_cons_self ..)).2; unfold top; omega)
    unfold numsB at *
    rw [List.flatMap_cons, List.length_append, List.length_cons]
    omega
theorem Sm.numsB_snoc (l : List Int) (n : Int) : numsB (l ++ [n]) = numsB l ++ numB n.toNat := by simp [numsB]
theorem Sm.Rds.cell {w : World} {S : Nat → Prop} {A : Option Addr} {cs : List Value} (h : Rds w S A cs) {k : Nat} (hk : k < cs.length) : ∃ b off, A = some ⟨b, off, none⟩ ∧ b < w.heap.size ∧ ¬ S b ∧ w.cell? ⟨b, off + k, none⟩ = some cs[k] := by
  obtain ⟨b, off, rfl, h1, h2, hc⟩ := h (by omega)
  exact ⟨b, off, rfl, h1, h2, hc k _ (List.getElem?_eq_getElem hk)⟩
theorem Sm.layN_keep {f : Nat} {args : Array Value} {w : World} {base m : Nat} {v u : Value} {xs : List (BitVec 8)} (B : Nat) (hB : B < w.heap.size) (hn : ¬ v.ownBlock = some B) (hc : w.cell? ⟨B, 0, none⟩ = some u) (hf : w.frozen? ⟨B, 0, none⟩ = false)
    (h : Calls Tryd.prog f args w fun e w' => ∃ v', e = .returned v' ∧ w'.ownsRow base 5 1 v' m (xs.map byteCell) ∧ But (fun b => v.ownBlock = some b) w w' ∧ Stays w v v') :
    Calls Tryd.prog f args w fun e w' => ∃ v', e = .returned v' ∧ w'.ownsRow base 5 1 v' m (xs.map byteCell) ∧ But (fun b => v.ownBlock = some b) w w' ∧ Stays w v v' ∧ w'.cell? ⟨B, 0, none⟩ = some u ∧ w'.frozen? ⟨B, 0, none⟩ = false :=
  h.mono fun _ _ ⟨v', h1, h2, h3, h4⟩ => ⟨v', h1, h2, h3, h4, (h3.cell (p := ⟨B, 0, none⟩) hB hn).trans hc, (h3.frozen (p := ⟨B, 0, none⟩) hB hn).trans hf⟩
set_option maxRecDepth 100000 in
set_option maxHeartbeats 2000000 in
theorem Sm.WNumber_bad {B : Nat} {v : Value} {l : List (BitVec 8)} (w : World) (h : Wr w B v l) (ns : List Int) (n c : Nat) (A : Option Addr) (S : Nat → Prop) (hn : Hid (ns.length = n)) (hm : n ≤ 1000000) (hr : Rds w S A (ns.map intC)) (hbad : Hid (∃ x ∈ ns, ¬ okN x)) :
    Calls Tryd.prog 18 #[.pointer (some ⟨B, 0, none⟩), .slice A n c] w fun e w' => e = .returned (.int .i64 2) ∧ w = w' := by
  go_enter Tryd.func18, Tryd.ntmps18
  go_wp2_with (go_at_call 39; (with_reducible refine (there_any _ h).mono ?_); rintro e w1 ⟨rfl, rfl⟩)
  go_loopw [14] (fun vi wr => ∃ k : Nat, k ≤ n ∧ vi = .int .i64 (k : Int) ∧ w = wr ∧ Hid (∀ x ∈ ns.take k, okN x)) (fun vi _ => n - (intOf vi).toNat)
  case atStart => exact ⟨0, Nat.zero_le _, rfl, rfl, Lib.hid (by simp)⟩
  case round =>
    obtain ⟨k, hk, rfl, rfl, HS⟩ := hrel
    have hlen := hn.out
    by_cases hlt : k < n
    · obtain ⟨b, off, rfl, hb1, hb2, hc⟩ := hr.cell (k := k) (by simp; omega)
      obtain ⟨x, hx⟩ : ∃ x, ns[k]'(by omega) = x := ⟨_, rfl⟩
      have hc2 : w.cell? ⟨b, off + k, none⟩ = some (.int .i64 x) := by rw [hc]; simp [intC, hx]
      clear hc
      by_cases hok : okN x
      · have H2 : Hid (∀ y ∈ ns.take (k + 1), okN y) := Lib.hid (fun y hy => by
          rw [List.take_succ_eq_append_getElem (by omega), hx] at hy
          rcases List.mem_append.1 hy with hy | hy
          · exact HS.out y hy
          · simp at hy; subst hy; exact hok)
        clear hlen hx
        obtain ⟨k1, k2⟩ := hok
        go_wp2_with (go_at_call 41; (with_reducible refine (within_yes _ _ _ k1 k2 _).mono ?_); rintro e w1 ⟨rfl, rfl⟩)
        go_roundw
        case rel => exact ⟨k + 1, by omega, by go_num, trivial, H2⟩
        case measure => simp [intOf]; omega
      · have hok2 : ¬ (0 ≤ x ∧ x ≤ 4611686018427387904) := hok
        clear hlen hx hok
        go_wp2_with (go_at_call 41; (with_reducible refine (within_no _ _ _ hok2 _).mono ?_); rintro e w1 ⟨rfl, rfl⟩)
        go_ret
        exact ⟨rfl, rfl⟩
    · exfalso
      obtain ⟨x, hx, hno⟩ := hbad.out
      exact hno (HS.out x (by rw [List.take_of_length_le (by omega)]; exact hx))
set_option maxRecDepth 100000 in
set_option maxHeartbeats 4000000 in
theorem Sm.WNumber_ok {B : Nat} {v : Value} {l : List (BitVec 8)} (w : World) (h : Wr w B v l) (ns : List Int) (n c : Nat) (A : Option Addr) (hn : Hid (ns.length = n)) (hm : n ≤ 1000000) (hl : l.length ≤ 1000000) (hr : Rds w (fun b => b = B ∨ v.ownBlock = some b) A (ns.map intC)) (hok : Hid (∀ x ∈ ns, okN x)) :
    Calls Tryd.prog 18 #[.pointer (some ⟨B, 0, none⟩), .slice A n c] w fun e w' => e = .returned (.int .i64 0) ∧ ∃ v', Wr w' B v' (l ++ numsB ns) ∧ WrGo B v v' w w' := by
  have HW := Lib.hid h
  go_enter Tryd.func18, Tryd.ntmps18
  go_wp2_with (go_at_call 39; (with_reducible refine (there_any _ h).mono ?_); rintro e w1 ⟨rfl, rfl⟩)
  clear h
  go_loopw [14] (fun vi wr => ∃ k : Nat, k ≤ n ∧ vi = .int .i64 (k : Int) ∧ w = wr) (fun vi _ => n - (intOf vi).toNat)
  case atStart => exact ⟨0, Nat.zero_le _, rfl, rfl⟩
  case round =>
    obtain ⟨k, hk, rfl, rfl⟩ := hrel
    have hlen := hn.out
    by_cases hlt : k < n
    · obtain ⟨b, off, rfl, hb1, hb2, hc⟩ := hr.cell (k := k) (by simp; omega)
      obtain ⟨x, hx⟩ : ∃ x, ns[k]'(by omega) = x := ⟨_, rfl⟩
      have hc2 : w.cell? ⟨b, off + k, none⟩ = some (.int .i64 x) := by rw [hc]; simp [intC, hx]
      obtain ⟨k1, k2⟩ := hok.out x (by rw [← hx]; exact List.getElem_mem _)
      clear hlen hx hc hb2
      go_wp2_with (go_at_call 41; (with_reducible refine (within_yes _ _ _ k1 k2 _).mono ?_); rintro e w1 ⟨rfl, rfl⟩)
      go_roundw
      case rel => exact ⟨k + 1, by omega, by go_num, trivial⟩
      case measure => simp [intOf]; omega
    · obtain rfl : k = n := by omega
      clear hlen
      go_wp2
      go_loopw [24] (fun vi wr => ∃ (k' : Nat) (v' : Value), k' ≤ k ∧ vi = .int .i64 (k' : Int) ∧ Hid (Wr wr B v' (l ++ numsB (ns.take k')) ∧ WrGo B v v' w wr)) (fun vi _ => k - (intOf vi).toNat)
      case atStart => exact ⟨0, v, Nat.zero_le _, rfl, Lib.hid ⟨by simpa [numsB] using HW.out, WrGo.refl _ _ _⟩⟩
      case round =>
        obtain ⟨j, v', hj, rfl, HR⟩ := hrel
        have hlen := hn.out
        by_cases hlt : j < k
        · obtain ⟨b, off, rfl, hb1, hb2, hc⟩ := hr.cell (k := j) (by simp; omega)
          obtain ⟨x, hx⟩ : ∃ x, ns[j]'(by omega) = x := ⟨_, rfl⟩
          have hxm : x ∈ ns := by rw [← hx]; exact List.getElem_mem _
          obtain ⟨k1, k2⟩ := hok.out x hxm
          have hc2 : wr.cell? ⟨b, off + j, none⟩ = some (.int .i64 x) := by
            rw [HR.out.2.but.cell (p := ⟨b, off + j, none⟩) hb1 hb2, hc]
            simp [intC, hx]
          have hc0 := HR.out.1.cell0
          have hf0 := HR.out.1.frozen0
          have hB := HR.out.1.lt
          have hlb : (l ++ numsB (ns.take j)).length ≤ 100000000 := by
            have h1 := numsB_len (ns.take j) (fun y hy => hok.out y (List.mem_of_mem_take hy))
            rw [List.length_append]
            rw [List.length_take] at h1
            omega
          obtain ⟨X, hX⟩ : ∃ X, l ++ numsB (ns.take j) = X := ⟨_, rfl⟩
          have hX2 : l ++ numsB (ns.take (j + 1)) = X ++ numB x.toNat := by rw [List.take_succ_eq_append_getElem (by omega), hx, numsB_snoc, ← List.append_assoc, hX]
          rw [hX] at HR hlb
          have hrow := HR.out.1.2
          obtain ⟨m, rfl⟩ : ∃ m : Nat, x = (m : Int) := ⟨x.toNat, by omega⟩
          have HX := Lib.hid hX2
          clear hlen hx hc hb2 hxm hX hX2
          have hnb : ¬ v'.ownBlock = some B := fun e => by have := (HR.out.1.block _ e).1; omega
          have hct := layN_keep B hB hnb hc0 hf0 (layN_any (B + 1) v' X.length X m wr hrow hB (by unfold top; omega) hlb)
          go_wp2_with (go_at_call 42; (with_reducible refine hct.mono ?_); rintro e w2 ⟨v2, rfl, hown2, hb2, hs2, hc2, hf2⟩; obtain ⟨A2, c2, rfl⟩ := own_slice hown2)
          go_roundw
          case rel =>
            refine ⟨j + 1, .slice A2 (X.length + (numB m).length) c2, by omega, by go_num, Lib.hid ?_⟩
            have hx2 : w2.heap[B]? = some (.cells #[v', .bool true] 38 (0, 0)) := hb2.box HR.out.1.1 hnb
            rw [HX.out]
            have hgo := fun u => (⟨(hb2.mono fun b _ e => Or.inr e).set ⟨B, 0, none⟩ u (.inl (.inl rfl)), hs2⟩ : WrGo B v' _ wr (w2.setCell ⟨B, 0, none⟩ u))
            refine ⟨⟨heap_setCells hx2, ?_⟩, HR.out.2.trans (hgo _)⟩
            rw [List.length_append]
            exact ownsRow_setCell_below hown2 (by simp) _
          case measure => simp [intOf]; omega
        · obtain rfl : j = k := by omega
          go_wp2
          go_ret
          refine ⟨rfl, v', ?_⟩
          have := HR.out
          rw [List.take_of_length_le (by omega)] at this
          exact this
set_option maxRecDepth 100000 in
set_option maxHeartbeats 1000000 in
theorem Sm.WNumber_no (w : World) (v : Value) (h : NoWr w v) (u : Value) : Calls Tryd.prog 18 #[v, u] w fun e w' => e = .returned (.int .i64 1) ∧ w = w' := by
  go_enter Tryd.func18, Tryd.ntmps18
  go_wp2_with (go_at_call 39; (with_reducible refine (there_no _ v h).mono ?_); rintro e w1 ⟨rfl, rfl⟩)
  go_ret
  exact ⟨rfl, rfl⟩
set_option maxRecDepth 100000 in
set_option maxHeartbeats 1000000 in
theorem Sm.WText_no (w : World) (v : Value) (h : NoWr w v) (u : Value) : Calls Tryd.prog 19 #[v, u] w fun e w' => e = .returned (.int .i64 1) ∧ w = w' := by
  go_enter Tryd.func19, Tryd.ntmps19
  go_wp2_with (go_at_call 39; (with_reducible refine (there_no _ v h).mono ?_); rintro e w1 ⟨rfl, rfl⟩)
  go_ret
  exact ⟨rfl, rfl⟩
/-- the bytes of a text with its length -/
def Sm.textB (s : ByteArray) : List (BitVec 8) := numB s.size ++ strL s
set_option maxRecDepth 100000 in
set_option maxHeartbeats 2000000 in
theorem Sm.WText_long {B : Nat} {v : Value} {l : List (BitVec 8)} (w : World) (h : Wr w B v l) (s : ByteArray) (hs : 1048576 < s.size) : Calls Tryd.prog 19 #[.pointer (some ⟨B, 0, none⟩), .string s] w fun e w' => e = .returned (.int .i64 3) ∧ w = w' := by
  have hno : ¬ ((0 : Int) ≤ (s.size : Int) ∧ (s.size : Int) ≤ 1048576) := by omega
  go_enter Tryd.func19, Tryd.ntmps19
  go_wp2_with (first
    | (go_at_call 39; (with_reducible refine (there_any _ h).mono ?_); rintro e w1 ⟨rfl, rfl⟩)
    | (go_at_call 43; (with_reducible refine (withinI_no _ _ _ hno _).mono ?_); rintro e w1 ⟨rfl, rfl⟩))
  go_ret
  exact ⟨rfl, rfl⟩
set_option maxRecDepth 100000 in
set_option maxHeartbeats 4000000 in
theorem Sm.WText_ok {B : Nat} {v : Value} {l : List (BitVec 8)} (w : World) (h : Wr w B v l) (hl : l.length ≤ 1000000) (s : ByteArray) (hs : s.size ≤ 1048576) : Calls Tryd.prog 19 #[.pointer (some ⟨B, 0, none⟩), .string s] w fun e w' => e = .returned (.int .i64 0) ∧ ∃ v', Wr w' B v' (l ++ textB s) ∧ WrGo B v v' w w' := by
  obtain ⟨i0, hi, hz0, hz1, hz2⟩ := info_parts info5
  have h0 : (0 : Int) ≤ (s.size : Int) := by omega
  have h1 : (s.size : Int) ≤ 1048576 := by omega
  have hB := h.lt
  have hc0 := h.cell0
  have hf0 := h.frozen0
  have hnb : ¬ v.ownBlock = some B := fun e => by have := (h.block _ e).1; omega
  have h9 := numB_len9 (n := s.size) (by unfold top; omega)
  have hp := numB_pos s.size
  have hct := layN_keep B hB hnb hc0 hf0 (layN_any (B + 1) v l.length l s.size w h.2 hB (by unfold top; omega) (by omega))
  go_enter Tryd.func19, Tryd.ntmps19
  go_wp2_with (first
    | (go_at_call 39; (with_reducible refine (there_any _ h).mono ?_); rintro e w1 ⟨rfl, rfl⟩)
    | (go_at_call 43; (with_reducible refine (withinI_yes _ _ _ h0 h1 _).mono ?_); rintro e w1 ⟨rfl, rfl⟩)
    | (go_at_call 42; (with_reducible refine hct.mono ?_); rintro e w2 ⟨v2, rfl, hown2, hb2, hs2, hc2, hf2⟩; have hsz2 := hb2.size; have hnb2 : ¬ v2.ownBlock = some B := hs2.other hB hnb)
    | (at_builtin; refine wpList_append_str _ rfl _ _ 27 9 rfl (B + 1) 5 i0 Tryd.underlying27 Tryd.underlying9 hi hz0 hz1 hz2 _ _ _ rfl hown2 ?_ s rfl ?_ ?_ ?_; omega; omega; omega; intro v3 w3 hown3 hg3 hat3; have hb3 : But (fun b => v2.ownBlock = some b) w2 w3 := But.grown hg3; have hc3 := (hb3.cell (p := ⟨B, 0, none⟩) (Nat.lt_of_lt_of_le hB hsz2) hnb2).trans hc2; have hf3 := (hb3.frozen (p := ⟨B, 0, none⟩) (Nat.lt_of_lt_of_le hB hsz2) hnb2).trans hf2; obtain ⟨A3, c3, rfl⟩ := own_slice hown3))
  go_ret
  refine ⟨rfl, .slice A3 (l.length + (numB s.size).length + s.size) c3, ?_, ?_⟩
  · have hx3 : w3.heap[B]? = some (.cells #[v, .bool true] 38 (0, 0)) := hb3.box (hb2.box h.1 hnb) hnb2
    refine ⟨heap_setCells hx3, ?_⟩
    have e1 : (l ++ textB s).length = l.length + (numB s.size).length + s.size := by unfold textB; rw [List.length_append, List.length_append, strL_length]; omega
    rw [e1]
    unfold textB
    rw [← List.append_assoc, List.map_append]
    exact ownsRow_setCell_below hown3 (by simp) _
  · exact ⟨((hb2.rows hs2 hb3).mono fun b _ e => Or.inr e).set ⟨B, 0, none⟩ _ (.inl (.inl rfl)), hs2.trans (Stays.of hat3) hsz2⟩
theorem Sm.WrGo.after {B : Nat} {v v' : Value} {w w1 w' : World} (hb : Below w.heap.size w w1) (h : WrGo B v v' w1 w') : WrGo B v v' w w' := ⟨(But.of_all hb _).trans h.but fun _ _ e => e, h.row.after hb.size⟩
theorem Sm.Rds.one (w : World) (x : Value) (t : TypeId) {B : Nat} {v : Value} {l : List (BitVec 8)} (h : Wr w B v l) : Rds (w.alloc (.cells #[x] t)) (fun b => b = B ∨ v.ownBlock = some b) (some ⟨w.heap.size, 0, none⟩) [x] := fun _ => by
  refine ⟨w.heap.size, 0, rfl, by simp, ?_, fun j c hj => ?_⟩
  · rintro (e | e)
    · have := h.lt; omega
    · have := (h.block _ e).2; omega
  · match j, hj with
    | 0, hj => simp at hj; subst hj; simp [World.cell?_alloc_new]
def Sm.truthB (b : Bool) : List (BitVec 8) := if b then [1#8] else [0#8]
set_option maxRecDepth 100000 in
set_option maxHeartbeats 2000000 in
theorem Sm.WTruth_ok {B : Nat} {v : Value} {l : List (BitVec 8)} (w : World) (h : Wr w B v l) (hl : l.length ≤ 1000000) (b : Bool) : Calls Tryd.prog 20 #[.pointer (some ⟨B, 0, none⟩), .bool b] w fun e w' => e = .returned (.int .i64 0) ∧ ∃ v', Wr w' B v' (l ++ truthB b) ∧ WrGo B v v' w w' := by
  have hb1 : ∀ x : Value, Below w.heap.size w (w.alloc (.cells #[x] 2)) := fun x => (Below.refl _ _).alloc (Nat.le_refl _) _
  cases b
  · have hct := WNumber_ok (w.alloc (.cells #[.int .i64 0] 2)) (h.below (hb1 _)) [0] 1 1 _ (Lib.hid rfl) (by omega) hl (Rds.one w (.int .i64 0) 2 h) (Lib.hid (by intro x hx; simp at hx; subst hx; unfold okN; omega))
    go_enter Tryd.func20, Tryd.ntmps20
    go_wp2_with (go_at_call 18; (with_reducible refine hct.mono ?_); rintro e w1 ⟨rfl, v', hw, hg⟩)
    go_ret
    have e0 : numsB [0] = truthB false := by simp [numsB, truthB, numB_small]
    rw [e0] at hw
    exact ⟨rfl, v', hw, hg.after (hb1 _)⟩
  · have hct := WNumber_ok (w.alloc (.cells #[.int .i64 1] 2)) (h.below (hb1 _)) [1] 1 1 _ (Lib.hid rfl) (by omega) hl (Rds.one w (.int .i64 1) 2 h) (Lib.hid (by intro x hx; simp at hx; subst hx; unfold okN; omega))
    go_enter Tryd.func20, Tryd.ntmps20
    go_wp2_with (go_at_call 18; (with_reducible refine hct.mono ?_); rintro e w1 ⟨rfl, v', hw, hg⟩)
    go_ret
    have e0 : numsB [1] = truthB true := by simp [numsB, truthB, numB_small]
    rw [e0] at hw
    exact ⟨rfl, v', hw, hg.after (hb1 _)⟩
theorem Sm.NoWr.alloc {w : World} {v : Value} (h : NoWr w v) (o : Obj) : NoWr (w.alloc o) v := by
  rcases h with rfl | ⟨B, rfl, h1⟩
  · exact .inl rfl
  · exact .inr ⟨B, rfl, (World.cell?_alloc_lt w o _ (World.block_lt_of_cell? w _ h1)).trans h1⟩
set_option maxRecDepth 100000 in
set_option maxHeartbeats 1000000 in
theorem Sm.WTruth_no (w : World) (v : Value) (h : NoWr w v) (b : Bool) : Calls Tryd.prog 20 #[v, .bool b] w fun e w' => e = .returned (.int .i64 1) ∧ Below w.heap.size w w' := by
  have hb1 : ∀ x : Value, Below w.heap.size w (w.alloc (.cells #[x] 2)) := fun x => (Below.refl _ _).alloc (Nat.le_refl _) _
  have hn := h.alloc
  cases b
  · go_enter Tryd.func20, Tryd.ntmps20
    go_wp2_with (go_at_call 18; (with_reducible refine (WNumber_no _ v (hn _) _).mono ?_); rintro e w1 ⟨rfl, rfl⟩)
    go_ret
    exact ⟨rfl, hb1 _⟩
  · go_enter Tryd.func20, Tryd.ntmps20
    go_wp2_with (go_at_call 18; (with_reducible refine (WNumber_no _ v (hn _) _).mono ?_); rintro e w1 ⟨rfl, rfl⟩)
    go_ret
    exact ⟨rfl, hb1 _⟩
