/-
  The contracts of what a reader takes: next, and the number with which its bytes begin.
-/
import Derived.WalkLawsBesides
import Derived.Test.YteeponciegmlcaaDoorWrB
namespace Go.Proofs
open Go.RowKit Go.Shelf Sm
def Sm.pWrong : PanicEntry := { v := .iface 115 (.agg #[]), recovered := false }
def Sm.pCut : PanicEntry := { v := .iface 116 (.agg #[]), recovered := false }
def Sm.pArg : PanicEntry := { v := .iface 34 (.int .i64 2), recovered := false }
set_option maxRecDepth 100000 in
set_option maxHeartbeats 1000000 in
theorem Sm.next_cut (w : World) (B n c : Nat) (k : Int) (A : Option Addr) (h : w.cell? ⟨B, 0, none⟩ = some (.slice A n c)) (hk : (n : Int) < k) :
    Calls Tryd.prog 54 #[.pointer (some ⟨B, 0, none⟩), .int .i64 k] w fun e w' => e = .panicked [pCut] ∧ w = w' := by
  go_enter Tryd.func54, Tryd.ntmps54
  go_wp2
  exact ⟨rfl, rfl, rfl⟩
set_option maxRecDepth 100000 in
set_option maxHeartbeats 1000000 in
theorem Sm.next_some (w : World) (B n c k : Nat) (a : Addr) (h : w.cell? ⟨B, 0, none⟩ = some (.slice (some a) n c)) (hf : w.frozen? ⟨B, 0, none⟩ = false) (hk : k ≤ n) (hc : n ≤ c) :
    Calls Tryd.prog 54 #[.pointer (some ⟨B, 0, none⟩), .int .i64 (k : Int)] w fun e w' => e = .returned (.slice (some a) k c) ∧ ∃ a', (a' = a.add k ∨ k = n) ∧ w.setCell ⟨B, 0, none⟩ (.slice (some a') (n - k) (c - k)) = w' := by
  have h1 : (k : Int) ≤ (n : Int) := by omega
  have h2 : (k : Int) ≤ (c : Int) := by omega
  have h3 : (n : Int) ≤ (c : Int) := by omega
  by_cases hkc : k = c
  · subst hkc
    go_enter Tryd.func54, Tryd.ntmps54
    go_wp2
    go_ret
    refine ⟨rfl, a, .inr (by omega), ?_⟩
    rw [show n - k = 0 by omega, show k - k = 0 by omega]
  · go_enter Tryd.func54, Tryd.ntmps54
    go_wp2
    go_ret
    exact ⟨rfl, a.add k, .inl rfl, rfl⟩
set_option maxRecDepth 100000 in
set_option maxHeartbeats 1000000 in
theorem Sm.next_none (w : World) (B : Nat) (h : w.cell? ⟨B, 0, none⟩ = some (.slice none 0 0)) (hf : w.frozen? ⟨B, 0, none⟩ = false) :
    Calls Tryd.prog 54 #[.pointer (some ⟨B, 0, none⟩), .int .i64 0] w fun e w' => e = .returned (.slice none 0 0) ∧ w.setCell ⟨B, 0, none⟩ (.slice none 0 0) = w' := by
  go_enter Tryd.func54, Tryd.ntmps54
  go_wp2
  go_ret
  exact ⟨rfl, rfl⟩
/-- what is left lies at block B's first cell: bytes of blocks below B -/
structure Sm.RestAt (w : World) (B : Nat) (A : Option Addr) (n c : Nat) (l : List (BitVec 8)) : Prop where
  cell : w.cell? ⟨B, 0, none⟩ = some (.slice A n c)
  frozen : w.frozen? ⟨B, 0, none⟩ = false
  len : l.length = n
  room : n ≤ c
  none_ : A = none → c = 0
  rd : Rd w B A l
/-- the first cell of block B may have been written, nothing else turned -/
def Sm.Moved (B : Nat) (w w' : World) : Prop := w' = w ∨ ∃ u, w' = w.setCell ⟨B, 0, none⟩ u
theorem Sm.setCell_twice (w : World) (B i : Nat) (u v : Value) : (w.setCell ⟨B, i, none⟩ u).setCell ⟨B, i, none⟩ v = w.setCell ⟨B, i, none⟩ v := by
  simp only [World.setCell]
  congr 1
  apply Array.ext
  · simp
  · intro j h1 h2
    simp only [Array.size_modify] at h1 h2
    simp only [Array.getElem_modify]
    split
    · cases w.heap[j] <;> simp
    · rfl
theorem Sm.Moved.trans {B : Nat} {w w1 w' : World} (h : Moved B w w1) (k : Moved B w1 w') : Moved B w w' := by
  rcases k with rfl | ⟨v, rfl⟩
  · exact h
  · rcases h with rfl | ⟨u, rfl⟩
    · exact .inr ⟨v, rfl⟩
    · exact .inr ⟨v, setCell_twice _ _ _ _ _⟩
theorem Sm.next_any {w : World} {B n c : Nat} {A : Option Addr} {l : List (BitVec 8)} (h : RestAt w B A n c l) (k : Nat) (hk : k ≤ n) :
    Calls Tryd.prog 54 #[.pointer (some ⟨B, 0, none⟩), .int .i64 (k : Int)] w fun e w' => e = .returned (.slice A k c) ∧ Rd w' B A (l.take k) ∧ Moved B w w' ∧ ∃ A', RestAt w' B A' (n - k) (c - k) (l.drop k) := by
  rcases A with _ | a
  · obtain rfl : c = 0 := h.none_ rfl
    obtain rfl : n = 0 := by have := h.room; omega
    obtain rfl : k = 0 := by omega
    have hl : l = [] := List.eq_nil_of_length_eq_zero h.len
    subst hl
    refine (next_none w B h.cell h.frozen).mono ?_
    rintro e w' ⟨rfl, rfl⟩
    exact ⟨rfl, Rd.nil, .inr ⟨_, rfl⟩, none, { cell := World.cell?_setCell_same _ _ _ h.cell, frozen := by rw [World.frozen?_setCell]; exact h.frozen, len := rfl, room := Nat.le_refl _, none_ := fun _ => rfl, rd := Rd.nil }⟩
  · refine (next_some w B n c k a h.cell h.frozen hk h.room).mono ?_
    rintro e w' ⟨rfl, a', ha, rfl⟩
    refine ⟨rfl, (h.rd.take k).setCell (Nat.le_refl _) _, .inr ⟨_, rfl⟩, some a', { cell := World.cell?_setCell_same _ _ _ h.cell, frozen := by rw [World.frozen?_setCell]; exact h.frozen, len := by rw [List.length_drop, h.len], room := by have := h.room; omega, none_ := fun e => by simp at e, rd := ?_ }⟩
    refine Rd.setCell ?_ (Nat.le_refl _) _
    rcases ha with rfl | rfl
    · rcases Nat.eq_zero_or_pos n with hz | hp
      · have hl : l = [] := List.eq_nil_of_length_eq_zero (by rw [h.len]; exact hz)
        subst hl
        rw [List.drop_nil]
        exact Rd.nil
      · obtain ⟨b, off, e, _⟩ := h.rd (by rw [h.len]; exact hp)
        cases e
        have ea : (⟨b, off, none⟩ : Addr).add k = ⟨b, off + k, none⟩ := by
          unfold Addr.add
          split
          · rename_i h0; subst h0; rfl
          · rfl
        rw [ea]
        exact h.rd.drop k
    · have hl : l.drop k = [] := List.drop_eq_nil_of_le (by rw [h.len]; exact Nat.le_refl _)
      rw [hl]
      exact Rd.nil
theorem Sm.next_one {w : World} {B n c : Nat} {A : Option Addr} {l : List (BitVec 8)} (h : RestAt w B A n c l) {x : BitVec 8} (hx : l[0]? = some x) :
    Calls Tryd.prog 54 #[.pointer (some ⟨B, 0, none⟩), .int .i64 1] w fun e w' => ∃ b off, e = .returned (.slice (some ⟨b, off, none⟩) 1 c) ∧ w'.cell? ⟨b, off, none⟩ = some (.int .u8 (ib x)) ∧ Moved B w w' ∧ ∃ A', RestAt w' B A' (n - 1) (c - 1) (l.drop 1) := by
  obtain ⟨h0, hx0⟩ := List.getElem?_eq_some_iff.1 hx
  have h1 : 1 ≤ n := by rw [← h.len]; omega
  refine (next_any h 1 h1).mono ?_
  rintro e w' ⟨rfl, hrd, hm, hA⟩
  obtain ⟨b, off, rfl, hb, hc⟩ := hrd.at_ (k := 0) (by rw [List.length_take]; omega)
  rw [Nat.add_zero, List.getElem_take, hx0] at hc
  exact ⟨b, off, rfl, hc, hm, hA⟩
theorem Sm.andNot128 (c : BitVec 8) : bits .andNot .u8 (ib c) 128 = ((c.toNat % 128 : Nat) : Int) := by
  have h : ∀ c : BitVec 8, bits .andNot .u8 (ib c) 128 = ((c.toNat % 128 : Nat) : Int) := by decide +kernel
  exact h c
theorem Sm.or_at (a b k : Nat) (ha : a < 2 ^ (7 * k)) (hb : b < 128) (hk : k ≤ 8) : bits .or .i64 (a : Int) (wrap64 ((b : Int) * 2 ^ (7 * k))) = ((a + 2 ^ (7 * k) * b : Nat) : Int) := by
  have hp : 2 ^ (7 * k) ≤ 2 ^ 56 := Nat.pow_le_pow_right (by decide) (by omega)
  have hm : 2 ^ (7 * k) * b ≤ 2 ^ 56 * 127 := Nat.mul_le_mul hp (by omega)
  have hor : 2 ^ (7 * k) * b ||| a = 2 ^ (7 * k) * b + a := (Nat.two_pow_add_eq_or_of_lt ha b).symm
  have e1 : ((b : Int) * 2 ^ (7 * k)) = ((2 ^ (7 * k) * b : Nat) : Int) := by rw [Nat.mul_comm]; simp [Int.mul_comm]
  rw [e1]
  generalize hM : 2 ^ (7 * k) * b = M at *
  generalize 2 ^ (7 * k) = p at *
  have e2 : wrap64 ((M : Nat) : Int) = (M : Int) := by unfold wrap64; omega
  rw [e2]
  show IntKind.i64.wrap ((BitVec.ofInt 64 (a : Int) ||| BitVec.ofInt 64 (M : Int)).toNat : Int) = _
  have e3 : (BitVec.ofInt 64 (a : Int) ||| BitVec.ofInt 64 (M : Int)).toNat = M + a := by
    rw [BitVec.toNat_or, BitVec.ofInt_natCast, BitVec.ofInt_natCast, BitVec.toNat_ofNat, BitVec.toNat_ofNat, Nat.mod_eq_of_lt (by omega), Nat.mod_eq_of_lt (by omega), Nat.or_comm, hor]
  rw [e3]
  simp [IntKind.wrap, IntKind.signed, IntKind.bits]
  omega
theorem Sm.or_numV {l : List (BitVec 8)} {k : Nat} {x : BitVec 8} (hk : k ≤ 8) (hx : l[k]? = some x) : bits .or .i64 (numV (l.take k) : Int) (wrap64 ((x.toNat : Int) % 128 * 2 ^ (7 * k))) = (numV (l.take (k + 1)) : Int) := by
  have hl : (l.take k).length = k := by rw [List.length_take]; have := (List.getElem?_eq_some_iff.1 hx).1; omega
  have hlt := numV_lt (l.take k)
  have hpw : 128 ^ k = 2 ^ (7 * k) := by rw [Nat.pow_mul]
  rw [hl, hpw] at hlt
  have h := or_at (numV (l.take k)) (x.toNat % 128) k hlt (Nat.mod_lt _ (by decide)) hk
  rw [take_succ_get hx, hpw, ← h]
  simp
/-- what number answers -/
def Sm.NumPost (l : List (BitVec 8)) (most : Int) (B n c : Nat) (e : Ending) (w' : World) : Prop :=
  match getN l with
  | .num m k => if (m : Int) ≤ most then e = .returned (.int .i64 (m : Int)) ∧ ∃ A', RestAt w' B A' (n - k) (c - k) (l.drop k) else e = .panicked [pWrong]
  | .cut => e = .panicked [pCut]
  | .bad => e = .panicked [pWrong]
set_option maxRecDepth 100000 in
set_option maxHeartbeats 4000000 in
theorem Sm.number_any {w : World} {B n c : Nat} {A : Option Addr} {l : List (BitVec 8)} (h : RestAt w B A n c l) (most : Int) (h0 : 0 ≤ most) (h1 : most ≤ 4611686018427387904) :
    Calls Tryd.prog 46 #[.pointer (some ⟨B, 0, none⟩), .int .i64 most] w fun e w' => NumPost l most B n c e w' ∧ Moved B w w' := by
  go_enter Tryd.func46, Tryd.ntmps46
  go_wp2
  go_loopw [5, 8] (fun vn vi wr => ∃ (k : Nat) (A' : Option Addr), k ≤ 9 ∧ vi = .int .i64 (k : Int) ∧ vn = .int .i64 (numV (l.take k) : Int) ∧ Hid (k ≤ lead l) ∧ Hid (RestAt wr B A' (n - k) (c - k) (l.drop k)) ∧ Hid (Moved B w wr)) (fun _ vi _ => 9 - (intOf vi).toNat)
  case atStart => exact ⟨0, A, by omega, rfl, by simp [numV], Lib.hid (Nat.zero_le _), Lib.hid h, Lib.hid (.inl rfl)⟩
  case round =>
    obtain ⟨k, A', hk, rfl, rfl, HL, HR, HM⟩ := hrel
    by_cases h9 : k < 9
    · by_cases hkn : k < n
      · have hlen := h.len
        obtain ⟨x, hx⟩ : ∃ x, l[k]'(by omega) = x := ⟨_, rfl⟩
        have hxl : l[k]? = some x := by rw [← hx]; exact List.getElem?_eq_getElem (by omega)
        have hx2 := andNot128 x
        have hor := or_numV (by omega) hxl
        have hnx := next_one HR.out (x := x) (by rw [List.getElem?_drop]; simpa using hxl)
        rw [List.drop_drop, Nat.sub_sub, Nat.sub_sub] at hnx
        have HX := Lib.hid hxl
        obtain ⟨m, hm⟩ : ∃ m, numV (l.take (k + 1)) = m := ⟨_, rfl⟩
        rw [hm] at hor
        have HMM := Lib.hid hm
        clear hlen hx hxl hm
        by_cases hge : (128 : Int) ≤ ib x
        · go_wp2_with (go_at_call 54; (with_reducible refine hnx.mono ?_); rintro e w2 ⟨b, off, rfl, hcx, hm2, A2, hr2⟩)
          go_roundw
          case rel => exact ⟨k + 1, A2, by omega, by go_num, by rw [HMM.out], Lib.hid (lead_more _ _ _ HL.out HX.out (by unfold ib at hge; omega)), Lib.hid hr2, Lib.hid (HM.out.trans hm2)⟩
          case measure => simp [intOf]; omega
        · have hlead := Lib.hid (lead_eq _ _ _ HL.out HX.out (by unfold ib at hge; omega))
          have fin : ∀ w2 A2, m ≤ 4611686018427387904 → (m : Int) ≤ most → ¬ (0 < k ∧ x.toNat = 0) → RestAt w2 B A2 (n - (k + 1)) (c - (k + 1)) (l.drop (k + 1)) → NumPost l most B n c (.returned (.int .i64 (m : Int))) w2 := fun w2 A2 ht hmo hnz hr2 => by
            unfold NumPost
            rw [getN_num hlead.out h9 HX.out hnz (by rw [HMM.out]; exact ht), HMM.out]
            simp only
            rw [if_pos hmo]
            exact ⟨trivial, A2, hr2⟩
          by_cases hx0 : ib x = 0
          · by_cases hk0 : 0 < k
            · go_wp2_with (go_at_call 54; (with_reducible refine hnx.mono ?_); rintro e w2 ⟨b, off, rfl, hcx, hm2, A2, hr2⟩)
              refine ⟨by first | trivial | rfl, ?_, HM.out.trans hm2⟩
              unfold NumPost
              rw [getN_zero hlead.out hk0 h9 HX.out (by unfold ib at hx0; omega)]
              rfl
            · obtain rfl : k = 0 := by omega
              have hx1 : x.toNat = 0 := by unfold ib at hx0; omega
              have hm0 : m = 0 := by
                have := take_succ_get HX.out
                rw [HMM.out, hx1] at this
                simpa [numV] using this
              subst hm0
              have hor0 : bits .or .i64 (numV [] : Int) (wrap64 (wrap64 (bits .andNot .u8 0 128))) = 0 := by kernel_rfl
              have HF := Lib.hid fin
              have h0m : (0 : Int) ≤ 0 := by omega
              clear fin hor
              go_wp2_with (first
                | (go_at_call 54; (with_reducible refine hnx.mono ?_); rintro e w2 ⟨b, off, rfl, hcx, hm2, A2, hr2⟩)
                | (go_at_call 41; (with_reducible refine (within_yes _ _ _ h0m h0 _).mono ?_); rintro e w3 ⟨rfl, rfl⟩))
              go_ret
              exact ⟨HF.out _ A2 (by omega) h0 (fun h => hk0 h.1) hr2, HM.out.trans hm2⟩
          · have HF := Lib.hid fin
            clear fin
            by_cases hmo : (m : Int) ≤ most
            · have h0m : (0 : Int) ≤ (m : Int) := by omega
              go_wp2_with (first
                | (go_at_call 54; (with_reducible refine hnx.mono ?_); rintro e w2 ⟨b, off, rfl, hcx, hm2, A2, hr2⟩)
                | (go_at_call 41; (with_reducible refine (within_yes _ _ _ h0m hmo _).mono ?_); rintro e w3 ⟨rfl, rfl⟩))
              go_ret
              exact ⟨HF.out _ A2 (by omega) hmo (fun h => hx0 (by unfold ib; omega)) hr2, HM.out.trans hm2⟩
            · have hno : ¬ ((0 : Int) ≤ (m : Int) ∧ (m : Int) ≤ most) := fun h => hmo h.2
              go_wp2_with (first
                | (go_at_call 54; (with_reducible refine hnx.mono ?_); rintro e w2 ⟨b, off, rfl, hcx, hm2, A2, hr2⟩)
                | (go_at_call 41; (with_reducible refine (within_no _ _ _ hno _).mono ?_); rintro e w3 ⟨rfl, rfl⟩))
              refine ⟨by first | trivial | rfl, ?_, HM.out.trans hm2⟩
              unfold NumPost
              by_cases ht : m ≤ top
              · rw [getN_num hlead.out h9 HX.out (fun h => hx0 (by unfold ib; omega)) (by rw [HMM.out]; exact ht), HMM.out]
                simp only
                rw [if_neg (by omega)]
                rfl
              · rw [getN_over hlead.out h9 HX.out (by rw [HMM.out]; omega)]
                rfl
      · have hnx := next_cut wr B (n - k) (c - k) 1 A' HR.out.cell (by omega)
        have hl := h.len
        go_wp2_with (go_at_call 54; (with_reducible refine hnx.mono ?_); rintro e w2 ⟨rfl, rfl⟩)
        refine ⟨rfl, ?_, HM.out⟩
        unfold NumPost
        have h1 := lead_le l
        have h2 := HL.out
        rw [getN_cut (by omega) (by omega)]
    · go_wp2
      refine ⟨rfl, ?_, HM.out⟩
      unfold NumPost
      have h2 := HL.out
      rw [getN_long (by omega)]
      rfl
