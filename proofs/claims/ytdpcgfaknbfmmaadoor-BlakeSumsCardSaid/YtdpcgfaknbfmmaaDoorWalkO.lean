/-
  The contract of Keyed where it gives a sum.
-/
import Derived.Test.YtdpcgfaknbfmmaaDoorWalkN
namespace Go.Proofs
open Go.RowKit Sm
theorem Sm.own_base {w : World} {base base' : Nat} {e : TypeId} {size n : Nat} {v : Value} {xs : List Value} (h : w.ownsRow base e size v n xs) (hb : base' ≤ base) : w.ownsRow base' e size v n xs :=
  ⟨h.1, h.2.imp id fun ⟨g, cap, cur, a, b, r⟩ => ⟨g, cap, cur, a, Nat.le_trans hb b, r⟩⟩
set_option maxRecDepth 100000 in
set_option maxHeartbeats 4000000 in
theorem Sm.Keyed_yes (size n c n2 c2 : Nat) (A A2 : Option Addr) (key : List (BitVec 8)) (ps : List Pt) (w : World) (ht : Tabs w) (hs0 : 1 ≤ size) (hs1 : size ≤ 32) (hn : n ≤ 32) (hk : key.length = n) (hrd : Rds w (fun _ => False) A (key.map byteCell))
    (hps : ∀ g, w.heap.size ≤ g → PsOK w g A2 n2 ps) (hr : n2 ≤ c2) (hp : (joinP ps).length ≤ 100000) :
    Calls Tryd.prog 21 #[.int .i64 (size : Int), .slice A n c, .slice A2 n2 c2] w fun e w' => ∃ v, e = .returned (.tuple #[v, .int .i64 0]) ∧ w'.ownsRow w.heap.size 5 1 v size (((hashW size key (joinP ps)).take size).map byteCell) ∧ Below w.heap.size w w' := by
  have hnew := New_yes size n c A key w ht hs0 hs1 hn hk hrd
  have hwl := startS_ws size key
  have hcl := startS_cur size key (by omega)
  have hsp : (startS size key).p = 0 := rfl
  have hh : sumS (takeS (startS size key) (joinP ps)) = hashW size key (joinP ps) := rfl
  obtain ⟨s, hs⟩ : ∃ s, startS size key = s := ⟨_, rfl⟩
  rw [hs] at hnew hwl hcl hsp hh
  have hF : ∀ w1 g, w.heap.size ≤ g → HsAt w1 g s (size : Int) s.cur.length → Below w.heap.size w w1 →
      Calls Tryd.prog 49 #[.pointer (some ⟨g, 0, none⟩), .slice A2 n2 c2] w1 fun e w' => (∃ v, e = .returned v) ∧ HsAt w' g (takeS s (joinP ps)) (size : Int) s.cur.length ∧ Below w.heap.size w w' := by
    intro w1 g hg hh1 hb1
    refine (take_any g 0x33 s.ws s.p s.cur [.int .i64 (size : Int), .int .i64 (s.cur.length : Int)] A2 n2 c2 ps w1 hh1 hcl ((hps g hg).keep hb1) hr (by have := ht.size; omega) (ht.keep hb1) (by rw [List.length_append, hsp]; omega)).mono ?_
    rintro e w' ⟨hv, hst, hbt⟩
    exact ⟨hv, hst, hb1.trans (hbt.to_below hb1.size (fun b e => by omega))⟩
  have hcl4 := takeS_cur_le s (joinP ps)
  have hct4 := takeS_count s (joinP ps)
  have hG : ∀ w2 g, HsAt w2 g (takeS s (joinP ps)) (size : Int) s.cur.length → Below w.heap.size w w2 →
      Calls Tryd.prog 26 #[.pointer (some ⟨g, 0, none⟩)] w2 fun e w' => ∃ v, e = .returned v ∧ w'.ownsRow w.heap.size 5 1 v size (((hashW size key (joinP ps)).take size).map byteCell) ∧ Below w.heap.size w w' := by
    intro w2 g hh2 hb2
    refine (HSum_any g (takeS s (joinP ps)) size s.cur.length w2 hh2 hs0 hs1 hcl4 (ht.keep hb2) (by rw [hsp] at hct4; omega)).mono ?_
    rintro e w' ⟨v, rfl, hown, hb⟩
    rw [hh] at hown
    exact ⟨v, rfl, own_base hown hb2.size, hb2.trans (hb.mono hb2.size)⟩
  obtain ⟨X, hX⟩ : ∃ X, ((hashW size key (joinP ps)).take size).map byteCell = X := ⟨_, rfl⟩
  obtain ⟨s2, hs2⟩ : ∃ s2, takeS s (joinP ps) = s2 := ⟨_, rfl⟩
  rw [hX] at hG ⊢
  rw [hs2] at hF hG
  obtain ⟨e, he⟩ : ∃ e : Int, (size : Int) = e := ⟨_, rfl⟩
  rw [he] at hnew hF hG ⊢
  clear hs hwl hcl hsp hh hcl4 hct4 hX hs2 he hs0 hs1 hrd ht hps hr hp hn hk
  go_enter Tryd.func21, Tryd.ntmps21
  go_wp2_with (first
    | (go_at_call 24; (with_reducible refine hnew.mono ?_); clear hnew; rintro e1 w1 ⟨g, rfl, hg1, hh1, hb1⟩)
    | (go_at_call 49; (with_reducible refine (hF w1 g hg1 hh1 hb1).mono ?_); rintro e2 w2 ⟨⟨v2, rfl⟩, hh2, hb2⟩)
    | (go_at_call 26; (with_reducible refine (hG w2 g hh2 hb2).mono ?_); rintro e3 w3 ⟨v3, rfl, hown3, hb3⟩))
  go_ret2
  exact ⟨v3, rfl, hown3, hb3⟩
end Go.Proofs
