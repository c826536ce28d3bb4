/-
  The walk of the law HmacDerives, where works is under contract (the hypothesis hw5).
-/
import Derived.Test.YtmhmnmdobnkbgaaDoorHmO
import Derived.Test.YtmhmnmdobnkbgaaDoorM18
namespace Go.Proofs
open Go.RowKit Sm
set_option maxRecDepth 100000 in
set_option maxHeartbeats 2000000 in
theorem Sm.derives5_no (hw5 : Works5) (n1 c1 : Nat) (A1 : Option Addr) (lb : ByteArray) (m : Int) (w : World) (ht : Tabs w) (h : 200 < n1 ∨ 100 < lb.size ∨ (300 < m ∧ m ≤ 8160)) :
    Calls Tryd.prog 6 #[.slice A1 n1 c1, .string lb, .int .i64 m] w fun e w' => e = .returned (.bool true) ∧ Below w.heap.size w w' := by
  have hw := hw5 w ht
  clear hw5 ht
  by_cases h1 : (200 : Int) < (n1 : Int)
  · clear h
    go_enter Tryd.func6, Tryd.ntmps6
    go_wp2_with (go_at_call 14; (with_reducible refine hw.mono ?_); clear hw; rintro e w1 ⟨rfl, hb⟩)
    go_ret
    exact ⟨rfl, hb⟩
  · by_cases h2 : (100 : Int) < (lb.size : Int)
    · clear h
      go_enter Tryd.func6, Tryd.ntmps6
      go_wp2_with (go_at_call 14; (with_reducible refine hw.mono ?_); clear hw; rintro e w1 ⟨rfl, hb⟩)
      go_ret
      exact ⟨rfl, hb⟩
    · have h3 : 300 < m := by omega
      have h4 : m ≤ 8160 := by omega
      clear h
      go_enter Tryd.func6, Tryd.ntmps6
      go_wp2_with (go_at_call 14; (with_reducible refine hw.mono ?_); clear hw; rintro e w1 ⟨rfl, hb⟩)
      go_ret
      exact ⟨rfl, hb⟩
set_option maxRecDepth 100000 in
set_option maxHeartbeats 2000000 in
theorem Sm.derives5_out (hw5 : Works5) (n1 c1 : Nat) (A1 : Option Addr) (lb : ByteArray) (m : Int) (w : World) (ht : Tabs w) (hn1 : n1 ≤ 200) (hlb : lb.size ≤ 100) (hm : m < 0 ∨ 8160 < m) :
    Calls Tryd.prog 6 #[.slice A1 n1 c1, .string lb, .int .i64 m] w fun e w' => e = .returned (.bool true) ∧ Below w.heap.size w w' := by
  have hw := fun v (hb : Below w.heap.size w v) => works5_from hw5 hb ht
  have hd := Derive_no m n1 c1 A1 lb w hm
  have h1 : ¬ ((200 : Int) < (n1 : Int)) := by omega
  have h2 : ¬ ((100 : Int) < (lb.size : Int)) := by omega
  clear hw5 ht hn1 hlb
  by_cases h3 : m < 0
  · have h4 : ¬ (300 < m) := by omega
    clear hm
    go_enter Tryd.func6, Tryd.ntmps6
    go_wp2_with (first
      | (go_at_call 20; (with_reducible refine hd.mono ?_); clear hd; rintro e w1 ⟨rfl, hb1⟩)
      | (go_at_call 18; (with_reducible refine (num5_any _ _).mono ?_); rintro e w' ⟨rfl, rfl⟩)
      | (go_at_call 14; (with_reducible refine (hw _ hb1).mono ?_); clear hw; rintro e w2 ⟨rfl, hb2⟩))
    go_ret
    exact ⟨rfl, hb2⟩
  · have h4 : 300 < m := by omega
    have h5 : ¬ (m ≤ 8160) := by omega
    clear hm
    go_enter Tryd.func6, Tryd.ntmps6
    go_wp2_with (first
      | (go_at_call 20; (with_reducible refine hd.mono ?_); clear hd; rintro e w1 ⟨rfl, hb1⟩)
      | (go_at_call 18; (with_reducible refine (num5_any _ _).mono ?_); rintro e w' ⟨rfl, rfl⟩)
      | (go_at_call 14; (with_reducible refine (hw _ hb1).mono ?_); clear hw; rintro e w2 ⟨rfl, hb2⟩))
    go_ret
    exact ⟨rfl, hb2⟩
theorem Sm.deriveS_length (key lb : List (BitVec 8)) (N : Nat) : (deriveS key lb N).length = N := by
  unfold deriveS
  rw [List.length_take, allK_length]
  omega
set_option maxRecDepth 100000 in
set_option maxHeartbeats 4000000 in
theorem Sm.derives5_in (hw5 : Works5) (n1 c1 N : Nat) (A1 : Option Addr) (lb : ByteArray) (key : List (BitVec 8)) (w : World) (ht : Tabs w) (hn1 : n1 ≤ 200) (hlb : lb.size ≤ 100) (hN : N ≤ 300) (hk : key.length = n1) (hr : Rd w w.heap.size A1 key) (hc1 : n1 ≤ c1) (hc2 : c1 ≤ 9223372036854775807) :
    Calls Tryd.prog 6 #[.slice A1 n1 c1, .string lb, .int .i64 (N : Int)] w fun e w' => e = .returned (.bool true) ∧ Below w.heap.size w w' := by
  have hd := Derive_yes N n1 c1 A1 key lb w ht hk (by omega) hc1 hc2 hr (by omega) (by omega)
  have hrf := fun (v : World) (hb : Below w.heap.size w v) => refDerive_any n1 c1 A1 key lb N v hk (by omega) (by omega) (by omega) ((hr.below hb).more hb.size)
  have hl := deriveS_length key (sB lb) N
  obtain ⟨D, hD⟩ : ∃ D, deriveS key (sB lb) N = D := ⟨_, rfl⟩
  rw [hD] at hd hl
  simp only [hD] at hrf
  have h1 : ¬ ((200 : Int) < (n1 : Int)) := by omega
  have h2 : ¬ ((100 : Int) < (lb.size : Int)) := by omega
  have h3 : ¬ ((300 : Int) < (N : Int)) := by omega
  have h4 : ¬ ((N : Int) < 0) := by omega
  have h5 : ¬ ((8160 : Int) < (N : Int)) := by omega
  have HD := Lib.hid hd
  have HRF := Lib.hid hrf
  have HL := Lib.hid hl
  have HW5 := Lib.hid hw5
  have HT := Lib.hid ht
  clear hd hrf hl hD hw5 ht hn1 hlb hN hk hr hc1 hc2
  go_enter Tryd.func6, Tryd.ntmps6
  go_upto_region 6 with (go_at_call 20; (with_reducible refine HD.out.mono ?_); rintro e X ⟨A7, c7, rfl, hr7, hbX, _⟩)
  have hcv : ∀ W, Below X.heap.size X W → (convert 0x16 9 (.slice A7 N c7)).run Tryd.prog W = .ok (.string (strB D)) W := fun W hb => conv_rd HL.out ((hr7.below hb).more hb.size)
  have htX := HT.out.keep hbX
  have hrf2 := fun (v : World) (hv : Below X.heap.size X v) => HRF.out v (hbX.trans (hv.mono hbX.size))
  have HCV := Lib.hid hcv
  have HRF2 := Lib.hid hrf2
  have HTX := Lib.hid htX
  have HBX := Lib.hid hbX
  have q0 := hcv X (Below.refl _ _)
  have q0d := hcv X.drew (Below.refl _ _).drew
  clear hr7 hbX hcv htX hrf2 HRF HD HT
  go_region_held_law (fun W => (convert 0x16 9 (.slice A7 N c7)).run Tryd.prog W = .ok (.string (strB D)) W)
    (first | exact q12 | exact q11 | exact q0d | exact q0)
    (first
    | (go_at_call 18; (with_reducible refine (num5_any _ _).mono ?_); rintro e w' ⟨rfl, rfl⟩)
    | (go_at_call 21; (with_reducible refine (HRF2.out _ (Below.refl _ _).drew).mono ?_); rintro e w11 ⟨A11, c11, rfl, r11, hb11'⟩; have t11 : (convert 0x16 9 (.slice A11 N c11)).run Tryd.prog w11 = .ok (.string (strB D)) w11 := conv_rd HL.out r11; have hb11 : Below X.heap.size X w11 := (Below.refl _ _).drew.trans hb11'; have q11 := HCV.out w11 hb11)
    | (go_at_call 14; (with_reducible refine (works5_from HW5.out hb11 HTX.out).mono ?_); rintro e w12 ⟨rfl, hb12⟩; have q12 := HCV.out w12 hb12))
  all_goals
   go_wp2
   go_ret
   exact ⟨rfl, HBX.out.trans (hb12.mono HBX.out.size)⟩
theorem Sm.derives5_law (hw5 : Works5) (n1 c1 : Nat) (m : Int) (A1 : Option Addr) (lb : ByteArray) (key : List (BitVec 8)) (w : World) (ht : Tabs w) (hk : key.length = n1) (hr : Rd w w.heap.size A1 key) (hc1 : n1 ≤ c1 ∧ c1 ≤ 9223372036854775807) :
    Calls Tryd.prog 6 #[.slice A1 n1 c1, .string lb, .int .i64 m] w fun e w' => e = .returned (.bool true) ∧ Below w.heap.size w w' := by
  by_cases hf : 200 < n1 ∨ 100 < lb.size ∨ (300 < m ∧ m ≤ 8160)
  · exact derives5_no hw5 n1 c1 A1 lb m w ht hf
  · by_cases hm : m < 0 ∨ 8160 < m
    · exact derives5_out hw5 n1 c1 A1 lb m w ht (by omega) (by omega) hm
    · obtain ⟨k, rfl⟩ : ∃ k : Nat, m = (k : Int) := ⟨m.toNat, by omega⟩
      exact derives5_in hw5 n1 c1 k A1 lb key w ht (by omega) (by omega) (by omega) hk hr hc1.1 hc1.2
end Go.Proofs
