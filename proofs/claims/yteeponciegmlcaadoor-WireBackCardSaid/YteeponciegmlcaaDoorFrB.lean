/-
  The contracts of Frame, of the reference bytes of numbers, texts, truths and frames, and of the reference number with which bytes begin.
-/
import Derived.Lib.ConvBytes
import Derived.Test.YteeponciegmlcaaDoorFrA
namespace Go.Proofs
open Go.RowKit Go.Shelf Sm
/-- the frame of bytes -/
def Sm.frameB (l : List (BitVec 8)) : List (BitVec 8) := numB (l.length + 4) ++ (l ++ leN (sumB l) 4)
theorem Sm.frameB_len (l : List (BitVec 8)) (h : l.length ≤ 4096) : (frameB l).length ≤ 13 + l.length := by
  unfold frameB
  have := numB_len9 (n := l.length + 4) (by unfold top; omega)
  rw [List.length_append, List.length_append, leN_length]
  omega
theorem Sm.layN_nil (m : Nat) (w : World) (hm : m ≤ top) : Calls Tryd.prog 42 #[.slice none 0 0, .int .i64 (m : Int)] w fun e w' => ∃ v, e = .returned v ∧ w'.ownsRow w.heap.size 5 1 v (numB m).length ((numB m).map byteCell) ∧ Below w.heap.size w w' := by
  refine (layN_any w.heap.size (.slice none 0 0) 0 [] m w (World.ownsRow_nil _ _ _ _) (Nat.le_refl _) hm (by omega)).mono ?_
  rintro e w' ⟨v, rfl, hown, hb, _⟩
  refine ⟨v, rfl, by simpa using hown, hb.to_below (Nat.le_refl _) (fun b e => by simp [Value.ownBlock] at e)⟩
set_option maxRecDepth 100000 in
set_option maxHeartbeats 2000000 in
theorem Sm.Frame_long (n c : Nat) (A : Option Addr) (w : World) (h : 4096 < n) : Calls Tryd.prog 29 #[.slice A n c] w fun e w' => e = .returned (.tuple #[.slice none 0 0, .int .i64 3]) ∧ w = w' := by
  have hno : ¬ ((0 : Int) ≤ (n : Int) ∧ (n : Int) ≤ 4096) := by omega
  go_enter Tryd.func29, Tryd.ntmps29
  go_wp2_with (go_at_call 43; (with_reducible refine (withinI_no _ _ _ hno _).mono ?_); rintro e w1 ⟨rfl, rfl⟩)
  go_ret2
  exact ⟨rfl, rfl⟩
set_option maxRecDepth 100000 in
set_option maxHeartbeats 4000000 in
theorem Sm.Frame_ok (l : List (BitVec 8)) (n c : Nat) (A : Option Addr) (w : World) (hn : l.length = n) (hm : n ≤ 4096) (hr : Rd w w.heap.size A l) (ht : Tab w) :
    Calls Tryd.prog 29 #[.slice A n c] w fun e w' => ∃ v, e = .returned (.tuple #[v, .int .i64 0]) ∧ w'.ownsRow w.heap.size 5 1 v (frameB l).length ((frameB l).map byteCell) ∧ Below w.heap.size w w' := by
  obtain ⟨i0, hi, hz0, hz1, hz2⟩ := info_parts info5
  have h0 : (0 : Int) ≤ (n : Int) := by omega
  have h1 : (n : Int) ≤ 4096 := by omega
  have h9 := numB_len9 (n := n + 4) (by unfold top; omega)
  have hlay : ∀ w : World, Calls Tryd.prog 42 #[.slice none 0 0, .int .i64 ((n : Int) + 4)] w fun e w' => ∃ v, e = .returned v ∧ w'.ownsRow w.heap.size 5 1 v (numB (n + 4)).length ((numB (n + 4)).map byteCell) ∧ Below w.heap.size w w' := fun w => by
    have h := layN_nil (n + 4) w (by unfold top; omega)
    have e4 : ((n + 4 : Nat) : Int) = (n : Int) + 4 := by omega
    rwa [e4] at h
  have hct := Seal_any ⟨A, n, c, l⟩ w (by show n ≤ 1000000; omega) ⟨hn, by show n ≤ 9223372036854775807; omega, hr⟩ ht
  go_enter Tryd.func29, Tryd.ntmps29
  go_wp2_with (first
    | (go_at_call 43; (with_reducible refine (withinI_yes _ _ _ h0 h1 _).mono ?_); rintro e w1 ⟨rfl, rfl⟩)
    | (go_at_call 59; (with_reducible refine hct.mono ?_); rintro e w2 ⟨v2, rfl, hown2, hb2⟩; obtain ⟨A2, c2, rfl⟩ := own_slice hown2; have hrd2 : Rd w2 w2.heap.size A2 (l ++ leN (sumB l) 4) := Rd.of_own hown2 (Nat.le_refl _))
    | (go_at_call 42; (with_reducible refine (hlay _).mono ?_); rintro e w3 ⟨v3, rfl, hown3, hb3⟩; have hs3 := hb3.size)
    | (at_builtin; refine wpList_append_rd _ rfl (.tmp 13) (.tmp 14) 27 rfl w2.heap.size 5 i0 _ Tryd.underlying27 hi hz0 hz1 hz2 rfl _ _ _ rfl hown3 w2.heap.size A2 (n + 4) c2 (l ++ leN (sumB l) 4) rfl (by rw [List.length_append, leN_length, hn]) (hrd2.below hb3) ?_ hs3 ?_; omega; intro v4 w4 hown4 hg4 hat4; obtain ⟨A4, c4, rfl⟩ := own_slice hown4))
  go_ret2
  have hl : (frameB l).length = (numB (n + 4)).length + (n + 4) := by unfold frameB; rw [List.length_append, List.length_append, leN_length, hn]
  refine ⟨_, rfl, ?_, hb2.trans ((((Below.refl w2.heap.size w2).trans hb3).grown hg4 hb3.size (fun g e => (hown3.lt g e).1)).mono hb2.size)⟩
  rw [hl]
  refine own_base ?_ hb2.size
  unfold frameB
  rw [List.map_append, hn]
  exact hown4
set_option maxRecDepth 100000 in
set_option maxHeartbeats 4000000 in
theorem Sm.refNumber_any (m : Nat) (w : World) (hm : m ≤ top) : Calls Tryd.prog 36 #[.int .i64 (m : Int)] w fun e w' => ∃ v, e = .returned v ∧ w'.ownsRow w.heap.size 5 1 v (numB m).length ((numB m).map byteCell) ∧ Below w.heap.size w w' := by
  obtain ⟨i0, hi, hz0, hz1, hz2⟩ := info_parts info5
  go_enter Tryd.func36, Tryd.ntmps36
  go_wp2
  go_loopw [0, 3] (fun vm vv wr => ∃ (ys : List (BitVec 8)) (k : Nat), vm = .int .i64 (k : Int) ∧ k ≤ m ∧ ys ++ numB k = numB m ∧ wr.ownsRow w.heap.size 5 1 vv ys.length (ys.map byteCell) ∧ ys.length + (numB k).length ≤ 9 ∧ Below w.heap.size w wr)
    (fun vm _ _ => (intOf vm).toNat)
  case atStart => exact ⟨[], m, rfl, by omega, rfl, World.ownsRow_nil _ _ _ _, by simpa using numB_len9 hm, Below.refl _ _⟩
  case round =>
    obtain ⟨ys, k, rfl, hk, hy, hown, hlen, hb⟩ := hrel
    have hsz := hb.size
    by_cases hlt : 128 ≤ k
    · have hw : wrap64 ((k : Int) / 128) = ((k / 128 : Nat) : Int) := by unfold wrap64 top at *; omega
      have hbig := numB_big hlt
      have hlb : (numB k).length = (numB (k / 128)).length + 1 := by rw [hbig, List.length_cons]
      clear hbig
      have hcell : byteCell (BitVec.ofNat 8 (128 + k % 128)) = .int .u8 (128 + (k : Int) % 128) := by
        unfold byteCell ib
        rw [ofNat_big]
        congr 1
      go_wp2_with (at_builtin; refine wpList_append_own_at _ rfl _ _ 27 rfl w.heap.size 5 i0 _ 1 1 Tryd.underlying27 hi hz0 hz1 hz2 rfl (by decide) _ _ _ rfl (hown.alloc _) ⟨wr.heap.size, 0, none⟩ 1 1 [.int .u8 (128 + (k : Int) % 128)] rfl rfl ?_ (by simp [Value.oneCell']) (by unfold maxLen; omega) (by omega) (by simp; omega) ?_; (exact cell_one_new _ _ _); intro v3 w3 hown3 hg3 _ hat3)
      have hb3 : Below w.heap.size w w3 := (hb.alloc hb.size _).grown hg3 (by simp; omega) (fun g e => (hown.lt g e).1)
      have hr3 : w3.ownsRow w.heap.size 5 1 v3 (ys ++ [BitVec.ofNat 8 (128 + k % 128)]).length ((ys ++ [BitVec.ofNat 8 (128 + k % 128)]).map byteCell) := by
        rw [List.length_append, List.map_append]
        show w3.ownsRow w.heap.size 5 1 v3 _ (_ ++ [byteCell (BitVec.ofNat 8 (128 + k % 128))])
        rw [hcell]
        exact hown3
      go_roundw
      case rel => exact ⟨ys ++ [BitVec.ofNat 8 (128 + k % 128)], k / 128, by rw [hw], by omega, by rw [← hy, numB_big hlt, List.append_assoc]; rfl, hr3, by simp; omega, hb3⟩
      case measure => rw [hw]; simp [intOf]; omega
    · have hln : byteCell (BitVec.ofNat 8 k) = .int .u8 (k : Int) := by unfold byteCell; rw [← low_num, Int.emod_eq_of_lt (by omega) (by omega)]
      have hsm := numB_small (n := k) (by omega)
      rw [hsm] at hy
      have hl9 : ys.length ≤ 9 := by omega
      clear hsm hlen
      go_wp2_with (at_builtin; refine wpList_append_own_at _ rfl _ _ 27 rfl w.heap.size 5 i0 _ 1 1 Tryd.underlying27 hi hz0 hz1 hz2 rfl (by decide) _ _ _ rfl (hown.alloc _) ⟨wr.heap.size, 0, none⟩ 1 1 [.int .u8 (k : Int)] rfl rfl ?_ (by simp [Value.oneCell']) (by unfold maxLen; omega) (by omega) (by simp; omega) ?_; (exact cell_one_new _ _ _); intro v3 w3 hown3 hg3 _ hat3)
      have hb3 : Below w.heap.size w w3 := (hb.alloc hb.size _).grown hg3 (by simp; omega) (fun g e => (hown.lt g e).1)
      go_ret
      refine ⟨v3, rfl, ?_, hb3⟩
      rw [← hy, List.length_append, List.map_append]
      show w3.ownsRow w.heap.size 5 1 v3 _ (_ ++ [byteCell (BitVec.ofNat 8 k)])
      rw [hln]
      exact hown3
/-- a text as bytes -/
theorem Sm.conv_str (s : ByteArray) (w : World) : ∃ c w', (convert 9 27 (.string s)).run Tryd.prog w = .ok (.slice (some ⟨w.heap.size, 0, none⟩) s.size c) w' ∧ Rd w' w'.heap.size (some ⟨w.heap.size, 0, none⟩) (strL s) ∧ Below w.heap.size w w' ∧ s.size ≤ c ∧ w'.heap.size = w.heap.size + 1 := by
  refine ⟨_, _, Lib.run_convert_string_bytes w 9 27 5 s Tryd.underlying9 Tryd.underlying27 Tryd.underlying5, ?_, ⟨rfl, rfl, rfl, by rw [Lib.bytesWorld_size]; omega, fun k hk => Lib.bytesWorld_at_old w 5 s k hk⟩, grownCap_ge _ _ _ _, Lib.bytesWorld_size w 5 s⟩
  intro _
  refine ⟨w.heap.size, 0, rfl, by rw [Lib.bytesWorld_size]; omega, fun j c hj => ?_⟩
  have hjl := (List.getElem?_eq_some_iff.1 hj).1
  rw [strL_length] at hjl
  rw [Nat.zero_add, Lib.bytesWorld_cell w 5 s j hjl]
  unfold strL at hj
  rw [List.getElem?_map] at hj
  have hj2 : s.data.toList[j]? = some s.data.toList[j] := List.getElem?_eq_getElem (by simpa using hjl)
  rw [hj2] at hj
  simp only [Option.map_some, Option.some.injEq] at hj
  subst hj
  rw [List.getD_eq_getElem?_getD, hj2]
  rfl
set_option maxRecDepth 100000 in
set_option maxHeartbeats 4000000 in
theorem Sm.refText_any (s : ByteArray) (w : World) (hm : s.size ≤ 1000000) : Calls Tryd.prog 37 #[.string s] w fun e w' => ∃ v, e = .returned v ∧ w'.ownsRow w.heap.size 5 1 v (textB s).length ((textB s).map byteCell) ∧ Below w.heap.size w w' := by
  obtain ⟨i0, hi, hz0, hz1, hz2⟩ := info_parts info5
  have h9 := numB_len9 (n := s.size) (by unfold top; omega)
  have hnum := refNumber_any s.size w (by unfold top; omega)
  go_enter Tryd.func37, Tryd.ntmps37
  go_wp2_with (first
    | (go_at_call 36; (with_reducible refine hnum.mono ?_); rintro e w1 ⟨v1, rfl, hown1, hb1⟩; obtain ⟨c2, w2, hcv, hrd2, hb2, hc2, hs2⟩ := conv_str s w1; have hown2 := own_below hown1 hb2; have hsz := hb1.size)
    | (at_builtin; refine wpList_append_rd _ rfl (.tmp 5) (.tmp 7) 27 rfl w.heap.size 5 i0 _ Tryd.underlying27 hi hz0 hz1 hz2 rfl _ _ _ rfl hown2 w2.heap.size _ s.size c2 (strL s) rfl (strL_length s) hrd2 ?_ ?_ ?_; omega; omega; intro v4 w4 hown4 hg4 hat4; obtain ⟨A4, c4, rfl⟩ := own_slice hown4))
  go_ret
  refine ⟨_, rfl, ?_, ((hb1.trans (hb2.mono hsz)).grown hg4 (by omega) (fun g e => (hown2.lt g e).1))⟩
  unfold textB
  rw [List.length_append, List.map_append, strL_length]
  exact hown4
set_option maxRecDepth 100000 in
set_option maxHeartbeats 1000000 in
theorem Sm.refTruth_any (b : Bool) (w : World) : Calls Tryd.prog 38 #[.bool b] w fun e w' => ∃ v, e = .returned v ∧ w'.ownsRow w.heap.size 5 1 v (truthB b).length ((truthB b).map byteCell) ∧ Below w.heap.size w w' := by
  cases b
  · go_enter Tryd.func38, Tryd.ntmps38
    go_wp2
    go_ret
    exact ⟨_, rfl, World.ownsRow_lit w #[.int .u8 0] 1 (Nat.le_refl _) (by decide) rfl, (Below.refl _ _).alloc (Nat.le_refl _) _⟩
  · go_enter Tryd.func38, Tryd.ntmps38
    go_wp2
    go_ret
    exact ⟨_, rfl, World.ownsRow_lit w #[.int .u8 1] 1 (Nat.le_refl _) (by decide) rfl, (Below.refl _ _).alloc (Nat.le_refl _) _⟩
set_option maxRecDepth 100000 in
set_option maxHeartbeats 4000000 in
theorem Sm.refFrame_any (l : List (BitVec 8)) (n c : Nat) (A : Option Addr) (w : World) (hn : l.length = n) (hm : n ≤ 100000) (hr : Rd w w.heap.size A l) :
    Calls Tryd.prog 32 #[.slice A n c] w fun e w' => ∃ v, e = .returned v ∧ w'.ownsRow w.heap.size 5 1 v (frameB l).length ((frameB l).map byteCell) ∧ Below w.heap.size w w' := by
  obtain ⟨i0, hi, hz0, hz1, hz2⟩ := info_parts info5
  have h9 := numB_len9 (n := n + 4) (by unfold top; omega)
  have hnum : ∀ w : World, Calls Tryd.prog 36 #[.int .i64 ((n : Int) + 4)] w fun e w' => ∃ v, e = .returned v ∧ w'.ownsRow w.heap.size 5 1 v (numB (n + 4)).length ((numB (n + 4)).map byteCell) ∧ Below w.heap.size w w' := fun w => by
    have h := refNumber_any (n + 4) w (by unfold top; omega)
    have e4 : ((n + 4 : Nat) : Int) = (n : Int) + 4 := by omega
    rwa [e4] at h
  have hct := refSeal_any l n c A w hn (by omega) hr
  go_enter Tryd.func32, Tryd.ntmps32
  go_wp2_with (first
    | (go_at_call 62; (with_reducible refine hct.mono ?_); rintro e w2 ⟨v2, rfl, hown2, hb2⟩; obtain ⟨A2, c2, rfl⟩ := own_slice hown2; have hrd2 : Rd w2 w2.heap.size A2 (l ++ leN (sumB l) 4) := Rd.of_own hown2 (Nat.le_refl _))
    | (go_at_call 36; (with_reducible refine (hnum _).mono ?_); rintro e w3 ⟨v3, rfl, hown3, hb3⟩; have hs3 := hb3.size)
    | (at_builtin; refine wpList_append_rd _ rfl (.tmp 8) (.tmp 9) 27 rfl w2.heap.size 5 i0 _ Tryd.underlying27 hi hz0 hz1 hz2 rfl _ _ _ rfl hown3 w2.heap.size A2 (n + 4) c2 (l ++ leN (sumB l) 4) rfl (by rw [List.length_append, leN_length, hn]) (hrd2.below hb3) ?_ hs3 ?_; omega; intro v4 w4 hown4 hg4 hat4; obtain ⟨A4, c4, rfl⟩ := own_slice hown4))
  go_ret
  have hl : (frameB l).length = (numB (n + 4)).length + (n + 4) := by unfold frameB; rw [List.length_append, List.length_append, leN_length, hn]
  refine ⟨_, rfl, ?_, hb2.trans ((((Below.refl w2.heap.size w2).trans hb3).grown hg4 hb3.size (fun g e => (hown3.lt g e).1)).mono hb2.size)⟩
  rw [hl]
  refine own_base ?_ hb2.size
  unfold frameB
  rw [List.map_append, hn]
  exact hown4
