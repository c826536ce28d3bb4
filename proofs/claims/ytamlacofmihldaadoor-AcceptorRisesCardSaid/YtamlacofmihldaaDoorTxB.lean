/-
  The contract of the document's Signs. Condition: a text that is not too long. (The sign is taken as the contract of its function.)
-/
import Derived.Maps.AppendAt
import Derived.Test.YtamlacofmihldaaDoorTxA5
import Derived.Test.YtamlacofmihldaaDoorSlB
import Derived.Test.YtamlacofmihldaaDoorApp
namespace Go.Proofs
open Go Go.RowKit Sm Go.Lib
theorem Sm.info29 : (Tryd.prog.info? 67).map (fun i => (i.zero, i.size, i.bytes)) = some (some (.agg #[.int .i64 0, .int .i64 0, .int .i64 0, .bool false]), 4, 32) := by kernel_rfl
theorem Sm.cell_four_new (w : World) (x y z u : Value) (t : TypeId) : ∀ j v, [x, y, z, u][j]? = some v → (w.alloc (.cells #[x, y, z, u] t)).cell? ((⟨w.heap.size, 0, none⟩ : Addr).add j) = some v := by
  intro j v hj
  match j, hj with
  | 0, hj =>
    simp at hj
    subst hj
    exact World.cell?_alloc_new (w := w) #[x, y, z, u] t 0
  | 1, hj =>
    simp at hj
    subst hj
    exact World.cell?_alloc_new (w := w) #[x, y, z, u] t 1
  | 2, hj =>
    simp at hj
    subst hj
    exact World.cell?_alloc_new (w := w) #[x, y, z, u] t 2
  | 3, hj =>
    simp at hj
    subst hj
    exact World.cell?_alloc_new (w := w) #[x, y, z, u] t 3
/-- the cells of sign k -/
def Sm.signC (s : ByteArray) (k : Nat) : List Value := [.int .i64 (posK s k : Int), .int .i64 ((Utf8.decode s (posK s k)).2 : Int), .int .i64 ((Utf8.decode s (posK s k)).1 : Int), .bool (brokeP s (posK s k))]
def Sm.signsC (s : ByteArray) : Nat → List Value
  | 0 => []
  | k + 1 => signsC s k ++ signC s k
theorem Sm.get_ext (s : ByteArray) (p j : Nat) (hp : p ≤ s.size) : (s.extract p s.size).get! j = s.get! (p + j) := by
  cases s with
  | mk a =>
    show (ByteArray.extract ⟨a⟩ p a.size).data[j]! = a[p + j]!
    rw [ByteArray.data_extract]
    show (a.extract p a.size)[j]! = a[p + j]!
    by_cases h : p + j < a.size
    · rw [getElem!_pos a (p + j) h, getElem!_pos _ j (by simp; omega), Array.getElem_extract]
    · rw [getElem!_neg a (p + j) h, getElem!_neg _ j (by simp; omega)]
theorem Sm.size_ext (s : ByteArray) (p : Nat) : (s.extract p s.size).size = s.size - p := by simp
theorem Sm.signP_ext (s : ByteArray) (p : Nat) (hp : p ≤ s.size) : signP (s.extract p s.size) 0 = signP s p := by
  rw [signP_eq, signP_eq, size_ext, get_ext s p _ hp, get_ext s p _ hp, get_ext s p _ hp, get_ext s p _ hp]
  rfl
theorem Sm.sign_any (s : ByteArray) (w : World) (h0 : 0 < s.size) (hm : s.size ≤ 9223372036854775807) :
    Calls Tryd.prog 40 #[.string s] w fun e w' => e = .returned (.tuple #[.int .i64 ((signP s 0).1 : Int), .int .i64 ((signP s 0).2 : Int)]) ∧ Below w.heap.size w w' := by
  rw [signP_eq]
  exact sign_walk s w (s.size - 0) _ _ _ _ rfl hm (s.get! 0).toNat_lt (s.get! 1).toNat_lt (s.get! 2).toNat_lt (s.get! 3).toNat_lt (byte_at s 0 h0) (byte_at s 1) (byte_at s 2) (byte_at s 3)
theorem Sm.signP_zero {s : ByteArray} {p : Nat} (hp : p < s.size) : ((signP s p).2 = 0 ↔ brokeP s p = true) := by
  unfold signP
  by_cases h : brokeP s p = true
  · rw [if_pos h]
    simp [h]
  · rw [if_neg h]
    have := (dec_width s p hp).1
    simp only [Bool.not_eq_true] at h
    simp only [h]
    constructor
    · intro e; omega
    · intro e; cases e
set_option maxRecDepth 100000 in
set_option maxHeartbeats 4000000 in
theorem Sm.Signs_any (s : ByteArray) (w : World) (hm : s.size ≤ 1000000) :
    Calls Tryd.prog 30 #[.string s] w fun e w' => ∃ A c, e = .returned (.slice A (cntS s) c) ∧ w'.ownsRow w.heap.size 67 4 (.slice A (cntS s) c) (cntS s) (signsC s (cntS s)) ∧ Below w.heap.size w w' := by
  obtain ⟨i8, hi8, hy0, hy1, hy2⟩ := info_parts info29
  have hc1 := cntS_le s
  go_enter Tryd.func30, Tryd.ntmps30
  go_wp2
  go_loopw [3, 4] (fun vo vi wr => ∃ (k : Nat) (u : Value), k ≤ cntS s ∧ u = vo ∧ vi = .int .i64 (posK s k : Int) ∧ Hid (wr.ownsRow w.heap.size 67 4 u k (signsC s k)) ∧ Hid (Below w.heap.size w wr))
    (fun _ vi _ => s.size - (intOf vi).toNat)
  case atStart => exact ⟨0, _, Nat.zero_le _, rfl, rfl, Lib.hid (World.ownsRow_nil _ _ _ _), Lib.hid (Below.refl _ _)⟩
  case round =>
    obtain ⟨k, u, hk, rfl, rfl, HR, HB⟩ := hrel
    by_cases hlt : posK s k < s.size
    · have hstep := posK_step hlt
      have hk1 : k + 1 ≤ cntS s := posK_cnt hlt
      have hsc := posK_succ hlt
      have hle := posK_le s (k + 1)
      have hbr := broke_rune (s := s) (p := posK s k)
      have hz := signP_zero hlt
      have hsg := sign_any (s.extract (posK s k) s.size) wr (by rw [size_ext]; omega) (by rw [size_ext]; omega)
      rw [signP_ext s _ (by omega)] at hsg
      have hC : Hid (signsC s (k + 1) = signsC s k ++ signC s k) := Lib.hid rfl
      unfold signC at hC
      obtain ⟨C, hCe⟩ : ∃ C, signsC s k = C := ⟨_, rfl⟩
      rw [hCe] at HR hC
      obtain ⟨P1, hP1⟩ : ∃ P1, posK s (k + 1) = P1 := ⟨_, rfl⟩
      have HP1 := Lib.hid hP1
      rw [hP1] at hstep hsc hle
      obtain ⟨p, hp⟩ : ∃ p, posK s k = p := ⟨_, rfl⟩
      rw [hp] at hlt hstep hsc hbr hz hsg hC ⊢
      have hsl : ∀ w, (Instr.slice 9 (.string s) (some (.int .i64 (p : Int))) none none).run Tryd.prog w = .ok (.string (s.extract p s.size)) w := fun w => by
        have := run_slice_string_l (P := Tryd.prog) w 9 s Tryd.underlying9 .i64 (p : Int) (by omega) (by omega)
        simpa using this
      by_cases hb : brokeP s p = true
      · have h0 := hz.2 hb
        have hd := hbr hb
        rw [hd] at hsc hC
        rw [hb] at hC
        obtain ⟨S1, S2, hS⟩ : ∃ S1 S2, signP s p = (S1, S2) := ⟨_, _, rfl⟩
        rw [hS] at hsg h0
        simp only at hsg h0 hsc
        subst h0
        subst hsc
        clear hz hbr hd hb hS hCe hP1 hp
        go_wp2_with (first
          | (go_at_call 40; go_loud ((with_reducible refine hsg.mono ?_); clear hsg; rintro e w1 ⟨rfl, hb1⟩; have hR1 := own_below HR.out hb1; have HB1 := Lib.hid (HB.out.trans (hb1.mono HB.out.size)); have hw1 := HB1.out.size; clear hb1))
          | (at_builtin; refine wpList_append_own_at _ rfl (.tmp 20) (.tmp 23) 64 rfl w.heap.size 67 i8 _ 4 32 Tryd.underlying64 hi8 hy0 hy1 hy2 rfl (by decide) _ k C rfl (hR1.alloc _) ⟨w1.heap.size, 0, none⟩ 1 1 [.int .i64 (p : Int), .int .i64 1, .int .i64 65533, .bool true] rfl rfl (cell_four_new _ _ _ _ _ _) (by simp [Value.oneCell']) ?_ ?_ ?_ ?_; (unfold maxLen; omega); omega; (simp; omega); intro v3 w3 hown3 hg3 _ hat3))
        have HR3 := Lib.hid hown3
        have HB3 := Lib.hid (HB1.out.trans (((Below.refl _ w1).alloc (Nat.le_refl _) (.cells #[.int .i64 (p : Int), .int .i64 1, .int .i64 65533, .bool true] 67)).mono HB1.out.size |>.trans ((But.grown hg3).to_below (n := w.heap.size) (by simp; omega) (fun b e => (hR1.lt _ e).1))))
        clear hown3 hg3 hat3
        refine ⟨⟨k + 1, v3, hk1, rfl, by rw [HP1.out]; simp, Lib.hid (by rw [hC.out]; exact HR3.out), HB3⟩, ?_⟩
        simp [intOf]
        omega
      · have hd : signP s p = Utf8.decode s p := by unfold signP; rw [if_neg hb]
        have hbf : brokeP s p = false := by simpa using hb
        have h0 : ¬ (signP s p).2 = 0 := fun e => hb (hz.1 e)
        obtain ⟨S1, S2, hS⟩ : ∃ S1 S2, Utf8.decode s p = (S1, S2) := ⟨_, _, rfl⟩
        rw [hd, hS] at hsg h0
        rw [hS] at hsc hC
        rw [hbf] at hC
        simp only at hsg h0 hsc hC
        have p1 : ((S2 : Int) == 0) = false := by simp; omega
        subst hsc
        clear hz hbr hd hb hbf hS hCe hP1 hp h0
        go_wp2_with (first
          | (go_at_call 40; (with_reducible refine hsg.mono ?_); clear hsg; rintro e w1 ⟨rfl, hb1⟩; have hR1 := own_below HR.out hb1; have HB1 := Lib.hid (HB.out.trans (hb1.mono HB.out.size)); have hw1 := HB1.out.size; clear hb1)
          | (at_builtin; refine wpList_append_own_at _ rfl (.tmp 27) (.tmp 32) 64 rfl w.heap.size 67 i8 _ 4 32 Tryd.underlying64 hi8 hy0 hy1 hy2 rfl (by decide) _ k C rfl (hR1.alloc _) ⟨w1.heap.size, 0, none⟩ 1 1 [.int .i64 (p : Int), .int .i64 (S2 : Int), .int .i64 (S1 : Int), .bool false] rfl rfl (cell_four_new _ _ _ _ _ _) (by simp [Value.oneCell']) ?_ ?_ ?_ ?_; (unfold maxLen; omega); omega; (simp; omega); intro v3 w3 hown3 hg3 _ hat3))
        have HR3 := Lib.hid hown3
        have HB3 := Lib.hid (HB1.out.trans (((Below.refl _ w1).alloc (Nat.le_refl _) (.cells #[.int .i64 (p : Int), .int .i64 (S2 : Int), .int .i64 (S1 : Int), .bool false] 67)).mono HB1.out.size |>.trans ((But.grown hg3).to_below (n := w.heap.size) (by simp; omega) (fun b e => (hR1.lt _ e).1))))
        clear hown3 hg3 hat3
        refine ⟨⟨k + 1, v3, hk1, rfl, by rw [HP1.out]; simp, Lib.hid (by rw [hC.out]; exact HR3.out), HB3⟩, ?_⟩
        simp [intOf]
        omega
    · have hke : k = cntS s := by
        by_cases h : k < cntS s
        · exact absurd (cntS_lt h) hlt
        · omega
      have hend : posK s k = s.size := by have := posK_le s k; omega
      rw [hend]
      obtain ⟨A, c, rfl⟩ : ∃ A c, u = .slice A k c := by
        rcases HR.out.2 with ⟨rfl, rfl⟩ | ⟨g, cap, cur, rfl, _⟩
        · exact ⟨none, 0, rfl⟩
        · exact ⟨_, _, rfl⟩
      have HKE := Lib.hid hke
      clear hke hend hlt
      go_wp2
      go_ret
      exact ⟨A, c, by rw [← HKE.out]; rfl, by rw [← HKE.out]; exact HR.out, HB.out⟩
end Go.Proofs
