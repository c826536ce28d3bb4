/-
  slots: what Own's iterator promises: a place's slots, rising. Conditions: as the theorem names them.
-/
import Derived.LoopIn
import Derived.OwnWalkIn
import Derived.TacticsInMore
import Derived.Test.YtdiidiaipfkmlaaStQ
import Derived.Test.YtdiidiaipfkmlaaSlH
namespace Go.Proofs
open Go Go.RowKit Sm Go.Lib
attribute [local go_sem] Oper.semAt_some
def Sm.MayD (X : Nat → Prop) (N : Nat) : Nat → Prop := fun b => X b ∨ N ≤ b
/-- the k-th of a place's slots -/
def Sm.atV (c p f : Int) (k : Nat) : Int := (ahV c p f + k) * c + p
def Sm.HOw (c p f m : Int) (_L k : Nat) (args : Array Value) (_W : World) : Prop := (k : Int) < m ∧ args = #[.int .i64 (atV c p f k)]
def Sm.rowD : Array Value → Nat → Prop := fun _ _ => False
structure Sm.OwI (X : Nat → Prop) (J : Nat → World → Prop) (w wr : World) (L k : Nat) : Prop where
  j : J k wr
  sz : L ≤ wr.heap.size
  keep : But (MayD X w.heap.size) w wr
theorem Sm.OwnAt.keep2 {X : Nat → Prop} {w w' : World} {bm bc bp bf : Nat} {m c p f : Int} (h : OwnAt w bm bc bp bf m c p f) (hX : ∀ b, X b → b ≠ bm ∧ b ≠ bc ∧ b ≠ bp ∧ b ≠ bf) (hb : But (MayD X w.heap.size) w w') : OwnAt w' bm bc bp bf m c p f := by
  have hk : ∀ (b : Nat) (v : Value), b < w.heap.size → ¬ X b → w.cell? ⟨b, 0, none⟩ = some v → w'.cell? ⟨b, 0, none⟩ = some v := fun b v hl hn hc => (hb.cell (p := ⟨b, 0, none⟩) hl (fun e => by
    rcases e with e | e
    · exact hn e
    · exact absurd hl (Nat.not_lt.2 e))).trans hc
  have hz := hb.size
  exact ⟨⟨Nat.lt_of_lt_of_le h.lt.1 hz, Nat.lt_of_lt_of_le h.lt.2.1 hz, Nat.lt_of_lt_of_le h.lt.2.2.1 hz, Nat.lt_of_lt_of_le h.lt.2.2.2 hz⟩,
    hk _ _ h.lt.1 (fun e => (hX _ e).1 rfl) h.cm, hk _ _ h.lt.2.1 (fun e => (hX _ e).2.1 rfl) h.cc, hk _ _ h.lt.2.2.1 (fun e => (hX _ e).2.2.1 rfl) h.cp, hk _ _ h.lt.2.2.2 (fun e => (hX _ e).2.2.2 rfl) h.cf⟩
/-- what the slots that are gone over lie in -/
structure Sm.OwC (c p f m : Int) : Prop where
  ch : chB c = true
  p0 : 0 ≤ p
  p1 : p < c
  f0 : 0 ≤ f
  f1 : f ≤ 4096
  m1 : ahV c p f + m ≤ 4096
set_option maxRecDepth 100000 in
set_option maxHeartbeats 4000000 in
theorem Sm.own_seq {bm bc bp bf : Nat} {m c p f : Int} (w : World) (h : OwnAt w bm bc bp bf m c p f) (hC : 0 < m → OwC c p f m) (X : Nat → Prop) (hX : ∀ b, X b → b ≠ bm ∧ b ≠ bc ∧ b ≠ bp ∧ b ≠ bf) (hm : m ≤ 4096) :
    SeqX Try.prog 44 #[.pointer (some ⟨bm, 0, none⟩), .pointer (some ⟨bc, 0, none⟩), .pointer (some ⟨bp, 0, none⟩), .pointer (some ⟨bf, 0, none⟩)] X (HOw c p f m) rowD (fun _ => True) (fun k => k = m.toNat) (fun k => 1 ≤ k ∧ k ≤ m.toNat) w := by
  intro L0 J Jx W hW hJ hJx hY hJ0
  have hOW : ∀ W', But (MayD X w.heap.size) w W' → OwnAt W' bm bc bp bf m c p f := fun W' hb => h.keep2 hX hb
  have hbW : But (MayD X w.heap.size) w W := (But.of_below hW).mono (fun b _ e => .inr e)
  have hWz := hW.size
  have c1 := (hOW W hbW).cm
  have HOW := Lib.hid hOW
  have HC := Lib.hid hC
  have HE0 : Hid (OwI X J w W W.heap.size 0) := Lib.hid ⟨hJ0, Nat.le_refl _, hbW⟩
  obtain ⟨L, hL⟩ : ∃ L, W.heap.size = L := ⟨_, rfl⟩
  have hwL : w.heap.size ≤ L := by rw [← hL]; exact hWz
  show Calls Try.prog 44 #[.func (.yield L0) #[] #[], .pointer (some ⟨bm, 0, none⟩), .pointer (some ⟨bc, 0, none⟩), .pointer (some ⟨bp, 0, none⟩), .pointer (some ⟨bf, 0, none⟩)] W _
  rw [hL] at hJ hJx hY HE0
  have HL := Lib.hid hL
  clear hJ0 hOW hbW h hC hL hWz hW
  go_enter Try.func44, Try.ntmps44
  go_wp2
  go_loopw [8] (fun v8 wr => ∃ k : Nat, (k = 0 ∨ (k : Int) ≤ m) ∧ v8 = .int .i64 (k : Int) ∧ Hid (OwI X J w wr L k)) (fun v8 _ => m.toNat - (RowKit.intOf v8).toNat)
  case atStart => exact ⟨0, .inl rfl, rfl, HE0⟩
  case round =>
    obtain ⟨wo, rfl⟩ : ∃ wo : World, wo = wr := ⟨_, rfl⟩
    obtain ⟨k, hk, rfl, HE⟩ := hrel
    clear HE0 c1
    by_cases hlt : (k : Int) < m
    · obtain ⟨hc, hp0, hp1, hf0, hf1, hm1⟩ := HC.out (by omega)
      obtain ⟨_, hcm, hcc, hcp, hcf⟩ := HOW.out wo HE.out.keep
      have han := ahV_nn hc hp0 hp1 hf0 hf1
      have hah : ∀ W', Calls Try.prog 43 #[.int .i64 c, .int .i64 p, .int .i64 f] W' fun e w' => e = .returned (.int .i64 (ahV c p f)) ∧ w' = W' := fun W' => (ahead_any c p f W' hc hp0 hp1 hf0 hf1).mono fun e w' ⟨h1, h2⟩ => ⟨h1, h2.symm⟩
      have hcb : 0 ≤ c ∧ c ≤ 9 := by rcases chB_iff.1 hc with e | e | e | e <;> omega
      have hat : slV c p (ahV c p f + k) = atV c p f k := slV_eq (by omega) (by omega) hcb.1 hcb.2 hp0 hp1
      have hso : ∀ W', Calls Try.prog 36 #[.int .i64 c, .int .i64 p, .int .i64 (ahV c p f + k)] W' fun e w' => e = .returned (.int .i64 (atV c p f k)) ∧ w' = W' := fun W' => by
        rw [← hat]
        exact (slotOf_any c p (ahV c p f + k) W').mono fun e w' ⟨h1, h2⟩ => ⟨h1, h2.symm⟩
      have hy0 : ∀ W', Below wo.heap.size wo W' → YieldAt Fence.wide 1 Try.prog L0 #[.int .i64 (atV c p f k)] W' fun e W'' =>
          (e = .returned (.bool true) ∧ True ∧ J (k + 1) W'' ∧ But (RoundMay X w.heap.size L rowD #[.int .i64 (atV c p f k)]) W' W'') ∨ (e = .returned (.bool false) ∧ Jx (k + 1) W'' ∧ But (RoundMay X w.heap.size L rowD #[.int .i64 (atV c p f k)]) W' W'') := fun W' hb =>
        hY k #[.int .i64 (atV c p f k)] W' (hJ k _ _ HE.out.j (hb.mono HE.out.sz)) ⟨hlt, rfl⟩
      obtain ⟨av, hav⟩ : ∃ av, ahV c p f = av := ⟨_, rfl⟩
      obtain ⟨tv, htv⟩ : ∃ tv, atV c p f k = tv := ⟨_, rfl⟩
      rw [hav] at hah hso han hm1
      rw [htv] at hso hy0
      have HAH := Lib.hid hah
      have HSO := Lib.hid hso
      have HY := Lib.hid hy0
      clear hah hso hy0 hav htv hat
      go_upto_region 3 with fail
      refine (wpIn_wide (n := 3)).1 ?_
      refine wpIn_region_quiet_tail 10 (by kernel_rfl) (by kernel_rfl) convQ_wide ?_
      simp only [List.take_succ_cons, List.take_zero, List.drop_succ_cons, List.drop_zero]
      repeat (go_big_quiet_step (first | (go_at_call 43; with_reducible exact Calls.quiet_of_same (HAH.out _)) | (go_at_call 36; with_reducible exact Calls.quiet_of_same (HSO.out _))))
      refine wpQuiet_nil ?_
      rintro w' ⟨nd, rfl⟩
      have hbd : Below wo.heap.size wo (wo.drewN nd) := ⟨rfl, rfl, rfl, Nat.le_refl _, fun _ _ => rfl⟩
      obtain ⟨fn, tmps, assign, body, hy, hR⟩ := HY.out _ hbd
      have HK : Hid (L ≤ (wo.drewN nd).heap.size ∧ But (MayD X w.heap.size) w (wo.drewN nd)) := Lib.hid ⟨HE.out.sz, HE.out.keep.trans (But.of_below hbd) (fun b _ e => by
        have := HE.out.keep.size
        exact .inr (Nat.le_trans this e))⟩
      obtain ⟨wz, hwz⟩ : ∃ wz, wo.drewN nd = wz := ⟨_, rfl⟩
      rw [hwz] at hy hR HK ⊢
      clear hwz hbd HY HSO HAH hcm hcc hcp hcf
      gi_wp2
      refine (roundIn_any hR).mono ?_
      clear hR hy
      rintro e W3 (⟨rfl, _, hJ3, hbut⟩ | ⟨rfl, hJx3, _⟩)
      · have HE3 : Hid (OwI X J w W3 L (k + 1)) := Lib.hid ⟨hJ3, Nat.le_trans HK.out.1 hbut.size, HK.out.2.trans hbut (fun b _ e => by
          rcases e with e | e | e
          · exact .inl e
          · exact .inr e.1
          · exact e.elim)⟩
        clear hbut hJ3
        gi_wp2
        go_wp2_with fail
        go_roundw
        case rel => exact ⟨k + 1, by omega, by go_num, HE3⟩
        case measure => simp [RowKit.intOf]; omega
      · gi_wp2
        go_wp2_with fail
        refine bodyPost_ret (results_none rfl _ _ _) rfl ?_
        exact ⟨⟨_, rfl⟩, .inr ⟨k + 1, ⟨by omega, by omega⟩, hJx3⟩⟩
    · go_wp2_with fail
      go_end0
      have e : k = m.toNat := by omega
      exact ⟨⟨_, rfl⟩, .inl (e ▸ HE.out.j)⟩
end Go.Proofs
