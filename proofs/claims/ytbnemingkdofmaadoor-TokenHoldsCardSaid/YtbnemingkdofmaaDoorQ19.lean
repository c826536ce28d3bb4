/-
  The iterator over groups of bits, round by round. Conditions: what the theorems name.
  The walk of the law BlakeKeyed where the key and the parts are few enough: where there is no sum, and where there is one.
  The contract of a hash's Copy, where there is one; and the walk of the law BlakeCopies.
  Facts for the walk of the law BlakeWrites where there is a hash. No condition.
-/
import Derived.Outline
import Derived.BigQuiet
import Derived.Deep.CutRange
import Derived.TacticsInMore
import Derived.OwnWalkIn
import Derived.LoopNIn
import Derived.LoopIn
import Derived.Deep.QuietTactic
import Derived.Test.YtbnemingkdofmaaDoorQ17
import Derived.Test.YtbnemingkdofmaaDoorQ18
import Derived.Test.YtbnemingkdofmaaDoorQ16
namespace Go.Proofs
open Go.RowKit Sm
attribute [local go_sem] Oper.semAt_some
def Sm.MayG (X : Nat → Prop) (N : Nat) : Nat → Prop := fun b => X b ∨ N ≤ b
/-- what the iterator has captured -/
structure Sm.CapG (w : World) (X : Nat → Prop) (Bb Bw Bs : Nat) (A : Option Addr) (n c : Nat) (l : List (BitVec 8)) (wide size : Nat) : Prop where
  bb : w.cell? ⟨Bb, 0, none⟩ = some (.slice A n c)
  bw : w.cell? ⟨Bw, 0, none⟩ = some (.int .i64 (wide : Int))
  bs : w.cell? ⟨Bs, 0, none⟩ = some (.int .i64 (size : Int))
  far : ∀ b, X b → b < w.heap.size ∧ b ≠ Bb ∧ b ≠ Bw ∧ b ≠ Bs
  lb : Bb < w.heap.size
  lw : Bw < w.heap.size
  ls : Bs < w.heap.size
  rd : Rds w X A (l.map byteCell)
/-- with what group k is told -/
def Sm.HG (l : List (BitVec 8)) (wide size : Nat) (_L k : Nat) (args : Array Value) (_W : World) : Prop :=
  k < cntW wide size l.length ∧ args = #[.int .u8 (valW wide (nat8 l) (size * k) size : Int), .int .i64 (min size (wide * l.length - size * k) : Nat)]
def Sm.rowG : Array Value → Nat → Prop := fun _ _ => False
structure Sm.GrAt (X : Nat → Prop) (J : Nat → World → Prop) (w wr : World) (L k : Nat) : Prop where
  j : J k wr
  keep : But (MayG X w.heap.size) w wr
  far : L ≤ wr.heap.size
theorem Sm.CapG.cells {X : Nat → Prop} {w w' : World} {Bb Bw Bs : Nat} {A : Option Addr} {n c : Nat} {l : List (BitVec 8)} {wide size : Nat} (h : CapG w X Bb Bw Bs A n c l wide size) (hb : But (MayG X w.heap.size) w w') :
    w'.cell? ⟨Bb, 0, none⟩ = some (.slice A n c) ∧ w'.cell? ⟨Bw, 0, none⟩ = some (.int .i64 (wide : Int)) ∧ w'.cell? ⟨Bs, 0, none⟩ = some (.int .i64 (size : Int)) := by
  have h1 := h.lb
  have h2 := h.lw
  have h3 := h.ls
  refine ⟨(hb.cell (p := ⟨Bb, 0, none⟩) h1 ?_).trans h.bb, (hb.cell (p := ⟨Bw, 0, none⟩) h2 ?_).trans h.bw, (hb.cell (p := ⟨Bs, 0, none⟩) h3 ?_).trans h.bs⟩ <;> (rintro (e | e); have := h.far _ e; simp at this; simp at e; omega)
theorem Below.drewN (w : World) (n : Nat) : Below w.heap.size w (w.drewN n) := ⟨rfl, rfl, rfl, Nat.le_refl _, fun _ _ => rfl⟩
theorem Sm.GrAt.below {X : Nat → Prop} {J : Nat → World → Prop} {w wr w' : World} {L k : Nat} (h : GrAt X J w wr L k) (hb : Below wr.heap.size wr w') (hJ : LowJ L J) : GrAt X J w w' L k :=
  ⟨hJ k _ _ h.j (hb.mono h.far), h.keep.trans (But.of_all hb (MayG X w.heap.size)) (fun _ _ e => e), Nat.le_trans h.far hb.size⟩
theorem Sm.CapG.reads {X : Nat → Prop} {w w' : World} {Bb Bw Bs : Nat} {A : Option Addr} {n c : Nat} {l : List (BitVec 8)} {wide size : Nat} (h : CapG w X Bb Bw Bs A n c l wide size) (hb : But (MayG X w.heap.size) w w') : Rds w' X A (l.map byteCell) := fun h0 => by
  obtain ⟨b, off, rfl, hlt, hns, hc⟩ := h.rd h0
  exact ⟨b, off, rfl, Nat.lt_of_lt_of_le hlt hb.size, hns, fun j c hj => (hb.cell (p := ⟨b, off + j, none⟩) hlt (fun e => by
    rcases e with e | e
    · exact hns e
    · simp at e; omega)).trans (hc j c hj)⟩
theorem Sm.or_val (v wide : Nat) (x : BitVec 8) (hv : v < 256) (hw : wide ≤ 8) (hx : x.toNat < 2 ^ wide) : bits .or .u64 (IntKind.u64.wrap ((v : Int) * 2 ^ wide)) (ib x) = ((v * 2 ^ wide + x.toNat : Nat) : Int) := by
  have hp : 2 ^ wide ≤ 2 ^ 8 := Nat.pow_le_pow_right (by decide) hw
  have hor : 2 ^ wide * v ||| x.toNat = 2 ^ wide * v + x.toNat := (Nat.two_pow_add_eq_or_of_lt hx v).symm
  have hm : 2 ^ wide * v ≤ 2 ^ 8 * 255 := Nat.mul_le_mul hp (by omega)
  have e1 : ((v : Int) * 2 ^ wide) = ((2 ^ wide * v : Nat) : Int) := by rw [Nat.mul_comm]; simp
  rw [e1, Nat.mul_comm v]
  have hxl := x.isLt
  generalize 2 ^ wide * v = M at *
  have e2 : IntKind.u64.wrap ((M : Nat) : Int) = (M : Int) := by simp [IntKind.wrap, IntKind.signed, IntKind.bits]; omega
  rw [e2]
  show IntKind.u64.wrap ((BitVec.ofInt 64 (M : Int) ||| BitVec.ofInt 64 (ib x)).toNat : Int) = _
  have e3 : (BitVec.ofInt 64 (M : Int) ||| BitVec.ofInt 64 (ib x)).toNat = M + x.toNat := by
    unfold ib
    rw [BitVec.toNat_or, BitVec.ofInt_natCast, BitVec.ofInt_natCast, BitVec.toNat_ofNat, BitVec.toNat_ofNat, Nat.mod_eq_of_lt (by omega), Nat.mod_eq_of_lt (by omega), hor]
  rw [e3]
  simp [IntKind.wrap, IntKind.signed, IntKind.bits]
  omega
theorem Sm.and_low (v r : Nat) (hv : v < 2 ^ 16) (hr : r ≤ 16) : bits .and .u64 (v : Int) (IntKind.u64.wrap (IntKind.u64.wrap (2 ^ r) - 1)) = ((v % 2 ^ r : Nat) : Int) := by
  have hp : 2 ^ r ≤ 2 ^ 16 := Nat.pow_le_pow_right (by decide) hr
  have hp1 : 1 ≤ 2 ^ r := Nat.one_le_two_pow
  have hand : v &&& (2 ^ r - 1) = v % 2 ^ r := Nat.and_two_pow_sub_one_eq_mod v r
  have e1 : ((2 : Int) ^ r) = ((2 ^ r : Nat) : Int) := by simp
  rw [e1]
  have hlt : v % 2 ^ r < 2 ^ r := Nat.mod_lt _ hp1
  generalize 2 ^ r = M at *
  have e2 : IntKind.u64.wrap (IntKind.u64.wrap ((M : Nat) : Int) - 1) = ((M - 1 : Nat) : Int) := by simp [IntKind.wrap, IntKind.signed, IntKind.bits]; omega
  rw [e2]
  show IntKind.u64.wrap ((BitVec.ofInt 64 (v : Int) &&& BitVec.ofInt 64 ((M - 1 : Nat) : Int)).toNat : Int) = _
  have e3 : (BitVec.ofInt 64 (v : Int) &&& BitVec.ofInt 64 ((M - 1 : Nat) : Int)).toNat = v % M := by
    rw [BitVec.toNat_and, BitVec.ofInt_natCast, BitVec.ofInt_natCast, BitVec.toNat_ofNat, BitVec.toNat_ofNat, Nat.mod_eq_of_lt (by omega), Nat.mod_eq_of_lt (by omega), hand]
  rw [e3]
  simp only [IntKind.wrap, IntKind.signed, IntKind.bits]
  simp
  omega
theorem Sm.shl_low (v d y : Nat) (h : v * 2 ^ d = y) (hy : y < 256) : IntKind.u8.wrap (IntKind.u64.wrap ((v : Int) * 2 ^ d)) = (y : Int) := by
  have e1 : ((v : Int) * 2 ^ d) = ((v * 2 ^ d : Nat) : Int) := by simp
  rw [e1, h]
  simp [IntKind.wrap, IntKind.signed, IntKind.bits]
  omega
set_option maxRecDepth 100000 in
set_option maxHeartbeats 4000000 in
theorem Sm.groups_seqP (Bb Bw Bs : Nat) (A : Option Addr) (n c : Nat) (l : List (BitVec 8)) (wide size : Nat) (w : World) (X : Nat → Prop) (hcap : CapG w X Bb Bw Bs A n c l wide size) (hl : l.length = n) (hn : n ≤ 1000000)
    (hw1 : 1 ≤ wide) (hw8 : wide ≤ 8) (hs1 : 1 ≤ size) (hs8 : size ≤ 8) (hx : ∀ k, (nat8 l).getD k 0 < 2 ^ wide) :
    SeqXP Tryd.prog 34 #[.pointer (some ⟨Bb, 0, none⟩), .pointer (some ⟨Bw, 0, none⟩), .pointer (some ⟨Bs, 0, none⟩)] X (HG l wide size) rowG (fun _ => True) (fun k => k = cntW wide size n) (fun _ => True) w := by
  intro L0 J Jx Jp W hW hJ hJx hY hJ0
  obtain ⟨L, hL⟩ : ∃ L, W.heap.size = L := ⟨_, rfl⟩
  rw [hL] at hJ hJx hY
  show Calls Tryd.prog 34 #[.func (.yield L0) #[] #[], .pointer (some ⟨Bb, 0, none⟩), .pointer (some ⟨Bw, 0, none⟩), .pointer (some ⟨Bs, 0, none⟩)] W _
  have hR0 : GrAt X J w W L 0 := ⟨hJ0, (But.of_below hW).mono (fun b _ e => .inr e), by omega⟩
  have hc0 := hcap.cells hR0.keep
  have HC := Lib.hid hcap
  have HL := Lib.hid hL
  have HLN := Lib.hid hl
  have HR0 := Lib.hid hR0
  have HX := Lib.hid hx
  clear hcap hL hR0 hJ0 hW hl hx
  obtain ⟨c1, c2, c3⟩ := hc0
  go_enter Tryd.func34, Tryd.ntmps34
  go_wp2_with fail
  clear c1 c2 c3
  go_loopw [5, 6, 11] (fun s5 s6 s11 wr => ∃ i j r : Nat, i ≤ n ∧ s11 = .int .i64 (i : Int) ∧ r < size ∧ Hid (size * j + r = wide * i) ∧ s6 = .int .i64 (r : Int) ∧ s5 = .int .u64 (valW wide (nat8 l) (size * j) r : Nat) ∧ Hid (GrAt X J w wr L j)) (fun _ _ s11 _ => n - (intOf s11).toNat)
  case atStart => exact ⟨0, 0, 0, by omega, rfl, by omega, Lib.hid (by simp), rfl, rfl, HR0⟩
  case round =>
    obtain ⟨wo, rfl⟩ : ∃ wo : World, wo = wr := ⟨_, rfl⟩
    obtain ⟨i, j, r, hi, rfl, hr, HIJ, rfl, rfl, HR⟩ := hrel
    clear HR0
    obtain ⟨c1, c2, c3⟩ := HC.out.cells HR.out.keep
    by_cases hlt : i < n
    · have hv := valW_lt wide (nat8 l) (size * j) r
      obtain ⟨v, hv0⟩ : ∃ v, valW wide (nat8 l) (size * j) r = v := ⟨_, rfl⟩
      rw [hv0] at hv ⊢
      have hRD := HC.out.reads HR.out.keep
      obtain ⟨pb, po, rfl, hpb, _, hpc⟩ := hRD (by simp [HLN.out]; omega)
      obtain ⟨x, hxe⟩ : ∃ x, l[i]? = some x := ⟨l[i]'(by rw [HLN.out]; omega), List.getElem?_eq_getElem _⟩
      have hcx : wo.cell? ⟨pb, po + i, none⟩ = some (.int .u8 (ib x)) := hpc i (byteCell x) (by rw [List.getElem?_map, hxe]; rfl)
      have hxlo := ib_lo x
      have hxhi := ib_hi x
      have HXE := Lib.hid hxe
      clear hRD hpc hxe
      go_wp2_with fail
      go_quiet (fail)
      go_wp2_with fail
      have hx2 := HX.out i
      have hxi : (nat8 l).getD i 0 = x.toNat := by
        unfold nat8
        rw [List.getD_eq_getElem?_getD, List.getElem?_map, HXE.out]
        rfl
      have hp8 : 2 ^ r ≤ 2 ^ 8 := Nat.pow_le_pow_right (by decide) (by omega)
      have hor := or_val v wide x (by omega) hw8 (by rw [← hxi]; exact hx2)
      have hval : v * 2 ^ wide + x.toNat = valW wide (nat8 l) (size * j) (r + wide) := by
        rw [valW_add, HIJ.out, valW_item (by omega) hx2, hv0, hxi]
      rw [hval] at hor
      rw [hor]
      have hR1 : GrAt X J w (wo.drewN nq) L j := HR.out.below (Below.drewN _ nq) hJ
      have hrw : ((r : Int) + (wide : Int)) = ((r + wide : Nat) : Int) := by simp
      rw [hrw]
      have HR1 := Lib.hid hR1
      have hij : size * j + (r + wide) = wide * (i + 1) := by have := HIJ.out; rw [Nat.mul_succ]; omega
      have HIJ1 := Lib.hid hij
      have hrb : r + wide < 16 := by omega
      clear hv hv0 hx2 hxi hp8 hor hval hR1 hrw hij c1 c2 c3 hcx HIJ HR hxlo hxhi
      obtain ⟨w1, hw1e⟩ : ∃ w1, wo.drewN nq = w1 := ⟨_, rfl⟩
      rw [hw1e] at HR1 ⊢
      obtain ⟨r1, hr1⟩ : ∃ r1, r + wide = r1 := ⟨_, rfl⟩
      rw [hr1] at HIJ1 hrb ⊢
      clear hw1e hr1 hr
      go_loopw [5, 6] (fun s5 s6 wr => ∃ j r : Nat, r < 16 ∧ Hid (size * j + r = wide * (i + 1)) ∧ s6 = .int .i64 (r : Int) ∧ s5 = .int .u64 (valW wide (nat8 l) (size * j) r : Nat) ∧ Hid (GrAt X J w wr L j)) (fun _ s6 _ => (intOf s6).toNat)
      case atStart => exact ⟨j, r1, hrb, HIJ1, rfl, rfl, HR1⟩
      case round =>
        obtain ⟨wi, rfl⟩ : ∃ wi : World, wi = wr := ⟨_, rfl⟩
        clear HR1 HIJ1 hrb
        obtain ⟨j, r, hr, HIJ, rfl, rfl, HR⟩ := hrel
        obtain ⟨c1, c2, c3⟩ := HC.out.cells HR.out.keep
        obtain ⟨v, hv0⟩ : ∃ v, valW wide (nat8 l) (size * j) r = v := ⟨_, rfl⟩
        rw [hv0]
        by_cases hsz : size ≤ r
        · obtain ⟨r2, rfl⟩ : ∃ r2, r = r2 + size := ⟨r - size, by omega⟩
          have hle : size * j + (r2 + size) ≤ wide * n := by
            have h1 := HIJ.out
            have h2 : wide * (i + 1) ≤ wide * n := Nat.mul_le_mul (Nat.le_refl _) (by omega)
            omega
          have hdiv : v / 2 ^ r2 = valW wide (nat8 l) (size * j) size := by
            rw [← hv0, Nat.add_comm r2 size, valW_div]
          have hmod : v % 2 ^ r2 = valW wide (nat8 l) (size * (j + 1)) r2 := by
            rw [← hv0, Nat.add_comm r2 size, valW_mod, Nat.mul_succ]
          have hvl := valW_lt wide (nat8 l) (size * j) size
          have hp8 : 2 ^ size ≤ 2 ^ 8 := Nat.pow_le_pow_right (by decide) hs8
          have hH : HG l wide size L j #[.int .u8 (valW wide (nat8 l) (size * j) size : Int), .int .i64 (size : Int)] wi.drew := by
            refine ⟨?_, ?_⟩
            · unfold cntW
              rw [HLN.out]
              exact (Nat.le_div_iff_mul_le hs1).2 (by rw [Nat.succ_mul, Nat.mul_comm]; omega)
            · rw [HLN.out, Nat.min_eq_left (by omega)]
          obtain ⟨y, hy0⟩ : ∃ y, valW wide (nat8 l) (size * j) size = y := ⟨_, rfl⟩
          rw [hy0] at hdiv hvl hH
          have h34 : IntKind.u8.wrap ((v : Int) / 2 ^ r2) = (y : Int) := by
            have e : ((v : Int) / 2 ^ r2) = ((v / 2 ^ r2 : Nat) : Int) := by simp
            rw [e, hdiv]
            simp [IntKind.wrap, IntKind.signed, IntKind.bits]
            omega
          have hjd : J j wi.drew := hJ j _ _ HR.out.j ((Below.refl _ wi).drew.mono HR.out.far)
          obtain ⟨fn, tmps, assign, body, hy, hR⟩ := hY j _ wi.drew hjd hH
          have HIJ2 := Lib.hid hmod
          clear hdiv hmod hvl hp8 hH hjd hle
          go_upto_region 7 with fail
          refine (wpIn_wide (n := 3)).1 ?_
          refine wpIn_region_still_tail 6 (by kernel_rfl) (by kernel_rfl) ?_
          simp only [List.take_succ_cons, List.take_zero, List.drop_succ_cons, List.drop_zero]
          repeat still_step
          refine wpStill_nil ?_
          gi_wp2
          refine (roundIn_any hR).mono ?_
          clear hR hy h34
          rintro e W3 (⟨rfl, _, hJ3, hbut⟩ | ⟨rfl, hJx3, _⟩ | ⟨ch, rfl, hp⟩)
          · have hbm : But (MayG X w.heap.size) w W3 := (HR.out.keep.drew).trans hbut (fun b _ e => by
              rcases e with e | e | e
              · exact .inl e
              · exact .inr e.1
              · exact e.elim)
            have hf3 : L ≤ W3.heap.size := by have h1 : wi.drew.heap.size ≤ W3.heap.size := hbut.size; have h2 : L ≤ wi.heap.size := HR.out.far; exact Nat.le_trans h2 h1
            have HK3 : Hid (GrAt X J w W3 L (j + 1)) := Lib.hid ⟨hJ3, hbm, hf3⟩
            obtain ⟨d1, d2, d3⟩ := HC.out.cells hbm
            clear hbut hbm hJ3
            gi_wp2
            go_wp2_with fail
            have hvb : v < 2 ^ 16 := by
              have h1 := valW_lt wide (nat8 l) (size * j) (r2 + size)
              have h2 : 2 ^ (r2 + size) ≤ 2 ^ 16 := Nat.pow_le_pow_right (by decide) (by omega)
              rw [hv0] at h1
              omega
            refine ⟨⟨j + 1, r2, by omega, Lib.hid (by have := HIJ.out; rw [Nat.mul_succ]; omega), rfl, ?_, HK3⟩, by simp [intOf]; omega⟩
            rw [and_low v r2 hvb (by omega), HIJ2.out]
          · gi_wp2
            go_wp2_with fail
            refine bodyPost_ret (results_none rfl _ _ _) rfl ?_
            exact .inl ⟨⟨_, rfl⟩, .inr ⟨j + 1, trivial, hJx3⟩⟩
          · gi_wp2
            exact ⟨rfl, .inr ⟨ch, rfl, hp⟩⟩
        · go_wp2_with fail
          refine ⟨⟨i + 1, j, r, by omega, by go_num, by omega, HIJ, rfl, by rw [hv0], HR⟩, by simp [intOf]; omega⟩
    · obtain rfl : i = n := by omega
      have hcnt : r = 0 → j = cntW wide size i := fun h0 => by
        have h1 := HIJ.out
        unfold cntW
        subst h0
        rw [← h1, Nat.add_zero, Nat.mul_add_div hs1, Nat.div_eq_of_lt (by omega), Nat.add_zero]
      have hcnt1 : 0 < r → j + 1 = cntW wide size i := fun h0 => by
        have h1 := HIJ.out
        unfold cntW
        rw [← h1, Nat.add_assoc, Nat.mul_add_div hs1]
        congr 1
        exact (Nat.div_eq_of_lt_le (by omega) (by omega)).symm
      by_cases h0 : r = 0
      · have HS := Lib.hid (hcnt h0)
        subst h0
        clear hcnt hcnt1
        go_wp2_with fail
        go_end0
        exact .inl ⟨⟨_, rfl⟩, .inl ⟨j, HS.out, HR.out.j⟩⟩
      · have hr0 : 0 < r := by omega
        have HS := Lib.hid (hcnt1 hr0)
        obtain ⟨v, hv0⟩ : ∃ v, valW wide (nat8 l) (size * j) r = v := ⟨_, rfl⟩
        obtain ⟨d, hd⟩ : ∃ d, size = r + d := ⟨size - r, by omega⟩
        have hval : v * 2 ^ d = valW wide (nat8 l) (size * j) size := by
          have h1 := HIJ.out
          rw [hd, valW_add, ← hd, hv0, valW_beyond (xs := nat8 l) (a := size * j + r) (by omega) (by rw [nat8_length, HLN.out, h1]; exact Nat.le_refl _), Nat.add_zero]
        have hvl := valW_lt wide (nat8 l) (size * j) size
        have hp8 : 2 ^ size ≤ 2 ^ 8 := Nat.pow_le_pow_right (by decide) hs8
        have hH : HG l wide size L j #[.int .u8 (valW wide (nat8 l) (size * j) size : Int), .int .i64 (r : Int)] wo := by
          have h1 := HIJ.out
          refine ⟨?_, ?_⟩
          · rw [HLN.out]; have := HS.out; omega
          · rw [HLN.out, Nat.min_eq_right (by omega)]
            congr 4
            omega
        obtain ⟨y, hy0⟩ : ∃ y, valW wide (nat8 l) (size * j) size = y := ⟨_, rfl⟩
        rw [hy0] at hval hvl hH
        have h34 := shl_low v d y hval (by omega)
        have hsub : (size : Int) - (r : Int) = (d : Int) := by omega
        obtain ⟨fn, tmps, assign, body, hy, hR⟩ := hY j _ wo HR.out.j hH
        rw [hv0]
        clear hcnt hcnt1 hval hvl hp8 hH hv0 hy0 hd h0
        go_upto_region 11 with fail
        refine (wpIn_wide (n := 3)).1 ?_
        gi_wp2
        refine (roundIn_any hR).mono ?_
        clear hR hy h34
        rintro e W3 (⟨rfl, _, hJ3, hbut⟩ | ⟨rfl, hJx3, _⟩ | ⟨ch, rfl, hp⟩)
        · gi_wp2
          go_end0
          exact .inl ⟨⟨_, rfl⟩, .inl ⟨j + 1, HS.out, hJ3⟩⟩
        · gi_wp2
          go_end0
          exact .inl ⟨⟨_, rfl⟩, .inr ⟨j + 1, trivial, hJx3⟩⟩
        · gi_wp2
          exact ⟨rfl, .inr ⟨ch, rfl, hp⟩⟩
theorem Sm.groups_seq (Bb Bw Bs : Nat) (A : Option Addr) (n c : Nat) (l : List (BitVec 8)) (wide size : Nat) (w : World) (X : Nat → Prop) (hcap : CapG w X Bb Bw Bs A n c l wide size) (hl : l.length = n) (hn : n ≤ 1000000)
    (hw1 : 1 ≤ wide) (hw8 : wide ≤ 8) (hs1 : 1 ≤ size) (hs8 : size ≤ 8) (hx : ∀ k, (nat8 l).getD k 0 < 2 ^ wide) :
    SeqX Tryd.prog 34 #[.pointer (some ⟨Bb, 0, none⟩), .pointer (some ⟨Bw, 0, none⟩), .pointer (some ⟨Bs, 0, none⟩)] X (HG l wide size) rowG (fun _ => True) (fun k => k = cntW wide size n) (fun _ => True) w :=
  (groups_seqP Bb Bw Bs A n c l wide size w X hcap hl hn hw1 hw8 hs1 hs8 hx).plain
end Go.Proofs
namespace Go.Proofs
open Go.RowKit Sm
theorem Sm.slice33_all (b : Nat) (w : World) : (Instr.sliceAt 0x62 (.pointer (some ⟨b, 0, none⟩)) none none none).run Tryd.prog w = .ok (.slice (some ⟨b, 0, none⟩) 32 32) w := by
  have hu : Tryd.prog.underlying 0x62 = some (.array (Tryd.prog.arrayLen 0x62) (Tryd.prog.elem 0x62)) := by kernel_rfl
  have ha : Tryd.prog.arrayLen 0x62 = 32 := by kernel_rfl
  have he : Tryd.prog.elem 0x62 = 5 := by kernel_rfl
  have hs : ∀ w, (sizeOf 5).run Tryd.prog w = .ok 1 w := fun _ => by kernel_rfl
  rw [run_sliceAt_array_all w 0x62 ⟨b, 0, none⟩ hu, he, hs]
  simp only [Result.andThen_ok, slicedAt, ha, Nat.zero_mul]
  rw [if_neg (by omega), Addr.add_mid, Nat.add_zero]
theorem Sm.copy_row {w : World} {base n : Nat} {v : Value} {l : List (BitVec 8)} (h : w.ownsRow base 5 1 v (0 + n + 1) ([] ++ l.map byteCell ++ [77#8].map byteCell)) (hl : l.length = n) : ∃ g cap, v = .slice (some ⟨g, 0, none⟩) (n + 1) cap ∧ base ≤ g ∧ n + 1 ≤ cap ∧ w.ownsRow base 5 1 (.slice (some ⟨g, 0, none⟩) (n + 1) cap) (n + 1) ((l ++ [77#8]).map byteCell) := by
  have e : [] ++ l.map byteCell ++ [77#8].map byteCell = (l ++ [77#8]).map byteCell := by simp
  rw [e, Nat.zero_add] at h
  obtain ⟨g, cap, rfl, hb, _⟩ := h.form (by omega)
  refine ⟨g, cap, rfl, hb, ?_, h⟩
  rcases h.2 with ⟨h1, _⟩ | ⟨g', cap', cur, h1, _, _, hnc, _⟩
  · cases h1
  · cases h1; exact hnc
theorem Sm.row_reads {w : World} {base g n cap : Nat} {l : List (BitVec 8)} (h : w.ownsRow base 5 1 (.slice (some ⟨g, 0, none⟩) (n + 1) cap) (n + 1) ((l ++ [77#8]).map byteCell)) (hl : l.length = n) : Rd w w.heap.size (some ⟨g, 0, none⟩) l ∧ w.cell? ⟨g, n, none⟩ = some (.int .u8 77) := by
  have hr := Rd.of_own h (Nat.le_refl _)
  refine ⟨?_, ?_⟩
  · have := hr.take n
    rwa [List.take_append_of_le_length (by omega), List.take_of_length_le (by omega)] at this
  · obtain ⟨b, off, e, _, hc⟩ := hr (by simp)
    cases e
    have := hc n 77#8 (by rw [List.getElem?_append_right (by omega), hl]; simp)
    rw [Nat.zero_add] at this
    exact this
theorem Sm.cut_h0 (g n c hi : Nat) (hc : hi ≤ c) (w : World) : (Instr.sliceAt 0x16 (.slice (some ⟨g, 0, none⟩) n c) none (some (.int .i64 (hi : Int))) none).run Tryd.prog w = .ok (.slice (some ⟨g, 0, none⟩) hi c) w := by
  rw [cut_h (some ⟨g, 0, none⟩) n c hi hc w]
  have : cutA (some ⟨g, 0, none⟩) 0 c = some ⟨g, 0, none⟩ := by
    unfold cutA
    split
    · rfl
    · rw [Option.map_some, Addr.add_mid]
  rw [this]
theorem Sm.rd77 (w : World) : Rd (w.alloc (.cells #[.int .u8 77] 5)) (w.heap.size + 1) (some ⟨w.heap.size, 0, none⟩) [77#8] := fun _ => ⟨w.heap.size, 0, rfl, by omega, fun j c hj => by
  rw [World.cell?_alloc_mark]
  rcases j with _ | j <;> simp at hj <;> subst hj <;> rfl⟩
theorem Sm.conv_rd {w : World} {A : Option Addr} {n c : Nat} {l : List (BitVec 8)} (hl : l.length = n) (hr : Rd w w.heap.size A l) : (convert 0x16 9 (.slice A n c)).run Tryd.prog w = .ok (.string (strB l)) w :=
  run_str (P := Tryd.prog) w 0x16 5 Tryd.underlying22 Tryd.underlying5 l n c w.heap.size A hl hr 9 Tryd.underlying9
end Go.Proofs
namespace Go.Proofs
open Go.RowKit Sm
theorem Sm.hsc_length {ws : List (BitVec 32)} {p : Nat} {bl : List (BitVec 8)} {sz : Nat} {a b : Value} (h1 : ws.length = 8) (h2 : bl.length = 64) : (stc ws p bl sz ++ [a, b]).toArray.size = 76 := by
  rw [List.size_toArray, List.length_append, stc_length, h1, h2]; rfl
set_option maxRecDepth 100000 in
set_option maxHeartbeats 2000000 in
theorem Sm.Copy_any (g : Nat) (s : HS) (size : Int) (ahead : Nat) (w : World) (h : HsAt w g s size ahead) (h1 : 0 < size) :
    Calls Tryd.prog 87 #[.pointer (some ⟨g, 0, none⟩)] w fun e w' => ∃ g2, e = .returned (.pointer (some ⟨g2, 0, none⟩)) ∧ w.heap.size ≤ g2 ∧ HsAt w' g2 s size ahead ∧ Below w.heap.size w w' := by
  have hth := there_yes w g s size ahead h h1
  have hz54 := (zero_of_info z54).1
  have hzl := zz54_length
  have hi : (Tryd.prog.info? 0x90).map (·.size) = some (stc s.ws s.p (pad s.cur) s.cur.length ++ [Value.int .i64 size, Value.int .i64 (ahead : Int)]).toArray.size := by
    rw [hsc_length h.wlen h.blen]; kernel_rfl
  have hs : zz54.toArray.size = (stc s.ws s.p (pad s.cur) s.cur.length ++ [Value.int .i64 size, Value.int .i64 (ahead : Int)]).toArray.size := by
    rw [hsc_length h.wlen h.blen, List.size_toArray, hzl]
  have ho : (stc s.ws s.p (pad s.cur) s.cur.length ++ [Value.int .i64 size, Value.int .i64 (ahead : Int)]).toArray.all (·.oneCell') = true := by
    refine all_oneCell_toArray fun v hv => ?_
    rcases List.mem_append.1 hv with hv | hv
    · exact stc_one _ _ _ _ v hv
    · simp only [List.mem_cons, List.not_mem_nil, or_false] at hv
      rcases hv with rfl | rfl <;> rfl
  have hbk : Blk w g 0x90 (stc s.ws s.p (pad s.cur) s.cur.length ++ [Value.int .i64 size, Value.int .i64 (ahead : Int)]).toArray := h.blk
  have hwl := h.wlen
  have hbl := h.blen
  obtain ⟨X, hX⟩ : ∃ X, (stc s.ws s.p (pad s.cur) s.cur.length ++ [Value.int .i64 size, Value.int .i64 (ahead : Int)]).toArray = X := ⟨_, rfl⟩
  rw [hX] at hi hs ho hbk
  have HX := Lib.hid hX
  have HI := Lib.hid hi
  have HS := Lib.hid hs
  have HO := Lib.hid ho
  have HBK := Lib.hid hbk
  have HL := Lib.hid (And.intro hwl hbl)
  clear hX hi hs ho hbk hwl hbl h h1 hzl
  go_enter Tryd.func87, Tryd.ntmps87
  go_wp2_with (first
    | (go_at_call 88; (with_reducible refine hth.mono ?_); clear hth; rintro e w' ⟨rfl, rfl⟩)
    | (refine wpList_load_row rfl 0x90 _ rfl g rfl 0x90 X (0, 0) _ HBK.out Tryd.underlying144 rfl HI.out ?_)
    | (refine wpList_store_row rfl 0x90 _ _ rfl w.heap.size X rfl rfl 0x90 zz54.toArray (World.alloc_heap_new w _) HI.out HS.out HO.out ?_))
  go_ret
  refine ⟨_, rfl, Nat.le_refl _, ⟨?_, HL.out.1, HL.out.2⟩, below_setRow ((Below.refl _ w).alloc (Nat.le_refl _) _) (Nat.le_refl _) _⟩
  rw [HX.out]
  exact setRow_heap _ _ _ _ _ _ (World.alloc_heap_new w _)
/-- a part that is written, told from a base world; other hashes stay -/
theorem Sm.Write_by {w v : World} (g : Nat) (s : HS) (size : Int) (a : Nat) (A : Option Addr) (n c : Nat) (l : List (BitVec 8)) (ht : Tabs w) (hg : w.heap.size ≤ g) (h1 : 0 < size) (hcur : s.cur.length ≤ 64) (hp : s.p + s.cur.length + l.length ≤ 1000000000) (hpt : PtOK w g A n c l)
    (h : HsAt v g s size a) (hb : Below w.heap.size w v) : Calls Tryd.prog 81 #[.pointer (some ⟨g, 0, none⟩), .slice A n c] v fun e w' => e = .returned (.int .i64 0) ∧ HsAt w' g (takeS s l) size a ∧ Below w.heap.size w w' ∧ ∀ g' s' size' a', g' ≠ g → HsAt v g' s' size' a' → HsAt w' g' s' size' a' :=
  (Write_any g s size a A n c l v h h1 hcur (hpt.keep hb) (by have := ht.size; omega) (ht.keep hb) (by rw [List.length_append]; omega)).mono fun _ _ ⟨e, hh, hbt⟩ => ⟨e, hh, hb.trans (hbt.to_below hb.size (fun b eb => by omega)), fun _ _ _ _ hne h' => h'.but hbt hne⟩
end Go.Proofs
namespace Go.Proofs
open Go.RowKit Sm
/-- a row of the call's own as a part, beside a hash below it -/
theorem Sm.pt_of_own {w : World} {base g n c : Nat} {A : Option Addr} {l : List (BitVec 8)} (h : w.ownsRow base 5 1 (.slice A n c) n (l.map byteCell)) (hl : l.length = n) (hg : g < base) : PtOK w g A n c l := by
  rcases h.2 with ⟨e, e2⟩ | ⟨k, cap, cur, e, hb, hk, hnc, hcm, hcs, htake⟩
  · cases e
    exact ⟨hl, Nat.le_refl _, by decide, fun h0 => by rw [List.length_map] at h0; omega⟩
  · simp only [Value.slice.injEq] at e
    obtain ⟨rfl, _, rfl⟩ := e
    have hr := Rd.of_own h (Nat.le_refl _)
    refine ⟨hl, hnc, hcm, fun h0 => ?_⟩
    obtain ⟨b, off, e, hb2, hc⟩ := hr (by rw [List.length_map] at h0; exact h0)
    cases e
    refine ⟨k, 0, rfl, hb2, by omega, fun j v hj => ?_⟩
    rw [List.getElem?_map] at hj
    obtain ⟨x, hx, rfl⟩ := Option.map_eq_some_iff.1 hj
    exact hc j x hx
theorem Sm.rd_cut0 {w : World} {N c : Nat} {A : Option Addr} {l : List (BitVec 8)} (h : Rd w N A l) (m : Nat) : Rd w N (cutA A 0 c) (l.take m) := by
  have e : ∀ hl : 0 < (l.take m).length, cutA A 0 c = A := fun hl => by
    obtain ⟨b, off, rfl, _⟩ := h (by rw [List.length_take] at hl; omega)
    unfold cutA
    split
    · rfl
    · rw [Option.map_some, Addr.add_mid, Nat.add_zero]
  intro hl
  rw [e hl]
  exact h.take m hl
theorem Sm.joinP_cut (ps : List Pt) (k : Nat) : (joinP ps).take (joinP (ps.take k)).length = joinP (ps.take k) := by
  have e : joinP ps = joinP (ps.take k) ++ joinP (ps.drop k) := by
    unfold joinP
    rw [← List.flatMap_append, List.take_append_drop]
  rw [e, List.take_left']
  rfl
theorem Sm.joinP_len (ps : List Pt) (k : Nat) : (joinP (ps.take k)).length ≤ (joinP ps).length := by
  have := congrArg List.length (joinP_cut ps k)
  rw [List.length_take] at this
  omega
theorem Sm.takeS_none (s : HS) (h : s.cur.length ≤ 64) : takeS s [] = s := by
  obtain ⟨ws, p, cur⟩ := s
  have hc : cnt cur = 0 := by unfold cnt; simp only at h; omega
  unfold takeS
  simp [hc, pressK]
/-- a store into a row of the call's own -/
theorem Sm.inc_byte (y : BitVec 8) : (ib y + 1) % 256 = ib (y + 1#8) := by
  unfold ib
  rw [BitVec.toNat_add]
  simp
theorem Sm.own_put {w : World} {base n cap g : Nat} {ys : List (BitVec 8)} (h : w.ownsRow base 5 1 (.slice (some ⟨g, 0, none⟩) n cap) n (ys.map byteCell)) (j : Nat) (y : BitVec 8) :
    (w.setCell ⟨g, j, none⟩ (.int .u8 (ib y))).ownsRow base 5 1 (.slice (some ⟨g, 0, none⟩) n cap) n ((ys.set j y).map byteCell) := by
  have := (h.stored j (.int .u8 (ib y))).1
  rw [List.map_set]
  exact this
theorem Sm.own_at {w : World} {base n : Nat} {e : TypeId} {A : Option Addr} {c : Nat} {xs : List Value} (h : w.ownsRow base e 1 (.slice A n c) n xs) (hn : 0 < n) : ∃ g, A = some ⟨g, 0, none⟩ ∧ base ≤ g := by
  obtain ⟨g, cap, hv, hb, _⟩ := h.form hn
  cases hv
  exact ⟨g, rfl, hb⟩
end Go.Proofs
