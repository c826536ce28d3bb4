/-
  The contract of opened.
-/
import Derived.Test.YtbojnblececnhaaGreatDoorQ25
namespace Go.Proofs
open Go.RowKit Go.Shelf Sm
def Sm.MX : Int := 2147483647
/-- the token of these bytes -/
def Sm.openedS (k : Kpt) (b : List (BitVec 8)) : Except Int (Int × Int × Int) :=
  match numO b 2147483647 with
  | none => .error 161
  | some (l1, n) => match numO l1 15 with
    | none => .error 161
    | some (l2, m) => match numO l2 2147483647 with
      | none => .error 161
      | some (l3, s) => match numO l3 2147483647 with
        | none => .error 161
        | some (l4, i) => if l4.length = 16 then
            match findS k n with
            | none => .error 162
            | some p => if (tagS (keyS p.2) (b.take (b.length - 16))).take 16 = b.drop (b.length - 16) then .ok (m, s, i) else .error 161
          else .error 161
/-- how opening ends -/
def Sm.OpdPost (r : Except Int (Int × Int × Int)) (w : World) (e : Ending) (w' : World) : Prop := Below w.heap.size w w' ∧ match r with
  | .ok p => e = .returned (.agg #[.int .i64 p.1, .int .i64 p.2.1, .int .i64 p.2.2])
  | .error n => e = .panicked [pE n]
theorem Sm.findS_size {k : Kpt} {num : Int} {p : Int × ByteArray} (hs : k.s0.size ≤ 1000 ∧ k.s1.size ≤ 1000 ∧ k.s2.size ≤ 1000) (h : findS k num = some p) : p.2.size ≤ 1000 := by
  unfold findS at h
  split at h
  · injection h with h; subst h; exact hs.1
  · split at h
    · injection h with h; subst h; exact hs.2.1
    · split at h
      · injection h with h; subst h; exact hs.2.2
      · cases h
/-- the tag of one part is looked at -/
theorem Sm.check_one (v : World) (Ak At Ab : Option Addr) (ck ct E cb G : Nat) (key tl body : List (BitVec 8)) (ht : Tabs v) (hk : key.length = 32) (h1 : 32 ≤ ck) (h2 : ck ≤ 9223372036854775807) (hr : Rd v v.heap.size Ak key)
    (hl : tl.length = 16) (hrt : Rd v v.heap.size At tl) (hb : ∀ g, v.heap.size ≤ g → PtOK v g Ab E cb body) (hE : E ≤ 50000) (hG : Blk v G 0x38 #[.slice Ab E cb]) :
    Calls Tryz.prog 63 #[.slice Ak 32 ck, .slice At 16 ct, .slice (some ⟨G, 0, none⟩) 1 1] v fun e w' => e = .returned (.tuple #[.bool (decide ((tagS key body).take 16 = tl)), .int .i64 0]) ∧ Below v.heap.size v w' := by
  have hj : joinP [⟨Ab, E, cb, body⟩] = body := by simp [joinP]
  have hlen := (hb v.heap.size (Nat.le_refl _)).len
  have := Check_yes 32 ck 16 ct 1 1 Ak At (some ⟨G, 0, none⟩) key tl [⟨Ab, E, cb, body⟩] v (by decide) (by decide) hl hrt ht hk (by decide) h1 h2 hr
    (fun g hg => ⟨rfl, by decide, fun _ => ⟨G, 0, rfl, hG.lt, fun e => by have := hG.lt; omega, fun j x hj => by rw [Nat.zero_add, hG.cell j]; simpa [Pt.val] using hj⟩, fun p hp => by
      obtain rfl : p = ⟨Ab, E, cb, body⟩ := by simpa using hp
      exact hb g hg⟩) (by rw [hj]; omega)
  rw [hj] at this
  exact this
/-- between the calls that open a token: the variables, the reader and what it has ahead -/
structure Sm.OpI (w W : World) (Br R : Nat) (l : List (BitVec 8)) : Prop where
  below : Below w.heap.size w W
  d : Blk W w.heap.size 0x18 #[.int .i64 0, .int .i64 0, .int .i64 0]
  br : Blk W Br 0x61 #[.pointer (some ⟨R, 0, none⟩)]
  rd : Rdr W R l 0
  ne : w.heap.size ≠ R ∧ Br ≠ R ∧ w.heap.size ≤ R
theorem Sm.OpI.cell {w W : World} {Br R : Nat} {l : List (BitVec 8)} (h : OpI w W Br R l) : W.cell? ⟨Br, 0, none⟩ = some (.pointer (some ⟨R, 0, none⟩)) := h.br.cell 0
theorem Sm.OpI.step {w W W' : World} {Br R : Nat} {l l' : List (BitVec 8)} (h : OpI w W Br R l) (hr : Rdr W' R l' 0) (hb : But (fun b => b = R) W W') : OpI w W' Br R l' :=
  ⟨But.below h.below hb (fun b e => by have e : b = R := e; have := h.ne.2.2; omega), h.d.but hb h.ne.1, h.br.but hb h.ne.2.1, hr, h.ne⟩
theorem Sm.OpI.fin {w W W' : World} {Br R : Nat} {l : List (BitVec 8)} (h : OpI w W Br R l) (hb : But (fun b => b = R) W W') : Below w.heap.size w W' := But.below h.below hb (fun b e => by have e : b = R := e; have := h.ne.2.2; omega)
theorem Sm.OpI.keep {w W W' : World} {Br R : Nat} {l : List (BitVec 8)} (h : OpI w W Br R l) (hb : Below W.heap.size W W') : OpI w W' Br R l := h.step (h.rd.but (But.of_all hb (fun _ => False)) (fun _ _ h => h)) (But.of_all hb _)
set_option maxRecDepth 100000 in
set_option maxHeartbeats 2000000 in
theorem Sm.opened_any (B n c : Nat) (k : Kpt) (A : Option Addr) (l : List (BitVec 8)) (w : World) (hK : KeyAt w B k) (ht : Tabs w) (hs : k.s0.size ≤ 1000 ∧ k.s1.size ≤ 1000 ∧ k.s2.size ≤ 1000)
    (hl : l.length = n) (hn : n ≤ 40000) (hc : n ≤ c) (hcm : c ≤ 9223372036854775807) (hr : Rd w w.heap.size A l) :
    Calls Tryz.prog 35 #[.pointer (some ⟨B, 0, none⟩), .slice A n c] w (OpdPost (openedS k l) w) := by
  have hmf : ∀ (fn : Fn) (first cap : Array Value) (w : World), (Instr.makeFunc fn first cap).run Tryz.prog w = .ok (.func fn first cap) w := fun _ _ _ _ => rfl
  obtain ⟨W1, hW1⟩ : ∃ x, w.alloc (.cells #[.int .i64 0, .int .i64 0, .int .i64 0] 0x18) = x := ⟨_, rfl⟩
  have hb1 : Below w.heap.size w W1 := by rw [← hW1]; exact (Below.refl _ w).alloc (Nat.le_refl _) _
  have h1 : Blk W1 w.heap.size 0x18 #[.int .i64 0, .int .i64 0, .int .i64 0] := by rw [← hW1]; exact Blk.new w 0x18 _
  have hrd := Read_any l n c w.heap.size A W1 (Lib.hid hl) (by omega) hb1.size (hr.below hb1)
  have HRD := Lib.hid hrd
  have HW := Lib.hid hW1
  have HB1 := Lib.hid hb1
  have HR1 := Lib.hid h1
  have HK := Lib.hid hK
  have HT := Lib.hid ht
  have HS := Lib.hid hs
  have HR := Lib.hid hr
  have HL := Lib.hid hl
  clear hrd hW1 hb1 h1 hK ht hs hr hl
  go_enter Tryz.func35, Tryz.ntmps35
  go_upto_region 1 with fail
  rw [HW.out]
  go_upto_region 2 with (go_at_call 59; (with_reducible refine HRD.out.mono ?_); rintro e w2 ⟨R, rfl, hr2, hRl, hb2⟩)
  obtain ⟨Br, hBr⟩ : ∃ b, w2.heap.size = b := ⟨_, rfl⟩
  obtain ⟨W3, hW3⟩ : ∃ x, w2.alloc (.cells #[.pointer (some ⟨R, 0, none⟩)] 0x61) = x := ⟨_, rfl⟩
  have hb3 : Below w2.heap.size w2 W3 := by rw [← hW3]; exact (Below.refl _ _).alloc (Nat.le_refl _) _
  have hI : OpI w W3 Br R l := ⟨HB1.out.trans ((hb2.trans (hb3.mono hb2.size)).mono HB1.out.size), (HR1.out.keep hb2).keep hb3, by rw [← hW3, ← hBr]; exact Blk.new w2 0x61 _, hr2.but (But.of_all hb3 (fun _ => False)) (fun _ _ h => h), by have := HR1.out.lt; have := hr2.lt; omega⟩
  have HI := Lib.hid hI
  rw [hBr, hW3]
  clear hW3 hBr hb3 hI hb2 hRl hr2 HRD HB1 HR1 HW
  go_upto_region 3 with fail
  have HI0 := HI
  clear HI
  cases h1 : numO l 2147483647 with
  | none =>
    have HA := Lib.hid (ask_no Br R l 2147483647 W3 HI0.out.rd HI0.out.cell (by decide) h1)
    have e1 : openedS k l = .error 161 := by simp only [openedS, h1]
    rw [e1]
    clear e1 h1
    go_wp2_with (go_at_call 60; (with_reducible refine HA.out.mono ?_); rintro e w9 ⟨rfl, hb9⟩)
    exact ⟨rfl, HI0.out.fin hb9, rfl⟩
  | some p1 =>
  obtain ⟨l1, num⟩ := p1
  have HA1 := Lib.hid (ask_yes Br R l l1 2147483647 num W3 HI0.out.rd HI0.out.cell (by decide) h1)
  have HN1 := Lib.hid h1
  go_upto_region 4 with (go_at_call 60; (with_reducible refine HA1.out.mono ?_); rintro e w4 ⟨rfl, hr9, hb9⟩)
  have HI1 := Lib.hid (HI0.out.step hr9 hb9)
  clear hr9 hb9 HA1 HI0
  cases h2 : numO l1 15 with
  | none =>
    have HA := Lib.hid (ask_no Br R l1 15 w4 HI1.out.rd HI1.out.cell (by decide) h2)
    have e2 : openedS k l = .error 161 := by simp only [openedS, h1, h2]
    rw [e2]
    clear e2 h1 h2
    go_wp2_with (go_at_call 60; (with_reducible refine HA.out.mono ?_); rintro e w9 ⟨rfl, hb9⟩)
    exact ⟨rfl, HI1.out.fin hb9, rfl⟩
  | some p2 =>
  obtain ⟨l2, mm⟩ := p2
  have HA2 := Lib.hid (ask_yes Br R l1 l2 15 mm w4 HI1.out.rd HI1.out.cell (by decide) h2)
  have HN2 := Lib.hid h2
  go_upto_region 5 with (go_at_call 60; (with_reducible refine HA2.out.mono ?_); rintro e w5 ⟨rfl, hr9, hb9⟩)
  have HI2 := Lib.hid (HI1.out.step hr9 hb9)
  clear hr9 hb9 HA2 HI1
  cases h3 : numO l2 2147483647 with
  | none =>
    have HA := Lib.hid (ask_no Br R l2 2147483647 w5 HI2.out.rd HI2.out.cell (by decide) h3)
    have e3 : openedS k l = .error 161 := by simp only [openedS, h1, h2, h3]
    rw [e3]
    clear e3 h1 h2 h3
    go_wp2_with (go_at_call 60; (with_reducible refine HA.out.mono ?_); rintro e w9 ⟨rfl, hb9⟩)
    exact ⟨rfl, HI2.out.fin hb9, rfl⟩
  | some p3 =>
  obtain ⟨l3, ss⟩ := p3
  have HA3 := Lib.hid (ask_yes Br R l2 l3 2147483647 ss w5 HI2.out.rd HI2.out.cell (by decide) h3)
  have HN3 := Lib.hid h3
  go_upto_region 6 with (go_at_call 60; (with_reducible refine HA3.out.mono ?_); rintro e w6 ⟨rfl, hr9, hb9⟩)
  have HI3 := Lib.hid (HI2.out.step hr9 hb9)
  clear hr9 hb9 HA3 HI2
  cases h4 : numO l3 2147483647 with
  | none =>
    have HA := Lib.hid (ask_no Br R l3 2147483647 w6 HI3.out.rd HI3.out.cell (by decide) h4)
    have e4 : openedS k l = .error 161 := by simp only [openedS, h1, h2, h3, h4]
    rw [e4]
    clear e4 h1 h2 h3 h4
    go_wp2_with (go_at_call 60; (with_reducible refine HA.out.mono ?_); rintro e w9 ⟨rfl, hb9⟩)
    exact ⟨rfl, HI3.out.fin hb9, rfl⟩
  | some p4 =>
  obtain ⟨l4, ii⟩ := p4
  have HA4 := Lib.hid (ask_yes Br R l3 l4 2147483647 ii w6 HI3.out.rd HI3.out.cell (by decide) h4)
  have HN4 := Lib.hid h4
  go_upto_region 7 with (go_at_call 60; (with_reducible refine HA4.out.mono ?_); rintro e w7 ⟨rfl, hr9, hb9⟩)
  have HI4 := Lib.hid (HI3.out.step hr9 hb9)
  clear hr9 hb9 HA4 HI3
  have eo : openedS k l = if l4.length = 16 then
            match findS k num with
            | none => .error 162
            | some p => if (tagS (keyS p.2) (l.take (l.length - 16))).take 16 = l.drop (l.length - 16) then .ok (mm, ss, ii) else .error 161
          else .error 161 := by simp only [openedS, h1, h2, h3, h4]
  obtain ⟨k1, hk1, e1⟩ := (numO_bound h1).2.2
  obtain ⟨k2, hk2, e2⟩ := (numO_bound h2).2.2
  obtain ⟨k3, hk3, e3⟩ := (numO_bound h3).2.2
  obtain ⟨k4, hk4, e4⟩ := (numO_bound h4).2.2
  have hlen : l4.length ≤ l.length := by rw [e4, e3, e2, e1]; simp only [List.length_drop]; omega
  have hcell := HI4.out.cell
  have HLF := Lib.hid (Left_any HI4.out.rd)
  clear h1 h2 h3 h4 hk1 e1 hk2 e2 hk3 e3 hk4 e4 k1 k2 k3 k4 HN1 HN2 HN3 HN4
  by_cases h16 : l4.length = 16
  · rw [h16] at hlen HLF
    rw [if_pos h16] at eo
    have HEO := Lib.hid eo
    clear eo
    rw [HL.out] at hlen
    obtain ⟨E, rfl⟩ : ∃ E, n = E + 16 := ⟨n - 16, by omega⟩
    have hx16 : ((16 : Nat) : Int) = 16 := rfl
    rw [hx16] at HLF
    clear hx16 h16
    go_upto_region 8 with (first
      | (go_at_call 62; (with_reducible refine HLF.out.mono ?_); rintro e w8 ⟨rfl, rfl⟩)
      | (go_at_call 31; (with_reducible refine (must_oneY _ _ _ _ (by first | rfl | (simp; done)) (by first | rfl | (simp; done))).mono ?_); rintro e w9 ⟨⟨v9, rfl⟩, rfl⟩))
    go_upto_region 9 with fail
    obtain ⟨W8, hW8⟩ : ∃ x, w7.alloc (.cells #[.bool true] 4) = x := ⟨_, rfl⟩
    have hI8 : OpI w W8 Br R l4 := by rw [← hW8]; exact HI4.out.keep ((Below.refl _ _).alloc (Nat.le_refl _) _)
    rw [hW8]
    clear hW8
    have hb8 := hI8.below
    have HI8 := Lib.hid hI8
    have HT8 := Lib.hid (HT.out.keep hb8)
    have HK8 := Lib.hid (Blk.keep HK.out hb8)
    have hR8 := HR.out.below hb8
    have hpt : ∀ X, Below W8.heap.size W8 X → ∀ g, X.heap.size ≤ g → PtOK X g A (E + 16) c l := fun X hX g hg => pt_of_rd HL.out hc hcm ((hR8.belowTo hX hb8.size).more (Nat.le_trans hb8.size hX.size)) g hg
    have hcl := fun v => cut_l A (E + 16) c E (by omega) v
    have hch := fun v => cut_h A (E + 16) c E (by omega) v
    have hpb : ∀ X, Below W8.heap.size W8 X → ∀ g, X.heap.size ≤ g → PtOK X g (cutA A 0 c) E c (l.take E) := fun X hX g hg => by simpa using (hpt X hX g hg).cut 0 E (by omega) (by omega)
    have hrt : ∀ X, Below W8.heap.size W8 X → Rd X X.heap.size (cutA A E c) (l.drop E) := fun X hX => by
      have := rd_of_pt ((hpt X hX X.heap.size (Nat.le_refl _)).cut E (E + 16) (by omega) (by omega))
      rw [List.take_of_length_le (by rw [HL.out]; exact Nat.le_refl _)] at this
      exact this
    obtain ⟨At, hAt⟩ : ∃ x, cutA A E c = x := ⟨_, rfl⟩
    obtain ⟨A0, hA0⟩ : ∃ x, cutA A 0 c = x := ⟨_, rfl⟩
    rw [hAt] at hrt hcl
    rw [hA0] at hpb hch
    rw [show E + 16 - E = 16 from by omega] at hcl
    have htl : (l.drop E).length = 16 := by rw [List.length_drop, HL.out]; omega
    have heo := HEO.out
    rw [HL.out, show E + 16 - 16 = E from by omega] at heo
    obtain ⟨TL, hTL⟩ : ∃ x, l.drop E = x := ⟨_, rfl⟩
    obtain ⟨BO, hBO⟩ : ∃ x, l.take E = x := ⟨_, rfl⟩
    rw [hTL] at hrt htl heo
    rw [hBO] at hpb heo
    have HCL := Lib.hid hcl
    have HCH := Lib.hid hch
    have HPB := Lib.hid hpb
    have HRT := Lib.hid hrt
    have HTL := Lib.hid htl
    have hfa : ∀ X, Below W8.heap.size W8 X → Calls Tryz.prog 64 #[.pointer (some ⟨B, 0, none⟩), .int .i64 num] X (FindPost k num X) := fun X hX => find_any B k num X (Blk.keep HK8.out hX)
    clear hcl hch hpb hrt hpt htl hTL hBO hAt hA0 hR8 hI8 HEO HI4 HR hcell HLF HK HT
    have hS0 : Below W8.heap.size W8 W8.drew := (Below.refl _ _).drew
    have HB8 := Lib.hid hb8
    clear hb8
    cases hfd : findS k num with
    | none =>
      have HEO := Lib.hid heo
      simp only [hfd] at HEO
      have hfn : ∀ X, Below W8.heap.size W8 X → Calls Tryz.prog 64 #[.pointer (some ⟨B, 0, none⟩), .int .i64 num] X fun e w' => Below X.heap.size X w' ∧ e = .panicked [pE 162] := fun X hX => (hfa X hX).mono fun e w' h => by
        unfold FindPost at h
        rw [hfd] at h
        exact h
      have HFA := Lib.hid hfn
      clear hfa heo hfd hfn
      rw [HEO.out]
      clear HEO
      refine wp_region_held_drew (S := fun wx => Below W8.heap.size W8 wx) rfl hS0 (fun hHeld => ?_)
      simp only [List.size_toArray, List.length_cons, List.length_nil, Nat.reduceAdd]
      obtain ⟨X0, hX0⟩ : ∃ v, W8.drew = v := ⟨_, rfl⟩
      rw [hX0] at hHeld hS0 ⊢
      clear hX0
      refine wpAnyH_take (i := 0) (v := .pointer (some ⟨B, 0, none⟩)) rfl (by kernel_rfl) (by kernel_rfl) (by kernel_rfl) (fun _ _ _ h => h) (Or.inl ⟨by rfl, ?_⟩) (by assumption) ?_
      · intro wx hs1; go_simp
      try simp only [Act.put]
      refine wpAnyH_take (i := 1) (v := .int .i64 num) rfl (by kernel_rfl) (by kernel_rfl) (by kernel_rfl) (fun _ _ _ h => h) (Or.inl ⟨by rfl, ?_⟩) (by assumption) ?_
      · intro wx hs1; go_simp
      try simp only [Act.put]
      refine wpAnyH_take (i := 4) (v := .slice A (E + 16) c) rfl (by kernel_rfl) (by kernel_rfl) (by kernel_rfl) (fun _ _ _ h => h) (Or.inl ⟨by rfl, ?_⟩) (by assumption) ?_
      · intro wx hs1; go_simp
      try simp only [Act.put]
      refine wpAnyH_take (i := 5) (v := .int .i64 (E : Int)) rfl (by kernel_rfl) (by kernel_rfl) (by kernel_rfl) (fun _ _ _ h => h) (Or.inl ⟨by rfl, ?_⟩) (by assumption) ?_
      · intro wx hs1; go_simp
      try simp only [Act.put]
      refine wpAnyH_take (i := 6) (v := .slice At 16 (c - E)) rfl (by kernel_rfl) (by kernel_rfl) (by kernel_rfl) (fun _ _ _ h => h) (Or.inl ⟨by rfl, ?_⟩) (by assumption) ?_
      · intro wx hs1; have hx := HCL.out; go_simp
      try simp only [Act.put]
      refine wpAnyH_take (i := 7) (v := .slice A (E + 16) c) rfl (by kernel_rfl) (by kernel_rfl) (by kernel_rfl) (fun _ _ _ h => h) (Or.inl ⟨by rfl, ?_⟩) (by assumption) ?_
      · intro wx hs1; go_simp
      try simp only [Act.put]
      refine wpAnyH_take (i := 8) (v := .int .i64 (E : Int)) rfl (by kernel_rfl) (by kernel_rfl) (by kernel_rfl) (fun _ _ _ h => h) (Or.inl ⟨by rfl, ?_⟩) (by assumption) ?_
      · intro wx hs1; go_simp
      try simp only [Act.put]
      refine wpAnyH_take (i := 9) (v := .slice A0 E c) rfl (by kernel_rfl) (by kernel_rfl) (by kernel_rfl) (fun _ _ _ h => h) (Or.inl ⟨by rfl, ?_⟩) (by assumption) ?_
      · intro wx hs1; have hx := HCH.out; go_simp
      try simp only [Act.put]
      refine wpAnyH_ready (rs := [2, 10]) (by kernel_rfl) (by simp) (AllReadyH.cons rfl (fun K hK => ?_) (AllReadyH.cons rfl (fun K hK => ?_) AllReadyH.nil))
      · skip
        go_simp
        go_at_call 64
        (with_reducible refine (HFA.out X0 hS0).mono ?_)
        rintro e X9 ⟨hb9, rfl⟩
        exact ⟨rfl, HB8.out.trans ((hS0.trans (hb9.mono hS0.size)).mono HB8.out.size), rfl⟩
      · go_simp
        have hS1 := hS0.alloc hS0.size (.cells #[.slice A0 E c] 0x38)
        refine hK.out _ _ hS1 (fun hHeld => ?_)
        clear hK K
        try simp only [Act.put]
        refine wpAnyH_ready (rs := [2]) (by kernel_rfl) (by simp) (AllReadyH.cons rfl (fun K hK => ?_) AllReadyH.nil)
        go_simp
        go_at_call 64
        (with_reducible refine (HFA.out _ hS1).mono ?_)
        rintro e X9 ⟨hb9, rfl⟩
        exact ⟨rfl, HB8.out.trans ((hS1.trans (hb9.mono hS1.size)).mono HB8.out.size), rfl⟩
    | some pp =>
      obtain ⟨pn, ps⟩ := pp
      have hps := findS_size HS.out hfd
      have HEO := Lib.hid heo
      simp only [hfd] at HEO
      have hfn : ∀ X, Below W8.heap.size W8 X → Calls Tryz.prog 64 #[.pointer (some ⟨B, 0, none⟩), .int .i64 num] X fun e w' => Below X.heap.size X w' ∧ e = .returned (.agg #[.int .i64 pn, .string ps]) := fun X hX => (hfa X hX).mono fun e w' h => by
        unfold FindPost at h
        rw [hfd] at h
        exact h
      have HFA := Lib.hid hfn
      have HPS := Lib.hid hps
      clear hfa heo hfd hps hfn
      go_cut [12, 13] from 33 to 48 (fun s12 s13 wx => s12 = .bool (decide ((tagS (keyS ps) BO).take 16 = TL)) ∧ Hid (Below W8.heap.size W8 wx))
      case first =>
        refine wp_region_held_drew (S := fun wx => Below W8.heap.size W8 wx) rfl hS0 (fun hHeld => ?_)
        simp only [List.size_toArray, List.length_cons, List.length_nil, Nat.reduceAdd]
        obtain ⟨X0, hX0⟩ : ∃ v, W8.drew = v := ⟨_, rfl⟩
        rw [hX0] at hHeld hS0 ⊢
        clear hX0
        refine wpAnyH_take (i := 0) (v := .pointer (some ⟨B, 0, none⟩)) rfl (by kernel_rfl) (by kernel_rfl) (by kernel_rfl) (fun _ _ _ h => h) (Or.inl ⟨by rfl, ?_⟩) (by assumption) ?_
        · intro wx hs1; go_simp
        try simp only [Act.put]
        refine wpAnyH_take (i := 1) (v := .int .i64 num) rfl (by kernel_rfl) (by kernel_rfl) (by kernel_rfl) (fun _ _ _ h => h) (Or.inl ⟨by rfl, ?_⟩) (by assumption) ?_
        · intro wx hs1; go_simp
        try simp only [Act.put]
        refine wpAnyH_take (i := 4) (v := .slice A (E + 16) c) rfl (by kernel_rfl) (by kernel_rfl) (by kernel_rfl) (fun _ _ _ h => h) (Or.inl ⟨by rfl, ?_⟩) (by assumption) ?_
        · intro wx hs1; go_simp
        try simp only [Act.put]
        refine wpAnyH_take (i := 5) (v := .int .i64 (E : Int)) rfl (by kernel_rfl) (by kernel_rfl) (by kernel_rfl) (fun _ _ _ h => h) (Or.inl ⟨by rfl, ?_⟩) (by assumption) ?_
        · intro wx hs1; go_simp
        try simp only [Act.put]
        refine wpAnyH_take (i := 6) (v := .slice At 16 (c - E)) rfl (by kernel_rfl) (by kernel_rfl) (by kernel_rfl) (fun _ _ _ h => h) (Or.inl ⟨by rfl, ?_⟩) (by assumption) ?_
        · intro wx hs1; have hx := HCL.out; go_simp
        try simp only [Act.put]
        refine wpAnyH_take (i := 7) (v := .slice A (E + 16) c) rfl (by kernel_rfl) (by kernel_rfl) (by kernel_rfl) (fun _ _ _ h => h) (Or.inl ⟨by rfl, ?_⟩) (by assumption) ?_
        · intro wx hs1; go_simp
        try simp only [Act.put]
        refine wpAnyH_take (i := 8) (v := .int .i64 (E : Int)) rfl (by kernel_rfl) (by kernel_rfl) (by kernel_rfl) (fun _ _ _ h => h) (Or.inl ⟨by rfl, ?_⟩) (by assumption) ?_
        · intro wx hs1; go_simp
        try simp only [Act.put]
        refine wpAnyH_take (i := 9) (v := .slice A0 E c) rfl (by kernel_rfl) (by kernel_rfl) (by kernel_rfl) (fun _ _ _ h => h) (Or.inl ⟨by rfl, ?_⟩) (by assumption) ?_
        · intro wx hs1; have hx := HCH.out; go_simp
        try simp only [Act.put]
        refine wpAnyH_ready (rs := [2, 10]) (by kernel_rfl) (by simp) (AllReadyH.cons rfl (fun K hK => ?_) (AllReadyH.cons rfl (fun K hK => ?_) AllReadyH.nil))
        · skip
          go_simp
          go_at_call 64
          (with_reducible refine (HFA.out X0 hS0).mono ?_)
          rintro e X1 ⟨hbb, rfl⟩
          have hS1 := hS0.trans (hbb.mono hS0.size)
          clear hbb
          refine hK.out _ _ hS1 (fun hHeld => ?_)
          clear hK K
          try simp only [Act.put]
          refine wpAnyH_ready (rs := [3, 10]) (by kernel_rfl) (by simp) (AllReadyH.cons rfl (fun K hK => ?_) (AllReadyH.cons rfl (fun K hK => ?_) AllReadyH.nil))
          · skip
            go_simp
            go_at_call 57
            (with_reducible refine (key_any pn ps X1 (HT8.out.keep hS1) HPS.out).mono ?_)
            rintro e X2 ⟨Ak, ck, rfl, hk1, hk2, hkr2, hbb⟩
            have hS2 := hS1.trans (hbb.mono hS1.size)
            clear hbb
            refine hK.out _ _ hS2 (fun hHeld => ?_)
            clear hK K
            try simp only [Act.put]
            refine wpAnyH_ready (rs := [10]) (by kernel_rfl) (by simp) (AllReadyH.cons rfl (fun K hK => ?_) AllReadyH.nil)
            go_simp
            obtain ⟨G, hGe⟩ : ∃ b, X2.heap.size = b := ⟨_, rfl⟩
            obtain ⟨X3, hXe⟩ : ∃ v, X2.alloc (.cells #[.slice A0 E c] 0x38) = v := ⟨_, rfl⟩
            have hbb : Below X2.heap.size X2 X3 := by rw [← hXe]; exact (Below.refl _ _).alloc (Nat.le_refl _) _
            have hG3 : Blk X3 G 0x38 #[.slice A0 E c] := by rw [← hXe, ← hGe]; exact Blk.new X2 _ _
            have hS3 := hS2.trans (hbb.mono hS2.size)
            have hkr3 := (hkr2.below hbb).more hbb.size
            rw [hXe, hGe]
            clear hXe hGe hbb
            refine hK.out _ _ hS3 (fun hHeld => ?_)
            clear hK K
            try simp only [Act.put]
            refine wpAnyH_ready (rs := [11]) (by kernel_rfl) (by simp) (AllReadyH.cons rfl (fun K hK => ?_) AllReadyH.nil)
            go_simp
            go_at_call 63
            refine (check_one X3 Ak At A0 ck (c - E) E c G (keyS ps) TL BO (HT8.out.keep hS3) (keyS_length _) hk1 hk2 hkr3 HTL.out (HRT.out X3 hS3) (HPB.out X3 hS3) (by omega) hG3).mono ?_
            rintro e X9 ⟨rfl, hbb⟩
            have hS9 := hS3.trans (hbb.mono hS3.size)
            clear hbb
            obtain ⟨bq, hbq⟩ : ∃ b, decide ((tagS (keyS ps) BO).take 16 = TL) = b := ⟨_, rfl⟩
            rw [hbq]
            have HBQ := Lib.hid hbq
            clear hbq
            refine hK.out _ _ hS9 (fun hHeld => ?_)
            clear hK K
            try simp only [Act.put]
            refine wpAnyH_take (i := 12) (v := .tuple #[.bool bq, .int .i64 0]) rfl (by kernel_rfl) (by kernel_rfl) (by kernel_rfl) (fun _ _ _ h => h) (Or.inl ⟨by rfl, ?_⟩) (by assumption) ?_
            · intro wx hs1; go_simp
            try simp only [Act.put]
            refine wpAnyH_take (i := 13) (v := .bool bq) rfl (by kernel_rfl) (by kernel_rfl) (by kernel_rfl) (fun _ _ _ h => h) (Or.inl ⟨by rfl, ?_⟩) (by assumption) ?_
            · intro wx hs1; go_simp
            try simp only [Act.put]
            refine wpAnyH_take (i := 14) (v := .int .i64 0) rfl (by kernel_rfl) (by kernel_rfl) (by kernel_rfl) (fun _ _ _ h => h) (Or.inl ⟨by rfl, ?_⟩) (by assumption) ?_
            · intro wx hs1; go_simp
            try simp only [Act.put]
            refine wpAnyH_take (i := 15) (v := .bool bq) rfl (by kernel_rfl) (by kernel_rfl) (by kernel_rfl) (fun _ _ _ h => h) (Or.inl ⟨by rfl, ?_⟩) (by assumption) ?_
            · intro wx hs1; go_simp
            try simp only [Act.put]
            refine wpAnyH_take (i := 16) (v := .int .i64 0) rfl (by kernel_rfl) (by kernel_rfl) (by kernel_rfl) (fun _ _ _ h => h) (Or.inl ⟨by rfl, ?_⟩) (by assumption) ?_
            · intro wx hs1; go_simp
            try simp only [Act.put]
            refine wpAnyH_done (by kernel_rfl) ?_ _
            try simp only [List.getElem_toArray, List.getElem_cons_succ, List.getElem_cons_zero]
            go_wp2_with fail
            go_meet
            exact ⟨by rw [HBQ.out], Lib.hid hS9⟩
          · skip
            go_simp
            obtain ⟨G, hGe⟩ : ∃ b, X1.heap.size = b := ⟨_, rfl⟩
            obtain ⟨X2, hXe⟩ : ∃ v, X1.alloc (.cells #[.slice A0 E c] 0x38) = v := ⟨_, rfl⟩
            have hbb : Below X1.heap.size X1 X2 := by rw [← hXe]; exact (Below.refl _ _).alloc (Nat.le_refl _) _
            have hG2 : Blk X2 G 0x38 #[.slice A0 E c] := by rw [← hXe, ← hGe]; exact Blk.new X1 _ _
            have hS2 := hS1.trans (hbb.mono hS1.size)
            rw [hXe, hGe]
            clear hXe hGe hbb
            refine hK.out _ _ hS2 (fun hHeld => ?_)
            clear hK K
            try simp only [Act.put]
            refine wpAnyH_ready (rs := [3]) (by kernel_rfl) (by simp) (AllReadyH.cons rfl (fun K hK => ?_) AllReadyH.nil)
            go_simp
            go_at_call 57
            (with_reducible refine (key_any pn ps X2 (HT8.out.keep hS2) HPS.out).mono ?_)
            rintro e X3 ⟨Ak, ck, rfl, hk1, hk2, hkr3, hbb⟩
            have hS3 := hS2.trans (hbb.mono hS2.size)
            have hG3 := hG2.keep hbb
            clear hbb
            refine hK.out _ _ hS3 (fun hHeld => ?_)
            clear hK K
            try simp only [Act.put]
            refine wpAnyH_ready (rs := [11]) (by kernel_rfl) (by simp) (AllReadyH.cons rfl (fun K hK => ?_) AllReadyH.nil)
            go_simp
            go_at_call 63
            refine (check_one X3 Ak At A0 ck (c - E) E c G (keyS ps) TL BO (HT8.out.keep hS3) (keyS_length _) hk1 hk2 hkr3 HTL.out (HRT.out X3 hS3) (HPB.out X3 hS3) (by omega) hG3).mono ?_
            rintro e X9 ⟨rfl, hbb⟩
            have hS9 := hS3.trans (hbb.mono hS3.size)
            clear hbb
            obtain ⟨bq, hbq⟩ : ∃ b, decide ((tagS (keyS ps) BO).take 16 = TL) = b := ⟨_, rfl⟩
            rw [hbq]
            have HBQ := Lib.hid hbq
            clear hbq
            refine hK.out _ _ hS9 (fun hHeld => ?_)
            clear hK K
            try simp only [Act.put]
            refine wpAnyH_take (i := 12) (v := .tuple #[.bool bq, .int .i64 0]) rfl (by kernel_rfl) (by kernel_rfl) (by kernel_rfl) (fun _ _ _ h => h) (Or.inl ⟨by rfl, ?_⟩) (by assumption) ?_
            · intro wx hs1; go_simp
            try simp only [Act.put]
            refine wpAnyH_take (i := 13) (v := .bool bq) rfl (by kernel_rfl) (by kernel_rfl) (by kernel_rfl) (fun _ _ _ h => h) (Or.inl ⟨by rfl, ?_⟩) (by assumption) ?_
            · intro wx hs1; go_simp
            try simp only [Act.put]
            refine wpAnyH_take (i := 14) (v := .int .i64 0) rfl (by kernel_rfl) (by kernel_rfl) (by kernel_rfl) (fun _ _ _ h => h) (Or.inl ⟨by rfl, ?_⟩) (by assumption) ?_
            · intro wx hs1; go_simp
            try simp only [Act.put]
            refine wpAnyH_take (i := 15) (v := .bool bq) rfl (by kernel_rfl) (by kernel_rfl) (by kernel_rfl) (fun _ _ _ h => h) (Or.inl ⟨by rfl, ?_⟩) (by assumption) ?_
            · intro wx hs1; go_simp
            try simp only [Act.put]
            refine wpAnyH_take (i := 16) (v := .int .i64 0) rfl (by kernel_rfl) (by kernel_rfl) (by kernel_rfl) (fun _ _ _ h => h) (Or.inl ⟨by rfl, ?_⟩) (by assumption) ?_
            · intro wx hs1; go_simp
            try simp only [Act.put]
            refine wpAnyH_done (by kernel_rfl) ?_ _
            try simp only [List.getElem_toArray, List.getElem_cons_succ, List.getElem_cons_zero]
            go_wp2_with fail
            go_meet
            exact ⟨by rw [HBQ.out], Lib.hid hS9⟩
        · skip
          go_simp
          obtain ⟨G, hGe⟩ : ∃ b, X0.heap.size = b := ⟨_, rfl⟩
          obtain ⟨X1, hXe⟩ : ∃ v, X0.alloc (.cells #[.slice A0 E c] 0x38) = v := ⟨_, rfl⟩
          have hbb : Below X0.heap.size X0 X1 := by rw [← hXe]; exact (Below.refl _ _).alloc (Nat.le_refl _) _
          have hG1 : Blk X1 G 0x38 #[.slice A0 E c] := by rw [← hXe, ← hGe]; exact Blk.new X0 _ _
          have hS1 := hS0.trans (hbb.mono hS0.size)
          rw [hXe, hGe]
          clear hXe hGe hbb
          refine hK.out _ _ hS1 (fun hHeld => ?_)
          clear hK K
          try simp only [Act.put]
          refine wpAnyH_ready (rs := [2]) (by kernel_rfl) (by simp) (AllReadyH.cons rfl (fun K hK => ?_) AllReadyH.nil)
          go_simp
          go_at_call 64
          (with_reducible refine (HFA.out X1 hS1).mono ?_)
          rintro e X2 ⟨hbb, rfl⟩
          have hS2 := hS1.trans (hbb.mono hS1.size)
          have hG2 := hG1.keep hbb
          clear hbb
          refine hK.out _ _ hS2 (fun hHeld => ?_)
          clear hK K
          try simp only [Act.put]
          refine wpAnyH_ready (rs := [3]) (by kernel_rfl) (by simp) (AllReadyH.cons rfl (fun K hK => ?_) AllReadyH.nil)
          go_simp
          go_at_call 57
          (with_reducible refine (key_any pn ps X2 (HT8.out.keep hS2) HPS.out).mono ?_)
          rintro e X3 ⟨Ak, ck, rfl, hk1, hk2, hkr3, hbb⟩
          have hS3 := hS2.trans (hbb.mono hS2.size)
          have hG3 := hG2.keep hbb
          clear hbb
          refine hK.out _ _ hS3 (fun hHeld => ?_)
          clear hK K
          try simp only [Act.put]
          refine wpAnyH_ready (rs := [11]) (by kernel_rfl) (by simp) (AllReadyH.cons rfl (fun K hK => ?_) AllReadyH.nil)
          go_simp
          go_at_call 63
          refine (check_one X3 Ak At A0 ck (c - E) E c G (keyS ps) TL BO (HT8.out.keep hS3) (keyS_length _) hk1 hk2 hkr3 HTL.out (HRT.out X3 hS3) (HPB.out X3 hS3) (by omega) hG3).mono ?_
          rintro e X9 ⟨rfl, hbb⟩
          have hS9 := hS3.trans (hbb.mono hS3.size)
          clear hbb
          obtain ⟨bq, hbq⟩ : ∃ b, decide ((tagS (keyS ps) BO).take 16 = TL) = b := ⟨_, rfl⟩
          rw [hbq]
          have HBQ := Lib.hid hbq
          clear hbq
          refine hK.out _ _ hS9 (fun hHeld => ?_)
          clear hK K
          try simp only [Act.put]
          refine wpAnyH_take (i := 12) (v := .tuple #[.bool bq, .int .i64 0]) rfl (by kernel_rfl) (by kernel_rfl) (by kernel_rfl) (fun _ _ _ h => h) (Or.inl ⟨by rfl, ?_⟩) (by assumption) ?_
          · intro wx hs1; go_simp
          try simp only [Act.put]
          refine wpAnyH_take (i := 13) (v := .bool bq) rfl (by kernel_rfl) (by kernel_rfl) (by kernel_rfl) (fun _ _ _ h => h) (Or.inl ⟨by rfl, ?_⟩) (by assumption) ?_
          · intro wx hs1; go_simp
          try simp only [Act.put]
          refine wpAnyH_take (i := 14) (v := .int .i64 0) rfl (by kernel_rfl) (by kernel_rfl) (by kernel_rfl) (fun _ _ _ h => h) (Or.inl ⟨by rfl, ?_⟩) (by assumption) ?_
          · intro wx hs1; go_simp
          try simp only [Act.put]
          refine wpAnyH_take (i := 15) (v := .bool bq) rfl (by kernel_rfl) (by kernel_rfl) (by kernel_rfl) (fun _ _ _ h => h) (Or.inl ⟨by rfl, ?_⟩) (by assumption) ?_
          · intro wx hs1; go_simp
          try simp only [Act.put]
          refine wpAnyH_take (i := 16) (v := .int .i64 0) rfl (by kernel_rfl) (by kernel_rfl) (by kernel_rfl) (fun _ _ _ h => h) (Or.inl ⟨by rfl, ?_⟩) (by assumption) ?_
          · intro wx hs1; go_simp
          try simp only [Act.put]
          refine wpAnyH_done (by kernel_rfl) ?_ _
          try simp only [List.getElem_toArray, List.getElem_cons_succ, List.getElem_cons_zero]
          go_wp2_with fail
          go_meet
          exact ⟨by rw [HBQ.out], Lib.hid hS9⟩
      case rest =>
        obtain ⟨rfl, HBC⟩ := hcut
        have hbc := HBC.out
        have hd8 := HI8.out.d.keep hbc
        have d0 := hd8.cell 0
        have d1 := hd8.cell 1
        have d2 := hd8.cell 2
        have f0 := hd8.frozen 0
        have f1 := hd8.frozen 1
        have f2 := hd8.frozen 2
        simp only [List.getElem?_toArray, List.getElem?_cons_zero, List.getElem?_cons_succ] at d0 d1 d2
        have hdl := hd8.lt
        have HD8 := Lib.hid hd8
        have HBW := Lib.hid (HB8.out.trans (hbc.mono HB8.out.size))
        clear hd8 hbc
        by_cases hq : (tagS (keyS ps) BO).take 16 = TL
        · rw [show decide ((tagS (keyS ps) BO).take 16 = TL) = true from decide_eq_true hq]
          have HQ := Lib.hid hq
          clear hq
          go_upto_region 11 with (go_at_call 31; (with_reducible refine (must_oneY _ _ _ _ (by first | rfl | (simp; done)) (by first | rfl | (simp; done))).mono ?_); rintro e w9 ⟨⟨v10, rfl⟩, rfl⟩)
          clear d0 d1 d2 f0 f1 f2
          obtain ⟨V0, hV0⟩ : ∃ x, wc.alloc (.cells #[.bool true] 4) = x := ⟨_, rfl⟩
          have hbv : Below wc.heap.size wc V0 := by rw [← hV0]; exact (Below.refl _ _).alloc (Nat.le_refl _) _
          have hdv := HD8.out.keep hbv
          have d0 := hdv.cell 0
          have d1 := hdv.cell 1
          have d2 := hdv.cell 2
          have f0 := hdv.frozen 0
          have f1 := hdv.frozen 1
          have f2 := hdv.frozen 2
          simp only [List.getElem?_toArray, List.getElem?_cons_zero, List.getElem?_cons_succ] at d0 d1 d2
          have HDV := Lib.hid hdv
          have HBV := Lib.hid (HBW.out.trans (hbv.mono HBW.out.size))
          rw [hV0]
          clear hV0 hbv hdv
          go_wp2
          have hz1 := heap_setCell_same V0 w.heap.size 0 _ 0x18 (.int .i64 mm) HDV.out
          simp only [List.setIfInBounds_toArray, List.set_cons_zero] at hz1
          have hz2 := heap_setCell_same _ w.heap.size 1 _ 0x18 (.int .i64 ss) hz1
          simp only [List.setIfInBounds_toArray, List.set_cons_succ, List.set_cons_zero] at hz2
          have hz3 := heap_setCell_same _ w.heap.size 2 _ 0x18 (.int .i64 ii) hz2
          simp only [List.setIfInBounds_toArray, List.set_cons_succ, List.set_cons_zero] at hz3
          have e0 := Blk.cell hz3 0
          have e1 := Blk.cell hz3 1
          have e2 := Blk.cell hz3 2
          simp only [List.getElem?_toArray, List.getElem?_cons_zero, List.getElem?_cons_succ] at e0 e1 e2
          refine bodyPost_ret (v := .agg #[.int .i64 mm, .int .i64 ss, .int .i64 ii]) (by simp [results, Tryz.results35, go_sem, e0, e1, e2]) rfl ⟨?_, by rw [HEO.out, if_pos HQ.out]⟩
          exact ((HBV.out.setCell (p := ⟨w.heap.size, 0, none⟩) (Nat.le_refl _) _).setCell (p := ⟨w.heap.size, 1, none⟩) (Nat.le_refl _) _).setCell (p := ⟨w.heap.size, 2, none⟩) (Nat.le_refl _) _
        · rw [show decide ((tagS (keyS ps) BO).take 16 = TL) = false from decide_eq_false hq]
          have HQ := Lib.hid hq
          clear hq
          go_wp2_with (go_at_call 31; (with_reducible refine (must_oneN _ _ _ _ (by first | rfl | (simp; done)) (by first | rfl | (simp; done))).mono ?_); rintro e w9 ⟨rfl, rfl⟩)
          exact ⟨rfl, HBW.out.alloc HBW.out.size _, by rw [HEO.out, if_neg HQ.out]⟩
  · rw [if_neg h16] at eo
    rw [eo]
    clear eo
    have hne : ¬ ((l4.length : Int) = 16) := by omega
    go_wp2_with (first
      | (go_at_call 62; (with_reducible refine HLF.out.mono ?_); rintro e w8 ⟨rfl, rfl⟩)
      | (go_at_call 31; (with_reducible refine (must_oneN _ _ _ _ (by first | rfl | (simp; done)) (by first | rfl | (simp; done) | (simp; omega))).mono ?_); rintro e w9 ⟨rfl, rfl⟩))
    exact ⟨rfl, HI4.out.below.alloc HI4.out.below.size _, rfl⟩
end Go.Proofs
