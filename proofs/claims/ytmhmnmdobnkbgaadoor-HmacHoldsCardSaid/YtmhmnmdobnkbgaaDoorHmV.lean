/-
  The walk of the law HmacHolds, where works is under contract (the hypothesis hw5).
-/
import Derived.Deep.CutRange
import Derived.Test.YtmhmnmdobnkbgaaDoorHmO
import Derived.Test.YtmhmnmdobnkbgaaDoorM18
namespace Go.Proofs
open Go.RowKit Sm
theorem Sm.allK_pre (key lb : List (BitVec 8)) (j : Nat) : ∀ d, ∃ r, allK key lb (j + d) = allK key lb j ++ r
  | 0 => ⟨[], by simp⟩
  | d + 1 => by
    obtain ⟨r, hr⟩ := allK_pre key lb j d
    exact ⟨r ++ lastK key lb (j + d + 1), by rw [← Nat.add_assoc, allK, hr, List.append_assoc]⟩
theorem Sm.deriveS_take (key lb : List (BitVec 8)) (n m : Nat) (h : n ≤ m) : (deriveS key lb m).take n = deriveS key lb n := by
  unfold deriveS
  obtain ⟨d, hd⟩ : ∃ d, (m + 31) / 32 = (n + 31) / 32 + d := ⟨(m + 31) / 32 - (n + 31) / 32, by omega⟩
  obtain ⟨r, hr⟩ := allK_pre key lb ((n + 31) / 32) d
  rw [hd, hr, List.take_take, Nat.min_eq_left h, List.take_append_of_le_length (by rw [allK_length]; omega)]
theorem Sm.deriveS_len (key lb : List (BitVec 8)) (N : Nat) : (deriveS key lb N).length = N := by
  unfold deriveS
  rw [List.length_take, allK_length]
  omega
theorem Sm.tag_noughts (key b : List (BitVec 8)) (k : Nat) (h : key.length + k ≤ 64) : tagS (key ++ List.replicate k 0#8) b = tagS key b := by
  have hb : blockB (key ++ List.replicate k 0#8) = blockB key := by
    unfold blockB keyB
    rw [if_neg (by rw [List.length_append, List.length_replicate]; omega), if_neg (by omega)]
    unfold pad
    rw [List.append_assoc, List.length_append, List.length_replicate, List.replicate_append_replicate]
    congr 2
    omega
  unfold tagS hmHalf
  rw [hb]
section
variable {P : Program} (w : World)
theorem Sm.zeros_none (t tn ty e : TypeId) (i : TypeInfo) (z : Value) (kq kn : IntKind) (ht : P.underlying t = some (.slice e)) (htn : P.underlying tn = some (.int kn)) (hi : P.info? e = some i) (hz : i.zero = some z)
    (hby : i.bytes = 1) (b : Option Addr) (n c : Nat) (hc : n ≤ c) :
    (Builtin.append_ #[t, tn] ty #[.slice b n c, .int kq 0]).run P w = .ok (.slice b n c) w := by
  have hw : IntKind.i64.wrap 0 = 0 := rfl
  cases b <;> simp [Builtin.append_, run_underlying ht, run_underlying htn, sizeOf, typeInfo, zeroValue, hi, hz, hby, asInt, asIntOf, hw, Builtin.lenOf, hc, storeCells]
theorem Sm.wpList_append_none {ops : Array Oper} {rest : List Oper} {o : Oper} {a : Act} {Q : Exit → Act → World → Prop} (hgd : o.guard = none) (s x : Operand) (t tn : TypeId)
    (ho : o.op = .call { callee := .builtin .append, args := #[s, x], argTypes := #[t, tn] })
    (e : TypeId) (i : TypeInfo) (z : Value) (kq kn : IntKind) (ht : P.underlying t = some (.slice e)) (htn : P.underlying tn = some (.int kn)) (hi : P.info? e = some i) (hz : i.zero = some z)
    (hby : i.bytes = 1) (b : Option Addr) (n c : Nat) (hs : a.eval s = .slice b n c) (hc : n ≤ c) (hx : a.eval x = .int kq 0)
    (h : wpList P ops Q rest (a.put o.dst (.slice b n c)) w) : wpList P ops Q (o :: rest) a w := by
  refine wpList_plain hgd fun K hK => ?_
  have hrun := zeros_none (P := P) w t tn o.type e i z kq kn ht htn hi hz hby b n c hc
  unfold Oper.wp execOp
  simp only [ho, resolve, invoke, builtin, Sem.run_bind, Sem.run_pure, Result.andThen_ok, List.map_toArray, List.map_cons, List.map_nil, hs, hx, hrun]
  exact hK _ _ h
end
theorem Sm.own_mx {w : World} {base n c : Nat} {e : TypeId} {A : Option Addr} {xs : List Value} (h : w.ownsRow base e 1 (.slice A n c) n xs) : c ≤ 9223372036854775807 := by
  rcases h.2 with ⟨e, e2⟩ | ⟨k, cap, cur, e, hb, hk, hnc, hcm, hcs, htake⟩
  · simp only [Value.slice.injEq] at e
    omega
  · simp only [Value.slice.injEq] at e
    obtain ⟨rfl, _, rfl⟩ := e
    unfold maxLen at hcm
    omega
set_option maxRecDepth 100000 in
set_option maxHeartbeats 4000000 in
theorem Sm.holds5_no (hw5 : Works5) (n1 c1 nb cb : Nat) (A1 Ab : Option Addr) (cut nts n m : Int) (w : World) (ht : Tabs w) (h : 200 < n1 ∨ 300 < nb ∨ n < 0 ∨ m < n ∨ 200 < m) :
    Calls Tryd.prog 9 #[.slice A1 n1 c1, .slice Ab nb cb, .int .i64 cut, .int .i64 nts, .int .i64 n, .int .i64 m] w fun e w' => e = .returned (.bool true) ∧ Below w.heap.size w w' := by
  have hw := hw5 w ht
  clear hw5 ht
  by_cases h1 : (200 : Int) < (n1 : Int)
  · clear h
    go_enter Tryd.func9, Tryd.ntmps9
    go_wp2_with (go_at_call 14; (with_reducible refine hw.mono ?_); clear hw; rintro e w1 ⟨rfl, hb⟩)
    go_ret
    exact ⟨rfl, hb⟩
  · by_cases h2 : (300 : Int) < (nb : Int)
    · clear h
      go_enter Tryd.func9, Tryd.ntmps9
      go_wp2_with (go_at_call 14; (with_reducible refine hw.mono ?_); clear hw; rintro e w1 ⟨rfl, hb⟩)
      go_ret
      exact ⟨rfl, hb⟩
    · by_cases h3 : n < 0
      · clear h
        go_enter Tryd.func9, Tryd.ntmps9
        go_wp2_with (go_at_call 14; (with_reducible refine hw.mono ?_); clear hw; rintro e w1 ⟨rfl, hb⟩)
        go_ret
        exact ⟨rfl, hb⟩
      · by_cases h4 : m < n
        · clear h
          go_enter Tryd.func9, Tryd.ntmps9
          go_wp2_with (go_at_call 14; (with_reducible refine hw.mono ?_); clear hw; rintro e w1 ⟨rfl, hb⟩)
          go_ret
          exact ⟨rfl, hb⟩
        · have h5 : 200 < m := by omega
          clear h
          go_enter Tryd.func9, Tryd.ntmps9
          go_wp2_with (go_at_call 14; (with_reducible refine hw.mono ?_); clear hw; rintro e w1 ⟨rfl, hb⟩)
          go_ret
          exact ⟨rfl, hb⟩
set_option maxRecDepth 100000 in
set_option maxHeartbeats 8000000 in
theorem Sm.holds5_yes (hw5 : Works5) (n1 c1 nb cb n m : Nat) (A1 Ab : Option Addr) (cut nts : Int) (key b : List (BitVec 8)) (w : World) (ht : Tabs w) (hn1 : n1 ≤ 200) (hnb : nb ≤ 300) (hnm : n ≤ m) (hm : m ≤ 200) (hk : key.length = n1) (hr : Rd w w.heap.size A1 key) (hc : n1 ≤ c1 ∧ c1 ≤ 9223372036854775807) (hbl : b.length = nb) (hrb : Rd w w.heap.size Ab b) (hcb : nb ≤ cb ∧ cb ≤ 9223372036854775807) :
    Calls Tryd.prog 9 #[.slice A1 n1 c1, .slice Ab nb cb, .int .i64 cut, .int .i64 nts, .int .i64 (n : Int), .int .i64 (m : Int)] w fun e w' => e = .returned (.bool true) ∧ Below w.heap.size w w' := by
  obtain ⟨i0, hi, hz0, hz1, hz2⟩ := info_parts info5
  obtain ⟨a, ham⟩ : ∃ a : Nat, max 0 (min (nb : Int) cut) = (a : Int) := ⟨(max 0 (min (nb : Int) cut)).toNat, by omega⟩
  have hanb : a ≤ nb := by omega
  have hTl := tagS_length key b
  obtain ⟨D, hD⟩ : ∃ D, tagS key b = D := ⟨_, rfl⟩
  rw [hD] at hTl
  have htg : ∀ (v : World) (A3 : Option Addr) (n2 n3 c2 c3 : Nat) (k3 : List (BitVec 8)) (ps : List Pt), Below w.heap.size w v → k3.length = n3 → n3 ≤ 1000 → n3 ≤ c3 → c3 ≤ 9223372036854775807 → Rd v v.heap.size A3 k3 → tagS k3 b = D → joinP ps = b → ∀ A2, (∀ g, v.heap.size ≤ g → PsOK v g A2 n2 ps) → Calls Tryd.prog 15 #[.slice A3 n3 c3, .slice A2 n2 c2] v fun e w' => e = .returned (.agg (bvs D)) ∧ Below v.heap.size v w' := by
    intro v A3 n2 n3 c2 c3 k3 ps hv hl hn3 h1 h2 h3 h4 h5 A2 hps
    have := Tag_any n3 c3 n2 c2 A3 A2 k3 ps v (ht.keep hv) hl hn3 h1 h2 h3 hps (by rw [h5]; omega)
    rw [h5, h4] at this
    exact this
  have hd : ∀ (v : World) (N : Nat), Below w.heap.size w v → N ≤ 200 → Calls Tryd.prog 20 #[.slice A1 n1 c1, .string ⟨#[97]⟩, .int .i64 (N : Int)] v fun e w' => ∃ A' c', e = .returned (.tuple #[.slice A' N c', .int .i64 0]) ∧ Rd w' w'.heap.size A' (deriveS key (sB ⟨#[97]⟩) N) ∧ Below v.heap.size v w' ∧ N ≤ c' := fun v N hv hN =>
    Derive_yes N n1 c1 A1 key ⟨#[97]⟩ v (ht.keep hv) hk (by omega) hc.1 hc.2 ((hr.below hv).more hv.size) (by decide) (by omega)
  have hx1 : ¬ ((200 : Int) < (n1 : Int)) := by omega
  have hx2 : ¬ ((300 : Int) < (nb : Int)) := by omega
  have hx3 : ¬ ((n : Int) < 0) := by omega
  have hx4 : ¬ ((m : Int) < (n : Int)) := by omega
  have hx5 : ¬ ((200 : Int) < (m : Int)) := by omega
  have HW5 := Lib.hid hw5
  have HT := Lib.hid ht
  have HTG := Lib.hid htg
  have HDV := Lib.hid hd
  have HDL := Lib.hid hTl
  have HDE := Lib.hid hD
  have HK := Lib.hid (And.intro hk (And.intro hr hc))
  have HBB := Lib.hid (And.intro hbl (And.intro hrb hcb))
  have HAM := Lib.hid ham
  clear hw5 ht htg hd hTl hD hk hr hc hbl hrb hcb ham
  go_enter Tryd.func9, Tryd.ntmps9
  go_upto_region 3 with fail
  go_cut [13] from 44 to 48 (fun s13 wx => s13 = .int .i64 (a : Int) ∧ wx = w)
  case first =>
    have ham := HAM.out
    by_cases h1 : cut < (nb : Int)
    · by_cases h2 : 0 < cut
      · obtain rfl : cut = (a : Int) := by omega
        clear ham
        go_wp2_with fail
        go_meet
        exact ⟨rfl, rfl⟩
      · obtain rfl : a = 0 := by omega
        clear ham
        go_wp2_with fail
        go_meet
        exact ⟨rfl, rfl⟩
    · obtain rfl : a = nb := by omega
      clear ham
      by_cases h2 : (0 : Int) < (a : Int)
      · go_wp2_with fail
        go_meet
        exact ⟨rfl, rfl⟩
      · obtain rfl : a = 0 := by omega
        go_wp2_with fail
        go_meet
        exact ⟨rfl, rfl⟩
  case rest =>
    obtain ⟨rfl, hwc⟩ := hcut
    subst hwc
    obtain ⟨w0, rfl⟩ : ∃ v : World, v = wc := ⟨_, rfl⟩
    have hW1e : ∃ W, w0.alloc (.cells #[.slice Ab nb cb] 0x16) = W := ⟨_, rfl⟩
    obtain ⟨W1, hW1⟩ := hW1e
    have hb1 : Below w0.heap.size w0 W1 := by rw [← hW1]; exact (Below.refl _ _).alloc (Nat.le_refl _) _
    have hrow1 : Blk W1 w0.heap.size 0x16 (([⟨Ab, nb, cb, b⟩] : List Pt).map Pt.val).toArray := by rw [← hW1]; exact row_new w0 [⟨Ab, nb, cb, b⟩]
    have hs1 : W1.heap.size = w0.heap.size + 1 := by rw [← hW1]; simp
    have ht1 := HTG.out W1 A1 1 n1 1 c1 key [⟨Ab, nb, cb, b⟩] hb1 HK.out.1 (by omega) HK.out.2.2.1 HK.out.2.2.2 ((HK.out.2.1.below hb1).more hb1.size) HDE.out (by simp [joinP]) (some ⟨w0.heap.size, 0, none⟩) (fun g hg => parts_ok hrow1 hb1 rfl (by show 1 ≤ 1000000; decide) g (by omega) (fun p hp => by
      simp only [List.mem_cons, List.not_mem_nil, or_false] at hp
      subst hp
      exact pt_of_rd HBB.out.1 HBB.out.2.2.1 HBB.out.2.2.2 HBB.out.2.1 g (by omega)))
    have HT1 := Lib.hid ht1
    have HB1 := Lib.hid hb1
    clear ht1 hrow1 hs1 hb1
    go_upto_region 5 with (first
      | (go_at_call 15; (with_reducible refine HT1.out.mono ?_); rintro e w2 ⟨rfl, hb2⟩)
      | (refine wpList_store_row rfl 0x1b _ _ rfl w2.heap.size (bvs D) rfl rfl 0x1b (bvs (List.replicate 32 0#8)) (World.alloc_heap_new w2 _) (i36 D HDL.out) (by rw [bvs_size, bvs_size, HDL.out]; rfl) (bvs_one D) ?_))
    rw [zu32_eq]
    obtain ⟨X, hX⟩ : ∃ X, (w2.alloc (.cells (bvs (List.replicate 32 0#8)) 0x1b)).setRow w2.heap.size (bvs D) = X := ⟨_, rfl⟩
    obtain ⟨tb, htb⟩ : ∃ b, w2.heap.size = b := ⟨_, rfl⟩
    have hBX : Blk X tb 0x1b (bvs D) := by rw [← hX, ← htb]; exact setRow_heap _ _ _ _ _ _ (World.alloc_heap_new w2 _)
    have hbX : Below w0.heap.size w0 X := by
      have h1 := HB1.out.trans (hb2.mono HB1.out.size)
      rw [← hX]; exact below_setRow (h1.alloc h1.size _) h1.size _
    rw [hX, htb]
    have HBX := Lib.hid hBX
    have HX := Lib.hid hbX
    clear hX htb hBX hbX hb2 HT1 HB1 hW1
    have hcu1 := cut_h Ab nb cb a (by have := HBB.out.2.2.1; omega)
    have hcu2 := cut_l Ab nb cb a (by omega)
    have HCU := Lib.hid (And.intro hcu1 hcu2)
    clear hcu1 hcu2
    unfold Act.put
    simp only []
    go_cut [15] from 53 to 61 (fun s15 wx => ∃ p : Nat, s15 = .pointer (some ⟨p, 0, none⟩) ∧ X.heap.size ≤ p ∧ Hid (Blk wx p 0x1b (bvs D)) ∧ Hid (Below X.heap.size X wx))
    case first =>
      have hdr : Below X.heap.size X X.drew := (Below.refl _ _).drew
      have hds : X.drew.heap.size = X.heap.size := rfl
      obtain ⟨V0, hV0⟩ : ∃ V, X.drew = V := ⟨_, rfl⟩
      rw [hV0] at hdr hds
      have htgw : ∀ (v : World) (q : Nat), V0.heap.size ≤ q → Below V0.heap.size V0 v → Blk v q 0x16 (([⟨cutA Ab 0 cb, a, cb, b.take a⟩, ⟨cutA Ab a cb, nb - a, cb - a, b.drop a⟩] : List Pt).map Pt.val).toArray → Calls Tryd.prog 15 #[.slice A1 n1 c1, .slice (some ⟨q, 0, none⟩) 2 2] v fun e w' => e = .returned (.agg (bvs D)) ∧ Below v.heap.size v w' := by
        intro v q hq hv hblk
        have hbv := HX.out.trans (((hdr.trans (hv.mono hdr.size))).mono HX.out.size)
        have hql := hblk.lt
        have hlen := HBB.out.1
        refine HTG.out v A1 2 n1 2 c1 key [⟨cutA Ab 0 cb, a, cb, b.take a⟩, ⟨cutA Ab a cb, nb - a, cb - a, b.drop a⟩] hbv HK.out.1 (by omega) HK.out.2.2.1 HK.out.2.2.2 ((HK.out.2.1.below hbv).more hbv.size) HDE.out (by simp [joinP]) (some ⟨q, 0, none⟩) (fun g hg => parts_ok hblk hbv rfl (by show 2 ≤ 1000000; decide) g (by omega) (fun p hp => ?_))
        have hpt := pt_of_rd hlen HBB.out.2.2.1 HBB.out.2.2.2 HBB.out.2.1 g (by have := hbv.size; omega)
        simp only [List.mem_cons, List.not_mem_nil, or_false] at hp
        rcases hp with rfl | rfl
        · have := hpt.cut 0 a (Nat.zero_le _) hanb
          simpa using this
        · have := hpt.cut a nb hanb (Nat.le_refl _)
          rw [List.take_of_length_le (by omega)] at this
          exact this
      have HTGW := Lib.hid htgw
      have hXV : X.heap.size ≤ V0.heap.size := by omega
      clear htgw hds
      refine wp_region_held_drew (S := fun _ => True) rfl trivial (fun hHeld => ?_)
      simp only [List.size_toArray, List.length_cons, List.length_nil, Nat.reduceAdd]
      rw [hV0]
      clear hV0
      refine wpAnyH_take (i := 0) (v := .slice A1 n1 c1) rfl (by kernel_rfl) (by kernel_rfl) (by kernel_rfl) (fun _ _ _ h => h) (Or.inl ⟨by rfl, ?_⟩) trivial ?_
      · intro wx _; go_simp
      try simp only [Act.put]
      refine wpAnyH_take (i := 1) (v := .slice Ab nb cb) rfl (by kernel_rfl) (by kernel_rfl) (by kernel_rfl) (fun _ _ _ h => h) (Or.inl ⟨by rfl, ?_⟩) trivial ?_
      · intro wx _; go_simp
      try simp only [Act.put]
      refine wpAnyH_take (i := 2) (v := .int .i64 (a : Int)) rfl (by kernel_rfl) (by kernel_rfl) (by kernel_rfl) (fun _ _ _ h => h) (Or.inl ⟨by rfl, ?_⟩) trivial ?_
      · intro wx _; go_simp
      try simp only [Act.put]
      refine wpAnyH_take (i := 3) (v := .slice (cutA Ab 0 cb) a cb) rfl (by kernel_rfl) (by kernel_rfl) (by kernel_rfl) (fun _ _ _ h => h) (Or.inl ⟨by rfl, ?_⟩) trivial ?_
      · intro wx _; have e := HCU.out.1 wx; go_simp
      try simp only [Act.put]
      refine wpAnyH_take (i := 4) (v := .slice Ab nb cb) rfl (by kernel_rfl) (by kernel_rfl) (by kernel_rfl) (fun _ _ _ h => h) (Or.inl ⟨by rfl, ?_⟩) trivial ?_
      · intro wx _; go_simp
      try simp only [Act.put]
      refine wpAnyH_take (i := 5) (v := .int .i64 (a : Int)) rfl (by kernel_rfl) (by kernel_rfl) (by kernel_rfl) (fun _ _ _ h => h) (Or.inl ⟨by rfl, ?_⟩) trivial ?_
      · intro wx _; go_simp
      try simp only [Act.put]
      refine wpAnyH_take (i := 6) (v := .slice (cutA Ab a cb) (nb - a) (cb - a)) rfl (by kernel_rfl) (by kernel_rfl) (by kernel_rfl) (fun _ _ _ h => h) (Or.inl ⟨by rfl, ?_⟩) trivial ?_
      · intro wx _; have e := HCU.out.2 wx; go_simp
      try simp only [Act.put]
      have hb0 : Below V0.heap.size V0 V0 := Below.refl _ _
      refine wpAnyH_ready (rs := [7, 9]) (by kernel_rfl) (by simp) (AllReadyH.cons rfl (fun K hK => ?_) (AllReadyH.cons rfl (fun K hK => ?_) AllReadyH.nil))
      · go_simp
        have hb : Below V0.heap.size V0 (V0.alloc (.cells (([⟨cutA Ab 0 cb, a, cb, b.take a⟩, ⟨cutA Ab a cb, nb - a, cb - a, b.drop a⟩] : List Pt).map Pt.val).toArray 0x16)) := (Below.refl _ _).alloc (Nat.le_refl _) _
        have h7 := row_new V0 [⟨cutA Ab 0 cb, a, cb, b.take a⟩, ⟨cutA Ab a cb, nb - a, cb - a, b.drop a⟩]
        obtain ⟨q, hq⟩ : ∃ b, V0.heap.size = b := ⟨_, rfl⟩
        have hqe : V0.heap.size ≤ q := by have := hb0.size; omega
        obtain ⟨V1, hV⟩ : ∃ V, V0.alloc (.cells #[.slice (cutA Ab 0 cb) a cb, .slice (cutA Ab a cb) (nb - a) (cb - a)] 0x16) = V := ⟨_, rfl⟩
        have h7 : Blk V1 q 0x16 (([⟨cutA Ab 0 cb, a, cb, b.take a⟩, ⟨cutA Ab a cb, nb - a, cb - a, b.drop a⟩] : List Pt).map Pt.val).toArray := by rw [← hV, ← hq]; exact h7
        have hb : Below V0.heap.size V0 V1 := by rw [← hV]; exact hb
        rw [hV, hq]
        have HQ1 := Lib.hid h7
        clear hV hq h7
        have hb1 : Below V0.heap.size V0 V1 := hb0.trans (hb.mono hb0.size)
        refine hK.out _ _ trivial (fun hHeld => ?_)
        clear hK K hb
        try simp only [Act.put]
        refine wpAnyH_ready (rs := [8, 9]) (by kernel_rfl) (by simp) (AllReadyH.cons rfl (fun K hK => ?_) (AllReadyH.cons rfl (fun K hK => ?_) AllReadyH.nil))
        · go_simp
          go_at_call 15
          (with_reducible refine (HTGW.out V1 q hqe hb1 HQ1.out).mono ?_)
          rintro e V2 ⟨rfl, hb⟩
          have hb2 : Below V0.heap.size V0 V2 := hb1.trans (hb.mono hb1.size)
          refine hK.out _ _ trivial (fun hHeld => ?_)
          clear hK K hb
          try simp only [Act.put]
          refine wpAnyH_ready (rs := [9]) (by kernel_rfl) (by simp) (AllReadyH.cons rfl (fun K hK => ?_) AllReadyH.nil)
          · go_simp
            rw [zu32_eq]
            have hb : Below V2.heap.size V2 (V2.alloc (.cells (bvs (List.replicate 32 0#8)) 0x1b)) := (Below.refl _ _).alloc (Nat.le_refl _) _
            have h11 := Blk.new V2 0x1b (bvs (List.replicate 32 0#8))
            obtain ⟨p, hpe⟩ : ∃ b, V2.heap.size = b := ⟨_, rfl⟩
            obtain ⟨V3, hV⟩ : ∃ V, V2.alloc (.cells (bvs (List.replicate 32 0#8)) 0x1b) = V := ⟨_, rfl⟩
            rw [hV, hpe] at h11; rw [hV] at hb; rw [hV, hpe]
            have hp : V0.heap.size ≤ p := by have := hb2.size; omega
            clear hV hpe; have HP3 := Lib.hid h11; clear h11
            have hb3 : Below V0.heap.size V0 V3 := hb2.trans (hb.mono hb2.size)
            refine hK.out _ _ trivial (fun hHeld => ?_)
            clear hK K hb
            try simp only [Act.put]
            refine wpAnyH_ready (rs := [10]) (by kernel_rfl) (by simp) (AllReadyH.cons rfl (fun K hK => ?_) AllReadyH.nil)
            · rw [if_pos (by rfl)]
              refine wp_store_row 0x1b _ _ rfl p (bvs D) rfl rfl 0x1b (bvs (List.replicate 32 0#8)) HP3.out (i36 D HDL.out) (by rw [bvs_size, bvs_size, HDL.out]; rfl) (bvs_one D) ?_
              obtain ⟨V4, hV⟩ : ∃ V, V3.setRow p (bvs D) = V := ⟨_, rfl⟩
              have h12 : Blk V4 p 0x1b (bvs D) := by rw [← hV]; exact setRow_heap _ _ _ _ _ _ HP3.out
              have hb4 : Below V0.heap.size V0 V4 := by rw [← hV]; exact below_setRow hb3 hp _
              rw [hV]
              have HPB4 := Lib.hid h12
              refine hK.out _ _ trivial (fun hHeld => ?_)
              clear hK K hV h12
              try simp only [Act.put]
              refine wpAnyH_done (by kernel_rfl) ?_ _
              simp only [List.getElem_toArray, List.getElem_cons_succ, List.getElem_cons_zero]
              go_wp2_with fail
              go_meet
              exact ⟨p, rfl, Nat.le_trans hXV hp, HPB4, Lib.hid (hdr.trans (hb4.mono hdr.size))⟩
        · go_simp
          rw [zu32_eq]
          have hb : Below V1.heap.size V1 (V1.alloc (.cells (bvs (List.replicate 32 0#8)) 0x1b)) := (Below.refl _ _).alloc (Nat.le_refl _) _
          have h11 := Blk.new V1 0x1b (bvs (List.replicate 32 0#8))
          obtain ⟨p, hpe⟩ : ∃ b, V1.heap.size = b := ⟨_, rfl⟩
          obtain ⟨V2, hV⟩ : ∃ V, V1.alloc (.cells (bvs (List.replicate 32 0#8)) 0x1b) = V := ⟨_, rfl⟩
          rw [hV, hpe] at h11; rw [hV] at hb; rw [hV, hpe]
          have hp : V0.heap.size ≤ p := by have := hb1.size; omega
          clear hV hpe; have HP2 := Lib.hid h11; clear h11
          have hb2 : Below V0.heap.size V0 V2 := hb1.trans (hb.mono hb1.size)
          have HQ2 := Lib.hid (Blk.keep HQ1.out hb)
          refine hK.out _ _ trivial (fun hHeld => ?_)
          clear hK K hb
          try simp only [Act.put]
          refine wpAnyH_ready (rs := [8]) (by kernel_rfl) (by simp) (AllReadyH.cons rfl (fun K hK => ?_) AllReadyH.nil)
          · go_simp
            go_at_call 15
            (with_reducible refine (HTGW.out V2 q hqe hb2 HQ2.out).mono ?_)
            rintro e V3 ⟨rfl, hb⟩
            have hb3 : Below V0.heap.size V0 V3 := hb2.trans (hb.mono hb2.size)
            have HP3 := Lib.hid (Blk.keep HP2.out hb)
            refine hK.out _ _ trivial (fun hHeld => ?_)
            clear hK K hb
            try simp only [Act.put]
            refine wpAnyH_ready (rs := [10]) (by kernel_rfl) (by simp) (AllReadyH.cons rfl (fun K hK => ?_) AllReadyH.nil)
            · rw [if_pos (by rfl)]
              refine wp_store_row 0x1b _ _ rfl p (bvs D) rfl rfl 0x1b (bvs (List.replicate 32 0#8)) HP3.out (i36 D HDL.out) (by rw [bvs_size, bvs_size, HDL.out]; rfl) (bvs_one D) ?_
              obtain ⟨V4, hV⟩ : ∃ V, V3.setRow p (bvs D) = V := ⟨_, rfl⟩
              have h12 : Blk V4 p 0x1b (bvs D) := by rw [← hV]; exact setRow_heap _ _ _ _ _ _ HP3.out
              have hb4 : Below V0.heap.size V0 V4 := by rw [← hV]; exact below_setRow hb3 hp _
              rw [hV]
              have HPB4 := Lib.hid h12
              refine hK.out _ _ trivial (fun hHeld => ?_)
              clear hK K hV h12
              try simp only [Act.put]
              refine wpAnyH_done (by kernel_rfl) ?_ _
              simp only [List.getElem_toArray, List.getElem_cons_succ, List.getElem_cons_zero]
              go_wp2_with fail
              go_meet
              exact ⟨p, rfl, Nat.le_trans hXV hp, HPB4, Lib.hid (hdr.trans (hb4.mono hdr.size))⟩
      · go_simp
        rw [zu32_eq]
        have hb : Below V0.heap.size V0 (V0.alloc (.cells (bvs (List.replicate 32 0#8)) 0x1b)) := (Below.refl _ _).alloc (Nat.le_refl _) _
        have h11 := Blk.new V0 0x1b (bvs (List.replicate 32 0#8))
        obtain ⟨p, hpe⟩ : ∃ b, V0.heap.size = b := ⟨_, rfl⟩
        obtain ⟨V1, hV⟩ : ∃ V, V0.alloc (.cells (bvs (List.replicate 32 0#8)) 0x1b) = V := ⟨_, rfl⟩
        rw [hV, hpe] at h11; rw [hV] at hb; rw [hV, hpe]
        have hp : V0.heap.size ≤ p := by have := hb0.size; omega
        clear hV hpe; have HP1 := Lib.hid h11; clear h11
        have hb1 : Below V0.heap.size V0 V1 := hb0.trans (hb.mono hb0.size)
        refine hK.out _ _ trivial (fun hHeld => ?_)
        clear hK K hb
        try simp only [Act.put]
        refine wpAnyH_ready (rs := [7]) (by kernel_rfl) (by simp) (AllReadyH.cons rfl (fun K hK => ?_) AllReadyH.nil)
        · go_simp
          have hb : Below V1.heap.size V1 (V1.alloc (.cells (([⟨cutA Ab 0 cb, a, cb, b.take a⟩, ⟨cutA Ab a cb, nb - a, cb - a, b.drop a⟩] : List Pt).map Pt.val).toArray 0x16)) := (Below.refl _ _).alloc (Nat.le_refl _) _
          have h7 := row_new V1 [⟨cutA Ab 0 cb, a, cb, b.take a⟩, ⟨cutA Ab a cb, nb - a, cb - a, b.drop a⟩]
          obtain ⟨q, hq⟩ : ∃ b, V1.heap.size = b := ⟨_, rfl⟩
          have hqe : V0.heap.size ≤ q := by have := hb1.size; omega
          obtain ⟨V2, hV⟩ : ∃ V, V1.alloc (.cells #[.slice (cutA Ab 0 cb) a cb, .slice (cutA Ab a cb) (nb - a) (cb - a)] 0x16) = V := ⟨_, rfl⟩
          have h7 : Blk V2 q 0x16 (([⟨cutA Ab 0 cb, a, cb, b.take a⟩, ⟨cutA Ab a cb, nb - a, cb - a, b.drop a⟩] : List Pt).map Pt.val).toArray := by rw [← hV, ← hq]; exact h7
          have hb : Below V1.heap.size V1 V2 := by rw [← hV]; exact hb
          rw [hV, hq]
          have HQ2 := Lib.hid h7
          clear hV hq h7
          have hb2 : Below V0.heap.size V0 V2 := hb1.trans (hb.mono hb1.size)
          have HP2 := Lib.hid (Blk.keep HP1.out hb)
          refine hK.out _ _ trivial (fun hHeld => ?_)
          clear hK K hb
          try simp only [Act.put]
          refine wpAnyH_ready (rs := [8]) (by kernel_rfl) (by simp) (AllReadyH.cons rfl (fun K hK => ?_) AllReadyH.nil)
          · go_simp
            go_at_call 15
            (with_reducible refine (HTGW.out V2 q hqe hb2 HQ2.out).mono ?_)
            rintro e V3 ⟨rfl, hb⟩
            have hb3 : Below V0.heap.size V0 V3 := hb2.trans (hb.mono hb2.size)
            have HP3 := Lib.hid (Blk.keep HP2.out hb)
            refine hK.out _ _ trivial (fun hHeld => ?_)
            clear hK K hb
            try simp only [Act.put]
            refine wpAnyH_ready (rs := [10]) (by kernel_rfl) (by simp) (AllReadyH.cons rfl (fun K hK => ?_) AllReadyH.nil)
            · rw [if_pos (by rfl)]
              refine wp_store_row 0x1b _ _ rfl p (bvs D) rfl rfl 0x1b (bvs (List.replicate 32 0#8)) HP3.out (i36 D HDL.out) (by rw [bvs_size, bvs_size, HDL.out]; rfl) (bvs_one D) ?_
              obtain ⟨V4, hV⟩ : ∃ V, V3.setRow p (bvs D) = V := ⟨_, rfl⟩
              have h12 : Blk V4 p 0x1b (bvs D) := by rw [← hV]; exact setRow_heap _ _ _ _ _ _ HP3.out
              have hb4 : Below V0.heap.size V0 V4 := by rw [← hV]; exact below_setRow hb3 hp _
              rw [hV]
              have HPB4 := Lib.hid h12
              refine hK.out _ _ trivial (fun hHeld => ?_)
              clear hK K hV h12
              try simp only [Act.put]
              refine wpAnyH_done (by kernel_rfl) ?_ _
              simp only [List.getElem_toArray, List.getElem_cons_succ, List.getElem_cons_zero]
              go_wp2_with fail
              go_meet
              exact ⟨p, rfl, Nat.le_trans hXV hp, HPB4, Lib.hid (hdr.trans (hb4.mono hdr.size))⟩
    case rest =>
      obtain ⟨p, rfl, hpX, HPU, HBU⟩ := hcut
      have hbu := HX.out.trans (HBU.out.mono HX.out.size)
      have HBX2 := Lib.hid (HBX.out.keep HBU.out)
      have hdn := Lib.hid (HDV.out wc n hbu (by omega))
      have HBW := Lib.hid hbu
      clear hbu HBX HX HBU
      go_upto_region 7 with (go_at_call 20; (with_reducible refine hdn.out.mono ?_); rintro e w6 ⟨An, cn, rfl, hrn, hb6, hcn⟩)
      have hb06 := HBW.out.trans (hb6.mono HBW.out.size)
      have HP6 := Lib.hid (HPU.out.keep hb6)
      have HT6 := Lib.hid (HBX2.out.keep hb6)
      have hdm := Lib.hid (HDV.out w6 m hb06 (by omega))
      have HB6 := Lib.hid hb06
      have HRN := Lib.hid hrn
      clear hb06 hb6 hdn HPU HBX2 HBW hrn
      go_upto_region 8 with (go_at_call 20; (with_reducible refine hdm.out.mono ?_); rintro e Y ⟨Am, cm, rfl, hrm, hbY, hcm⟩)
      have hb0Y := HB6.out.trans (hbY.mono HB6.out.size)
      have hpY := HP6.out.keep hbY
      have htY := HT6.out.keep hbY
      have hrnY := (HRN.out.below hbY).more hbY.size
      have hln := deriveS_len key (sB ⟨#[97]⟩) n
      have hlm := deriveS_len key (sB ⟨#[97]⟩) m
      have htk := deriveS_take key (sB ⟨#[97]⟩) n m hnm
      obtain ⟨Dn, hDn⟩ : ∃ d, deriveS key (sB ⟨#[97]⟩) n = d := ⟨_, rfl⟩
      obtain ⟨Dm, hDm⟩ : ∃ d, deriveS key (sB ⟨#[97]⟩) m = d := ⟨_, rfl⟩
      rw [hDn] at hrnY hln htk
      rw [hDm] at hrm hlm htk
      have hcv : ∀ W, Below Y.heap.size Y W → W.rangeAt tb 0 (D.map byteCell) ∧ W.rangeAt p 0 (D.map byteCell) ∧ (convert 0x16 9 (.slice An n cn)).run Tryd.prog W = .ok (.string (strB Dn)) W ∧ (convert 0x16 9 (.slice (cutA Am 0 cm) n cm)).run Tryd.prog W = .ok (.string (strB Dn)) W := fun W hb =>
        ⟨(htY.keep hb).range, (hpY.keep hb).range, conv_rd hln ((hrnY.below hb).more hb.size), conv_rd hln (by rw [← htk]; exact rd_cut0 ((hrm.below hb).more hb.size) n)⟩
      have hcut := fun W => cut_h Am m cm n (by omega) W
      have heq : ∀ w, (Op.equalIn 10000 0x1b (.agg (D.map byteCell).toArray) (.agg (D.map byteCell).toArray)).run Tryd.prog w = .ok true w := fun w => by
        have := blocks_eq w (t := 0x1b) (n := 32) D D Tryd.underlying27 HDL.out HDL.out
        simpa [bvs] using this
      have hu27 := Tryd.underlying27
      have hi27 : (Tryd.prog.info? 0x1b).map (·.size) = some (D.map byteCell).length := by rw [List.length_map, HDL.out]; kernel_rfl
      have HCV := Lib.hid hcv
      have HB0 := Lib.hid hb0Y
      have q0 := hcv Y (Below.refl _ _)
      have q0d := hcv Y.drew (Below.refl _ _).drew
      have HTY := Lib.hid htY
      clear hb0Y hpY htY hrnY hln hlm htk hDn hDm hcv hrm hbY hdm HP6 HT6 HB6 HRN
      go_cut [105] from 74 to 105 (fun s105 wx => s105 = .bool false ∧ Hid (Below Y.heap.size Y wx))
      case first =>
        refine wp_region_held_drew (S := fun W => W.rangeAt tb 0 (D.map byteCell) ∧ W.rangeAt p 0 (D.map byteCell) ∧ (convert 0x16 9 (.slice An n cn)).run Tryd.prog W = .ok (.string (strB Dn)) W ∧ (convert 0x16 9 (.slice (cutA Am 0 cm) n cm)).run Tryd.prog W = .ok (.string (strB Dn)) W) rfl q0d (fun hHeld => ?_)
        simp only [List.size_toArray, List.length_cons, List.length_nil, Nat.reduceAdd]
        obtain ⟨W8, hW8⟩ : ∃ W, Y.drew = W := ⟨_, rfl⟩
        rw [hW8] at hHeld ⊢
        have hb8 : Below Y.heap.size Y W8 := by rw [← hW8]; exact (Below.refl _ _).drew
        clear hW8 q0 q0d
        refine wpAnyH_take (i := 0) (v := .agg (D.map byteCell).toArray) rfl (by kernel_rfl) (by kernel_rfl) (by kernel_rfl) (fun _ _ _ h => h) (yieldsIf_load_mid (by rfl) 0x1b _ rfl tb 0 rfl (D.map byteCell) _ (fun wx hSw => hSw.1) Tryd.underlying27 rfl hi27) (by assumption) ?_
        simp only [Act.put, List.getElem_toArray, List.getElem_cons_zero, List.setIfInBounds_toArray, List.set_cons_zero, List.set_cons_succ]
        refine wpAnyH_take (i := 1) (v := .agg (D.map byteCell).toArray) rfl (by kernel_rfl) (by kernel_rfl) (by kernel_rfl) (fun _ _ _ h => h) (yieldsIf_load_mid (by rfl) 0x1b _ rfl p 0 rfl (D.map byteCell) _ (fun wx hSw => hSw.2.1) Tryd.underlying27 rfl hi27) (by assumption) ?_
        simp only [Act.put, List.getElem_toArray, List.getElem_cons_succ, List.getElem_cons_zero, List.setIfInBounds_toArray, List.set_cons_zero, List.set_cons_succ]
        refine wpAnyH_take (i := 2) (v := .bool false) rfl (by kernel_rfl) (by kernel_rfl) (by kernel_rfl) (fun _ _ _ h => h) (Or.inl ⟨by rfl, ?_⟩) (by assumption) ?_
        · intro wx hs1; have e := heq wx; go_simp
        simp only [Act.put, List.getElem_toArray, List.getElem_cons_succ, List.getElem_cons_zero, List.setIfInBounds_toArray, List.set_cons_zero, List.set_cons_succ]
        refine wpAnyH_take (i := 3) (v := .bool false) rfl (by kernel_rfl) (by kernel_rfl) (by kernel_rfl) (fun _ _ _ h => h) (Or.inl ⟨by rfl, ?_⟩) (by assumption) ?_
        · intro wx hs1; go_simp
        simp only [Act.put, List.getElem_toArray, List.getElem_cons_succ, List.getElem_cons_zero, List.setIfInBounds_toArray, List.set_cons_zero, List.set_cons_succ]
        refine wpAnyH_take (i := 4) (v := .int .i64 0) rfl (by kernel_rfl) (by kernel_rfl) (by kernel_rfl) (fun _ _ _ h => h) (Or.inl ⟨by rfl, ?_⟩) (by assumption) ?_
        · intro wx hs1; go_simp
        simp only [Act.put, List.getElem_toArray, List.getElem_cons_succ, List.getElem_cons_zero, List.setIfInBounds_toArray, List.set_cons_zero, List.set_cons_succ]
        refine wpAnyH_take (i := 6) (v := .int .i64 0) rfl (by kernel_rfl) (by kernel_rfl) (by kernel_rfl) (fun _ _ _ h => h) (Or.inl ⟨by rfl, ?_⟩) (by assumption) ?_
        · intro wx hs1; go_simp
        simp only [Act.put, List.getElem_toArray, List.getElem_cons_succ, List.getElem_cons_zero, List.setIfInBounds_toArray, List.set_cons_zero, List.set_cons_succ]
        refine wpAnyH_ready (rs := [5]) (by kernel_rfl) (by simp) (AllReadyH.cons rfl (fun K hK => ?_) AllReadyH.nil)
        go_simp
        go_at_call 18
        (with_reducible refine (num5_any _ _).mono ?_)
        rintro e w' ⟨rfl, rfl⟩
        refine hK.out _ _ hHeld (fun _ => ?_)
        clear hK K
        try simp only [Act.put]
        refine wpAnyH_ready (rs := [7]) (by kernel_rfl) (by simp) (AllReadyH.cons rfl (fun K hK => ?_) AllReadyH.nil)
        go_simp
        go_at_call 18
        (with_reducible refine (num5_any _ _).mono ?_)
        rintro e w' ⟨rfl, rfl⟩
        refine hK.out _ _ hHeld (fun _ => ?_)
        clear hK K
        try simp only [Act.put]
        refine wpAnyH_take (i := 8) (v := .int .i64 0) rfl (by kernel_rfl) (by kernel_rfl) (by kernel_rfl) (fun _ _ _ h => h) (Or.inl ⟨by rfl, ?_⟩) (by assumption) ?_
        · intro wx hs1; go_simp; rfl
        simp only [Act.put, List.getElem_toArray, List.getElem_cons_succ, List.getElem_cons_zero, List.setIfInBounds_toArray, List.set_cons_zero, List.set_cons_succ]
        refine wpAnyH_take (i := 9) (v := .bool false) rfl (by kernel_rfl) (by kernel_rfl) (by kernel_rfl) (fun _ _ _ h => h) (Or.inl ⟨by rfl, ?_⟩) (by assumption) ?_
        · intro wx hs1; go_simp
        simp only [Act.put, List.getElem_toArray, List.getElem_cons_succ, List.getElem_cons_zero, List.setIfInBounds_toArray, List.set_cons_zero, List.set_cons_succ]
        refine wpAnyH_take (i := 10) (v := .bool false) rfl (by kernel_rfl) (by kernel_rfl) (by kernel_rfl) (fun _ _ _ h => h) (Or.inl ⟨by rfl, ?_⟩) (by assumption) ?_
        · intro wx hs1; go_simp
        simp only [Act.put, List.getElem_toArray, List.getElem_cons_succ, List.getElem_cons_zero, List.setIfInBounds_toArray, List.set_cons_zero, List.set_cons_succ]
        refine wpAnyH_take (i := 11) (v := .bool false) rfl (by kernel_rfl) (by kernel_rfl) (by kernel_rfl) (fun _ _ _ h => h) (Or.inl ⟨by rfl, ?_⟩) (by assumption) ?_
        · intro wx hs1; go_simp
        simp only [Act.put, List.getElem_toArray, List.getElem_cons_succ, List.getElem_cons_zero, List.setIfInBounds_toArray, List.set_cons_zero, List.set_cons_succ]
        refine wpAnyH_take (i := 12) (v := .slice An n cn) rfl (by kernel_rfl) (by kernel_rfl) (by kernel_rfl) (fun _ _ _ h => h) (Or.inl ⟨by rfl, ?_⟩) (by assumption) ?_
        · intro wx hs1; go_simp
        simp only [Act.put, List.getElem_toArray, List.getElem_cons_succ, List.getElem_cons_zero, List.setIfInBounds_toArray, List.set_cons_zero, List.set_cons_succ]
        refine wpAnyH_take (i := 13) (v := .int .i64 (n : Int)) rfl (by kernel_rfl) (by kernel_rfl) (by kernel_rfl) (fun _ _ _ h => h) (Or.inl ⟨by rfl, ?_⟩) (by assumption) ?_
        · intro wx hs1; go_simp
        simp only [Act.put, List.getElem_toArray, List.getElem_cons_succ, List.getElem_cons_zero, List.setIfInBounds_toArray, List.set_cons_zero, List.set_cons_succ]
        refine wpAnyH_take (i := 14) (v := .int .i64 (n : Int)) rfl (by kernel_rfl) (by kernel_rfl) (by kernel_rfl) (fun _ _ _ h => h) (Or.inl ⟨by rfl, ?_⟩) (by assumption) ?_
        · intro wx hs1; go_simp
        simp only [Act.put, List.getElem_toArray, List.getElem_cons_succ, List.getElem_cons_zero, List.setIfInBounds_toArray, List.set_cons_zero, List.set_cons_succ]
        refine wpAnyH_take (i := 15) (v := .bool false) rfl (by kernel_rfl) (by kernel_rfl) (by kernel_rfl) (fun _ _ _ h => h) (Or.inl ⟨by rfl, ?_⟩) (by assumption) ?_
        · intro wx hs1; go_simp
        simp only [Act.put, List.getElem_toArray, List.getElem_cons_succ, List.getElem_cons_zero, List.setIfInBounds_toArray, List.set_cons_zero, List.set_cons_succ]
        refine wpAnyH_take (i := 16) (v := .bool false) rfl (by kernel_rfl) (by kernel_rfl) (by kernel_rfl) (fun _ _ _ h => h) (Or.inl ⟨by rfl, ?_⟩) (by assumption) ?_
        · intro wx hs1; go_simp
        simp only [Act.put, List.getElem_toArray, List.getElem_cons_succ, List.getElem_cons_zero, List.setIfInBounds_toArray, List.set_cons_zero, List.set_cons_succ]
        refine wpAnyH_take (i := 17) (v := .bool false) rfl (by kernel_rfl) (by kernel_rfl) (by kernel_rfl) (fun _ _ _ h => h) (Or.inl ⟨by rfl, ?_⟩) (by assumption) ?_
        · intro wx hs1; go_simp
        simp only [Act.put, List.getElem_toArray, List.getElem_cons_succ, List.getElem_cons_zero, List.setIfInBounds_toArray, List.set_cons_zero, List.set_cons_succ]
        refine wpAnyH_take (i := 18) (v := .slice Am m cm) rfl (by kernel_rfl) (by kernel_rfl) (by kernel_rfl) (fun _ _ _ h => h) (Or.inl ⟨by rfl, ?_⟩) (by assumption) ?_
        · intro wx hs1; go_simp
        simp only [Act.put, List.getElem_toArray, List.getElem_cons_succ, List.getElem_cons_zero, List.setIfInBounds_toArray, List.set_cons_zero, List.set_cons_succ]
        refine wpAnyH_take (i := 19) (v := .int .i64 (m : Int)) rfl (by kernel_rfl) (by kernel_rfl) (by kernel_rfl) (fun _ _ _ h => h) (Or.inl ⟨by rfl, ?_⟩) (by assumption) ?_
        · intro wx hs1; go_simp
        simp only [Act.put, List.getElem_toArray, List.getElem_cons_succ, List.getElem_cons_zero, List.setIfInBounds_toArray, List.set_cons_zero, List.set_cons_succ]
        refine wpAnyH_take (i := 20) (v := .int .i64 (m : Int)) rfl (by kernel_rfl) (by kernel_rfl) (by kernel_rfl) (fun _ _ _ h => h) (Or.inl ⟨by rfl, ?_⟩) (by assumption) ?_
        · intro wx hs1; go_simp
        simp only [Act.put, List.getElem_toArray, List.getElem_cons_succ, List.getElem_cons_zero, List.setIfInBounds_toArray, List.set_cons_zero, List.set_cons_succ]
        refine wpAnyH_take (i := 21) (v := .bool false) rfl (by kernel_rfl) (by kernel_rfl) (by kernel_rfl) (fun _ _ _ h => h) (Or.inl ⟨by rfl, ?_⟩) (by assumption) ?_
        · intro wx hs1; go_simp
        simp only [Act.put, List.getElem_toArray, List.getElem_cons_succ, List.getElem_cons_zero, List.setIfInBounds_toArray, List.set_cons_zero, List.set_cons_succ]
        refine wpAnyH_take (i := 22) (v := .bool false) rfl (by kernel_rfl) (by kernel_rfl) (by kernel_rfl) (fun _ _ _ h => h) (Or.inl ⟨by rfl, ?_⟩) (by assumption) ?_
        · intro wx hs1; go_simp
        simp only [Act.put, List.getElem_toArray, List.getElem_cons_succ, List.getElem_cons_zero, List.setIfInBounds_toArray, List.set_cons_zero, List.set_cons_succ]
        refine wpAnyH_take (i := 23) (v := .bool false) rfl (by kernel_rfl) (by kernel_rfl) (by kernel_rfl) (fun _ _ _ h => h) (Or.inl ⟨by rfl, ?_⟩) (by assumption) ?_
        · intro wx hs1; go_simp
        simp only [Act.put, List.getElem_toArray, List.getElem_cons_succ, List.getElem_cons_zero, List.setIfInBounds_toArray, List.set_cons_zero, List.set_cons_succ]
        refine wpAnyH_take (i := 24) (v := .slice Am m cm) rfl (by kernel_rfl) (by kernel_rfl) (by kernel_rfl) (fun _ _ _ h => h) (Or.inl ⟨by rfl, ?_⟩) (by assumption) ?_
        · intro wx hs1; go_simp
        simp only [Act.put, List.getElem_toArray, List.getElem_cons_succ, List.getElem_cons_zero, List.setIfInBounds_toArray, List.set_cons_zero, List.set_cons_succ]
        refine wpAnyH_take (i := 25) (v := .int .i64 (n : Int)) rfl (by kernel_rfl) (by kernel_rfl) (by kernel_rfl) (fun _ _ _ h => h) (Or.inl ⟨by rfl, ?_⟩) (by assumption) ?_
        · intro wx hs1; go_simp
        simp only [Act.put, List.getElem_toArray, List.getElem_cons_succ, List.getElem_cons_zero, List.setIfInBounds_toArray, List.set_cons_zero, List.set_cons_succ]
        refine wpAnyH_take (i := 26) (v := .slice (cutA Am 0 cm) n cm) rfl (by kernel_rfl) (by kernel_rfl) (by kernel_rfl) (fun _ _ _ h => h) (Or.inl ⟨by rfl, ?_⟩) (by assumption) ?_
        · intro wx hs1; have e := hcut wx; go_simp
        simp only [Act.put, List.getElem_toArray, List.getElem_cons_succ, List.getElem_cons_zero, List.setIfInBounds_toArray, List.set_cons_zero, List.set_cons_succ]
        refine wpAnyH_take (i := 27) (v := .string (strB Dn)) rfl (by kernel_rfl) (by kernel_rfl) (by kernel_rfl) (fun _ _ _ h => h) (Or.inl ⟨by rfl, ?_⟩) (by assumption) ?_
        · intro wx hs1; have e := hs1.2.2.2; go_simp
        simp only [Act.put, List.getElem_toArray, List.getElem_cons_succ, List.getElem_cons_zero, List.setIfInBounds_toArray, List.set_cons_zero, List.set_cons_succ]
        refine wpAnyH_take (i := 28) (v := .slice An n cn) rfl (by kernel_rfl) (by kernel_rfl) (by kernel_rfl) (fun _ _ _ h => h) (Or.inl ⟨by rfl, ?_⟩) (by assumption) ?_
        · intro wx hs1; go_simp
        simp only [Act.put, List.getElem_toArray, List.getElem_cons_succ, List.getElem_cons_zero, List.setIfInBounds_toArray, List.set_cons_zero, List.set_cons_succ]
        refine wpAnyH_take (i := 29) (v := .string (strB Dn)) rfl (by kernel_rfl) (by kernel_rfl) (by kernel_rfl) (fun _ _ _ h => h) (Or.inl ⟨by rfl, ?_⟩) (by assumption) ?_
        · intro wx hs1; have e := hs1.2.2.1; go_simp
        simp only [Act.put, List.getElem_toArray, List.getElem_cons_succ, List.getElem_cons_zero, List.setIfInBounds_toArray, List.set_cons_zero, List.set_cons_succ]
        refine wpAnyH_take (i := 30) (v := .bool false) rfl (by kernel_rfl) (by kernel_rfl) (by kernel_rfl) (fun _ _ _ h => h) (Or.inl ⟨by rfl, ?_⟩) (by assumption) ?_
        · intro wx hs1; go_simp
        simp only [Act.put, List.getElem_toArray, List.getElem_cons_succ, List.getElem_cons_zero, List.setIfInBounds_toArray, List.set_cons_zero, List.set_cons_succ]
        refine wpAnyH_take (i := 31) (v := .bool false) rfl (by kernel_rfl) (by kernel_rfl) (by kernel_rfl) (fun _ _ _ h => h) (Or.inl ⟨by rfl, ?_⟩) (by assumption) ?_
        · intro wx hs1; go_simp
        simp only [Act.put, List.getElem_toArray, List.getElem_cons_succ, List.getElem_cons_zero, List.setIfInBounds_toArray, List.set_cons_zero, List.set_cons_succ]
        refine wpAnyH_done (by kernel_rfl) ?_ _
        try simp only [List.getElem_toArray, List.getElem_cons_succ, List.getElem_cons_zero]
        go_wp2_with fail
        go_meet
        exact ⟨rfl, Lib.hid hb8⟩
      case rest =>
        obtain ⟨rfl, HCY⟩ := hcut
        have hb0C := HB0.out.trans (HCY.out.mono HB0.out.size)
        have HTC := Lib.hid (HTY.out.keep HCY.out)
        have HBC := Lib.hid hb0C
        clear hb0C HTY HCY q0 q0d HCV hcut
        by_cases h64 : (n1 : Int) ≤ 64
        · obtain ⟨z, hz⟩ : ∃ z : Nat, max 0 (min nts (64 - (n1 : Int))) = (z : Int) := ⟨(max 0 (min nts (64 - (n1 : Int)))).toNat, by omega⟩
          have hzn : n1 + z ≤ 64 := by omega
          have HZ := Lib.hid hz
          clear hz
          go_upto_region 11 with fail
          go_cut [20] from 109 to 114 (fun s20 wx => s20 = .int .i64 (z : Int) ∧ Hid (wx = wc))
          case first =>
            have hz := HZ.out
            by_cases h1 : (64 : Int) - (n1 : Int) < nts
            · have e : (64 : Int) - (n1 : Int) = (z : Int) := by omega
              by_cases h2 : 0 < (z : Int)
              · have h3 : (z : Int) < nts := by omega
                clear hz h1
                go_wp2_with fail
                go_meet
                exact ⟨rfl, Lib.hid rfl⟩
              · obtain rfl : z = 0 := by omega
                have e0 : (64 : Int) - (n1 : Int) = 0 := by omega
                have h3 : 0 < nts := by omega
                clear hz h1 e h2
                go_wp2_with fail
                go_meet
                exact ⟨rfl, Lib.hid rfl⟩
            · by_cases h2 : 0 < nts
              · obtain rfl : nts = (z : Int) := by omega
                clear hz
                go_wp2_with fail
                go_meet
                exact ⟨rfl, Lib.hid rfl⟩
              · obtain rfl : z = 0 := by omega
                clear hz
                go_wp2_with fail
                go_meet
                exact ⟨rfl, Lib.hid rfl⟩
          case rest =>
            obtain ⟨rfl, HE⟩ := hcut
            have hE := HE.out
            subst hE
            obtain ⟨u0, rfl⟩ : ∃ v : World, v = wc := ⟨_, rfl⟩
            clear HE HZ
            have hfin : ∀ (A19 : Option Addr) (c19 : Nat) (w19 W20 : World), Below u0.heap.size u0 w19 → w19.ownsRow u0.heap.size 5 1 (.slice A19 (0 + n1 + z) c19) (0 + n1 + z) (([] ++ key.map byteCell) ++ (List.replicate z 0#8).map byteCell) → w19.alloc (.cells #[.slice Ab nb cb] 0x16) = W20 →
                Below u0.heap.size u0 W20 ∧ Calls Tryd.prog 15 #[.slice A19 (n1 + z) c19, .slice (some ⟨w19.heap.size, 0, none⟩) 1 1] W20 fun e w' => e = .returned (.agg (bvs D)) ∧ Below W20.heap.size W20 w' := by
              intro A19 c19 w19 W20 hb19 hown19 hW20
              have e0 : 0 + n1 + z = n1 + z := by omega
              rw [e0] at hown19
              have hb20 : Below w19.heap.size w19 W20 := by rw [← hW20]; exact (Below.refl _ _).alloc (Nat.le_refl _) _
              have hrow20 : Blk W20 w19.heap.size 0x16 (([⟨Ab, nb, cb, b⟩] : List Pt).map Pt.val).toArray := by rw [← hW20]; exact row_new w19 [⟨Ab, nb, cb, b⟩]
              have hbu := hb19.trans (hb20.mono hb19.size)
              have hb0 := HBC.out.trans (hbu.mono HBC.out.size)
              have hcap := own_cap hown19
              have hmx := own_mx hown19
              have hx : [] ++ key.map byteCell ++ (List.replicate z 0#8).map byteCell = (key ++ List.replicate z 0#8).map byteCell := by simp
              have hlk : (key ++ List.replicate z 0#8).length = n1 + z := by rw [List.length_append, List.length_replicate, HK.out.1]
              rw [hx] at hown19
              have hs20 : w19.heap.size < W20.heap.size := hrow20.lt
              refine ⟨hbu, HTG.out W20 A19 1 (n1 + z) 1 c19 (key ++ List.replicate z 0#8) [⟨Ab, nb, cb, b⟩] hb0 hlk (by omega) (by omega) hmx (((Rd.of_own hown19 (Nat.le_refl _)).below hb20).more hb20.size) ?_ (by simp [joinP]) (some ⟨w19.heap.size, 0, none⟩) (fun g hg => parts_ok hrow20 hb0 rfl (by show 1 ≤ 1000000; decide) g (by omega) (fun p hp => ?_))⟩
              · rw [tag_noughts key b z (by rw [HK.out.1]; exact hzn)]; exact HDE.out
              · simp only [List.mem_cons, List.not_mem_nil, or_false] at hp
                subst hp
                exact pt_of_rd HBB.out.1 HBB.out.2.2.1 HBB.out.2.2.2 HBB.out.2.1 g (by have := hb0.size; omega)
            have HFIN := Lib.hid hfin
            clear hfin
            by_cases hzp : 0 < z
            · skip
              go_upto_region 13 with (first
                | (at_builtin; refine wpList_append_rd _ rfl (.tmp 115) (.tmp 116) 0x16 rfl u0.heap.size 5 i0 _ Tryd.underlying22 hi hz0 hz1 hz2 rfl _ 0 [] rfl (World.ownsRow_made u0 #[] 0 (Nat.le_refl _) (by decide) rfl) w0.heap.size A1 n1 c1 key rfl HK.out.1 ((HK.out.2.1.below HBC.out).alloc HBC.out.size _) (by omega) (by simp) ?_; intro v17 w17 hown17 hg17 _; have hba : Below u0.heap.size u0 (u0.alloc (.cells #[] 5)) := (Below.refl _ _).alloc (Nat.le_refl _) _; have hb17 : Below u0.heap.size u0 w17 := hba.grown hg17 hba.size (fun g e => by cases e; exact Nat.le_refl _))
                | (at_builtin; refine wpList_append_zeros _ rfl (.tmp 117) (.tmp 118) 0x16 3 9 rfl u0.heap.size 5 i0 .i64 .i64 Tryd.underlying22 Tryd.underlying3 Tryd.underlying9 hi hz0 hz1 hz2 v17 (0 + n1) _ rfl hown17 z rfl hzp (by omega) hb17.size ?_; intro v19 w19 hown19 hg19; have hb19 : Below u0.heap.size u0 w19 := hb17.grown hg19 hb17.size (fun g e => own_ge hown17 g e); obtain ⟨A19, c19, rfl⟩ := own_slice hown19; obtain ⟨W20, hW20⟩ : ∃ W, w19.alloc (.cells #[.slice Ab nb cb] 0x16) = W := ⟨_, rfl⟩; have HC20 := Lib.hid (HFIN.out A19 c19 w19 W20 hb19 hown19 hW20))
                | (go_at_call 15; (with_reducible refine HC20.out.2.mono ?_); rintro e w21 ⟨rfl, hb21⟩)
                | (refine wpList_store_row rfl 0x1b _ _ rfl w21.heap.size (bvs D) rfl rfl 0x1b (bvs (List.replicate 32 0#8)) (World.alloc_heap_new w21 _) (i36 D HDL.out) (by rw [bvs_size, bvs_size, HDL.out]; rfl) (bvs_one D) ?_))
              rw [zu32_eq]
              obtain ⟨Z, hZ⟩ : ∃ X, (w21.alloc (.cells (bvs (List.replicate 32 0#8)) 0x1b)).setRow w21.heap.size (bvs D) = X := ⟨_, rfl⟩
              obtain ⟨qb, hqb⟩ : ∃ b, w21.heap.size = b := ⟨_, rfl⟩
              have hBZ : Blk Z qb 0x1b (bvs D) := by rw [← hZ, ← hqb]; exact setRow_heap _ _ _ _ _ _ (World.alloc_heap_new w21 _)
              have hbZ : Below u0.heap.size u0 Z := by
                have h1 := HC20.out.1.trans (hb21.mono HC20.out.1.size)
                rw [← hZ]; exact below_setRow (h1.alloc h1.size _) h1.size _
              rw [hZ, hqb]
              have hTZ := HTC.out.keep hbZ
              have HWZ := Lib.hid (works5_from HW5.out (HBC.out.trans (hbZ.mono HBC.out.size)) HT.out)
              have HBZ := Lib.hid hBZ
              have HTZ := Lib.hid hTZ
              clear hZ hqb hBZ hbZ hTZ hb21 HC20 hW20
              go_wp2_with (first
                | (refine wpList_load_mid rfl 0x1b _ rfl qb 0 rfl (D.map byteCell) _ HBZ.out.range Tryd.underlying27 rfl hi27 ?_)
                | (refine wpList_load_mid rfl 0x1b _ rfl tb 0 rfl (D.map byteCell) _ HTZ.out.range Tryd.underlying27 rfl hi27 ?_)
                | (go_at_call 14; (with_reducible refine HWZ.out.mono ?_); rintro e w30 ⟨rfl, hb30⟩))
              go_ret
              exact ⟨rfl, hb30⟩
            · obtain rfl : z = 0 := by omega
              clear hzp
              go_upto_region 13 with (first
                | (at_builtin; refine wpList_append_rd _ rfl (.tmp 115) (.tmp 116) 0x16 rfl u0.heap.size 5 i0 _ Tryd.underlying22 hi hz0 hz1 hz2 rfl _ 0 [] rfl (World.ownsRow_made u0 #[] 0 (Nat.le_refl _) (by decide) rfl) w0.heap.size A1 n1 c1 key rfl HK.out.1 ((HK.out.2.1.below HBC.out).alloc HBC.out.size _) (by omega) (by simp) ?_; intro v17 w17 hown17 hg17 _; have hba : Below u0.heap.size u0 (u0.alloc (.cells #[] 5)) := (Below.refl _ _).alloc (Nat.le_refl _) _; have hb17 : Below u0.heap.size u0 w17 := hba.grown hg17 hba.size (fun g e => by cases e; exact Nat.le_refl _); obtain ⟨A17, c17, rfl⟩ := own_slice hown17; have hcap17 := own_cap hown17; obtain ⟨W20, hW20⟩ : ∃ W, w17.alloc (.cells #[.slice Ab nb cb] 0x16) = W := ⟨_, rfl⟩; have HC20 := Lib.hid (HFIN.out A17 c17 w17 W20 hb17 (by simpa using hown17) hW20); simp only [Nat.add_zero] at HC20)
                | (at_builtin; refine wpList_append_none _ rfl (.tmp 117) (.tmp 118) 0x16 3 rfl 5 i0 _ .i64 .i64 Tryd.underlying22 Tryd.underlying3 hi hz0 hz2 A17 n1 c17 rfl (by omega) rfl ?_)
                | (go_at_call 15; (with_reducible refine HC20.out.2.mono ?_); rintro e w21 ⟨rfl, hb21⟩)
                | (refine wpList_store_row rfl 0x1b _ _ rfl w21.heap.size (bvs D) rfl rfl 0x1b (bvs (List.replicate 32 0#8)) (World.alloc_heap_new w21 _) (i36 D HDL.out) (by rw [bvs_size, bvs_size, HDL.out]; rfl) (bvs_one D) ?_))
              rw [zu32_eq]
              obtain ⟨Z, hZ⟩ : ∃ X, (w21.alloc (.cells (bvs (List.replicate 32 0#8)) 0x1b)).setRow w21.heap.size (bvs D) = X := ⟨_, rfl⟩
              obtain ⟨qb, hqb⟩ : ∃ b, w21.heap.size = b := ⟨_, rfl⟩
              have hBZ : Blk Z qb 0x1b (bvs D) := by rw [← hZ, ← hqb]; exact setRow_heap _ _ _ _ _ _ (World.alloc_heap_new w21 _)
              have hbZ : Below u0.heap.size u0 Z := by
                have h1 := HC20.out.1.trans (hb21.mono HC20.out.1.size)
                rw [← hZ]; exact below_setRow (h1.alloc h1.size _) h1.size _
              rw [hZ, hqb]
              have hTZ := HTC.out.keep hbZ
              have HWZ := Lib.hid (works5_from HW5.out (HBC.out.trans (hbZ.mono HBC.out.size)) HT.out)
              have HBZ := Lib.hid hBZ
              have HTZ := Lib.hid hTZ
              clear hZ hqb hBZ hbZ hTZ hb21 HC20 hW20
              go_wp2_with (first
                | (refine wpList_load_mid rfl 0x1b _ rfl qb 0 rfl (D.map byteCell) _ HBZ.out.range Tryd.underlying27 rfl hi27 ?_)
                | (refine wpList_load_mid rfl 0x1b _ rfl tb 0 rfl (D.map byteCell) _ HTZ.out.range Tryd.underlying27 rfl hi27 ?_)
                | (go_at_call 14; (with_reducible refine HWZ.out.mono ?_); rintro e w30 ⟨rfl, hb30⟩))
              go_ret
              exact ⟨rfl, hb30⟩
        · have HWC := Lib.hid (works5_from HW5.out HBC.out HT.out)
          go_wp2_with (go_at_call 14; (with_reducible refine HWC.out.mono ?_); rintro e w30 ⟨rfl, hb30⟩)
          go_ret
          exact ⟨rfl, hb30⟩
theorem Sm.holds5_law (hw5 : Works5) (n1 c1 nb cb : Nat) (cut nts n m : Int) (A1 Ab : Option Addr) (key b : List (BitVec 8)) (w : World) (ht : Tabs w) (hk : key.length = n1) (hr : Rd w w.heap.size A1 key) (hc : n1 ≤ c1 ∧ c1 ≤ 9223372036854775807) (hbl : b.length = nb) (hrb : Rd w w.heap.size Ab b) (hcb : nb ≤ cb ∧ cb ≤ 9223372036854775807) :
    Calls Tryd.prog 9 #[.slice A1 n1 c1, .slice Ab nb cb, .int .i64 cut, .int .i64 nts, .int .i64 n, .int .i64 m] w fun e w' => e = .returned (.bool true) ∧ Below w.heap.size w w' := by
  by_cases h : 200 < n1 ∨ 300 < nb ∨ n < 0 ∨ m < n ∨ 200 < m
  · exact holds5_no hw5 n1 c1 nb cb A1 Ab cut nts n m w ht h
  · obtain ⟨n', rfl⟩ : ∃ k : Nat, n = (k : Int) := ⟨n.toNat, by omega⟩
    obtain ⟨m', rfl⟩ : ∃ k : Nat, m = (k : Int) := ⟨m.toNat, by omega⟩
    exact holds5_yes hw5 n1 c1 nb cb n' m' A1 Ab cut nts key b w ht (by omega) (by omega) (by omega) (by omega) hk hr hc hbl hrb hcb
end Go.Proofs
