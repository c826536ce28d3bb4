/-
  The contracts of the closure that reads a text.
-/
import Derived.Test.YteeponciegmlcaaDoorRdC
namespace Go.Proofs
open Go.RowKit Go.Shelf Sm
set_option maxHeartbeats 400000 in
theorem Sm.boundI_neg (most : Int) (w : World) (h : most < 0) : Calls Tryd.prog 55 #[.int .i64 most] w fun e w' => e = .panicked [pArg] ∧ w = w' := by
  go_enter Tryd.func55, Tryd.ntmps55
  go_wp2
  exact ⟨rfl, rfl, rfl⟩
set_option maxHeartbeats 400000 in
theorem Sm.boundI_ok (most : Int) (w : World) (h : 0 ≤ most) : Calls Tryd.prog 55 #[.int .i64 most] w fun e w' => e = .returned (.int .i64 (cap most)) ∧ w = w' := by
  by_cases h2 : most ≤ 4611686018427387904
  · go_enter Tryd.func55, Tryd.ntmps55
    go_wp2
    go_ret
    unfold cap
    rw [if_pos h2]
    exact ⟨rfl, rfl⟩
  · go_enter Tryd.func55, Tryd.ntmps55
    go_wp2
    go_ret
    unfold cap
    rw [if_neg (by omega)]
    exact ⟨rfl, rfl⟩
set_option maxRecDepth 100000 in
set_option maxHeartbeats 4000000 in
theorem Sm.dtext_arg {w : World} {B R M V : Nat} {most : Int} {x : Value} (hr : Ready w B R M V most x) (h0 : most < 0) :
    Calls Tryd.prog 53 #[.pointer (some ⟨R, 0, none⟩), .pointer (some ⟨M, 0, none⟩), .pointer (some ⟨V, 0, none⟩)] w fun e w' => e = .panicked [pArg] ∧ w' = w.drew := by
  obtain ⟨r1, r2, r3, r4, r5, r6, r7⟩ := hr
  have r1' : w.drew.cell? ⟨R, 0, none⟩ = some (.pointer (some ⟨B, 0, none⟩)) := r1
  have r2' : w.drew.cell? ⟨M, 0, none⟩ = some (.int .i64 most) := r2
  have r3' : w.drew.cell? ⟨V, 0, none⟩ = some x := r3
  have r4' : w.drew.frozen? ⟨V, 0, none⟩ = false := r4
  go_enter Tryd.func53, Tryd.ntmps53
  refine wp_region_held_drew (S := (fun wx => wx.cell? ⟨R, 0, none⟩ = some (.pointer (some ⟨B, 0, none⟩)) ∧ wx.cell? ⟨M, 0, none⟩ = some (.int .i64 most))) (by kernel_rfl) ⟨r1', r2'⟩ (fun hHeld => ?_)
  clear r1 r2 r3 r4
  refine wpAnyH_take (i := 0) (v := (.pointer (some ⟨B, 0, none⟩))) rfl (by kernel_rfl) (by kernel_rfl) (by kernel_rfl) (fun _ _ _ h => h) (Or.inl ⟨by rfl, ?_⟩) (by assumption) ?_
  · intro wx hSw
    obtain ⟨hs1, hs2⟩ := hSw
    go_simp
  try simp only [Act.put]
  refine wpAnyH_take (i := 1) (v := (.pointer (some ⟨B, 0, none⟩))) rfl (by kernel_rfl) (by kernel_rfl) (by kernel_rfl) (fun _ _ _ h => h) (Or.inl ⟨by rfl, ?_⟩) (by assumption) ?_
  · intro wx hSw
    obtain ⟨hs1, hs2⟩ := hSw
    go_simp
  try simp only [Act.put]
  refine wpAnyH_take (i := 2) (v := (.pointer (some ⟨B, 0, none⟩))) rfl (by kernel_rfl) (by kernel_rfl) (by kernel_rfl) (fun _ _ _ h => h) (Or.inl ⟨by rfl, ?_⟩) (by assumption) ?_
  · intro wx hSw
    obtain ⟨hs1, hs2⟩ := hSw
    go_simp
  try simp only [Act.put]
  refine wpAnyH_take (i := 3) (v := (.pointer (some ⟨B, 0, none⟩))) rfl (by kernel_rfl) (by kernel_rfl) (by kernel_rfl) (fun _ _ _ h => h) (Or.inl ⟨by rfl, ?_⟩) (by assumption) ?_
  · intro wx hSw
    obtain ⟨hs1, hs2⟩ := hSw
    go_simp
  try simp only [Act.put]
  refine wpAnyH_take (i := 4) (v := (.pointer (some ⟨B, 0, none⟩))) rfl (by kernel_rfl) (by kernel_rfl) (by kernel_rfl) (fun _ _ _ h => h) (Or.inl ⟨by rfl, ?_⟩) (by assumption) ?_
  · intro wx hSw
    obtain ⟨hs1, hs2⟩ := hSw
    go_simp
  try simp only [Act.put]
  refine wpAnyH_take (i := 5) (v := (.pointer (some ⟨B, 0, none⟩))) rfl (by kernel_rfl) (by kernel_rfl) (by kernel_rfl) (fun _ _ _ h => h) (Or.inl ⟨by rfl, ?_⟩) (by assumption) ?_
  · intro wx hSw
    obtain ⟨hs1, hs2⟩ := hSw
    go_simp
  try simp only [Act.put]
  refine wpAnyH_take (i := 6) (v := (.int .i64 most)) rfl (by kernel_rfl) (by kernel_rfl) (by kernel_rfl) (fun _ _ _ h => h) (Or.inl ⟨by rfl, ?_⟩) (by assumption) ?_
  · intro wx hSw
    obtain ⟨hs1, hs2⟩ := hSw
    go_simp
  try simp only [Act.put]
  refine wpAnyH_ready (rs := [7]) (by kernel_rfl) (by simp) (AllReadyH.cons rfl (fun K hK => ?_) AllReadyH.nil)
  go_simp
  go_at_call 55
  (with_reducible refine (boundI_neg most _ h0).mono ?_)
  rintro e w1 ⟨rfl, rfl⟩
  exact ⟨rfl, rfl, rfl⟩
set_option maxRecDepth 100000 in
set_option maxHeartbeats 4000000 in
theorem Sm.dtext_bad {w : World} {B n c R M V : Nat} {A : Option Addr} {l : List (BitVec 8)} {most : Int} {x : Value} (h : RestAt w B A n c l) (hr : Ready w B R M V most x) (h0 : 0 ≤ most) (hb : NoNum l most) :
    Calls Tryd.prog 53 #[.pointer (some ⟨R, 0, none⟩), .pointer (some ⟨M, 0, none⟩), .pointer (some ⟨V, 0, none⟩)] w fun e w' => (∃ T, (T = 115 ∨ T = 116) ∧ e = .panicked [{ v := .iface T (.agg #[]), recovered := false }]) ∧ Moved B w.drew w' := by
  have hct := (number_any h.drew (cap most) (cap_lo h0) (cap_hi most)).mono fun e w' ⟨hp, hmv⟩ => And.intro (number_bad hp hb) hmv
  obtain ⟨r1, r2, r3, r4, r5, r6, r7⟩ := hr
  have r1' : w.drew.cell? ⟨R, 0, none⟩ = some (.pointer (some ⟨B, 0, none⟩)) := r1
  have r2' : w.drew.cell? ⟨M, 0, none⟩ = some (.int .i64 most) := r2
  have r3' : w.drew.cell? ⟨V, 0, none⟩ = some x := r3
  have r4' : w.drew.frozen? ⟨V, 0, none⟩ = false := r4
  go_enter Tryd.func53, Tryd.ntmps53
  refine wp_region_held_drew (S := (fun wx => wx.cell? ⟨R, 0, none⟩ = some (.pointer (some ⟨B, 0, none⟩)) ∧ wx.cell? ⟨M, 0, none⟩ = some (.int .i64 most))) (by kernel_rfl) ⟨r1', r2'⟩ (fun hHeld => ?_)
  clear r1 r2 r3 r4
  refine wpAnyH_take (i := 0) (v := (.pointer (some ⟨B, 0, none⟩))) rfl (by kernel_rfl) (by kernel_rfl) (by kernel_rfl) (fun _ _ _ h => h) (Or.inl ⟨by rfl, ?_⟩) (by assumption) ?_
  · intro wx hSw
    obtain ⟨hs1, hs2⟩ := hSw
    go_simp
  try simp only [Act.put]
  refine wpAnyH_take (i := 1) (v := (.pointer (some ⟨B, 0, none⟩))) rfl (by kernel_rfl) (by kernel_rfl) (by kernel_rfl) (fun _ _ _ h => h) (Or.inl ⟨by rfl, ?_⟩) (by assumption) ?_
  · intro wx hSw
    obtain ⟨hs1, hs2⟩ := hSw
    go_simp
  try simp only [Act.put]
  refine wpAnyH_take (i := 2) (v := (.pointer (some ⟨B, 0, none⟩))) rfl (by kernel_rfl) (by kernel_rfl) (by kernel_rfl) (fun _ _ _ h => h) (Or.inl ⟨by rfl, ?_⟩) (by assumption) ?_
  · intro wx hSw
    obtain ⟨hs1, hs2⟩ := hSw
    go_simp
  try simp only [Act.put]
  refine wpAnyH_take (i := 3) (v := (.pointer (some ⟨B, 0, none⟩))) rfl (by kernel_rfl) (by kernel_rfl) (by kernel_rfl) (fun _ _ _ h => h) (Or.inl ⟨by rfl, ?_⟩) (by assumption) ?_
  · intro wx hSw
    obtain ⟨hs1, hs2⟩ := hSw
    go_simp
  try simp only [Act.put]
  refine wpAnyH_take (i := 4) (v := (.pointer (some ⟨B, 0, none⟩))) rfl (by kernel_rfl) (by kernel_rfl) (by kernel_rfl) (fun _ _ _ h => h) (Or.inl ⟨by rfl, ?_⟩) (by assumption) ?_
  · intro wx hSw
    obtain ⟨hs1, hs2⟩ := hSw
    go_simp
  try simp only [Act.put]
  refine wpAnyH_take (i := 5) (v := (.pointer (some ⟨B, 0, none⟩))) rfl (by kernel_rfl) (by kernel_rfl) (by kernel_rfl) (fun _ _ _ h => h) (Or.inl ⟨by rfl, ?_⟩) (by assumption) ?_
  · intro wx hSw
    obtain ⟨hs1, hs2⟩ := hSw
    go_simp
  try simp only [Act.put]
  refine wpAnyH_take (i := 6) (v := (.int .i64 most)) rfl (by kernel_rfl) (by kernel_rfl) (by kernel_rfl) (fun _ _ _ h => h) (Or.inl ⟨by rfl, ?_⟩) (by assumption) ?_
  · intro wx hSw
    obtain ⟨hs1, hs2⟩ := hSw
    go_simp
  try simp only [Act.put]
  refine wpAnyH_ready (rs := [7]) (by kernel_rfl) (by simp) (AllReadyH.cons rfl (fun K hK => ?_) AllReadyH.nil)
  go_simp
  go_at_call 55
  (with_reducible refine (boundI_ok most _ h0).mono ?_)
  rintro e w1 ⟨rfl, rfl⟩
  refine hK.out _ _ ⟨r1', r2'⟩ (fun hHeld => ?_)
  clear hK K
  try simp only [Act.put]
  refine wpAnyH_ready (rs := [8]) (by kernel_rfl) (by simp) (AllReadyH.cons rfl (fun K hK => ?_) AllReadyH.nil)
  go_simp
  go_at_call 46
  (with_reducible refine hct.mono ?_)
  rintro e w2 ⟨⟨T, hT, rfl⟩, hm2⟩
  rcases hT with rfl | rfl
  · exact ⟨rfl, .inl rfl, hm2⟩
  · exact ⟨rfl, .inr rfl, hm2⟩
set_option maxRecDepth 100000 in
set_option maxHeartbeats 4000000 in
theorem Sm.dtext_long {w : World} {B n c R M V m k : Nat} {A : Option Addr} {l : List (BitVec 8)} {most : Int} {x : Value} (h : RestAt w B A n c l) (hr : Ready w B R M V most x) (h0 : 0 ≤ most) (hg : getN l = .num m k) (hm : (m : Int) ≤ most) (hl : n - k < m) :
    Calls Tryd.prog 53 #[.pointer (some ⟨R, 0, none⟩), .pointer (some ⟨M, 0, none⟩), .pointer (some ⟨V, 0, none⟩)] w fun e w' => (∃ T, (T = 115 ∨ T = 116) ∧ e = .panicked [{ v := .iface T (.agg #[]), recovered := false }]) ∧ Moved B w.drew w' := by
  have hct := (number_any h.drew (cap most) (cap_lo h0) (cap_hi most)).mono fun e w' ⟨hp, hmv⟩ => And.intro (number_post hp hg hm) (And.intro hmv (And.intro (hmv.cell (p := ⟨R, 0, none⟩) hr.rB) (And.intro (hmv.cell (p := ⟨M, 0, none⟩) hr.mB) (And.intro (hmv.cell (p := ⟨V, 0, none⟩) hr.vB) (hmv.frozen (p := ⟨V, 0, none⟩))))))
  obtain ⟨r1, r2, r3, r4, r5, r6, r7⟩ := hr
  have r1' : w.drew.cell? ⟨R, 0, none⟩ = some (.pointer (some ⟨B, 0, none⟩)) := r1
  have r2' : w.drew.cell? ⟨M, 0, none⟩ = some (.int .i64 most) := r2
  have r3' : w.drew.cell? ⟨V, 0, none⟩ = some x := r3
  have r4' : w.drew.frozen? ⟨V, 0, none⟩ = false := r4
  go_enter Tryd.func53, Tryd.ntmps53
  refine wp_region_held_drew (S := (fun wx => wx.cell? ⟨R, 0, none⟩ = some (.pointer (some ⟨B, 0, none⟩)) ∧ wx.cell? ⟨M, 0, none⟩ = some (.int .i64 most))) (by kernel_rfl) ⟨r1', r2'⟩ (fun hHeld => ?_)
  clear r1 r2 r3 r4
  refine wpAnyH_take (i := 0) (v := (.pointer (some ⟨B, 0, none⟩))) rfl (by kernel_rfl) (by kernel_rfl) (by kernel_rfl) (fun _ _ _ h => h) (Or.inl ⟨by rfl, ?_⟩) (by assumption) ?_
  · intro wx hSw
    obtain ⟨hs1, hs2⟩ := hSw
    go_simp
  try simp only [Act.put]
  refine wpAnyH_take (i := 1) (v := (.pointer (some ⟨B, 0, none⟩))) rfl (by kernel_rfl) (by kernel_rfl) (by kernel_rfl) (fun _ _ _ h => h) (Or.inl ⟨by rfl, ?_⟩) (by assumption) ?_
  · intro wx hSw
    obtain ⟨hs1, hs2⟩ := hSw
    go_simp
  try simp only [Act.put]
  refine wpAnyH_take (i := 2) (v := (.pointer (some ⟨B, 0, none⟩))) rfl (by kernel_rfl) (by kernel_rfl) (by kernel_rfl) (fun _ _ _ h => h) (Or.inl ⟨by rfl, ?_⟩) (by assumption) ?_
  · intro wx hSw
    obtain ⟨hs1, hs2⟩ := hSw
    go_simp
  try simp only [Act.put]
  refine wpAnyH_take (i := 3) (v := (.pointer (some ⟨B, 0, none⟩))) rfl (by kernel_rfl) (by kernel_rfl) (by kernel_rfl) (fun _ _ _ h => h) (Or.inl ⟨by rfl, ?_⟩) (by assumption) ?_
  · intro wx hSw
    obtain ⟨hs1, hs2⟩ := hSw
    go_simp
  try simp only [Act.put]
  refine wpAnyH_take (i := 4) (v := (.pointer (some ⟨B, 0, none⟩))) rfl (by kernel_rfl) (by kernel_rfl) (by kernel_rfl) (fun _ _ _ h => h) (Or.inl ⟨by rfl, ?_⟩) (by assumption) ?_
  · intro wx hSw
    obtain ⟨hs1, hs2⟩ := hSw
    go_simp
  try simp only [Act.put]
  refine wpAnyH_take (i := 5) (v := (.pointer (some ⟨B, 0, none⟩))) rfl (by kernel_rfl) (by kernel_rfl) (by kernel_rfl) (fun _ _ _ h => h) (Or.inl ⟨by rfl, ?_⟩) (by assumption) ?_
  · intro wx hSw
    obtain ⟨hs1, hs2⟩ := hSw
    go_simp
  try simp only [Act.put]
  refine wpAnyH_take (i := 6) (v := (.int .i64 most)) rfl (by kernel_rfl) (by kernel_rfl) (by kernel_rfl) (fun _ _ _ h => h) (Or.inl ⟨by rfl, ?_⟩) (by assumption) ?_
  · intro wx hSw
    obtain ⟨hs1, hs2⟩ := hSw
    go_simp
  try simp only [Act.put]
  refine wpAnyH_ready (rs := [7]) (by kernel_rfl) (by simp) (AllReadyH.cons rfl (fun K hK => ?_) AllReadyH.nil)
  go_simp
  go_at_call 55
  (with_reducible refine (boundI_ok most _ h0).mono ?_)
  rintro e w1 ⟨rfl, rfl⟩
  refine hK.out _ _ ⟨r1', r2'⟩ (fun hHeld => ?_)
  clear hK K
  try simp only [Act.put]
  refine wpAnyH_ready (rs := [8]) (by kernel_rfl) (by simp) (AllReadyH.cons rfl (fun K hK => ?_) AllReadyH.nil)
  go_simp
  go_at_call 46
  (with_reducible refine hct.mono ?_)
  rintro e w2 ⟨⟨rfl, A2, hr2⟩, hm2, hk1, hk2, hk3, hk4⟩
  refine hK.out _ _ ⟨hk1.trans r1', hk2.trans r2'⟩ (fun hHeld => ?_)
  clear hK K
  try simp only [Act.put]
  have hnc := next_cut w2 B (n - k) (c - k) (m : Int) A2 hr2.cell (by omega)
  refine wpAnyH_ready (rs := [9]) (by kernel_rfl) (by simp) (AllReadyH.cons rfl (fun K hK => ?_) AllReadyH.nil)
  go_simp
  go_at_call 54
  (with_reducible refine hnc.mono ?_)
  rintro e w3 ⟨rfl, rfl⟩
  exact ⟨rfl, .inr rfl, hm2⟩
set_option maxRecDepth 100000 in
set_option maxHeartbeats 4000000 in
theorem Sm.dtext_ok {w : World} {B n c R M V m k : Nat} {A : Option Addr} {l : List (BitVec 8)} {most : Int} {x : Value} (h : RestAt w B A n c l) (hr : Ready w B R M V most x) (h0 : 0 ≤ most) (hg : getN l = .num m k) (hm : (m : Int) ≤ most) (hl : m ≤ n - k) (hRV : R ≠ V) (hMV : M ≠ V) :
    Calls Tryd.prog 53 #[.pointer (some ⟨R, 0, none⟩), .pointer (some ⟨M, 0, none⟩), .pointer (some ⟨V, 0, none⟩)] w fun e w' => (∃ v, e = .returned v) ∧ ∃ w1, Moved B w.drew w1 ∧ (∃ A', RestAt w1 B A' (n - k - m) (c - k - m) ((l.drop k).drop m)) ∧ w' = w1.setCell ⟨V, 0, none⟩ (.string (strB ((l.drop k).take m))) := by
  have hct := (number_any h.drew (cap most) (cap_lo h0) (cap_hi most)).mono fun e w' ⟨hp, hmv⟩ => And.intro (number_post hp hg hm) (And.intro hmv (And.intro (hmv.cell (p := ⟨R, 0, none⟩) hr.rB) (And.intro (hmv.cell (p := ⟨M, 0, none⟩) hr.mB) (And.intro (hmv.cell (p := ⟨V, 0, none⟩) hr.vB) (hmv.frozen (p := ⟨V, 0, none⟩))))))
  have hll := h.len
  have hkeep : ∀ {wa wb : World}, Moved B wa wb → wb.cell? ⟨R, 0, none⟩ = wa.cell? ⟨R, 0, none⟩ ∧ wb.cell? ⟨M, 0, none⟩ = wa.cell? ⟨M, 0, none⟩ ∧ wb.cell? ⟨V, 0, none⟩ = wa.cell? ⟨V, 0, none⟩ ∧ wb.frozen? ⟨V, 0, none⟩ = wa.frozen? ⟨V, 0, none⟩ := fun hmv => And.intro (hmv.cell (p := ⟨R, 0, none⟩) hr.rB) (And.intro (hmv.cell (p := ⟨M, 0, none⟩) hr.mB) (And.intro (hmv.cell (p := ⟨V, 0, none⟩) hr.vB) (hmv.frozen (p := ⟨V, 0, none⟩))))
  obtain ⟨r1, r2, r3, r4, r5, r6, r7⟩ := hr
  have r1' : w.drew.cell? ⟨R, 0, none⟩ = some (.pointer (some ⟨B, 0, none⟩)) := r1
  have r2' : w.drew.cell? ⟨M, 0, none⟩ = some (.int .i64 most) := r2
  have r3' : w.drew.cell? ⟨V, 0, none⟩ = some x := r3
  have r4' : w.drew.frozen? ⟨V, 0, none⟩ = false := r4
  go_enter Tryd.func53, Tryd.ntmps53
  refine wp_region_held_drew (S := (fun wx => wx.cell? ⟨R, 0, none⟩ = some (.pointer (some ⟨B, 0, none⟩)) ∧ wx.cell? ⟨M, 0, none⟩ = some (.int .i64 most))) (by kernel_rfl) ⟨r1', r2'⟩ (fun hHeld => ?_)
  clear r1 r2 r3 r4
  refine wpAnyH_take (i := 0) (v := (.pointer (some ⟨B, 0, none⟩))) rfl (by kernel_rfl) (by kernel_rfl) (by kernel_rfl) (fun _ _ _ h => h) (Or.inl ⟨by rfl, ?_⟩) (by assumption) ?_
  · intro wx hSw
    obtain ⟨hs1, hs2⟩ := hSw
    go_simp
  try simp only [Act.put]
  refine wpAnyH_take (i := 1) (v := (.pointer (some ⟨B, 0, none⟩))) rfl (by kernel_rfl) (by kernel_rfl) (by kernel_rfl) (fun _ _ _ h => h) (Or.inl ⟨by rfl, ?_⟩) (by assumption) ?_
  · intro wx hSw
    obtain ⟨hs1, hs2⟩ := hSw
    go_simp
  try simp only [Act.put]
  refine wpAnyH_take (i := 2) (v := (.pointer (some ⟨B, 0, none⟩))) rfl (by kernel_rfl) (by kernel_rfl) (by kernel_rfl) (fun _ _ _ h => h) (Or.inl ⟨by rfl, ?_⟩) (by assumption) ?_
  · intro wx hSw
    obtain ⟨hs1, hs2⟩ := hSw
    go_simp
  try simp only [Act.put]
  refine wpAnyH_take (i := 3) (v := (.pointer (some ⟨B, 0, none⟩))) rfl (by kernel_rfl) (by kernel_rfl) (by kernel_rfl) (fun _ _ _ h => h) (Or.inl ⟨by rfl, ?_⟩) (by assumption) ?_
  · intro wx hSw
    obtain ⟨hs1, hs2⟩ := hSw
    go_simp
  try simp only [Act.put]
  refine wpAnyH_take (i := 4) (v := (.pointer (some ⟨B, 0, none⟩))) rfl (by kernel_rfl) (by kernel_rfl) (by kernel_rfl) (fun _ _ _ h => h) (Or.inl ⟨by rfl, ?_⟩) (by assumption) ?_
  · intro wx hSw
    obtain ⟨hs1, hs2⟩ := hSw
    go_simp
  try simp only [Act.put]
  refine wpAnyH_take (i := 5) (v := (.pointer (some ⟨B, 0, none⟩))) rfl (by kernel_rfl) (by kernel_rfl) (by kernel_rfl) (fun _ _ _ h => h) (Or.inl ⟨by rfl, ?_⟩) (by assumption) ?_
  · intro wx hSw
    obtain ⟨hs1, hs2⟩ := hSw
    go_simp
  try simp only [Act.put]
  refine wpAnyH_take (i := 6) (v := (.int .i64 most)) rfl (by kernel_rfl) (by kernel_rfl) (by kernel_rfl) (fun _ _ _ h => h) (Or.inl ⟨by rfl, ?_⟩) (by assumption) ?_
  · intro wx hSw
    obtain ⟨hs1, hs2⟩ := hSw
    go_simp
  try simp only [Act.put]
  refine wpAnyH_ready (rs := [7]) (by kernel_rfl) (by simp) (AllReadyH.cons rfl (fun K hK => ?_) AllReadyH.nil)
  go_simp
  go_at_call 55
  (with_reducible refine (boundI_ok most _ h0).mono ?_)
  rintro e w1 ⟨rfl, rfl⟩
  refine hK.out _ _ ⟨r1', r2'⟩ (fun hHeld => ?_)
  clear hK K
  try simp only [Act.put]
  refine wpAnyH_ready (rs := [8]) (by kernel_rfl) (by simp) (AllReadyH.cons rfl (fun K hK => ?_) AllReadyH.nil)
  go_simp
  go_at_call 46
  (with_reducible refine hct.mono ?_)
  rintro e w2 ⟨⟨rfl, A2, hr2⟩, hm2, hk1, hk2, hk3, hk4⟩
  refine hK.out _ _ ⟨hk1.trans r1', hk2.trans r2'⟩ (fun hHeld => ?_)
  clear hK K
  try simp only [Act.put]
  have hnx := (next_any hr2 m hl).mono fun e w' ⟨he, hrd, hmv, hra⟩ => And.intro he (And.intro hrd (And.intro hmv (And.intro hra (hkeep hmv))))
  refine wpAnyH_ready (rs := [9]) (by kernel_rfl) (by simp) (AllReadyH.cons rfl (fun K hK => ?_) AllReadyH.nil)
  go_simp
  go_at_call 54
  (with_reducible refine hnx.mono ?_)
  rintro e w3 ⟨rfl, hrd3, hm3, hra3, j1, j2, j3, j4⟩
  refine hK.out _ _ ⟨j1.trans (hk1.trans r1'), j2.trans (hk2.trans r2')⟩ (fun hHeld => ?_)
  clear hK K
  try simp only [Act.put]
  have hst := run_str (P := Tryd.prog) w3 27 5 Tryd.underlying27 Tryd.underlying5 ((l.drop k).take m) m (c - k) B A2 (by rw [List.length_take, List.length_drop]; omega) hrd3 9 Tryd.underlying9
  have hv3 := j3.trans (hk3.trans r3')
  have hf3 := j4.trans (hk4.trans r4')
  refine wpAnyH_ready (rs := [10]) (by kernel_rfl) (by simp) (AllReadyH.cons rfl (fun K hK => ?_) AllReadyH.nil)
  go_simp
  refine hK.out _ _ hHeld (fun hHeld => ?_)
  clear hK K
  try simp only [Act.put]
  refine wpAnyH_ready (rs := [11]) (by kernel_rfl) (by simp) (AllReadyH.cons rfl (fun K hK => ?_) AllReadyH.nil)
  go_simp
  refine hK.out _ _ ⟨(World.cell?_setCell_other w3 ⟨V, 0, none⟩ ⟨R, 0, none⟩ _ (fun e => hRV (by injection e with e1; exact e1.symm))).trans hHeld.1, (World.cell?_setCell_other w3 ⟨V, 0, none⟩ ⟨M, 0, none⟩ _ (fun e => hMV (by injection e with e1; exact e1.symm))).trans hHeld.2⟩ (fun hHeld => ?_)
  clear hK K
  refine wpAnyH_done (by kernel_rfl) ?_ _
  go_end0
  exact ⟨⟨_, rfl⟩, w3, hm2.trans hm3, hra3, rfl⟩
