/-
  The walk of BallotAbove. Conditions: as the theorem names them.
-/
import Derived.Deep.Upon
import Derived.Test.YtjdmnajjfikehaaBaS
import Derived.Test.YtjdmnajjfikehaaOpB
namespace Go.Proofs
open Go Go.RowKit Sm Go.Lib
attribute [local go_sem] Oper.semAt_some
/-- ballots, cell by cell -/
def Sm.cellsP : List (Int × Int) → List Value
  | [] => []
  | x :: xs => .int .i64 x.1 :: .int .i64 x.2 :: cellsP xs
theorem Sm.cellsP_length (xs : List (Int × Int)) : (cellsP xs).length = xs.length * 2 := by
  induction xs with
  | nil => rfl
  | cons x xs ih => simp only [cellsP, List.length_cons, ih]; omega
theorem Sm.cellsP_get (xs : List (Int × Int)) (i : Nat) (h : i < xs.length) : (cellsP xs)[i * 2]? = some (.int .i64 xs[i].1) ∧ (cellsP xs)[i * 2 + 1]? = some (.int .i64 xs[i].2) := by
  induction xs generalizing i with
  | nil => simp at h
  | cons x xs ih =>
    cases i with
    | zero => exact ⟨rfl, rfl⟩
    | succ i =>
      have := ih i (by simpa using h)
      rw [show (i + 1) * 2 = i * 2 + 1 + 1 by omega]
      simpa [cellsP] using this
theorem Sm.cellsP_of (xs : List (Int × Int)) (j : Nat) (u : Value) (h : (cellsP xs)[j]? = some u) : ∃ i, ∃ h : i < xs.length, (j = i * 2 ∧ u = .int .i64 xs[i].1) ∨ (j = i * 2 + 1 ∧ u = .int .i64 xs[i].2) := by
  have hj := (List.getElem?_eq_some_iff.1 h).1
  rw [cellsP_length] at hj
  have hi : j / 2 < xs.length := by omega
  obtain ⟨h0, h1⟩ := cellsP_get xs (j / 2) hi
  refine ⟨j / 2, hi, ?_⟩
  by_cases e : j % 2 = 0
  · left
    have : j / 2 * 2 = j := by omega
    rw [this, h] at h0
    exact ⟨this.symm, Option.some.inj h0⟩
  · right
    have : j / 2 * 2 + 1 = j := by omega
    rw [this, h] at h1
    exact ⟨this.symm, Option.some.inj h1⟩
theorem Sm.cellsP_one (xs : List (Int × Int)) : ∀ u ∈ cellsP xs, u.oneCell' = true := by
  induction xs with
  | nil => intro u h; cases h
  | cons x xs ih =>
    intro u h
    simp only [cellsP, List.mem_cons] at h
    rcases h with rfl | rfl | h
    · rfl
    · rfl
    · exact ih u h
theorem Sm.cellsP_append (xs ys : List (Int × Int)) : cellsP (xs ++ ys) = cellsP xs ++ cellsP ys := by
  induction xs with
  | nil => rfl
  | cons x xs ih => simp [cellsP, ih]
theorem Sm.info23 : ∃ i : TypeInfo, Try.prog.info? 23 = some i ∧ i.zero = some (.agg #[.int .i64 0, .int .i64 0]) ∧ i.size = 2 ∧ i.bytes = 16 := ⟨_, rfl, rfl, rfl, rfl⟩
theorem Sm.own_row {W : World} {base g n cap : Nat} {xs ys : List (Int × Int)} (h : W.ownsRow base 23 2 (.slice (some ⟨g, 0, none⟩) (n + 1) cap) (n + 1) (cellsP (xs ++ ys))) (hn : xs.length = n) (h20 : n ≤ 20) (hg : g < W.heap.size) : RowP W (some ⟨g, 0, none⟩) n cap xs ∧ n + 1 ≤ cap ∧ cap ≤ 9223372036854775807 := by
  obtain ⟨_, hc⟩ := id h
  have hcap : n + 1 ≤ cap ∧ cap ≤ maxLen := by
    rcases hc with ⟨e, _⟩ | ⟨g2, cap2, cur, e, _, _, h1, h2, _⟩
    · cases e
    · simp only [Value.slice.injEq, Option.some.injEq, Addr.mk.injEq] at e
      omega
  refine ⟨⟨hn, by omega, by omega, .inr ⟨g, 0, rfl, hg, fun j hj => ?_⟩⟩, hcap.1, by unfold maxLen at hcap; omega⟩
  have hx := cellsP_get (xs ++ ys) j (by simp; omega)
  have e : (xs ++ ys)[j]'(by simp; omega) = xs[j] := List.getElem_append_left hj
  rw [e] at hx
  rw [Nat.zero_add]
  exact ⟨(h.cellAt (j * 2) (by omega)).trans hx.1, (h.cellAt (j * 2 + 1) (by omega)).trans hx.2⟩
theorem Sm.own_zero {W : World} {base g n cap : Nat} {xs : List Value} {o : Obj} (h : W.ownsRow base 23 2 (.slice (some ⟨g, 0, none⟩) (0 + n) cap) (0 + n) ([] ++ xs)) : (W.alloc o).ownsRow base 23 2 (.slice (some ⟨g, 0, none⟩) n cap) n xs := by
  rw [Nat.zero_add, List.nil_append] at h
  exact h.alloc _
theorem Sm.own_cap {W : World} {base g n m cap : Nat} {xs : List Value} (h : W.ownsRow base 23 2 (.slice (some ⟨g, 0, none⟩) m cap) n xs) : n ≤ cap := by
  rcases h.2 with ⟨e, _⟩ | ⟨g2, cap2, cur, e, _, _, h1, _⟩
  · cases e
  · simp only [Value.slice.injEq, Option.some.injEq, Addr.mk.injEq] at e
    omega
theorem Sm.wpList_append_run {P : Program} {ops : Array Oper} {rest : List Oper} {o : Oper} {a : Act} {w w' : World} {Q : Exit → Act → World → Prop} (hgd : o.guard = none) (s x : Operand) (t : TypeId)
    (ho : o.op = .call { callee := .builtin .append, args := #[s, x], argTypes := #[t, t] }) (v y r : Value) (hs : a.eval s = v) (hx : a.eval x = y) (hrun : (Builtin.append_ #[t, t] o.type #[v, y]).run P w = .ok r w') (h : wpList P ops Q rest (a.put o.dst r) w') : wpList P ops Q (o :: rest) a w :=
  wpList_plain hgd fun _ hK => by
    unfold Oper.wp execOp
    simp only [ho, resolve, invoke, builtin, Sem.run_bind, Sem.run_pure, Result.andThen_ok, List.map_toArray, List.map_cons, List.map_nil, hs, hx, hrun]
    exact hK _ _ h
set_option maxRecDepth 100000 in
set_option maxHeartbeats 8000000 in
theorem Sm.above_law (c p : Int) (A2 : Option Addr) (n2 c2 : Nat) (xs : List (Int × Int)) (w : World) (e2 : xs.length = n2) (g2 : n2 ≤ c2) (_m2 : c2 ≤ 9223372036854775807) (rb : RdBals w A2 xs) :
    Calls Try.prog 5 #[.int .i64 c, .int .i64 p, .slice A2 n2 c2] w fun e w' => e = .returned (.bool true) ∧ Below w.heap.size w w' := by
  have hw := fun W => works_any W
  by_cases h20 : 20 < n2
  · go_enter Try.func5, Try.ntmps5
    go_wp2_with (go_at_call 15; (with_reducible refine (hw _).mono ?_); rintro e w1 ⟨rfl, hb⟩)
    go_ret
    exact ⟨rfl, hb⟩
  have hr : RowP w A2 n2 c2 xs := ⟨e2, g2, by omega, rb⟩
  obtain ⟨iB, hiB, hz, hs, hy⟩ := info23
  have HR := Lib.hid hr
  have HE2 := Lib.hid e2
  have HRB := Lib.hid rb
  have hn20 : n2 ≤ 20 := by omega
  have hnI : (n2 : Int) ≤ 20 := by omega
  have hAb := fun A k W h => Above_any c p A n2 k xs W h
  have hrAb := fun W h => rAbove_any c p A2 n2 c2 xs W h
  obtain ⟨R, hR⟩ : ∃ R : (Int × Int) × Int, aboV c p xs = R := ⟨_, rfl⟩
  simp only [hR] at hAb hrAb
  have HAB := Lib.hid hAb
  have HRAB := Lib.hid hrAb
  clear hr e2 rb hR hAb hrAb
  have own0 := World.ownsRow_lit (base := w.heap.size) (size := 2) (e := 23) w #[] 0 (Nat.le_refl _) (by decide) rfl
  go_enter Try.func5, Try.ntmps5
  go_upto_region 3 with fail
  go_cut [7] from 13 to 25 (fun s7 wx => ∃ g cap : Nat, s7 = .slice (some ⟨g, 0, none⟩) n2 cap ∧ g < wx.heap.size ∧ Hid (wx.ownsRow w.heap.size 23 2 (.slice (some ⟨g, 0, none⟩) (n2 + 1) cap) (n2 + 1) (cellsP (xs ++ [(77, 0)])) ∧ Below w.heap.size w wx))
  case first =>
    by_cases hn0 : n2 = 0
    · have e : xs = [] := List.eq_nil_of_length_eq_zero (HE2.out.trans hn0)
      subst hn0
      have hn0x : cellsP (xs ++ [(77, 0)]) = [.int .i64 77, .int .i64 0] := by rw [e]; rfl
      clear e
      have ha : ∀ (K : Nat) (W : World), (Builtin.append_ #[40, 40] 40 #[.slice (some ⟨K, 0, none⟩) 0 0, .slice A2 0 c2]).run Try.prog W = .ok (.slice (some ⟨K, 0, none⟩) 0 0) W := fun K W => by
        refine run_append_nothing W 40 40 40 23 iB Try.underlying40 hiB _ 0 0 (Nat.le_refl _) _ ?_
        cases A2 with
        | none => exact Src.ofNil W Try.underlying40 c2
        | some a => exact Src.ofSlice W Try.underlying40 a 0 c2 [] (by simp) (fun j u h => by simp at h) (fun u h => by cases h)
      have hn77 : ((w.alloc (.cells #[] 23)).alloc (.cells #[.int .i64 77, .int .i64 0] 23)).heap[w.heap.size + 1]? = some (.cells #[.int .i64 77, .int .i64 0] 23 (0, 0)) := by
        have := World.alloc_heap_new (w.alloc (.cells #[] 23)) (.cells #[.int .i64 77, .int .i64 0] 23); rwa [World.size_alloc] at this
      have hb0 : Below w.heap.size w ((w.alloc (.cells #[] 23)).alloc (.cells #[.int .i64 77, .int .i64 0] 23)) := ((Below.refl _ _).alloc (Nat.le_refl _) _).alloc (by simp) _
      have HX := Lib.hid hn0x
      clear hn0x
      go_wp2_with (first
        | (at_builtin; refine wpList_append_run rfl (.tmp 17) (.tmp 18) 40 rfl _ _ _ rfl rfl (ha _ _) ?_)
        | (at_builtin; refine wpList_append_lies _ rfl (.tmp 19) (.tmp 21) 40 rfl w.heap.size 23 iB _ 2 16 Try.underlying40 hiB hz hs hy rfl (by decide) _ 0 [] rfl (own0.alloc _) ⟨w.heap.size + 1, 0, none⟩ 1 1 [.int .i64 77, .int .i64 0] rfl rfl (World.news_of_block hn77) (by simp [Value.oneCell']) (by omega) (by unfold maxLen; omega) (by omega) (by simp; omega) _ rfl ?_; intro g cap w3 hown hgr hat hlg; have hcap : (0 : Int) ≤ (cap : Int) := by omega))
      go_meet
      refine ⟨g, cap, rfl, hlg, Lib.hid ⟨?_, hb0.trans ((But.grown hgr).to_below hb0.size (fun q e => ?_))⟩⟩
      · rw [HX.out]
        exact hown
      · have e2 : some w.heap.size = some q := e
        simp at e2
        omega
    · obtain ⟨gb, off, rfl, hgb, hcl⟩ : ∃ g off, A2 = some ⟨g, off, none⟩ ∧ g < w.heap.size ∧ ∀ j (h : j < xs.length), w.cell? ⟨g, off + j * 2, none⟩ = some (.int .i64 xs[j].1) ∧ w.cell? ⟨g, off + j * 2 + 1, none⟩ = some (.int .i64 xs[j].2) := by
        rcases HRB.out with e | h
        · exact absurd (HE2.out.symm.trans (by rw [e]; rfl)) hn0
        · exact h
      have hb0 : Below w.heap.size w (w.alloc (.cells #[] 23)) := (Below.refl _ _).alloc (Nat.le_refl _) _
      have hnews : ∀ j u, (cellsP xs)[j]? = some u → (w.alloc (.cells #[] 23)).cell? ((⟨gb, off, none⟩ : Addr).add j) = some u := fun j u hu => by
        rw [Go.WideShapes.add_plain]
        obtain ⟨i, hi, ⟨rfl, rfl⟩ | ⟨rfl, rfl⟩⟩ := cellsP_of xs j u hu
        · exact (hb0.cell (p := ⟨gb, off + i * 2, none⟩) hgb).trans (hcl i hi).1
        · rw [← Nat.add_assoc]
          exact (hb0.cell (p := ⟨gb, off + i * 2 + 1, none⟩) hgb).trans (hcl i hi).2
      have hlen : (cellsP xs).length = n2 * 2 := by rw [cellsP_length, HE2.out]
      have hpos : 0 < n2 := by omega
      have HNE := Lib.hid hnews
      have HLE := Lib.hid hlen
      have HO := Lib.hid own0
      clear hnews hlen own0 hcl
      go_wp2_with (first
        | (at_builtin; refine wpList_append_lies _ rfl (.tmp 17) (.tmp 18) 40 rfl w.heap.size 23 iB _ 2 16 Try.underlying40 hiB hz hs hy rfl (by decide) _ 0 [] rfl HO.out ⟨gb, off, none⟩ n2 c2 (cellsP xs) rfl HLE.out HNE.out (cellsP_one xs) hpos (by unfold maxLen; omega) (by omega) (by simp) _ rfl ?_; intro g1 cap1 w3 hown hgr hat hlg; have HO3 := Lib.hid hown; have HB3 : Hid (Below w.heap.size w w3) := Lib.hid (hb0.trans ((But.grown hgr).to_below hb0.size (fun q e => (by have e2 : some w.heap.size = some q := e; simp at e2; omega)))); have hz3 := HB3.out.size; have hge : w.heap.size ≤ g1 := (by rcases hat with h | h; (have e2 : some w.heap.size = some g1 := h; simp at e2; omega); (simp at h; omega)); clear hown hgr hat)
        | (at_builtin; refine wpList_append_lies _ rfl (.tmp 19) (.tmp 21) 40 rfl w.heap.size 23 iB _ 2 16 Try.underlying40 hiB hz hs hy rfl (by decide) (.slice (some ⟨g1, 0, none⟩) n2 cap1) n2 (cellsP xs) rfl (own_zero HO3.out) ⟨w3.heap.size, 0, none⟩ 1 1 [.int .i64 77, .int .i64 0] rfl rfl (World.news_of_block (World.alloc_heap_new w3 _)) (by simp [Value.oneCell']) (by omega) (by unfold maxLen; omega) (by omega) (by simp; omega) _ rfl ?_; intro g cap w4 hown hgr hat hlg; have hcp := own_cap hown; have hcap : (n2 : Int) ≤ (cap : Int) := by omega))
      go_meet
      have hb4 : Below w.heap.size w (w3.alloc (.cells #[.int .i64 77, .int .i64 0] 23)) := HB3.out.alloc hz3 _
      refine ⟨g, cap, rfl, hlg, Lib.hid ⟨?_, hb4.trans ((But.grown hgr).to_below hb4.size (fun q e => ?_))⟩⟩
      · rw [cellsP_append]
        exact hown
      · have e2 : some g1 = some q := e
        simp at e2
        omega
  case rest =>
    obtain ⟨gm, cap, rfl, hgm, HO⟩ := hcut
    clear own0
    obtain ⟨hrow, hc1, hc2⟩ := own_row (ys := [(77, 0)]) HO.out.1 HE2.out hn20 hgm
    have hab := HAB.out (some ⟨gm, 0, none⟩) cap wc hrow
    have HRW := Lib.hid hrow
    have HBc := Lib.hid HO.out.2
    have c77 : wc.cell? ⟨gm, n2 * 2, none⟩ = some (.int .i64 77) := by
      have := HO.out.1.cellAt (n2 * 2) (by omega)
      rw [this, cellsP_append, List.getElem?_append_right (by rw [cellsP_length, HE2.out]; exact Nat.le_refl _), cellsP_length, HE2.out, Nat.sub_self]
      rfl
    have H77 := Lib.hid c77
    have HCP := Lib.hid (And.intro hc1 hc2)
    clear hrow c77 HAB HO
    go_upto_region 6 with (first
      | (go_at_call 21; (with_reducible refine hab.mono ?_); clear hab; rintro e w5 ⟨rfl, hb5⟩; have HB5 := Lib.hid hb5; have hrab := HRAB.out (w5.alloc (.cells #[.int .i64 R.1.1, .int .i64 R.1.2] 23)) (HR.out.keep ((HBc.out.trans (hb5.mono HBc.out.size)).alloc (Nat.le_trans HBc.out.size hb5.size) _)); clear hb5)
      | (go_at_call 22; (with_reducible refine hrab.mono ?_); clear hrab; rintro e w6 ⟨rfl, hb6⟩; have HB6 := Lib.hid hb6; clear hb6))
    obtain ⟨wE, hwE⟩ : ∃ v, w6.alloc (.cells #[.int .i64 R.1.1, .int .i64 R.1.2] 23) = v := ⟨_, rfl⟩
    have hbE : Below w6.heap.size w6 wE := by rw [← hwE]; exact (Below.refl _ _).alloc (Nat.le_refl _) _
    have hb56 : Below w5.heap.size w5 wE := bel1 (Below.refl _ _) (Nat.le_refl _) (HB6.out.trans (hbE.mono HB6.out.size))
    have hn8 : wE.heap[w5.heap.size]? = some (.cells #[.int .i64 R.1.1, .int .i64 R.1.2] 23 (0, 0)) := new1 (HB6.out.trans (hbE.mono HB6.out.size))
    have hn10 : wE.heap[w6.heap.size]? = some (.cells #[.int .i64 R.1.1, .int .i64 R.1.2] 23 (0, 0)) := by rw [← hwE]; exact World.alloc_heap_new _ _
    have hbcE : Below wc.heap.size wc wE := HB5.out.trans (hb56.mono HB5.out.size)
    have HBE := Lib.hid (HBc.out.trans (hbcE.mono HBc.out.size))
    have HRW2 := Lib.hid (HRW.out.keep hbcE)
    have HRX := Lib.hid (HR.out.keep HBE.out)
    have H772 := Lib.hid (cell_keep hbcE hgm H77.out)
    have hgE := Nat.lt_of_lt_of_le hgm hbcE.size
    obtain ⟨x8, hx8⟩ : ∃ x, w5.heap.size = x := ⟨_, rfl⟩
    obtain ⟨x10, hx10⟩ : ∃ x, w6.heap.size = x := ⟨_, rfl⟩
    rw [hx8] at hn8
    rw [hx10] at hn10
    rw [hwE, hx8, hx10]
    have HN8 := Lib.hid (And.intro hn8 hn10)
    clear hwE hbE hb56 hn8 hn10 hbcE hx8 hx10 HB5 HB6 HRAB HRW H77 HR
    go_upto_region 7 with fail
    go_loopw [12] (fun v12 wr => ∃ i : Nat, i ≤ n2 ∧ v12 = .int .i64 (i : Int) ∧ Hid (Below wE.heap.size wE wr)) (fun v12 _ => n2 - (RowKit.intOf v12).toNat)
    case atStart => exact ⟨0, Nat.zero_le _, rfl, Lib.hid (Below.refl _ _)⟩
    case round =>
      obtain ⟨wo, rfl⟩ : ∃ wo : World, wo = wr := ⟨_, rfl⟩
      obtain ⟨i, hi, rfl, HW⟩ := hrel
      have hzo := HW.out.size
      by_cases hlt : i < n2
      · have hkx : i < xs.length := by rw [HE2.out]; exact hlt
        obtain ⟨gb, off, rfl, hgb, hcl⟩ : ∃ g off, A2 = some ⟨g, off, none⟩ ∧ g < wE.heap.size ∧ ∀ j (h : j < xs.length), wE.cell? ⟨g, off + j * 2, none⟩ = some (.int .i64 xs[j].1) ∧ wE.cell? ⟨g, off + j * 2 + 1, none⟩ = some (.int .i64 xs[j].2) := by
          rcases HRX.out.2.2.2 with e | h
          · rw [e] at hkx; simp at hkx
          · exact h
        obtain ⟨g1, o1, e1, hg1, hcm⟩ : ∃ g off, some (⟨gm, 0, none⟩ : Addr) = some ⟨g, off, none⟩ ∧ g < wE.heap.size ∧ ∀ j (h : j < xs.length), wE.cell? ⟨g, off + j * 2, none⟩ = some (.int .i64 xs[j].1) ∧ wE.cell? ⟨g, off + j * 2 + 1, none⟩ = some (.int .i64 xs[j].2) := by
          rcases HRW2.out.2.2.2 with e | h
          · rw [e] at hkx; simp at hkx
          · exact h
        simp only [Option.some.injEq, Addr.mk.injEq, and_true] at e1
        obtain ⟨rfl, rfl⟩ := e1
        obtain ⟨x, hx⟩ : ∃ x, xs[i] = x := ⟨_, rfl⟩
        have k0 := hcl i hkx
        have k1 := hcm i hkx
        rw [hx] at k0 k1
        obtain ⟨xr, xp⟩ := x
        rw [Nat.zero_add] at k1
        have zo : (wo.cell? ⟨gm, i * 2, none⟩ = some (.int .i64 xr) ∧ wo.cell? ⟨gm, i * 2 + 1, none⟩ = some (.int .i64 xp)) ∧ (wo.cell? ⟨gb, off + i * 2, none⟩ = some (.int .i64 xr) ∧ wo.cell? ⟨gb, off + i * 2 + 1, none⟩ = some (.int .i64 xp)) :=
          ⟨⟨cell_keep HW.out hgE k1.1, cell_keep HW.out hgE k1.2⟩, cell_keep HW.out hgb k0.1, cell_keep HW.out hgb k0.2⟩
        have hxx : (xr == xr) = true := by simp
        have hxy : (xp == xp) = true := by simp
        clear hcl hcm k0 k1 hx hg1
        go_upto_region 9 with fail
        have hS0 : (fun W => (W.cell? ⟨gm, i * 2, none⟩ = some (.int .i64 xr) ∧ W.cell? ⟨gm, i * 2 + 1, none⟩ = some (.int .i64 xp)) ∧ (W.cell? ⟨gb, off + i * 2, none⟩ = some (.int .i64 xr) ∧ W.cell? ⟨gb, off + i * 2 + 1, none⟩ = some (.int .i64 xp))) wo.drew := zo
        refine wp_region_held_drew (S := fun W => (W.cell? ⟨gm, i * 2, none⟩ = some (.int .i64 xr) ∧ W.cell? ⟨gm, i * 2 + 1, none⟩ = some (.int .i64 xp)) ∧ (W.cell? ⟨gb, off + i * 2, none⟩ = some (.int .i64 xr) ∧ W.cell? ⟨gb, off + i * 2 + 1, none⟩ = some (.int .i64 xp))) rfl hS0 (fun hHeld => ?_)
        simp only [List.size_toArray, List.length_cons, List.length_nil, Nat.reduceAdd]
        have HB0 : Hid (Below wo.heap.size wo wo.drew) := Lib.hid (Below.refl _ _).drew
        obtain ⟨V0, hV0⟩ : ∃ V, wo.drew = V := ⟨_, rfl⟩
        rw [hV0] at hHeld hS0 HB0 ⊢
        clear hV0
        refine wpAnyH_take (i := 0) (v := .slice (some ⟨gm, 0, none⟩) n2 cap) rfl (by kernel_rfl) (by kernel_rfl) (by kernel_rfl) (fun _ _ _ h => h) (Or.inl ⟨by rfl, ?_⟩) (by assumption) ?_
        · intro wx hs1; go_simp
        (try simp only [Act.put, List.getElem_toArray, List.getElem_cons_zero, List.setIfInBounds_toArray, List.set_cons_zero, List.set_cons_succ])
        refine wpAnyH_take (i := 1) (v := .int .i64 (i : Int)) rfl (by kernel_rfl) (by kernel_rfl) (by kernel_rfl) (fun _ _ _ h => h) (Or.inl ⟨by rfl, ?_⟩) (by assumption) ?_
        · intro wx hs1; go_simp
        (try simp only [Act.put, List.getElem_toArray, List.getElem_cons_succ, List.getElem_cons_zero, List.setIfInBounds_toArray, List.set_cons_zero, List.set_cons_succ])
        refine wpAnyH_take (i := 2) (v := .pointer (some ⟨gm, i * 2, none⟩)) rfl (by kernel_rfl) (by kernel_rfl) (by kernel_rfl) (fun _ _ _ h => h) (Or.inl ⟨by rfl, ?_⟩) (by assumption) ?_
        · intro wx hs1; go_simp
        (try simp only [Act.put, List.getElem_toArray, List.getElem_cons_succ, List.getElem_cons_zero, List.setIfInBounds_toArray, List.set_cons_zero, List.set_cons_succ])
        refine wpAnyH_take (i := 3) (v := .agg #[.int .i64 xr, .int .i64 xp]) rfl (by kernel_rfl) (by kernel_rfl) (by kernel_rfl) (fun _ _ _ h => h) (Or.inl ⟨by rfl, ?_⟩) (by assumption) ?_
        · intro wx hs1; obtain ⟨⟨s0, s1⟩, s2, s3⟩ := hs1; go_simp
        (try simp only [Act.put, List.getElem_toArray, List.getElem_cons_succ, List.getElem_cons_zero, List.setIfInBounds_toArray, List.set_cons_zero, List.set_cons_succ])
        refine wpAnyH_take (i := 4) (v := .slice (some ⟨gb, off, none⟩) n2 c2) rfl (by kernel_rfl) (by kernel_rfl) (by kernel_rfl) (fun _ _ _ h => h) (Or.inl ⟨by rfl, ?_⟩) (by assumption) ?_
        · intro wx hs1; go_simp
        (try simp only [Act.put, List.getElem_toArray, List.getElem_cons_succ, List.getElem_cons_zero, List.setIfInBounds_toArray, List.set_cons_zero, List.set_cons_succ])
        refine wpAnyH_take (i := 5) (v := .int .i64 (i : Int)) rfl (by kernel_rfl) (by kernel_rfl) (by kernel_rfl) (fun _ _ _ h => h) (Or.inl ⟨by rfl, ?_⟩) (by assumption) ?_
        · intro wx hs1; go_simp
        (try simp only [Act.put, List.getElem_toArray, List.getElem_cons_succ, List.getElem_cons_zero, List.setIfInBounds_toArray, List.set_cons_zero, List.set_cons_succ])
        refine wpAnyH_take (i := 6) (v := .pointer (some ⟨gb, off + i * 2, none⟩)) rfl (by kernel_rfl) (by kernel_rfl) (by kernel_rfl) (fun _ _ _ h => h) (Or.inl ⟨by rfl, ?_⟩) (by assumption) ?_
        · intro wx hs1; go_simp
        (try simp only [Act.put, List.getElem_toArray, List.getElem_cons_succ, List.getElem_cons_zero, List.setIfInBounds_toArray, List.set_cons_zero, List.set_cons_succ])
        refine wpAnyH_take (i := 7) (v := .agg #[.int .i64 xr, .int .i64 xp]) rfl (by kernel_rfl) (by kernel_rfl) (by kernel_rfl) (fun _ _ _ h => h) (Or.inl ⟨by rfl, ?_⟩) (by assumption) ?_
        · intro wx hs1; obtain ⟨⟨s0, s1⟩, s2, s3⟩ := hs1; go_simp
        (try simp only [Act.put, List.getElem_toArray, List.getElem_cons_succ, List.getElem_cons_zero, List.setIfInBounds_toArray, List.set_cons_zero, List.set_cons_succ])
        refine wpAnyH_take (i := 8) (v := .bool false) rfl (by kernel_rfl) (by kernel_rfl) (by kernel_rfl) (fun _ _ _ h => h) (Or.inl ⟨by rfl, ?_⟩) (by assumption) ?_
        · intro wx hs1; go_simp
        (try simp only [Act.put, List.getElem_toArray, List.getElem_cons_succ, List.getElem_cons_zero, List.setIfInBounds_toArray, List.set_cons_zero, List.set_cons_succ])
        refine wpAnyH_done (by kernel_rfl) ?_ _
        have HE := Lib.hid (HW.out.trans (HB0.out.mono HW.out.size))
        go_wp2
        go_roundw
        case rel => exact ⟨i + 1, by omega, by go_num, HE⟩
        case measure => simp [RowKit.intOf]; omega
      · obtain rfl : i = n2 := by omega
        have hn : ∀ W, Calls Try.prog 13 #[.int .i64 R.2] W fun e w' => e = .returned (.int .i64 R.2) ∧ W = w' := fun W => num_any R.2 W
        obtain ⟨hn8, hn10⟩ := HN8.out
        have h8 := (HW.out.block _ (Array.getElem?_eq_some_iff.1 hn8).1).trans hn8
        have h10 := (HW.out.block _ (Array.getElem?_eq_some_iff.1 hn10).1).trans hn10
        have a0 := cell_of_heap h8 0
        have a1 := cell_of_heap h8 1
        have b0 := cell_of_heap h10 0
        have b1 := cell_of_heap h10 1
        simp only [List.getElem?_toArray, List.getElem?_cons_zero, List.getElem?_cons_succ] at a0 a1 b0 b1
        have c77 := cell_keep HW.out hgE H772.out
        obtain ⟨r1, hr1⟩ : ∃ x, R.1.1 = x := ⟨_, rfl⟩
        obtain ⟨r2, hr2⟩ : ∃ x, R.1.2 = x := ⟨_, rfl⟩
        obtain ⟨r3, hr3⟩ : ∃ x, R.2 = x := ⟨_, rfl⟩
        rw [hr1] at a0 b0
        rw [hr2] at a1 b1
        rw [hr3] at hn
        have k1 : (r1 == r1) = true := by simp
        have k2 : (r2 == r2) = true := by simp
        have k3 : (r3 == r3) = true := by simp
        obtain ⟨hc1, hc2⟩ := HCP.out
        have hcI : (i : Int) + 1 ≤ (cap : Int) := by omega
        have HL := Lib.hid (HBE.out.trans (HW.out.mono HBE.out.size))
        clear hn8 hn10 h8 h10 hr1 hr2
        have HR3 := Lib.hid hr3
        clear hr3
        go_wp2_with (first
          | (go_at_call 13; (rw [HR3.out]; with_reducible refine (hn _).mono ?_); rintro e w' ⟨rfl, rfl⟩)
          | (go_at_call 15; (with_reducible refine (hw _).mono ?_); rintro e w7 ⟨rfl, hb7⟩; have HB7 := Lib.hid hb7; clear hb7))
        go_ret
        exact ⟨rfl, HL.out.trans (HB7.out.mono HL.out.size)⟩
end Go.Proofs
