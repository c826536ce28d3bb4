/-
  A net's calls, by its data. Conditions: as each theorem names them.
-/
import Derived.Test.YtkipjlcbmiagcaaNtY
namespace Go.Proofs
open Go Go.RowKit Sm Go.Lib Go.Maps Go.WideMaps
theorem Sm.parts {B : Nat → Prop} {W : World} {p : Nat} {N : NM} (h : Nt B W p N) (k : Nat) (hk : k < N.P.length) : ∃ Mb base g cap L m, NAt W p Mb base N.s N.D (some ⟨g, 0, none⟩) cap L ∧ L.map MsgM.d = N.P ∧ B p ∧ B Mb ∧ B g ∧ (∀ m ∈ L, ∀ b, m.sl.ownBlock = some b → B b) ∧ L.length = k + 1 + m := by
  obtain ⟨Mb, base, A, cap, L, h1, h2, h3, h4, h5, h6⟩ := h
  have hl : L.length = N.P.length := by rw [← h2, List.length_map]
  obtain ⟨g, cap', hv, _, _⟩ := h1.row.form (by omega)
  injection hv with hv1 hv2 hv3
  subst hv1
  exact ⟨Mb, base, g, cap, L, L.length - (k + 1), h1, h2, h3, h4, h5 g rfl, h6, by omega⟩
theorem Sm.erase_map (L : List MsgM) (i : Nat) : (L.eraseIdx i).map MsgM.d = (L.map MsgM.d).eraseIdx i := by
  rw [List.eraseIdx_eq_take_drop_succ, List.eraseIdx_eq_take_drop_succ, List.map_append, List.map_take, List.map_drop]
/-- what a call does that adds nothing to a net -/
def Sm.StepK (B : Nat → Prop) (W W' : World) (p : Nat) (N : NM) : Prop := Nt B W' p N ∧ But B W W'
theorem Sm.stepK_same {B : Nat → Prop} {W W' : World} {p : Nat} {N : NM} (h : Nt B W p N) (hb : Below W.heap.size W W') : StepK B W W' p N := ⟨h.keep hb, But.of_all hb _⟩
section
variable {B : Nat → Prop} {p : Nat} {N : NM}
theorem Sm.len_N (x y : Int) (w : World) (h : Nt B w p N) : Calls Try.prog 20 #[.pointer (some ⟨p, 0, none⟩), .int .i64 x, .int .i64 y] w fun e w' => e = .returned (.int .i64 ((onP x y N.P).length : Int)) ∧ Below w.heap.size w w' := by
  obtain ⟨Mb, base, A, cap, L, h1, h2, _⟩ := h
  rw [← h2]
  exact len_any x y w h1
theorem Sm.isDown_N (x y : Int) (w : World) (h : Nt B w p N) (hx : I64 x) (hy : I64 y) : Calls Try.prog 19 #[.pointer (some ⟨p, 0, none⟩), .int .i64 x, .int .i64 y] w fun e w' => e = .returned (.bool (decide ((x, y) ∈ N.D))) ∧ Below w.heap.size w w' := by
  obtain ⟨Mb, base, A, cap, L, h1, h2, _⟩ := h
  exact isDown_any x y w h1 hx hy
theorem Sm.came_N (w : World) (h : Nt B w p N) : Calls Try.prog 21 #[.pointer (some ⟨p, 0, none⟩)] w fun e w' => e = .returned (.int .i64 N.s.came) ∧ w = w' := by
  obtain ⟨Mb, base, A, cap, L, h1, h2, _⟩ := h
  exact came_any w h1
theorem Sm.down_N (x y : Int) (is : Bool) (w : World) (h : Nt B w p N) : Calls Try.prog 18 #[.pointer (some ⟨p, 0, none⟩), .int .i64 x, .int .i64 y, .bool is] w fun e w' => e = .returned (.int .i64 (downN N x y is).2) ∧ StepK B w w' p (downN N x y is).1 := by
  have h0 := h
  obtain ⟨Mb, base, A, cap, L, h1, h2, h3, h4, h5, h6⟩ := h
  unfold downN
  cases hl : lnkB N.s x y with
  | true =>
    rw [if_pos rfl]
    refine (down_yes x y is w h1 hl).mono ?_
    rintro e w' ⟨rfl, k1, k2⟩
    exact ⟨rfl, ⟨Mb, base, A, cap, L, k1, h2, h3, h4, fun b e => h5 b e, fun m hm b e => h6 m hm b e⟩, k2.mono (fun b _ e => by
      rcases e with e | e
      · exact e ▸ h3
      · exact e ▸ h4)⟩
  | false =>
    rw [if_neg (by decide)]
    refine (down_bad x y is w h1 hl).mono ?_
    rintro e w' ⟨rfl, k1⟩
    exact ⟨rfl, stepK_same h0 k1⟩
theorem Sm.put_N (x y : Int) (A : Option Addr) (n c : Nat) (l : List (BitVec 8)) (w : World) (h : Nt B w p N) (hc : N.s.came < 1000000000) (hln : l.length = n) (hn : n ≤ 1000000000) (hrd : Rd w w.heap.size A l) :
    Calls Try.prog 12 #[.pointer (some ⟨p, 0, none⟩), .int .i64 x, .int .i64 y, .slice A n c] w fun e w' => e = .returned (.tuple #[.int .i64 (putN N x y l).2.1, .int .i64 (putN N x y l).2.2]) ∧ StepN B w w' p (putN N x y l).1 := by
  have h0 := h
  obtain ⟨Mb, base, A0, cap, L, h1, h2, h3, h4, h5, h6⟩ := h
  have hl : L.length = N.P.length := by rw [← h2, List.length_map]
  subst hln
  unfold putN
  by_cases hE : putE N.s N.D N.P.length x y l.length = 0
  · rw [if_neg (by simp [hE])]
    have hE2 := hE
    unfold putE at hE2
    split at hE2
    · cases hE2
    · rename_i e1
      split at hE2
      · cases hE2
      · rename_i e2
        split at hE2
        · cases hE2
        · rename_i e3
          split at hE2
          · cases hE2
          · rename_i e4
            refine (put_ok x y A l.length c w.heap.size l w h1 (by cases hh : lnkB N.s x y <;> simp_all) (by omega) e3 (by rw [hl]; exact e4) hc rfl hrd (Nat.le_refl _)).mono ?_
            rintro e w' ⟨A', cap', m, rfl, k1, k2, k3, k4, k5, k6, k7, k8⟩
            refine ⟨rfl, ⟨Mb, base, A', cap', L ++ [m], k1, ?_, .inl h3, .inl h4, fun b e => ?_, fun m' hm b e => ?_⟩, k6.mono (fun b _ e => ?_)⟩
            · rw [List.map_append, h2]
              simp only [List.map_cons, List.map_nil]
              unfold MsgM.d
              rw [k2, k3, k4, k5]
            · rw [List.length_append] at e
              rcases k7 with k7 | k7
              · exact .inl (h5 b (by rw [← k7]; exact e))
              · exact .inr (k7 b e)
            · rcases List.mem_append.1 hm with hm | hm
              · exact .inl (h6 m' hm b e)
              · rw [List.mem_singleton] at hm
                subst hm
                exact .inr (k8 b e)
            · rcases e with e | e
              · exact e ▸ h3
              · exact h5 b e
  · rw [if_pos hE]
    have hb := put_bad x y A l.length c w h1 hn (by rw [hl]; exact hE)
    rw [hl] at hb
    refine hb.mono ?_
    rintro e w' ⟨rfl, k1⟩
    exact ⟨rfl, stepN_same h0 k1⟩
theorem Sm.peek_N (x y pick : Int) (w : World) (h : Nt B w p N) : Calls Try.prog 13 #[.pointer (some ⟨p, 0, none⟩), .int .i64 x, .int .i64 y, .int .i64 pick] w fun e w' => ∃ A c, e = .returned (.tuple #[parVal (peekN N x y pick).1 A c, .int .i64 (peekN N x y pick).2]) ∧ ParV w' w.heap.size (peekN N x y pick).1 A c ∧ Below w.heap.size w w' := by
  obtain ⟨Mb, base, A, cap, L, h1, h2, _⟩ := h
  exact peek_of _ x y pick _ _ _ w (fun W hb => reach_N x y pick W (h1.keep hb) h2)
theorem Sm.take_N (x y pick : Int) (w : World) (h : Nt B w p N) : Calls Try.prog 14 #[.pointer (some ⟨p, 0, none⟩), .int .i64 x, .int .i64 y, .int .i64 pick] w fun e w' => ∃ A c, e = .returned (.tuple #[parVal (takeN N x y pick).2.1 A c, .int .i64 (takeN N x y pick).2.2]) ∧ ParV w' w.heap.size (takeN N x y pick).2.1 A c ∧ StepK B w w' p (takeN N x y pick).1 := by
  by_cases hE : reachE N x y pick = 0
  · have hf : findE N x y = 0 := by
      unfold reachE at hE
      by_cases e : findE N x y = 0
      · exact e
      · rw [if_pos e] at hE
        exact hE
    have hlt := (find_ok pick hf).2.1
    have ht : takeN N x y pick = (N.less (findA N x y pick), findP N x y pick, 0) := by
      unfold takeN
      rw [if_neg (by simp [hE])]
    have hp : peekN N x y pick = (findP N x y pick, 0) := by
      unfold peekN
      rw [if_neg (by simp [hE])]
    obtain ⟨Mb, base, g, cap, L, m, h1, h2, h3, h4, h5, h6, h7⟩ := parts h (findA N x y pick) hlt
    rw [ht]
    refine (take_yes x y pick (findA N x y pick) m (findP N x y pick) w h1 h7 (fun W hb => ?_)).mono ?_
    · have := reach_N x y pick W (h1.keep hb) h2
      rw [hp, if_pos hE] at this
      exact this
    · rintro e w' ⟨A, c, rfl, k1, k2, k3⟩
      refine ⟨A, c, rfl, k1, ⟨Mb, base, _, cap, _, k2, ?_, h3, h4, fun b e => ?_, fun m' hm b e => h6 m' (List.mem_of_mem_eraseIdx hm) b e⟩, k3.mono (fun b _ e => ?_)⟩
      · rw [erase_map, h2]
        rfl
      · have e3 : g = b := Option.some.inj e
        exact e3 ▸ h5
      · rcases e with e | e
        · exact e ▸ h3
        · have e3 : g = b := Option.some.inj e
          exact e3 ▸ h5
  · have ht : takeN N x y pick = (N, zeroP, reachE N x y pick) := by
      unfold takeN
      rw [if_pos hE]
    have hp : peekN N x y pick = (zeroP, reachE N x y pick) := by
      unfold peekN
      rw [if_pos hE]
    rw [ht]
    have h0 := h
    obtain ⟨Mb, base, A, cap, L, h1, h2, _⟩ := h
    refine (take_bad (.pointer (some ⟨p, 0, none⟩)) x y pick 0 (reachE N x y pick) zeroP w hE (fun W hb => ?_)).mono ?_
    · have := reach_N x y pick W (h1.keep hb) h2
      rw [hp, if_neg hE] at this
      exact this
    · rintro e w' ⟨A, c, rfl, k1, k2⟩
      exact ⟨A, c, rfl, k1, stepK_same h0 k2⟩
theorem Sm.drop_N (x y pick : Int) (w : World) (h : Nt B w p N) : Calls Try.prog 15 #[.pointer (some ⟨p, 0, none⟩), .int .i64 x, .int .i64 y, .int .i64 pick] w fun e w' => e = .returned (.tuple #[.int .i64 (dropN N x y pick).2.1, .int .i64 (dropN N x y pick).2.2]) ∧ StepK B w w' p (dropN N x y pick).1 := by
  have hNe : ∀ L : List MsgM, L.map MsgM.d = N.P → (⟨N.s, N.D, L.map MsgM.d⟩ : NM) = N := fun L hL => by rw [hL]
  by_cases hE : findE N x y = 0
  · have hlt := (find_ok pick hE).2.1
    have ht : dropN N x y pick = (N.less (findA N x y pick), (findP N x y pick).1, 0) := by
      unfold dropN
      rw [if_neg (by simp [hE])]
    obtain ⟨Mb, base, g, cap, L, m, h1, h2, h3, h4, h5, h6, h7⟩ := parts h (findA N x y pick) hlt
    obtain ⟨M, hM, hfp, _⟩ := find_msg h2 pick hE
    rw [ht, hfp]
    have hfy := find_yes x y pick w h1 (by rw [hNe L h2]; exact hE)
    rw [hNe L h2] at hfy
    refine (drop_yes x y pick (findA N x y pick) m M w h1 h7 hM hfy).mono ?_
    rintro e w' ⟨rfl, k2, k3⟩
    refine ⟨rfl, ⟨Mb, base, _, cap, _, k2, ?_, h3, h4, fun b e => ?_, fun m' hm b e => h6 m' (List.mem_of_mem_eraseIdx hm) b e⟩, k3.mono (fun b _ e => ?_)⟩
    · rw [erase_map, h2]
      rfl
    · have e3 : g = b := Option.some.inj e
      exact e3 ▸ h5
    · rcases e with e | e
      · exact e ▸ h3
      · have e3 : g = b := Option.some.inj e
        exact e3 ▸ h5
  · have ht : dropN N x y pick = (N, 0, findE N x y) := by
      unfold dropN
      rw [if_pos hE]
    rw [ht]
    have h0 := h
    obtain ⟨Mb, base, A, cap, L, h1, h2, _⟩ := h
    have hfe := find_err x y pick w h1 (by rw [hNe L h2]; exact hE)
    rw [hNe L h2] at hfe
    refine (drop_bad (.pointer (some ⟨p, 0, none⟩)) x y pick _ w hE hfe).mono ?_
    rintro e w' ⟨rfl, k2⟩
    exact ⟨rfl, stepK_same h0 k2⟩
end
/-- a new net -/
theorem Sm.new_N (ends most : Int) (w : World) (hb : newB ends most = true) : Calls Try.prog 26 #[.int .i64 ends, .int .i64 most] w fun e w' => ∃ p, e = .returned (.tuple #[.pointer (some ⟨p, 0, none⟩), .int .i64 0]) ∧ Nt (fun b => w.heap.size ≤ b) w' p ⟨⟨ends, most, 0⟩, [], []⟩ ∧ Below w.heap.size w w' := by
  refine (new_yes ends most w hb).mono ?_
  rintro e w' ⟨p, Mb, base, rfl, k1, k2, k3, k4⟩
  exact ⟨p, rfl, ⟨Mb, base, none, 0, [], k1, rfl, k2, k3, fun b e => (by cases e), fun m hm => (by cases hm)⟩, k4⟩
end Go.Proofs
