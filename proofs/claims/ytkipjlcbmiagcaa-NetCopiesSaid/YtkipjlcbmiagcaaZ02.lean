/-
  few: are there few calls, and small ones? Conditions: as each theorem names them.
  SameParcel: are two parcels the same? Conditions: as each theorem names them.
  What stands between a net, what was put and what is gone. No condition.
  The document's net in memory; End, IsDown, New. Conditions: as each theorem names them.
  The document's On, picked, Peek. Conditions: as each theorem names them.
  The document's picked, Peek. Conditions: as each theorem names them.
  A region that draws its order and ends with one operation that waits for all others: it is enough to walk through the others and that one behind them. Conditions: no guard; each operation waits for earlier ones alone.
  The document's net without one message. Conditions: as each theorem names them.
  The document's Take and Drop. Conditions: as each theorem names them.
  The document's Drop. Conditions: as the theorem names them.
  The document's New. Conditions: none.
  The document's Put, refused; an append out of whatever row. Conditions: as each theorem names them.
  The document's Put, carried out. Conditions: as each theorem names them.
-/
import Derived.Deep.CutRange
import Derived.Deep.DeepCutAuto
import Derived.Test.YtkipjlcbmiagcaaZ00
import Derived.Test.YtkipjlcbmiagcaaZ01
import Derived.Maps.AppendAt
import Derived.OrdersHeld
import Derived.Shelf.Abstract
import Derived.Test.YtkipjlcbmiagcaaProg
namespace Go.Proofs
open Go Go.RowKit Sm Go.Lib Go.Maps Go.WideMaps
attribute [local go_sem] Oper.semAt_some
def Sm.smallA (x : ActV) : Bool := decide (x.n ≤ 200)
def Sm.fewM (xs : List ActV) (m : Int) : Bool := xs.all smallA && decide ((xs.length : Int) ≤ m)
theorem Sm.RdActs.keep {w W : World} {A : Option Addr} {xs : List ActV} (h : RdActs w A xs) (hb : Below w.heap.size w W) : RdActs W A xs := fun h0 => by
  obtain ⟨b, off, e, hlt, hc⟩ := h h0
  exact ⟨b, off, e, Nat.lt_of_lt_of_le hlt hb.size, fun j x hj i v hi => (hb.cell (p := ⟨b, off + j * 6 + i, none⟩) hlt).trans (hc j x hj i v hi)⟩
theorem Sm.ActV.came.keep {x : ActV} {w W : World} (h : x.came w) (hb : Below w.heap.size w W) : x.came W :=
  ⟨h.len, h.room, (h.rd.belowTo hb (Nat.le_refl _)).more hb.size, h.ws, h.wd, h.ww⟩
set_option maxRecDepth 100000 in
set_option maxHeartbeats 2000000 in
theorem Sm.few_any (A : Option Addr) (n c : Nat) (xs : List ActV) (m : Int) (w : World) (hR : RdActs w A xs) (hn : xs.length = n) (hc : n ≤ c) (hc2 : c ≤ 9223372036854775807) (hcame : ∀ x ∈ xs, x.came w) :
    Calls Try.prog 9 #[.slice A n c, .int .i64 m] w fun e w' => e = .returned (.bool (fewM xs m)) ∧ w = w' := by
  have HR := Lib.hid hR
  have HN := Lib.hid hn
  have HC := Lib.hid hcame
  have hnI : (n : Int) ≤ 9223372036854775807 := by omega
  clear hR hn hcame
  go_enter Try.func9, Try.ntmps9
  go_wp2
  go_loopw [5] (fun v5 wr => ∃ k : Nat, k ≤ n ∧ v5 = .int .i64 (k : Int) ∧ Hid ((xs.take k).all smallA = true) ∧ wr = w) (fun v5 _ => n - (RowKit.intOf v5).toNat)
  case atStart => exact ⟨0, Nat.zero_le _, rfl, Lib.hid rfl, rfl⟩
  case round =>
    obtain ⟨k, hk, rfl, HA, rfl⟩ := hrel
    by_cases hlt : k < n
    · have hkx : k < xs.length := by rw [HN.out]; exact hlt
      obtain ⟨b, off, rfl, hb, hcl⟩ := HR.out (by omega)
      obtain ⟨X, hX⟩ : ∃ X, xs[k] = X := ⟨_, rfl⟩
      have hXm : X ∈ xs := by rw [← hX]; exact List.getElem_mem hkx
      have q3 := hcl k X (by rw [List.getElem?_eq_getElem hkx, hX]) 4 _ rfl
      have hcame := HC.out X hXm
      have i1 : (X.n : Int) ≤ 9223372036854775807 := by have := hcame.room; omega
      have htk : xs.take (k + 1) = xs.take k ++ [X] := by rw [← hX]; exact List.take_succ_eq_append_getElem hkx
      have HALL : Hid (smallA X = true → (xs.take (k + 1)).all smallA = true) := Lib.hid fun e => by
        rw [htk, List.all_append, HA.out]
        simp [e]
      have HNO : Hid (smallA X = false → fewM xs m = false) := Lib.hid fun e => by
        unfold fewM
        rw [Bool.and_eq_false_iff]
        left
        cases h : xs.all smallA with
        | false => rfl
        | true =>
          have := List.all_eq_true.1 h X hXm
          rw [e] at this
          cases this
      obtain ⟨Xn, hXn⟩ : ∃ Xn, X.n = Xn := ⟨_, rfl⟩
      have hsm : smallA X = decide (Xn ≤ 200) := by
        unfold smallA
        rw [hXn]
      rw [hXn] at q3 i1
      rw [hsm] at HALL HNO
      clear hcl hX htk hsm hXn hcame
      by_cases g1 : Xn ≤ 200
      · have g1I : ¬ (200 : Int) < (Xn : Int) := by omega
        have HA2 := Lib.hid (HALL.out (by simp [g1]))
        go_wp2
        go_roundw
        case rel => exact ⟨k + 1, by omega, by go_num, HA2, by first | rfl | trivial⟩
        case measure => simp [RowKit.intOf]; omega
      · have g1I : (200 : Int) < (Xn : Int) := by omega
        go_wp2
        go_ret
        exact ⟨by rw [HNO.out (by rw [decide_eq_false_iff_not]; omega)]; rfl, rfl⟩
    · obtain rfl : k = n := by omega
      have HF : Hid (fewM xs m = decide ((k : Int) ≤ m)) := Lib.hid (by
        have h1 := HA.out
        rw [List.take_of_length_le (by rw [HN.out]; exact Nat.le_refl _)] at h1
        unfold fewM
        rw [h1, HN.out]
        rfl)
      go_wp2
      go_ret
      exact ⟨by rw [HF.out]; rfl, rfl⟩
theorem Sm.few_small {xs : List ActV} {m : Int} (h : fewM xs m = true) : (∀ x ∈ xs, x.n ≤ 200) ∧ (xs.length : Int) ≤ m := by
  unfold fewM at h
  rw [Bool.and_eq_true] at h
  refine ⟨fun x hx => ?_, of_decide_eq_true h.2⟩
  have := List.all_eq_true.1 h.1 x hx
  exact of_decide_eq_true this
end Go.Proofs
namespace Go.Proofs
open Go Go.RowKit Sm Go.Lib Go.Maps Go.WideMaps
attribute [local go_sem] Oper.semAt_some
theorem Sm.conv_rd {W : World} {A : Option Addr} {l : List (BitVec 8)} {n c : Nat} (hn : l.length = n) (h : Rd W W.heap.size A l) : (convert 39 9 (.slice A n c)).run Try.prog W = .ok (.string (strB l)) W :=
  run_str (P := Try.prog) W 39 5 Try.underlying39 Try.underlying5 l n c W.heap.size A hn h 9 Try.underlying9
set_option maxRecDepth 100000 in
set_option maxHeartbeats 1000000 in
theorem Sm.sameP_any (a b d a' b' d' : Int) (l l' : List (BitVec 8)) (A A' : Option Addr) (n c n' c' : Nat) (w : World) (hn : l.length = n) (hn' : l'.length = n') (h : Rd w w.heap.size A l) (h' : Rd w w.heap.size A' l') :
    Calls Try.prog 28 #[.agg #[.int .i64 a, .int .i64 b, .int .i64 d, .slice A n c], .agg #[.int .i64 a', .int .i64 b', .int .i64 d', .slice A' n' c']] w fun e w' => e = .returned (.bool (decide (a = a' ∧ b = b' ∧ d = d' ∧ l = l'))) ∧ Below w.heap.size w w' := by
  have hb2 : Below w.heap.size w ((w.alloc (.cells #[.int .i64 a, .int .i64 b, .int .i64 d, .slice A n c] 41)).alloc (.cells #[.int .i64 a', .int .i64 b', .int .i64 d', .slice A' n' c'] 41)) := bel2 w _ _
  by_cases h1 : a = a'
  · subst h1
    by_cases h2 : b = b'
    · subst h2
      by_cases h3 : d = d'
      · subst h3
        have e1 := conv_rd (c := c) hn ((h.belowTo hb2 (Nat.le_refl _)).more hb2.size)
        have e2 := conv_rd (c := c') hn' ((h'.belowTo hb2 (Nat.le_refl _)).more hb2.size)
        clear h h'
        by_cases h4 : l = l'
        · subst h4
          subst hn'
          subst hn
          obtain ⟨S, hS⟩ : ∃ S, strB l = S := ⟨_, rfl⟩
          obtain ⟨N, hN⟩ : ∃ N, l.length = N := ⟨_, rfl⟩
          rw [hS] at e1 e2
          rw [hN] at e1 e2 hb2 ⊢
          clear hS hN
          go_enter Try.func28, Try.ntmps28
          go_wp2
          go_ret
          exact ⟨by simp, hb2⟩
        · have hne : ¬ (strB l).toList = (strB l').toList := fun e => h4 (by
            have h9 := str_cmp (strB l) (strB l')
            rw [e, strL_strB, strL_strB] at h9
            simpa using h9.symm)
          obtain ⟨S, hS⟩ : ∃ S, strB l = S := ⟨_, rfl⟩
          obtain ⟨S', hS'⟩ : ∃ S, strB l' = S := ⟨_, rfl⟩
          rw [hS] at e1 hne
          rw [hS'] at e2 hne
          clear hS hS' hn hn'
          go_enter Try.func28, Try.ntmps28
          go_wp2
          go_ret
          exact ⟨by simp [h4, hne], hb2⟩
      · have h3' : (d == d') = false := by simpa using h3
        clear h h'
        go_enter Try.func28, Try.ntmps28
        go_wp2
        go_ret
        exact ⟨by simp [h3], hb2⟩
    · have h2' : (b == b') = false := by simpa using h2
      clear h h'
      go_enter Try.func28, Try.ntmps28
      go_wp2
      go_ret
      exact ⟨by simp [h2], hb2⟩
  · have h1' : (a == a') = false := by simpa using h1
    clear h h'
    go_enter Try.func28, Try.ntmps28
    go_wp2
    go_ret
    exact ⟨by simp [h1], hb2⟩
end Go.Proofs
namespace Go.Proofs
open Go Go.RowKit Sm Go.Lib Go.Maps Go.WideMaps
structure Sm.OnceM (N : NM) (ps : List PD) (gone : List Int) : Prop where
  came : N.s.came = ps.length
  at_ : ∀ m ∈ N.P, ∃ j : Nat, m.1 = j ∧ ps[j]? = some m
  nums : (N.P.map (fun m => m.1)).Nodup
  gn : ∀ g ∈ gone, 0 ≤ g ∧ g < ps.length ∧ g ∉ N.P.map (fun m => m.1)
  len : N.P.length + gone.length = ps.length
theorem Sm.OnceM.put {N : NM} {ps : List PD} {gone : List Int} (h : OnceM N ps gone) (x y : Int) (b : List (BitVec 8)) : OnceM ⟨⟨N.s.ends, N.s.most, N.s.came + 1⟩, N.D, N.P ++ [(N.s.came, x, y, b)]⟩ (ps ++ [(N.s.came, x, y, b)]) gone := by
  have hlt : ∀ m ∈ N.P, m.1 < N.s.came := fun m hm => by
    obtain ⟨j, h1, h2⟩ := h.at_ m hm
    have := (List.getElem?_eq_some_iff.1 h2).1
    have := h.came
    omega
  refine ⟨?_, fun m hm => ?_, ?_, fun g hg => ?_, ?_⟩
  · show N.s.came + 1 = _
    rw [List.length_append, List.length_singleton, h.came]
    omega
  · rcases List.mem_append.1 hm with hm | hm
    · obtain ⟨j, h1, h2⟩ := h.at_ m hm
      exact ⟨j, h1, by rw [List.getElem?_append_left (List.getElem?_eq_some_iff.1 h2).1]; exact h2⟩
    · rw [List.mem_singleton] at hm
      subst hm
      refine ⟨ps.length, h.came, ?_⟩
      rw [List.getElem?_append_right (Nat.le_refl _), Nat.sub_self]
      rfl
  · rw [List.map_append, List.nodup_append]
    refine ⟨h.nums, by simp, fun a ha b hb e => ?_⟩
    simp only [List.map_cons, List.map_nil, List.mem_singleton] at hb
    obtain ⟨m, hm, rfl⟩ := List.mem_map.1 ha
    have h1 := hlt m hm
    have h2 : m.1 = N.s.came := e.trans hb
    omega
  · obtain ⟨h1, h2, h3⟩ := h.gn g hg
    refine ⟨h1, by rw [List.length_append, List.length_singleton]; omega, fun hm => ?_⟩
    rw [List.map_append, List.mem_append] at hm
    rcases hm with hm | hm
    · exact h3 hm
    · simp only [List.map_cons, List.map_nil, List.mem_singleton] at hm
      have := h.came
      omega
  · simp only [List.length_append, List.length_singleton]
    have := h.len
    omega
theorem Sm.OnceM.same {N N' : NM} {ps : List PD} {gone : List Int} (h : OnceM N ps gone) (hs : N'.s = N.s) (hP : N'.P = N.P) : OnceM N' ps gone :=
  ⟨by rw [hs]; exact h.came, by rw [hP]; exact h.at_, by rw [hP]; exact h.nums, by rw [hP]; exact h.gn, by rw [hP]; exact h.len⟩
theorem Sm.OnceM.found {N : NM} {ps : List PD} {gone : List Int} (h : OnceM N ps gone) {i : Nat} {m : PD} (hm : N.P[i]? = some m) : ∃ j : Nat, m.1 = j ∧ ps[j]? = some m ∧ j < ps.length ∧ m.1 ∉ gone := by
  obtain ⟨j, h1, h2⟩ := h.at_ m (List.mem_of_getElem? hm)
  exact ⟨j, h1, h2, (List.getElem?_eq_some_iff.1 h2).1, fun hg => (h.gn _ hg).2.2 (List.mem_map.2 ⟨m, List.mem_of_getElem? hm, rfl⟩)⟩
theorem Sm.OnceM.less {N : NM} {ps : List PD} {gone : List Int} (h : OnceM N ps gone) {i : Nat} {m : PD} (hm : N.P[i]? = some m) : OnceM (N.less i) ps (gone ++ [m.1]) := by
  have hi := (List.getElem?_eq_some_iff.1 hm).1
  have hsub : ∀ x ∈ (N.less i).P, x ∈ N.P := fun x hx => List.mem_of_mem_eraseIdx hx
  have hmap : (N.less i).P.map (fun m => m.1) = (N.P.map (fun m => m.1)).eraseIdx i := by
    unfold NM.less
    simp only
    rw [List.eraseIdx_eq_take_drop_succ, List.eraseIdx_eq_take_drop_succ, List.map_append, List.map_take, List.map_drop]
  refine ⟨h.came, fun x hx => h.at_ x (hsub x hx), ?_, fun g hg => ?_, ?_⟩
  · rw [hmap]
    exact h.nums.sublist (List.eraseIdx_sublist _ _)
  · rcases List.mem_append.1 hg with hg | hg
    · obtain ⟨h1, h2, h3⟩ := h.gn g hg
      exact ⟨h1, h2, fun hx => h3 (by
        obtain ⟨x, hx1, hx2⟩ := List.mem_map.1 hx
        exact List.mem_map.2 ⟨x, hsub x hx1, hx2⟩)⟩
    · rw [List.mem_singleton] at hg
      subst hg
      obtain ⟨j, h1, h2, h3, _⟩ := h.found hm
      refine ⟨by omega, by omega, fun hx => ?_⟩
      rw [hmap] at hx
      have hk : (N.P.map (fun m => m.1))[i]? = some m.1 := by rw [List.getElem?_map, hm]; rfl
      have hil : i < (N.P.map (fun m => m.1)).length := (List.getElem?_eq_some_iff.1 hk).1
      have hx2 : m.1 ∈ (N.P.map (fun m => m.1)).eraseIdx i := hx
      rw [List.mem_eraseIdx_iff_getElem?] at hx2
      obtain ⟨j', hj1, hj2⟩ := hx2
      have hj' := (List.getElem?_eq_some_iff.1 hj2).1
      have h9 := List.pairwise_iff_getElem.1 h.nums
      have k1 : (N.P.map (fun m => m.1))[i] = m.1 := by rw [List.getElem?_eq_getElem hil] at hk; exact Option.some.inj hk
      have k2 : (N.P.map (fun m => m.1))[j'] = m.1 := by rw [List.getElem?_eq_getElem hj'] at hj2; exact Option.some.inj hj2
      rcases Nat.lt_trichotomy i j' with e | e | e
      · exact h9 i j' hil hj' e (k1.trans k2.symm)
      · exact hj1 e.symm
      · exact h9 j' i hj' hil e (k2.trans k1.symm)
  · have e1 : (N.less i).P.length = N.P.length - 1 := by
      unfold NM.less
      simp only
      exact List.length_eraseIdx_of_lt hi
    rw [e1, List.length_append, List.length_singleton]
    have := h.len
    omega
/-- in memory: the net, the row of what was put, the row of what is gone -/
structure Sm.OnM (w : World) (n0 p : Nat) (N : NM) (Q : List MsgM) (G : List Int) (vp vg : Value) (W : World) : Prop where
  net : ∃ B, Nt B W p N ∧ ∀ b, B b → n0 ≤ b ∧ b < W.heap.size ∧ vp.ownBlock ≠ some b ∧ vg.ownBlock ≠ some b
  prow : W.ownsRow n0 41 4 vp Q.length (cellsM Q)
  grow : W.ownsRow n0 2 1 vg G.length (G.map fun g => .int .i64 g)
  sep : ∀ b, vp.ownBlock = some b → vg.ownBlock ≠ some b
  rd : ∀ q ∈ Q, Rd W n0 q.A q.bytes
  below : Below n0 w W
  lo : n0 ≤ W.heap.size
section
variable {w W W' : World} {n0 p : Nat} {N N' : NM} {Q : List MsgM} {G : List Int} {vp vg : Value}
theorem Sm.OnM.keep (h : OnM w n0 p N Q G vp vg W) (hb : Below W.heap.size W W') : OnM w n0 p N Q G vp vg W' := by
  obtain ⟨B, h1, h2⟩ := h.net
  exact ⟨⟨B, h1.keep hb, fun b e => ⟨(h2 b e).1, Nat.lt_of_lt_of_le (h2 b e).2.1 hb.size, (h2 b e).2.2⟩⟩, own_below h.prow hb, own_below h.grow hb, h.sep, fun q hq => (h.rd q hq).keep (fun p hp => hb.cell (Nat.lt_of_lt_of_le hp h.lo)), h.below.trans (hb.mono h.lo), Nat.le_trans h.lo hb.size⟩
theorem Sm.OnM.callB (h : OnM w n0 p N Q G vp vg W) (B : Nat → Prop) (h2 : ∀ b, B b → n0 ≤ b ∧ b < W.heap.size ∧ vp.ownBlock ≠ some b ∧ vg.ownBlock ≠ some b) :
    (∀ W' N', StepN B W W' p N' → OnM w n0 p N' Q G vp vg W') ∧ (∀ W' N', StepK B W W' p N' → OnM w n0 p N' Q G vp vg W') := by
  have hp : ∀ g, vp.ownBlock = some g → ¬ B g := fun g e e2 => (h2 g e2).2.2.1 e
  have hg : ∀ g, vg.ownBlock = some g → ¬ B g := fun g e e2 => (h2 g e2).2.2.2 e
  have both : ∀ W' N', Nt (fun b => B b ∨ W.heap.size ≤ b) W' p N' → But B W W' → OnM w n0 p N' Q G vp vg W' := fun W' N' k1 k2 =>
    ⟨⟨fun b => (B b ∨ W.heap.size ≤ b) ∧ b < W'.heap.size, k1.mono (fun b hb e => ⟨e, hb⟩), fun b ⟨e, e2⟩ => by
      rcases e with e | e
      · exact ⟨(h2 b e).1, e2, (h2 b e).2.2⟩
      · exact ⟨Nat.le_trans h.lo e, e2, fun e3 => by have := (h.prow.lt b e3).2; omega, fun e3 => by have := (h.grow.lt b e3).2; omega⟩⟩,
     k2.row h.prow hp, k2.row h.grow hg, h.sep, fun q hq => (h.rd q hq).keep (fun p hp => k2.cell (Nat.lt_of_lt_of_le hp h.lo) (fun e => by have := (h2 _ e).1; omega)), h.below.trans (k2.to_below h.lo (fun b e => (h2 b e).1)), Nat.le_trans h.lo k2.size⟩
  exact ⟨fun W' N' k => both W' N' k.1 k.2, fun W' N' k => both W' N' (k.1.mono (fun _ _ e => .inl e)) k.2⟩
/-- a call on the net, behind new memory -/
theorem Sm.OnM.call (h : OnM w n0 p N Q G vp vg W) (hb : Below W.heap.size W W') : ∃ B, Nt B W' p N ∧ (∀ b, B b → b < W.heap.size) ∧ (∀ V N', StepN B W' V p N' → OnM w n0 p N' Q G vp vg V) ∧ (∀ V N', StepK B W' V p N' → OnM w n0 p N' Q G vp vg V) := by
  obtain ⟨B, h1, h2⟩ := h.net
  exact ⟨B, h1.keep hb, fun b e => (h2 b e).2.1, (h.keep hb).callB B (fun b e => ⟨(h2 b e).1, Nat.lt_of_lt_of_le (h2 b e).2.1 hb.size, (h2 b e).2.2⟩)⟩
theorem Sm.OnM.pushP (h : OnM w n0 p N Q G vp vg W) (q : MsgM) {vp' : Value} (hr : W'.ownsRow n0 41 4 vp' (Q.length + 1) (cellsM Q ++ [.int .i64 q.num, .int .i64 q.src, .int .i64 q.dst, q.sl])) (hg : W.grownBy W' vp.ownBlock) (hs : vp'.ownBlock = vp.ownBlock ∨ vp'.ownBlock = some W.heap.size) (hq : Rd w n0 q.A q.bytes) : OnM w n0 p N (Q ++ [q]) G vp' vg W' := by
  obtain ⟨B, h1, h2⟩ := h.net
  have hb := But.grown hg
  have hbl := hb.to_below h.lo (fun b e => (h.prow.lt b e).1)
  refine ⟨⟨B, h1.but hb (fun b e e2 => (h2 b e2).2.2.1 e), fun b e => ⟨(h2 b e).1, Nat.lt_of_lt_of_le (h2 b e).2.1 hb.size, fun e2 => ?_, (h2 b e).2.2.2⟩⟩, ?_, hb.row h.grow (fun g e e2 => h.sep g e2 e), fun b e e2 => ?_, fun q' hq' => ?_, h.below.trans hbl, Nat.le_trans h.lo hb.size⟩
  · rcases hs with hs | hs
    · exact (h2 b e).2.2.1 (hs ▸ e2)
    · rw [hs] at e2
      have := Option.some.inj e2
      have := (h2 b e).2.1
      omega
  · rw [List.length_append, List.length_singleton, cellsM_add]
    exact hr
  · rcases hs with hs | hs
    · exact h.sep b (hs ▸ e) e2
    · rw [hs] at e
      have := Option.some.inj e
      have := (h.grow.lt b e2).2
      omega
  · rcases List.mem_append.1 hq' with hq' | hq'
    · exact (h.rd q' hq').keep (fun p hp => hbl.cell hp)
    · rw [List.mem_singleton] at hq'
      subst hq'
      exact (hq.below h.below).below hbl
theorem Sm.OnM.pushG (h : OnM w n0 p N Q G vp vg W) (x : Int) {vg' : Value} (hr : W'.ownsRow n0 2 1 vg' (G.length + 1) ((G.map fun g => .int .i64 g) ++ [.int .i64 x])) (hg : W.grownBy W' vg.ownBlock) (hs : vg'.ownBlock = vg.ownBlock ∨ vg'.ownBlock = some W.heap.size) : OnM w n0 p N Q (G ++ [x]) vp vg' W' := by
  obtain ⟨B, h1, h2⟩ := h.net
  have hb := But.grown hg
  have hbl := hb.to_below h.lo (fun b e => (h.grow.lt b e).1)
  refine ⟨⟨B, h1.but hb (fun b e e2 => (h2 b e2).2.2.2 e), fun b e => ⟨(h2 b e).1, Nat.lt_of_lt_of_le (h2 b e).2.1 hb.size, (h2 b e).2.2.1, fun e2 => ?_⟩⟩, hb.row h.prow (fun g e e2 => h.sep g e e2), ?_, fun b e e2 => ?_, fun q' hq' => (h.rd q' hq').keep (fun p hp => hbl.cell hp), h.below.trans hbl, Nat.le_trans h.lo hb.size⟩
  · rcases hs with hs | hs
    · exact (h2 b e).2.2.2 (hs ▸ e2)
    · rw [hs] at e2
      have := Option.some.inj e2
      have := (h2 b e).2.1
      omega
  · rw [List.length_append, List.length_singleton, List.map_append]
    exact hr
  · rcases hs with hs | hs
    · exact h.sep b e (hs ▸ e2)
    · rw [hs] at e2
      have := Option.some.inj e2
      have := (h.prow.lt b e).2
      omega
end
end Go.Proofs
namespace Go.Proofs
open Go Go.RowKit Sm Go.Lib Go.Maps Go.WideMaps
attribute [local go_sem] Oper.semAt_some
def Sm.cellsD (D : List (Int × Int)) : List Value := D.flatMap fun x => [.int .i64 x.1, .int .i64 x.2]
theorem Sm.cellsD_at : ∀ (D : List (Int × Int)) (k : Nat) (x : Int × Int), D[k]? = some x → (cellsD D)[k * 2]? = some (.int .i64 x.1) ∧ (cellsD D)[k * 2 + 1]? = some (.int .i64 x.2)
  | a :: r, 0, x, h => by
    simp only [List.getElem?_cons_zero, Option.some.injEq] at h
    subst h
    exact ⟨rfl, rfl⟩
  | a :: r, k + 1, x, h => by
    have ih := cellsD_at r k x (by simpa using h)
    have e : cellsD (a :: r) = .int .i64 a.1 :: .int .i64 a.2 :: cellsD r := rfl
    rw [e, show (k + 1) * 2 = k * 2 + 1 + 1 by omega]
    exact ih
theorem Sm.cellsD_len (D : List (Int × Int)) : (cellsD D).length = D.length * 2 := by
  induction D with
  | nil => rfl
  | cons a r ih =>
    have e : cellsD (a :: r) = .int .i64 a.1 :: .int .i64 a.2 :: cellsD r := rfl
    rw [e]
    simp only [List.length_cons, ih]
    omega
theorem Sm.cellsM_len (L : List MsgM) : (cellsM L).length = L.length * 4 := by
  induction L with
  | nil => rfl
  | cons a r ih =>
    have e : cellsM (a :: r) = .int .i64 a.num :: .int .i64 a.src :: .int .i64 a.dst :: a.sl :: cellsM r := rfl
    rw [e]
    simp only [List.length_cons, ih]
    omega
theorem Sm.own_rds {W : World} {base n c size : Nat} {e : TypeId} {A : Option Addr} {xs : List Value} {S : Nat → Prop} (h : W.ownsRow base e size (.slice A n c) n xs) (hS : ∀ b, S b → b < base) : Rds W S A xs := fun h0 => by
  have h1 := h.1
  have hn : 0 < n := by
    rcases Nat.eq_zero_or_pos n with e | e
    · rw [e, Nat.zero_mul] at h1; omega
    · exact e
  obtain ⟨g, cap, hv, hb, hg⟩ := h.form hn
  injection hv with hv1 hv2 hv3
  subst hv1 hv3
  refine ⟨g, 0, rfl, hg, fun e => by have := hS g e; omega, fun j x hx => ?_⟩
  have hj := (List.getElem?_eq_some_iff.1 hx).1
  rw [Nat.zero_add, h.cellAt j (by omega)]
  exact hx
/-- the document's net -/
structure Sm.RfAt (S : Nat → Prop) (W : World) (N : NM) (AL : Option Addr) (nL cL : Nat) (AD : Option Addr) (nD cD : Nat) (R : List MsgM) : Prop where
  len : R.length = nL
  room : nL ≤ cL ∧ cL ≤ 9223372036854775807
  dlen : N.D.length = nD
  map : R.map MsgM.d = N.P
  row : Rds W S AL (cellsM R)
  byt : ∀ m ∈ R, Rds W S m.A (m.bytes.map byteCell)
  dn : Rds W S AD (cellsD N.D)
  few : nL ≤ 4096 ∧ nD ≤ 4096
def Sm.refV (s : NSt) (AL : Option Addr) (nL cL : Nat) (AD : Option Addr) (nD cD : Nat) : Value := .agg #[.int .i64 s.ends, .int .i64 s.most, .int .i64 s.came, .slice AL nL cL, .slice AD nD cD]
def Sm.Rf (S : Nat → Prop) (W : World) (N : NM) (v : Value) : Prop := ∃ AL nL cL AD nD cD R, v = refV N.s AL nL cL AD nD cD ∧ RfAt S W N AL nL cL AD nD cD R
theorem Sm.RfAt.but {S S' : Nat → Prop} {W W' : World} {N : NM} {AL AD : Option Addr} {nL cL nD cD : Nat} {R : List MsgM} (h : RfAt S W N AL nL cL AD nD cD R) (hb : But S' W W') (hS : ∀ b, S' b → S b) : RfAt S W' N AL nL cL AD nD cD R :=
  ⟨h.len, h.room, h.dlen, h.map, h.row.but hb hS, fun m hm => (h.byt m hm).but hb hS, h.dn.but hb hS, h.few⟩
theorem Sm.RfAt.keep {S : Nat → Prop} {W W' : World} {N : NM} {AL AD : Option Addr} {nL cL nD cD : Nat} {R : List MsgM} (h : RfAt S W N AL nL cL AD nD cD R) (hb : Below W.heap.size W W') : RfAt S W' N AL nL cL AD nD cD R :=
  h.but (But.of_all hb (fun _ => False)) (fun _ e => e.elim)
theorem Sm.Rf.keep {S : Nat → Prop} {W W' : World} {N : NM} {v : Value} (h : Rf S W N v) (hb : Below W.heap.size W W') : Rf S W' N v := by
  obtain ⟨AL, nL, cL, AD, nD, cD, R, h1, h2⟩ := h
  exact ⟨AL, nL, cL, AD, nD, cD, R, h1, h2.keep hb⟩
theorem Sm.Rf.but {S S' : Nat → Prop} {W W' : World} {N : NM} {v : Value} (h : Rf S W N v) (hb : But S' W W') (hS : ∀ b, S' b → S b) : Rf S W' N v := by
  obtain ⟨AL, nL, cL, AD, nD, cD, R, h1, h2⟩ := h
  exact ⟨AL, nL, cL, AD, nD, cD, R, h1, h2.but hb hS⟩
theorem Sm.Rds.less {W : World} {S S' : Nat → Prop} {A : Option Addr} {cs : List Value} (h : Rds W S A cs) (hS : ∀ b, b < W.heap.size → S' b → S b) : Rds W S' A cs := fun h0 => by
  obtain ⟨b, off, e1, e2, e3, e4⟩ := h h0
  exact ⟨b, off, e1, e2, fun e => e3 (hS b e2 e), e4⟩
theorem Sm.Rf.less {S S' : Nat → Prop} {W : World} {N : NM} {v : Value} (h : Rf S W N v) (hS : ∀ b, b < W.heap.size → S' b → S b) : Rf S' W N v := by
  obtain ⟨AL, nL, cL, AD, nD, cD, R, h1, h2⟩ := h
  exact ⟨AL, nL, cL, AD, nD, cD, R, h1, ⟨h2.len, h2.room, h2.dlen, h2.map, h2.row.less hS, fun m hm => (h2.byt m hm).less hS, h2.dn.less hS, h2.few⟩⟩
theorem Sm.refEnd_any (a1 a2 a3 : Int) (v4 v5 : Value) (i : Int) (w : World) : Calls Try.prog 52 #[.agg #[.int .i64 a1, .int .i64 a2, .int .i64 a3, v4, v5], .int .i64 i] w fun e w' => e = .returned (.bool (wiB 0 i (a1 - 1))) ∧ Below w.heap.size w w' := by
  have hb : Below w.heap.size w (w.alloc (.cells #[.int .i64 a1, .int .i64 a2, .int .i64 a3, v4, v5] 29)) := (Below.refl _ w).alloc (Nat.le_refl _) _
  unfold wiB
  by_cases h1 : 0 ≤ i
  · by_cases h2 : i < a1
    · go_enter Try.func52, Try.ntmps52
      go_wp2
      go_ret
      exact ⟨by simp [h1]; omega, hb⟩
    · go_enter Try.func52, Try.ntmps52
      go_wp2
      go_ret
      exact ⟨by simp []; omega, hb⟩
  · have h1' : (decide (0 ≤ i)) = false := decide_eq_false h1
    go_enter Try.func52, Try.ntmps52
    go_wp2
    go_ret
    exact ⟨by simp [], hb⟩
set_option maxRecDepth 100000 in
set_option maxHeartbeats 1000000 in
theorem Sm.refDown_at {S : Nat → Prop} (a1 a2 a3 : Int) (v4 : Value) (AD : Option Addr) (nD cD : Nat) (D : List (Int × Int)) (x y : Int) (w : World) (hl : D.length = nD) (hf : nD ≤ 4096) (h : Rds w S AD (cellsD D)) :
    Calls Try.prog 25 #[.agg #[.int .i64 a1, .int .i64 a2, .int .i64 a3, v4, .slice AD nD cD], .int .i64 x, .int .i64 y] w fun e w' => e = .returned (.bool (decide ((x, y) ∈ D))) ∧ Below w.heap.size w w' := by
  obtain ⟨w1, hw1⟩ : ∃ V, w.alloc (.cells #[.int .i64 a1, .int .i64 a2, .int .i64 a3, v4, .slice AD nD cD] 29) = V := ⟨_, rfl⟩
  have hb : Below w.heap.size w w1 := by rw [← hw1]; exact (Below.refl _ w).alloc (Nat.le_refl _) _
  have hx : w1.heap[w.heap.size]? = some (.cells #[.int .i64 a1, .int .i64 a2, .int .i64 a3, v4, .slice AD nD cD] 29 (0, 0)) := by rw [← hw1]; exact World.alloc_heap_new w _
  have c4 := cell_of_heap hx 4
  simp only [List.getElem?_toArray, List.getElem?_cons_zero, List.getElem?_cons_succ] at c4
  have h1 := h.but (But.of_all hb (fun _ => False)) (fun _ e => e.elim)
  have H1 := Lib.hid h1
  have HL := Lib.hid hl
  have HB := Lib.hid hb
  have hfI : (nD : Int) ≤ 4096 := by omega
  clear h h1 hb hx hl
  go_enter Try.func25, Try.ntmps25
  go_wp2
  go_loopw [7] (fun v7 wr => ∃ k : Nat, k ≤ nD ∧ v7 = .int .i64 (k : Int) ∧ Hid ((x, y) ∉ D.take k) ∧ wr = w1) (fun v7 _ => nD - (RowKit.intOf v7).toNat)
  case atStart => exact ⟨0, Nat.zero_le _, rfl, Lib.hid (by simp), rfl⟩
  case round =>
    obtain ⟨k, hk, rfl, HA, hwr⟩ := hrel
    by_cases hlt : k < nD
    · have hkx : k < D.length := by rw [HL.out]; exact hlt
      have hkI : (k : Int) < (nD : Int) := by omega
      obtain ⟨z, hz⟩ : ∃ z, D[k]? = some z := ⟨_, List.getElem?_eq_getElem hkx⟩
      obtain ⟨b, off, rfl, hbl, _, hcl⟩ := H1.out (by rw [cellsD_len]; omega)
      have hc := cellsD_at D k z hz
      have q0 := hcl (k * 2) _ hc.1
      have q1 := hcl (k * 2 + 1) _ hc.2
      rw [← Nat.add_assoc] at q1
      have htk : D.take (k + 1) = D.take k ++ [z] := by
        rw [List.take_add_one, hz]
        rfl
      obtain ⟨z1, z2⟩ := z
      simp only at q0 q1
      subst hwr
      by_cases g1 : z1 = x
      · subst g1
        by_cases g2 : z2 = y
        · subst g2
          have HM : Hid ((z1, z2) ∈ D) := Lib.hid (List.mem_of_getElem? hz)
          clear hc hcl hz htk
          go_wp2
          go_ret
          exact ⟨by simp [HM.out], HB.out⟩
        · have g2' : (z2 == y) = false := by simpa using g2
          have HA2 : Hid ((z1, y) ∉ D.take (k + 1)) := Lib.hid (by
            rw [htk, List.mem_append]
            rintro (e | e)
            · exact HA.out e
            · simp only [List.mem_singleton, Prod.mk.injEq, true_and] at e
              exact g2 e.symm)
          clear hc hcl hz htk g2
          go_wp2
          go_roundw
          case rel => exact ⟨k + 1, by omega, by go_num, HA2, by first | rfl | trivial⟩
          case measure => simp [RowKit.intOf]; omega
      · have g1' : (z1 == x) = false := by simpa using g1
        have HA2 : Hid ((x, y) ∉ D.take (k + 1)) := Lib.hid (by
          rw [htk, List.mem_append]
          rintro (e | e)
          · exact HA.out e
          · simp only [List.mem_singleton, Prod.mk.injEq] at e
            exact g1 e.1.symm)
        clear hc hcl hz htk g1
        go_wp2
        go_roundw
        case rel => exact ⟨k + 1, by omega, by go_num, HA2, by first | rfl | trivial⟩
        case measure => simp [RowKit.intOf]; omega
    · obtain rfl : k = nD := by omega
      have hno := HA.out
      rw [List.take_of_length_le (by rw [HL.out]; exact Nat.le_refl _)] at hno
      have HNO := Lib.hid hno
      subst hwr
      clear hno
      go_wp2
      go_ret
      exact ⟨by simp [HNO.out], HB.out⟩
end Go.Proofs
namespace Go.Proofs
open Go Go.RowKit Sm Go.Lib Go.Maps Go.WideMaps
attribute [local go_sem] Oper.semAt_some
theorem Sm.own_form {W : World} {base size n : Nat} {e : TypeId} {v : Value} {xs : List Value} (h : W.ownsRow base e size v n xs) : ∃ A c, v = .slice A n c := by
  rcases h.2 with ⟨rfl, rfl⟩ | ⟨g, cap, cur, rfl, _⟩
  · exact ⟨_, _, rfl⟩
  · exact ⟨_, _, rfl⟩
set_option maxRecDepth 100000 in
theorem Sm.info3c : ∃ i, Try.prog.info? 3 = some i ∧ i.zero = some (.int .i64 0) ∧ i.size = 1 ∧ i.bytes = 8 := ⟨Try.t3, rfl, rfl, rfl, rfl⟩
theorem Sm.lnkB_wi (s : NSt) (x y : Int) : lnkB s x y = (wiB 0 x (s.ends - 1) && wiB 0 y (s.ends - 1)) := rfl
set_option maxRecDepth 100000 in
set_option maxHeartbeats 1000000 in
theorem Sm.refOn_bad (a1 a2 a3 : Int) (AL AD : Option Addr) (nL cL nD cD : Nat) (x y : Int) (w : World) (ha : anyB x y = false) (hl : (wiB 0 x (a1 - 1) && wiB 0 y (a1 - 1)) = false) :
    Calls Try.prog 24 #[.agg #[.int .i64 a1, .int .i64 a2, .int .i64 a3, .slice AL nL cL, .slice AD nD cD], .int .i64 x, .int .i64 y] w fun e w' => e = .returned (.tuple #[.slice none 0 0, .int .i64 2]) ∧ Below w.heap.size w w' := by
  obtain ⟨w1, hw1⟩ : ∃ V, w.alloc (.cells #[.int .i64 a1, .int .i64 a2, .int .i64 a3, .slice AL nL cL, .slice AD nD cD] 29) = V := ⟨_, rfl⟩
  have hb : Below w.heap.size w w1 := by rw [← hw1]; exact (Below.refl _ w).alloc (Nat.le_refl _) _
  have hx : w1.heap[w.heap.size]? = some (.cells #[.int .i64 a1, .int .i64 a2, .int .i64 a3, .slice AL nL cL, .slice AD nD cD] 29 (0, 0)) := by rw [← hw1]; exact World.alloc_heap_new w _
  have HC : Hid (∀ W, Below w1.heap.size w1 W → W.cell? ⟨w.heap.size, 0, none⟩ = some (.int .i64 a1) ∧ W.cell? ⟨w.heap.size, 1, none⟩ = some (.int .i64 a2) ∧ W.cell? ⟨w.heap.size, 2, none⟩ = some (.int .i64 a3) ∧ W.cell? ⟨w.heap.size, 3, none⟩ = some (.slice AL nL cL) ∧ W.cell? ⟨w.heap.size, 4, none⟩ = some (.slice AD nD cD)) := Lib.hid fun W hb => by
    have h9 := (hb.block _ (Array.getElem?_eq_some_iff.1 hx).1).trans hx
    exact ⟨cell_of_heap h9 0, cell_of_heap h9 1, cell_of_heap h9 2, cell_of_heap h9 3, cell_of_heap h9 4⟩
  obtain ⟨c0, c1, c2, c3, c4⟩ := HC.out w1 (Below.refl _ _)
  have h52 := fun i W => refEnd_any a1 a2 a3 (.slice AL nL cL) (.slice AD nD cD) i W
  have HB := Lib.hid hb
  obtain ⟨b1, hb1⟩ : ∃ b, wiB 0 x (a1 - 1) = b := ⟨_, rfl⟩
  obtain ⟨b2, hb2⟩ : ∃ b, wiB 0 y (a1 - 1) = b := ⟨_, rfl⟩
  have h5x := fun W => h52 x W
  have h5y := fun W => h52 y W
  rw [hb1] at hl h5x
  rw [hb2] at hl h5y
  clear h52 hb1 hb2 hb hx
  unfold anyB at ha
  have hcase : (x == -1) = false ∨ (x = -1 ∧ (y == -1) = false) := by
    by_cases e : x = -1
    · right
      refine ⟨e, ?_⟩
      rw [e] at ha
      simpa using ha
    · left
      simpa using e
  cases b1 with
  | false =>
    rcases hcase with h1 | ⟨rfl, h2⟩
    all_goals
      clear ha hl
      go_enter Try.func24, Try.ntmps24
      go_wp2_with (go_at_call 52; (with_reducible refine (h5x _).mono ?_); rintro e w2 ⟨rfl, hb2⟩)
      go_ret2
      exact ⟨rfl, HB.out.trans (hb2.mono HB.out.size)⟩
  | true =>
    have hl : b2 = false := hl
    subst hl
    rcases hcase with h1 | ⟨rfl, h2⟩
    all_goals
      clear ha
      go_enter Try.func24, Try.ntmps24
      go_wp2_with (first
        | (go_at_call 52; (with_reducible refine (h5x _).mono ?_); clear h5x; rintro e w2 ⟨rfl, hb2⟩; clear c0 c1 c2 c3 c4; obtain ⟨c0, c1, c2, c3, c4⟩ := HC.out _ hb2)
        | (go_at_call 52; (with_reducible refine (h5y _).mono ?_); clear h5y; rintro e w3 ⟨rfl, hb3⟩))
      go_ret2
      exact ⟨rfl, HB.out.trans ((hb2.trans (hb3.mono hb2.size)).mono HB.out.size)⟩
set_option maxRecDepth 100000 in
set_option maxHeartbeats 2000000 in
theorem Sm.refOn_yes {S : Nat → Prop} (a1 a2 a3 : Int) (AL AD : Option Addr) (nL cL nD cD : Nat) (R : List MsgM) (x y : Int) (w : World) (hl : R.length = nL) (hf : nL ≤ 4096) (h : Rds w S AL (cellsM R)) (ha : (anyB x y || (wiB 0 x (a1 - 1) && wiB 0 y (a1 - 1))) = true) :
    Calls Try.prog 24 #[.agg #[.int .i64 a1, .int .i64 a2, .int .i64 a3, .slice AL nL cL, .slice AD nD cD], .int .i64 x, .int .i64 y] w fun e w' => ∃ A c, e = .returned (.tuple #[.slice A (onP x y (R.map MsgM.d)).length c, .int .i64 0]) ∧ w'.ownsRow w.heap.size 3 1 (.slice A (onP x y (R.map MsgM.d)).length c) (onP x y (R.map MsgM.d)).length ((onP x y (R.map MsgM.d)).map fun (i : Nat) => .int .i64 (i : Int)) ∧ Below w.heap.size w w' := by
  obtain ⟨w1, hw1⟩ : ∃ V, w.alloc (.cells #[.int .i64 a1, .int .i64 a2, .int .i64 a3, .slice AL nL cL, .slice AD nD cD] 29) = V := ⟨_, rfl⟩
  have hb : Below w.heap.size w w1 := by rw [← hw1]; exact (Below.refl _ w).alloc (Nat.le_refl _) _
  have hx : w1.heap[w.heap.size]? = some (.cells #[.int .i64 a1, .int .i64 a2, .int .i64 a3, .slice AL nL cL, .slice AD nD cD] 29 (0, 0)) := by rw [← hw1]; exact World.alloc_heap_new w _
  have HC : Hid (∀ W, Below w1.heap.size w1 W → W.cell? ⟨w.heap.size, 0, none⟩ = some (.int .i64 a1) ∧ W.cell? ⟨w.heap.size, 1, none⟩ = some (.int .i64 a2) ∧ W.cell? ⟨w.heap.size, 2, none⟩ = some (.int .i64 a3) ∧ W.cell? ⟨w.heap.size, 3, none⟩ = some (.slice AL nL cL) ∧ W.cell? ⟨w.heap.size, 4, none⟩ = some (.slice AD nD cD)) := Lib.hid fun W hb => by
    have h9 := (hb.block _ (Array.getElem?_eq_some_iff.1 hx).1).trans hx
    exact ⟨cell_of_heap h9 0, cell_of_heap h9 1, cell_of_heap h9 2, cell_of_heap h9 3, cell_of_heap h9 4⟩
  obtain ⟨c0, c1, c2, c3, c4⟩ := HC.out w1 (Below.refl _ _)
  have h52 := fun i W => refEnd_any a1 a2 a3 (.slice AL nL cL) (.slice AD nD cD) i W
  have HB := Lib.hid hb
  have HL := Lib.hid hl
  have hfI : (nL : Int) ≤ 4096 := by omega
  have hon : ∀ k, (onN x y (R.map MsgM.d) k).length ≤ k := fun k => onN_len x y _ k
  have HON := Lib.hid hon
  have HAN : Hid (∀ m : MsgM, pkD x y m.d = (anyB x y || (decide (m.src = x) && decide (m.dst = y)))) := Lib.hid fun m => rfl
  have hsz1 : w.heap.size < w1.heap.size := (Array.getElem?_eq_some_iff.1 hx).1
  have H1 := Lib.hid (h.but (But.of_all hb (fun _ => False)) (fun _ e => e.elim))
  have HE : Hid (Rds w1 S AL (cellsM R)) := Lib.hid H1.out
  clear hb hx hl hon h H1
  have hcase : (x = -1 ∧ y = -1 ∧ anyB x y = true) ∨ (((x == -1) = false ∨ (x = -1 ∧ (y == -1) = false)) ∧ anyB x y = false ∧ wiB 0 x (a1 - 1) = true ∧ wiB 0 y (a1 - 1) = true) := by
    by_cases e1 : x = -1
    · by_cases e2 : y = -1
      · exact .inl ⟨e1, e2, by rw [e1, e2]; rfl⟩
      · have e3 : anyB x y = false := by unfold anyB; simp [e2]
        rw [e3, Bool.false_or, Bool.and_eq_true] at ha
        exact .inr ⟨.inr ⟨e1, by simpa using e2⟩, e3, ha⟩
    · have e3 : anyB x y = false := by unfold anyB; simp [e1]
      rw [e3, Bool.false_or, Bool.and_eq_true] at ha
      exact .inr ⟨.inl (by simpa using e1), e3, ha⟩
  clear ha
  obtain ⟨i3, q3, r3, s3, t3⟩ := info3c
  rcases hcase with ⟨rfl, rfl, hany⟩ | ⟨hcase, hany, hw1x, hw1y⟩
  · rw [hany] at HAN
    clear hany h52
    go_enter Try.func24, Try.ntmps24
    go_wp2
    go_loopw [9, 10] (fun v9 v10 wr => ∃ (k : Nat) (A : Option Addr) (c : Nat), k ≤ nL ∧ v10 = .int .i64 (k : Int) ∧ v9 = .slice A (onN (-1) (-1) (R.map MsgM.d) k).length c ∧ Hid (Below w1.heap.size w1 wr ∧ (wr.ownsRow w1.heap.size 3 1 (.slice A (onN (-1) (-1) (R.map MsgM.d) k).length c) (onN (-1) (-1) (R.map MsgM.d) k).length ((onN (-1) (-1) (R.map MsgM.d) k).map fun (i : Nat) => .int .i64 (i : Int))))) (fun _ v10 _ => nL - (RowKit.intOf v10).toNat)
    case atStart => exact ⟨0, none, 0, Nat.zero_le _, rfl, rfl, Lib.hid ⟨Below.refl _ _, World.ownsRow_nil _ _ _ _⟩⟩
    case round =>
      obtain ⟨wo, rfl⟩ : ∃ wo : World, wo = wr := ⟨_, rfl⟩
      obtain ⟨k, A, c, hk, rfl, rfl, HO⟩ := hrel
      clear c0 c1 c2 c3 c4
      obtain ⟨c0, c1, c2, c3, c4⟩ := HC.out wo HO.out.1
      by_cases hlt : k < nL
      · have hkx : k < R.length := by rw [HL.out]; exact hlt
        have hkI : (k : Int) < (nL : Int) := by omega
        obtain ⟨m, hm⟩ : ∃ m, R[k]? = some m := ⟨_, List.getElem?_eq_getElem hkx⟩
        have hmd : (R.map MsgM.d)[k]? = some m.d := by rw [List.getElem?_map, hm]; rfl
        obtain ⟨b, off, rfl, hbl, _, hcl⟩ := (HE.out.but (But.of_all HO.out.1 (fun _ => False)) (fun _ e => e.elim)) (by rw [cellsM_len]; omega)
        have hc := cellsM_at R k m hm
        have q1 := hcl (k * 4 + 1) _ hc.2.1
        have q2 := hcl (k * 4 + 2) _ hc.2.2.1
        rw [← Nat.add_assoc] at q1 q2
        have hpd := HAN.out m
        clear hcl hc hm
        have hp : pkD (-1) (-1) m.d = true := by rw [hpd]; rfl
        clear hpd q1 q2
        have ho := HO.out.2.alloc (.cells #[.int .i64 (k : Int)] 3)
        have hnw := World.alloc_heap_new wo (.cells #[.int .i64 (k : Int)] 3)
        have hwnn := World.news_of_block hnw
        have hlo := HO.out.1.size
        have hkl := HON.out k
        have htk : (onN (-1) (-1) (R.map MsgM.d) (k + 1)) = onN (-1) (-1) (R.map MsgM.d) k ++ [k] := onN_yes hmd hp
        have hlk : (onN (-1) (-1) (R.map MsgM.d) (k + 1)).length = (onN (-1) (-1) (R.map MsgM.d) k).length + 1 := by rw [htk]; simp
        have HTK := Lib.hid htk
        have HLK := Lib.hid hlk
        clear hp htk hlk hmd
        go_wp2_with (at_builtin; refine wpList_append_own_at _ rfl (.tmp 59) (.tmp 61) 56 rfl w1.heap.size 3 i3 _ 1 8 Try.underlying56 q3 r3 s3 t3 rfl (by decide) _ (onN (-1) (-1) (R.map MsgM.d) k).length ((onN (-1) (-1) (R.map MsgM.d) k).map fun (i : Nat) => .int .i64 (i : Int)) rfl ho ⟨wo.heap.size, 0, none⟩ 1 1 [.int .i64 (k : Int)] rfl rfl hwnn (by simp [Value.oneCell']) ?_ ?_ ?_ ?_; (unfold maxLen; omega); omega; (simp; omega); intro v5 w5 hown5 hg5 _ hat5; obtain ⟨A7, c7, rfl⟩ := own_form hown5; have HO2 : Hid (Below w1.heap.size w1 w5 ∧ w5.ownsRow w1.heap.size 3 1 (.slice A7 (onN (-1) (-1) (R.map MsgM.d) (k + 1)).length c7) (onN (-1) (-1) (R.map MsgM.d) (k + 1)).length ((onN (-1) (-1) (R.map MsgM.d) (k + 1)).map fun (i : Nat) => .int .i64 (i : Int))) := Lib.hid ⟨(HO.out.1.alloc hlo _).trans ((But.grown hg5).to_below (by simp; omega) (fun b e => (HO.out.2.lt b e).1)), by rw [HLK.out, HTK.out, List.map_append]; exact hown5⟩; clear hown5 hg5 hat5 ho hwnn hnw)
        go_roundw
        case rel => exact ⟨k + 1, A7, c7, by omega, by go_num, by rw [HLK.out], HO2⟩
        case measure => simp [RowKit.intOf]; omega
      · obtain rfl : k = nL := by omega
        have HF : Hid (onN (-1) (-1) (R.map MsgM.d) k = onP (-1) (-1) (R.map MsgM.d)) := Lib.hid (by unfold onP; rw [List.length_map, HL.out])
        go_wp2
        go_ret2
        have h9 := HO.out
        rw [HF.out] at h9 ⊢
        exact ⟨A, c, rfl, own_base h9.2 (Nat.le_of_lt hsz1), HB.out.trans (h9.1.mono (Nat.le_of_lt hsz1))⟩
  · rw [hany] at HAN
    have h5x := fun W => h52 x W
    have h5y := fun W => h52 y W
    rw [hw1x] at h5x
    rw [hw1y] at h5y
    clear hany h52 hw1x hw1y
    have hcase : (x == -1) = false ∨ ((x == -1) = true ∧ (y == -1) = false) := hcase.imp id fun ⟨e1, e2⟩ => ⟨by simpa using e1, e2⟩
    rcases hcase with h1 | ⟨h1, h2⟩
    all_goals
      go_enter Try.func24, Try.ntmps24
      go_wp2_with (first
        | (go_at_call 52; (with_reducible refine (h5x _).mono ?_); clear h5x; rintro e w2 ⟨rfl, hb2⟩; clear c0 c1 c2 c3 c4; obtain ⟨c0, c1, c2, c3, c4⟩ := HC.out _ hb2; have HB2 := Lib.hid hb2; clear hb2)
        | (go_at_call 52; (with_reducible refine (h5y _).mono ?_); clear h5y; rintro e w3 ⟨rfl, hb3⟩; clear c0 c1 c2 c3 c4; have HB3 := Lib.hid (HB2.out.trans (hb3.mono HB2.out.size)); obtain ⟨c0, c1, c2, c3, c4⟩ := HC.out _ HB3.out; clear hb3))
      go_loopw [9, 10] (fun v9 v10 wr => ∃ (k : Nat) (A : Option Addr) (c : Nat), k ≤ nL ∧ v10 = .int .i64 (k : Int) ∧ v9 = .slice A (onN x y (R.map MsgM.d) k).length c ∧ Hid (Below w1.heap.size w1 wr ∧ (wr.ownsRow w1.heap.size 3 1 (.slice A (onN x y (R.map MsgM.d) k).length c) (onN x y (R.map MsgM.d) k).length ((onN x y (R.map MsgM.d) k).map fun (i : Nat) => .int .i64 (i : Int))))) (fun _ v10 _ => nL - (RowKit.intOf v10).toNat)
      case atStart => exact ⟨0, none, 0, Nat.zero_le _, rfl, rfl, Lib.hid ⟨HB3.out, World.ownsRow_nil _ _ _ _⟩⟩
      case round =>
        obtain ⟨wo, rfl⟩ : ∃ wo : World, wo = wr := ⟨_, rfl⟩
        obtain ⟨k, A, c, hk, rfl, rfl, HO⟩ := hrel
        clear c0 c1 c2 c3 c4
        obtain ⟨c0, c1, c2, c3, c4⟩ := HC.out wo HO.out.1
        by_cases hlt : k < nL
        · have hkx : k < R.length := by rw [HL.out]; exact hlt
          have hkI : (k : Int) < (nL : Int) := by omega
          obtain ⟨m, hm⟩ : ∃ m, R[k]? = some m := ⟨_, List.getElem?_eq_getElem hkx⟩
          have hmd : (R.map MsgM.d)[k]? = some m.d := by rw [List.getElem?_map, hm]; rfl
          obtain ⟨b, off, rfl, hbl, _, hcl⟩ := (HE.out.but (But.of_all HO.out.1 (fun _ => False)) (fun _ e => e.elim)) (by rw [cellsM_len]; omega)
          have hc := cellsM_at R k m hm
          have q1 := hcl (k * 4 + 1) _ hc.2.1
          have q2 := hcl (k * 4 + 2) _ hc.2.2.1
          rw [← Nat.add_assoc] at q1 q2
          have hpd := HAN.out m
          clear hcl hc hm
          by_cases g1 : m.src = x
          · by_cases g2 : m.dst = y
            · have hp : pkD x y m.d = true := by rw [hpd, g1, g2]; simp
              rw [g1] at q1
              rw [g2] at q2
              clear hpd g1 g2
              have ho := HO.out.2.alloc (.cells #[.int .i64 (k : Int)] 3)
              have hnw := World.alloc_heap_new wo (.cells #[.int .i64 (k : Int)] 3)
              have hwnn := World.news_of_block hnw
              have hlo := HO.out.1.size
              have hkl := HON.out k
              have htk : (onN x y (R.map MsgM.d) (k + 1)) = onN x y (R.map MsgM.d) k ++ [k] := onN_yes hmd hp
              have hlk : (onN x y (R.map MsgM.d) (k + 1)).length = (onN x y (R.map MsgM.d) k).length + 1 := by rw [htk]; simp
              have HTK := Lib.hid htk
              have HLK := Lib.hid hlk
              clear hp htk hlk hmd
              go_wp2_with (at_builtin; refine wpList_append_own_at _ rfl (.tmp 59) (.tmp 61) 56 rfl w1.heap.size 3 i3 _ 1 8 Try.underlying56 q3 r3 s3 t3 rfl (by decide) _ (onN x y (R.map MsgM.d) k).length ((onN x y (R.map MsgM.d) k).map fun (i : Nat) => .int .i64 (i : Int)) rfl ho ⟨wo.heap.size, 0, none⟩ 1 1 [.int .i64 (k : Int)] rfl rfl hwnn (by simp [Value.oneCell']) ?_ ?_ ?_ ?_; (unfold maxLen; omega); omega; (simp; omega); intro v5 w5 hown5 hg5 _ hat5; obtain ⟨A7, c7, rfl⟩ := own_form hown5; have HO2 : Hid (Below w1.heap.size w1 w5 ∧ w5.ownsRow w1.heap.size 3 1 (.slice A7 (onN x y (R.map MsgM.d) (k + 1)).length c7) (onN x y (R.map MsgM.d) (k + 1)).length ((onN x y (R.map MsgM.d) (k + 1)).map fun (i : Nat) => .int .i64 (i : Int))) := Lib.hid ⟨(HO.out.1.alloc hlo _).trans ((But.grown hg5).to_below (by simp; omega) (fun b e => (HO.out.2.lt b e).1)), by rw [HLK.out, HTK.out, List.map_append]; exact hown5⟩; clear hown5 hg5 hat5 ho hwnn hnw)
              go_roundw
              case rel => exact ⟨k + 1, A7, c7, by omega, by go_num, by rw [HLK.out], HO2⟩
              case measure => simp [RowKit.intOf]; omega
            · have g2' : (m.dst == y) = false := by simpa using g2
              have hp : pkD x y m.d = false := by rw [hpd]; simp [g2]
              have HN : Hid (onN x y (R.map MsgM.d) (k + 1) = onN x y (R.map MsgM.d) k) := Lib.hid (onN_not hmd hp)
              rw [g1] at q1
              clear hpd hp g1 g2 hmd
              go_wp2
              go_roundw
              case rel => exact ⟨k + 1, A, c, by omega, by go_num, by rw [HN.out], by rw [HN.out]; exact HO⟩
              case measure => simp [RowKit.intOf]; omega
          · have g1' : (m.src == x) = false := by simpa using g1
            have hp : pkD x y m.d = false := by rw [hpd]; simp [g1]
            have HN : Hid (onN x y (R.map MsgM.d) (k + 1) = onN x y (R.map MsgM.d) k) := Lib.hid (onN_not hmd hp)
            clear hpd hp g1 hmd
            go_wp2
            go_roundw
            case rel => exact ⟨k + 1, A, c, by omega, by go_num, by rw [HN.out], by rw [HN.out]; exact HO⟩
            case measure => simp [RowKit.intOf]; omega
        · obtain rfl : k = nL := by omega
          have HF : Hid (onN x y (R.map MsgM.d) k = onP x y (R.map MsgM.d)) := Lib.hid (by unfold onP; rw [List.length_map, HL.out])
          go_wp2
          go_ret2
          have h9 := HO.out
          rw [HF.out] at h9 ⊢
          exact ⟨A, c, rfl, own_base h9.2 (Nat.le_of_lt hsz1), HB.out.trans (h9.1.mono (Nat.le_of_lt hsz1))⟩
end Go.Proofs
namespace Go.Proofs
open Go Go.RowKit Sm Go.Lib Go.Maps Go.WideMaps
attribute [local go_sem] Oper.semAt_some
theorem Sm.pickI_eq (pick n : Int) (h : 0 < n) : pickI pick n = if Int.tmod pick n < 0 then Int.tmod pick n + n else Int.tmod pick n := by
  have h4 := tmod_lt (a := pick) (n := n) h
  unfold pickI
  generalize Int.tmod pick n = m at h4 ⊢
  split
  · exact Int.emod_eq_of_lt (by omega) (by omega)
  · rw [Int.add_emod_right]
    exact Int.emod_eq_of_lt (by omega) (by omega)
/-- the five cells of a boxed net -/
theorem Sm.box5 (w : World) (a1 a2 a3 : Int) (v4 v5 : Value) : ∀ W, Below (w.alloc (.cells #[.int .i64 a1, .int .i64 a2, .int .i64 a3, v4, v5] 29)).heap.size (w.alloc (.cells #[.int .i64 a1, .int .i64 a2, .int .i64 a3, v4, v5] 29)) W → W.cell? ⟨w.heap.size, 0, none⟩ = some (.int .i64 a1) ∧ W.cell? ⟨w.heap.size, 1, none⟩ = some (.int .i64 a2) ∧ W.cell? ⟨w.heap.size, 2, none⟩ = some (.int .i64 a3) ∧ W.cell? ⟨w.heap.size, 3, none⟩ = some v4 ∧ W.cell? ⟨w.heap.size, 4, none⟩ = some v5 := fun W hb => by
  have h9 := (hb.block _ (by simp)).trans (World.alloc_heap_new w (.cells #[.int .i64 a1, .int .i64 a2, .int .i64 a3, v4, v5] 29))
  exact ⟨cell_of_heap h9 0, cell_of_heap h9 1, cell_of_heap h9 2, cell_of_heap h9 3, cell_of_heap h9 4⟩
set_option maxRecDepth 100000 in
set_option maxHeartbeats 1000000 in
theorem Sm.refPicked_any {S : Nat → Prop} {N : NM} {AL AD : Option Addr} {nL cL nD cD : Nat} {R : List MsgM} (x y pick : Int) (w : World) (h : RfAt S w N AL nL cL AD nD cD R) :
    Calls Try.prog 71 #[refV N.s AL nL cL AD nD cD, .int .i64 x, .int .i64 y, .int .i64 pick] w fun e w' => e = .returned (.tuple #[.int .i64 (if findE N x y = 0 then (findA N x y pick : Int) else 0), .int .i64 (findE N x y)]) ∧ Below w.heap.size w w' := by
  unfold refV
  obtain ⟨a1, ha1⟩ : ∃ a, N.s.ends = a := ⟨_, rfl⟩
  obtain ⟨a2, ha2⟩ : ∃ a, N.s.most = a := ⟨_, rfl⟩
  obtain ⟨a3, ha3⟩ : ∃ a, N.s.came = a := ⟨_, rfl⟩
  have hlk : lnkB N.s x y = (wiB 0 x (a1 - 1) && wiB 0 y (a1 - 1)) := by rw [lnkB_wi, ha1]
  rw [ha1, ha2, ha3]
  have hbx := box5 w a1 a2 a3 (.slice AL nL cL) (.slice AD nD cD)
  have hb : Below w.heap.size w (w.alloc (.cells #[.int .i64 a1, .int .i64 a2, .int .i64 a3, .slice AL nL cL, .slice AD nD cD] 29)) := (Below.refl _ w).alloc (Nat.le_refl _) _
  have hR := h.keep hb
  obtain ⟨w1, hw1⟩ : ∃ V, w.alloc (.cells #[.int .i64 a1, .int .i64 a2, .int .i64 a3, .slice AL nL cL, .slice AD nD cD] 29) = V := ⟨_, rfl⟩
  rw [hw1] at hbx hb hR
  obtain ⟨c0, c1, c2, c3, c4⟩ := hbx w1 (Below.refl _ _)
  have HB := Lib.hid hb
  have hPe : ∀ p : List PD, p = N.P → onP x y p = onP x y N.P := fun p e => by rw [e]
  have hmap := h.map
  by_cases hok : (anyB x y || lnkB N.s x y) = true
  · have hon := refOn_yes (S := S) a1 a2 a3 AL AD nL cL nD cD R x y w1 hR.len hR.few.1 hR.row (by rw [← hlk]; exact hok)
    rw [hPe _ hmap] at hon
    have hll : (onP x y N.P).length ≤ 4096 := by
      have h1 := onN_len x y N.P N.P.length
      have h2 : N.P.length = nL := by rw [← hmap, List.length_map, h.len]
      have h3 := h.few.1
      unfold onP
      omega
    obtain ⟨l, hl⟩ : ∃ l, onP x y N.P = l := ⟨_, rfl⟩
    by_cases hz : l.length = 0
    · have hE : findE N x y = 5 := by
        unfold findE
        rw [hok, hl]
        simp [hz]
      rw [hE]
      rw [hl, hz] at hon
      clear hR hb hbx hlk hPe hmap h hok hl hz hE hll
      go_enter Try.func71, Try.ntmps71
      go_upto_region 1 with fail
      clear hw1
      go_wp2_with (go_at_call 24; (with_reducible refine hon.mono ?_); clear hon; rintro e w2 ⟨A, c, rfl, _, hb2⟩)
      go_ret2
      exact ⟨rfl, HB.out.trans (hb2.mono HB.out.size)⟩
    · have hE : findE N x y = 0 := by
        unfold findE
        rw [hok, hl]
        simp [hz]
      have hfo := (find_ok pick hE).1
      rw [hE]
      rw [hl] at hon hfo hll
      obtain ⟨R0, hR0⟩ : ∃ R0, findA N x y pick = R0 := ⟨_, rfl⟩
      rw [hR0] at hfo ⊢
      obtain ⟨ln, hln⟩ : ∃ ln, l.length = ln := ⟨_, rfl⟩
      rw [hln] at hon hfo hz hll
      have hpe := pickI_eq pick (ln : Int) (by omega)
      have hpl := pickI_lt pick (ln : Int) (by omega)
      have hln0 : ((ln : Int) == 0) = false := by simp; omega
      have hlnI : (ln : Int) ≤ 4096 := by omega
      have hln1 : 0 < (ln : Int) := by omega
      have htm := tmod_lt (a := pick) (n := (ln : Int)) (by omega)
      obtain ⟨K, hK⟩ : ∃ K : Nat, pickI pick (ln : Int) = (K : Int) := ⟨(pickI pick (ln : Int)).toNat, by omega⟩
      rw [hK] at hpe hpl hfo
      simp only [Int.toNat_natCast] at hfo
      have HPE := Lib.hid hpe
      have HFO := Lib.hid hfo
      have HLN := Lib.hid hln
      clear hR hb hbx hlk hPe hmap h hok hl hE hR0 hK hpe hfo hln
      have hrow : ∀ (w2 : World) (A : Option Addr) (c : Nat), w2.ownsRow w1.heap.size 3 1 (.slice A ln c) ln (l.map fun (i : Nat) => .int .i64 (i : Int)) → ∃ g, A = some ⟨g, 0, none⟩ ∧ w2.cell? ⟨g, K, none⟩ = some (.int .i64 (R0 : Int)) := fun w2 A c ho => by
        obtain ⟨g, cap, hv, _, _⟩ := ho.form (by omega)
        injection hv with hv1 hv2 hv3
        subst hv1 hv3
        refine ⟨g, rfl, ?_⟩
        rw [ho.cellAt K (by omega), List.getElem?_map, HFO.out]
        rfl
      have HROW := Lib.hid hrow
      clear hrow
      by_cases g : Int.tmod pick (ln : Int) < 0
      · have hk : (K : Int) = Int.tmod pick (ln : Int) + (ln : Int) := by rw [HPE.out, if_pos g]
        obtain ⟨t, ht⟩ : ∃ t, Int.tmod pick (ln : Int) = t := ⟨_, rfl⟩
        rw [ht] at g hk htm
        have hk' : t + (ln : Int) = (K : Int) := hk.symm
        have hgt : decide (t < 0) = true := decide_eq_true g
        have HKK := Lib.hid hk'
        clear hk hk'
        go_enter Try.func71, Try.ntmps71
        go_upto_region 1 with fail
        clear hw1
        go_upto_region 7 with (go_at_call 24; (with_reducible refine hon.mono ?_); clear hon; rintro e w2 ⟨A, c, rfl, ho, hb2⟩; obtain ⟨g2, rfl, ck⟩ := HROW.out _ _ _ ho; clear ho)
        clear ht
        go_upto_region 9 with fail
        rw [HKK.out]
        have hKI : (K : Int) < (ln : Int) := hpl.2
        go_wp2
        go_ret2
        exact ⟨rfl, HB.out.trans (hb2.mono HB.out.size)⟩
      · have hk : (K : Int) = Int.tmod pick (ln : Int) := by rw [HPE.out, if_neg g]
        obtain ⟨t, ht⟩ : ∃ t, Int.tmod pick (ln : Int) = t := ⟨_, rfl⟩
        rw [ht] at g hk htm
        subst hk
        have hgt : decide ((K : Int) < 0) = false := decide_eq_false g
        go_enter Try.func71, Try.ntmps71
        go_upto_region 1 with fail
        clear hw1
        go_upto_region 7 with (go_at_call 24; (with_reducible refine hon.mono ?_); clear hon; rintro e w2 ⟨A, c, rfl, ho, hb2⟩; obtain ⟨g2, rfl, ck⟩ := HROW.out _ _ _ ho; clear ho)
        clear ht
        have hKI : (K : Int) < (ln : Int) := hpl.2
        go_wp2
        go_ret2
        exact ⟨rfl, HB.out.trans (hb2.mono HB.out.size)⟩
  · have hno : (anyB x y || lnkB N.s x y) = false := by
      cases h9 : (anyB x y || lnkB N.s x y)
      · rfl
      · exact absurd h9 hok
    have hE : findE N x y = 2 := by
      unfold findE
      rw [if_pos hno]
    rw [Bool.or_eq_false_iff] at hno
    have hon := refOn_bad a1 a2 a3 AL AD nL cL nD cD x y w1 hno.1 (by rw [← hlk]; exact hno.2)
    rw [hE]
    clear hR hb hbx hlk hPe hmap h hok hno hE
    go_enter Try.func71, Try.ntmps71
    go_upto_region 1 with fail
    clear hw1
    go_wp2_with (go_at_call 24; (with_reducible refine hon.mono ?_); clear hon; rintro e w2 ⟨rfl, hb2⟩)
    go_ret2
    exact ⟨rfl, HB.out.trans (hb2.mono HB.out.size)⟩
set_option maxRecDepth 100000 in
set_option maxHeartbeats 2000000 in
theorem Sm.refPeek_any {S : Nat → Prop} {N : NM} {AL AD : Option Addr} {nL cL nD cD : Nat} {R : List MsgM} (x y pick : Int) (w : World) (h : RfAt S w N AL nL cL AD nD cD R) :
    Calls Try.prog 55 #[refV N.s AL nL cL AD nD cD, .int .i64 x, .int .i64 y, .int .i64 pick] w fun e w' => ∃ A c, e = .returned (.tuple #[parVal (peekN N x y pick).1 A c, .int .i64 (peekN N x y pick).2]) ∧ Rds w' S A ((peekN N x y pick).1.2.2.2.map byteCell) ∧ Below w.heap.size w w' := by
  have hpk := fun W (hb : Below w.heap.size w W) => refPicked_any x y pick W (h.keep hb)
  unfold refV at hpk ⊢
  obtain ⟨a1, ha1⟩ : ∃ a, N.s.ends = a := ⟨_, rfl⟩
  obtain ⟨a2, ha2⟩ : ∃ a, N.s.most = a := ⟨_, rfl⟩
  obtain ⟨a3, ha3⟩ : ∃ a, N.s.came = a := ⟨_, rfl⟩
  rw [ha1, ha2, ha3] at hpk ⊢
  have hb2' := bel2 w (.cells #[.int .i64 a1, .int .i64 a2, .int .i64 a3, .slice AL nL cL, .slice AD nD cD] 29) (.cells #[.int .i64 0, .int .i64 0, .int .i64 0, .slice none 0 0] 41)
  have hbx := fun W (hb : Below ((w.alloc (.cells #[.int .i64 a1, .int .i64 a2, .int .i64 a3, .slice AL nL cL, .slice AD nD cD] 29)).alloc (.cells #[.int .i64 0, .int .i64 0, .int .i64 0, .slice none 0 0] 41)).heap.size ((w.alloc (.cells #[.int .i64 a1, .int .i64 a2, .int .i64 a3, .slice AL nL cL, .slice AD nD cD] 29)).alloc (.cells #[.int .i64 0, .int .i64 0, .int .i64 0, .slice none 0 0] 41)) W) => box5 w a1 a2 a3 (.slice AL nL cL) (.slice AD nD cD) W (((Below.refl _ _).alloc (Nat.le_refl _) _).trans (hb.mono (by simp)))
  have hpx : ((w.alloc (.cells #[.int .i64 a1, .int .i64 a2, .int .i64 a3, .slice AL nL cL, .slice AD nD cD] 29)).alloc (.cells #[.int .i64 0, .int .i64 0, .int .i64 0, .slice none 0 0] 41)).heap[w.heap.size + 1]? = some (.cells #[.int .i64 0, .int .i64 0, .int .i64 0, .slice none 0 0] 41 (0, 0)) := new_alloc _ (by simp)
  obtain ⟨w1, hw1⟩ : ∃ V, (w.alloc (.cells #[.int .i64 a1, .int .i64 a2, .int .i64 a3, .slice AL nL cL, .slice AD nD cD] 29)).alloc (.cells #[.int .i64 0, .int .i64 0, .int .i64 0, .slice none 0 0] 41) = V := ⟨_, rfl⟩
  rw [hw1] at hbx hb2' hpx
  obtain ⟨c0, c1, c2, c3, c4⟩ := hbx w1 (Below.refl _ _)
  have h71 := hpk w1 hb2'
  have HB := Lib.hid hb2'
  have HPX := Lib.hid hpx
  have HBX := Lib.hid hbx
  have hz := build41
  unfold zPar at hz
  by_cases hE : findE N x y = 0
  · have hfo := find_ok pick hE
    obtain ⟨m, hm, hfp, hlt⟩ := find_msg h.map pick hE
    rw [hE, if_pos rfl] at h71
    obtain ⟨i, hi⟩ : ∃ i, findA N x y pick = i := ⟨_, rfl⟩
    rw [hi] at h71 hm hlt
    rw [h.len] at hlt
    have hiI : (i : Int) < (nL : Int) := by omega
    have hnI : (nL : Int) ≤ 4096 := by have := h.few; omega
    obtain ⟨b, off, hAL, hbl, hSb, hcl⟩ := h.row (by rw [cellsM_len, h.len]; omega)
    subst hAL
    have hcm := cellsM_at R i m hm
    have HQ0 : Hid (∀ W, Below w.heap.size w W → W.cell? ⟨b, off + i * 4, none⟩ = some (.int .i64 m.num) ∧ W.cell? ⟨b, off + i * 4 + 1, none⟩ = some (.int .i64 m.src) ∧ W.cell? ⟨b, off + i * 4 + 2, none⟩ = some (.int .i64 m.dst) ∧ W.cell? ⟨b, off + i * 4 + 3, none⟩ = some (.slice m.A m.bytes.length m.c)) := Lib.hid fun W hb =>
      ⟨(hb.cell (p := ⟨b, off + i * 4, none⟩) hbl).trans (hcl (i * 4) _ hcm.1), (hb.cell (p := ⟨b, off + i * 4 + 1, none⟩) hbl).trans (by have := hcl (i * 4 + 1) _ hcm.2.1; rwa [← Nat.add_assoc] at this), (hb.cell (p := ⟨b, off + i * 4 + 2, none⟩) hbl).trans (by have := hcl (i * 4 + 2) _ hcm.2.2.1; rwa [← Nat.add_assoc] at this), (hb.cell (p := ⟨b, off + i * 4 + 3, none⟩) hbl).trans (by have := hcl (i * 4 + 3) _ hcm.2.2.2; rwa [← Nat.add_assoc] at this)⟩
    have HD0 : Hid (∀ W, Below w.heap.size w W → Calls Try.prog 25 #[.agg #[.int .i64 a1, .int .i64 a2, .int .i64 a3, .slice (some ⟨b, off, none⟩) nL cL, .slice AD nD cD], .int .i64 m.src, .int .i64 m.dst] W fun e w' => e = .returned (.bool (decide ((m.src, m.dst) ∈ N.D))) ∧ Below W.heap.size W w') := Lib.hid fun W hb =>
      refDown_at a1 a2 a3 (.slice (some ⟨b, off, none⟩) nL cL) AD nD cD N.D m.src m.dst W h.dlen h.few.2 (h.keep hb).dn
    have HBY : Hid (∀ W, Below w.heap.size w W → Rds W S m.A (m.bytes.map byteCell)) := Lib.hid fun W hb => (h.keep hb).byt m (List.mem_of_getElem? hm)
    obtain ⟨dn, hdn⟩ : ∃ dn, decide ((m.src, m.dst) ∈ N.D) = dn := ⟨_, rfl⟩
    rw [hdn] at HD0
    have HPN : Hid (peekN N x y pick = if dn = true then (zeroP, 210) else (m.d, 0)) := Lib.hid (by
      have hre : reachE N x y pick = if (m.src, m.dst) ∈ N.D then 210 else 0 := by
        unfold reachE
        rw [if_neg (by simp [hE]), hfp]
        rfl
      unfold peekN
      rw [hre, hfp]
      cases dn with
      | true =>
        rw [if_pos (of_decide_eq_true hdn)]
        rfl
      | false =>
        rw [if_neg (of_decide_eq_false hdn)]
        rfl)
    clear h hpk hbx hb2' hpx hE hfo hm hfp hcl hcm hi hdn
    go_enter Try.func55, Try.ntmps55
    go_upto_region 1 with fail
    clear hw1
    go_upto_region 4 with (go_at_call 71; (with_reducible refine h71.mono ?_); clear h71; rintro e w2 ⟨rfl, hbb⟩)
    have HB2 := Lib.hid (HB.out.trans (hbb.mono HB.out.size))
    have HC : Hid (∀ W, Below w2.heap.size w2 W → W.cell? ⟨w.heap.size, 0, none⟩ = some (.int .i64 a1) ∧ W.cell? ⟨w.heap.size, 1, none⟩ = some (.int .i64 a2) ∧ W.cell? ⟨w.heap.size, 2, none⟩ = some (.int .i64 a3) ∧ W.cell? ⟨w.heap.size, 3, none⟩ = some (.slice (some ⟨b, off, none⟩) nL cL) ∧ W.cell? ⟨w.heap.size, 4, none⟩ = some (.slice AD nD cD)) := Lib.hid fun W hb => HBX.out W (hbb.trans (hb.mono hbb.size))
    have HQ : Hid (∀ W, Below w2.heap.size w2 W → W.cell? ⟨b, off + i * 4, none⟩ = some (.int .i64 m.num) ∧ W.cell? ⟨b, off + i * 4 + 1, none⟩ = some (.int .i64 m.src) ∧ W.cell? ⟨b, off + i * 4 + 2, none⟩ = some (.int .i64 m.dst) ∧ W.cell? ⟨b, off + i * 4 + 3, none⟩ = some (.slice m.A m.bytes.length m.c)) := Lib.hid fun W hb => HQ0.out W (HB2.out.trans (hb.mono HB2.out.size))
    have H25 : Hid (∀ W, Below w2.heap.size w2 W → Calls Try.prog 25 #[.agg #[.int .i64 a1, .int .i64 a2, .int .i64 a3, .slice (some ⟨b, off, none⟩) nL cL, .slice AD nD cD], .int .i64 m.src, .int .i64 m.dst] W fun e w' => e = .returned (.bool dn) ∧ Below W.heap.size W w') := Lib.hid fun W hb => HD0.out W (HB2.out.trans (hb.mono HB2.out.size))
    have HPX2 := Lib.hid ((hbb.block _ (Array.getElem?_eq_some_iff.1 HPX.out).1).trans HPX.out)
    have hpl2 := (Array.getElem?_eq_some_iff.1 HPX2.out).1
    clear hbb c0 c1 c2 c3 c4
    have hS0 : (fun W => Below w2.heap.size w2 W) w2.drew := (Below.refl _ _).drew
    refine wp_region_held_drew (S := fun W => Below w2.heap.size w2 W) rfl hS0 (fun hHeld => ?_)
    simp only [List.size_toArray, List.length_cons, List.length_nil, Nat.reduceAdd]
    have HB0 : Hid (Below w2.heap.size w2 w2.drew) := Lib.hid (Below.refl _ _).drew
    obtain ⟨V0, hV0⟩ : ∃ V, w2.drew = V := ⟨_, rfl⟩
    rw [hV0] at hHeld hS0 HB0 ⊢
    clear hV0
    refine wpAnyH_take (i := 0) (v := .agg #[.int .i64 a1, .int .i64 a2, .int .i64 a3, .slice (some ⟨b, off, none⟩) nL cL, .slice AD nD cD]) rfl (by kernel_rfl) (by kernel_rfl) (by kernel_rfl) (fun _ _ _ h => h) (Or.inl ⟨by rfl, ?_⟩) (by assumption) ?_
    · intro wx hs1; obtain ⟨k0, k1, k2, k3, k4⟩ := HC.out wx hs1; go_simp
    (try simp only [Act.put, List.getElem_toArray, List.getElem_cons_zero, List.setIfInBounds_toArray, List.set_cons_zero, List.set_cons_succ])
    refine wpAnyH_take (i := 1) (v := .pointer (some ⟨w.heap.size, 3, none⟩)) rfl (by kernel_rfl) (by kernel_rfl) (by kernel_rfl) (fun _ _ _ h => h) (Or.inl ⟨by rfl, ?_⟩) (by assumption) ?_
    · intro wx hs1; go_simp
    (try simp only [Act.put, List.getElem_toArray, List.getElem_cons_succ, List.getElem_cons_zero, List.setIfInBounds_toArray, List.set_cons_zero, List.set_cons_succ])
    refine wpAnyH_take (i := 2) (v := .slice (some ⟨b, off, none⟩) nL cL) rfl (by kernel_rfl) (by kernel_rfl) (by kernel_rfl) (fun _ _ _ h => h) (Or.inl ⟨by rfl, ?_⟩) (by assumption) ?_
    · intro wx hs1; obtain ⟨k0, k1, k2, k3, k4⟩ := HC.out wx hs1; go_simp
    (try simp only [Act.put, List.getElem_toArray, List.getElem_cons_succ, List.getElem_cons_zero, List.setIfInBounds_toArray, List.set_cons_zero, List.set_cons_succ])
    refine wpAnyH_take (i := 3) (v := .int .i64 (i : Int)) rfl (by kernel_rfl) (by kernel_rfl) (by kernel_rfl) (fun _ _ _ h => h) (Or.inl ⟨by rfl, ?_⟩) (by assumption) ?_
    · intro wx hs1; go_simp
    (try simp only [Act.put, List.getElem_toArray, List.getElem_cons_succ, List.getElem_cons_zero, List.setIfInBounds_toArray, List.set_cons_zero, List.set_cons_succ])
    refine wpAnyH_take (i := 4) (v := .pointer (some ⟨b, off + i * 4, none⟩)) rfl (by kernel_rfl) (by kernel_rfl) (by kernel_rfl) (fun _ _ _ h => h) (Or.inl ⟨by rfl, ?_⟩) (by assumption) ?_
    · intro wx hs1; go_simp
    (try simp only [Act.put, List.getElem_toArray, List.getElem_cons_succ, List.getElem_cons_zero, List.setIfInBounds_toArray, List.set_cons_zero, List.set_cons_succ])
    refine wpAnyH_take (i := 5) (v := .pointer (some ⟨b, off + i * 4 + 1, none⟩)) rfl (by kernel_rfl) (by kernel_rfl) (by kernel_rfl) (fun _ _ _ h => h) (Or.inl ⟨by rfl, ?_⟩) (by assumption) ?_
    · intro wx hs1; go_simp
    (try simp only [Act.put, List.getElem_toArray, List.getElem_cons_succ, List.getElem_cons_zero, List.setIfInBounds_toArray, List.set_cons_zero, List.set_cons_succ])
    refine wpAnyH_take (i := 6) (v := .int .i64 m.src) rfl (by kernel_rfl) (by kernel_rfl) (by kernel_rfl) (fun _ _ _ h => h) (Or.inl ⟨by rfl, ?_⟩) (by assumption) ?_
    · intro wx hs1; obtain ⟨k0, k1, k2, k3⟩ := HQ.out wx hs1; go_simp
    (try simp only [Act.put, List.getElem_toArray, List.getElem_cons_succ, List.getElem_cons_zero, List.setIfInBounds_toArray, List.set_cons_zero, List.set_cons_succ])
    refine wpAnyH_take (i := 7) (v := .pointer (some ⟨w.heap.size, 3, none⟩)) rfl (by kernel_rfl) (by kernel_rfl) (by kernel_rfl) (fun _ _ _ h => h) (Or.inl ⟨by rfl, ?_⟩) (by assumption) ?_
    · intro wx hs1; go_simp
    (try simp only [Act.put, List.getElem_toArray, List.getElem_cons_succ, List.getElem_cons_zero, List.setIfInBounds_toArray, List.set_cons_zero, List.set_cons_succ])
    refine wpAnyH_take (i := 8) (v := .slice (some ⟨b, off, none⟩) nL cL) rfl (by kernel_rfl) (by kernel_rfl) (by kernel_rfl) (fun _ _ _ h => h) (Or.inl ⟨by rfl, ?_⟩) (by assumption) ?_
    · intro wx hs1; obtain ⟨k0, k1, k2, k3, k4⟩ := HC.out wx hs1; go_simp
    (try simp only [Act.put, List.getElem_toArray, List.getElem_cons_succ, List.getElem_cons_zero, List.setIfInBounds_toArray, List.set_cons_zero, List.set_cons_succ])
    refine wpAnyH_take (i := 9) (v := .int .i64 (i : Int)) rfl (by kernel_rfl) (by kernel_rfl) (by kernel_rfl) (fun _ _ _ h => h) (Or.inl ⟨by rfl, ?_⟩) (by assumption) ?_
    · intro wx hs1; go_simp
    (try simp only [Act.put, List.getElem_toArray, List.getElem_cons_succ, List.getElem_cons_zero, List.setIfInBounds_toArray, List.set_cons_zero, List.set_cons_succ])
    refine wpAnyH_take (i := 10) (v := .pointer (some ⟨b, off + i * 4, none⟩)) rfl (by kernel_rfl) (by kernel_rfl) (by kernel_rfl) (fun _ _ _ h => h) (Or.inl ⟨by rfl, ?_⟩) (by assumption) ?_
    · intro wx hs1; go_simp
    (try simp only [Act.put, List.getElem_toArray, List.getElem_cons_succ, List.getElem_cons_zero, List.setIfInBounds_toArray, List.set_cons_zero, List.set_cons_succ])
    refine wpAnyH_take (i := 11) (v := .pointer (some ⟨b, off + i * 4 + 2, none⟩)) rfl (by kernel_rfl) (by kernel_rfl) (by kernel_rfl) (fun _ _ _ h => h) (Or.inl ⟨by rfl, ?_⟩) (by assumption) ?_
    · intro wx hs1; go_simp
    (try simp only [Act.put, List.getElem_toArray, List.getElem_cons_succ, List.getElem_cons_zero, List.setIfInBounds_toArray, List.set_cons_zero, List.set_cons_succ])
    refine wpAnyH_take (i := 12) (v := .int .i64 m.dst) rfl (by kernel_rfl) (by kernel_rfl) (by kernel_rfl) (fun _ _ _ h => h) (Or.inl ⟨by rfl, ?_⟩) (by assumption) ?_
    · intro wx hs1; obtain ⟨k0, k1, k2, k3⟩ := HQ.out wx hs1; go_simp
    (try simp only [Act.put, List.getElem_toArray, List.getElem_cons_succ, List.getElem_cons_zero, List.setIfInBounds_toArray, List.set_cons_zero, List.set_cons_succ])
    refine wpAnyH_ready (rs := [13]) (by kernel_rfl) (by simp) (AllReadyH.cons rfl (fun K hK => ?_) AllReadyH.nil)
    go_simp
    go_at_call 25
    (with_reducible refine (H25.out _ hS0).mono ?_)
    rintro e w5 ⟨rfl, hb⟩
    try dsimp only
    have HB1 : Hid (Below w2.heap.size w2 w5) := Lib.hid (HB0.out.trans (hb.mono HB0.out.size)); clear hb; have hS := HB1.out
    refine hK.out _ _ hS (fun _ => ?_)
    clear hK K
    (try simp only [Act.put, List.getElem_toArray, List.getElem_cons_succ, List.getElem_cons_zero, List.setIfInBounds_toArray, List.set_cons_zero, List.set_cons_succ])
    refine wpAnyH_done (by kernel_rfl) ?_ _
    have hp5 := (HB1.out.block _ hpl2).trans HPX2.out
    obtain ⟨k0, k1, k2, k3, k4⟩ := HC.out w5 HB1.out
    obtain ⟨q0, q1, q2, q3⟩ := HQ.out w5 HB1.out
    obtain ⟨⟨p0, p1, p2, p3⟩, ⟨f0, f1, f2, f3⟩⟩ := four_cells hp5
    have HP5 := Lib.hid hp5
    have HBw := Lib.hid (HB2.out.trans (HB1.out.mono HB2.out.size))
    clear hp5
    cases dn with
    | true =>
      go_wp2
      have h4 := put4 HP5.out (.int .i64 0) (.int .i64 0) (.int .i64 0) (.slice none 0 0)
      have h5 := put4_but w5 (w.heap.size + 1) (.int .i64 0) (.int .i64 0) (.int .i64 0) (.slice none 0 0)
      unfold put4W at h4 h5
      obtain ⟨⟨z0, z1, z2, z3⟩, _⟩ := four_cells h4
      exact bodyPost_ret (v := .tuple #[.agg #[.int .i64 0, .int .i64 0, .int .i64 0, .slice none 0 0], .int .i64 210]) (by simp [results, Try.results55, go_sem, z0, z1, z2, z3]) rfl (by rw [HPN.out]; exact (by first | exact ⟨none, 0, rfl, (fun h0 => absurd h0 (by simp [zeroP])), HBw.out.trans (h5.to_below HBw.out.size (fun b e => by omega))⟩ | exact ⟨none, ⟨0, rfl⟩, (fun h0 => absurd h0 (by simp [zeroP])), HBw.out.trans (h5.to_below HBw.out.size (fun b e => by omega))⟩))
    | false =>
      go_wp2
      have h4 := put4 HP5.out (.int .i64 m.num) (.int .i64 m.src) (.int .i64 m.dst) (.slice m.A m.bytes.length m.c)
      have h5 := put4_but w5 (w.heap.size + 1) (.int .i64 m.num) (.int .i64 m.src) (.int .i64 m.dst) (.slice m.A m.bytes.length m.c)
      unfold put4W at h4 h5
      obtain ⟨⟨z0, z1, z2, z3⟩, _⟩ := four_cells h4
      have hbf := HBw.out.trans (h5.to_below HBw.out.size (fun b e => by omega))
      exact bodyPost_ret (v := .tuple #[.agg #[.int .i64 m.num, .int .i64 m.src, .int .i64 m.dst, .slice m.A m.bytes.length m.c], .int .i64 0]) (by simp [results, Try.results55, go_sem, z0, z1, z2, z3]) rfl (by rw [HPN.out]; exact (by first | exact ⟨m.A, m.c, rfl, HBY.out _ hbf, hbf⟩ | exact ⟨m.A, ⟨m.c, rfl⟩, HBY.out _ hbf, hbf⟩))
  · obtain ⟨E, hEE⟩ : ∃ E, findE N x y = E := ⟨_, rfl⟩
    have hpn : peekN N x y pick = (zeroP, E) := by
      unfold peekN reachE
      rw [if_pos hE, hEE]
      rw [hEE] at hE
      rw [if_pos hE]
    rw [if_neg hE, hEE] at h71
    rw [hEE] at hE
    rw [hpn]
    have hE2 : (E != 0) = true := by simpa using hE
    clear h hpk hbx hb2' hpx hE hpn hEE
    go_enter Try.func55, Try.ntmps55
    go_upto_region 1 with fail
    clear hw1
    go_wp2_with (go_at_call 71; (with_reducible refine h71.mono ?_); clear h71; rintro e w5 ⟨rfl, hbb⟩; have HP5 := Lib.hid ((hbb.block _ (Array.getElem?_eq_some_iff.1 HPX.out).1).trans HPX.out); obtain ⟨⟨p0, p1, p2, p3⟩, ⟨f0, f1, f2, f3⟩⟩ := four_cells HP5.out; have HBw := Lib.hid (HB.out.trans (hbb.mono HB.out.size)); clear hbb)
    have h4 := put4 HP5.out (.int .i64 0) (.int .i64 0) (.int .i64 0) (.slice none 0 0)
    have h5 := put4_but w5 (w.heap.size + 1) (.int .i64 0) (.int .i64 0) (.int .i64 0) (.slice none 0 0)
    unfold put4W at h4 h5
    obtain ⟨⟨z0, z1, z2, z3⟩, _⟩ := four_cells h4
    exact bodyPost_ret (v := .tuple #[.agg #[.int .i64 0, .int .i64 0, .int .i64 0, .slice none 0 0], .int .i64 E]) (by simp [results, Try.results55, go_sem, z0, z1, z2, z3]) rfl ⟨none, 0, rfl, fun h0 => absurd h0 (by simp [zeroP]), HBw.out.trans (h5.to_below HBw.out.size (fun b e => by omega))⟩
end Go.Proofs
namespace Go.Proofs
open Go
theorem Sm.operWp_mono {P : Program} {o : Oper} {a : Act} {w : World} {K K' : Act → World → Prop} {R Q : Exit → Act → World → Prop} (hK : ∀ a w, K a w → K' a w) (hR : ∀ e a w, e ≠ .normal → R e a w → Q e a w) (hL : ¬ LetsOut R)
    (h : o.wp P a w K R) : o.wp P a w K' Q := by
  unfold Oper.wp at *
  generalize (execOp a.eval o).run P w = r at *
  cases r with
  | ok n w' =>
    cases n <;> simp only [Oper.upon] at h ⊢ <;>
      first
        | exact hK _ _ h
        | exact Calls.mono h (fun e w'' he => by
            cases e with
            | returned v => exact hK _ _ he
            | panicked c => exact hR _ _ _ (by simp) he
            | outgrown => exact absurd he hL)
        | exact Rows.mono h (fun _ _ he => hK _ _ he)
  | halt x w' =>
    cases x <;> simp only [Oper.upon] at h ⊢ <;> first | exact hR _ _ _ (by simp) h | exact h
/-- what is asked ahead of the last operation -/
def Sm.tailQ (P : Program) (ops : Array Oper) (Q : Exit → Act → World → Prop) (n : Nat) : Exit → Act → World → Prop
  | .normal, a, w => wpOp P ops Q n (fun a' w' => Q .normal a' w') a w
  | _, _, _ => False
theorem Sm.tailQ_out (P : Program) (ops : Array Oper) (Q : Exit → Act → World → Prop) (n : Nat) : ¬ LetsOut (tailQ P ops Q n) := fun ⟨_, _, h⟩ => h
/-- the shape that is asked, as the kernel looks at it -/
def Sm.popB (md : Region.Mode) (ops : Array Oper) (o : Oper) : Bool :=
  ((List.range ops.size).all fun i => match ops[i]? with
    | some x => x.guard.isNone && x.after.all fun e => decide (e.on < i)
    | none => false) &&
  (o.after.all fun e => decide (e.on < ops.size)) && ((List.range ops.size).all fun i => (o.after.any fun e => Region.binds md e && e.on == i) || (List.range ops.size).any fun k => decide (i < k) && match ops[k]? with
    | some x => x.after.any fun e => Region.binds md e && e.on == i
    | none => false)
section
variable {P : Program} {md : Region.Mode} {ops : Array Oper} {o : Oper} {Q : Exit → Act → World → Prop}
theorem Sm.popB_at (h : popB md ops o = true) {i : Nat} {x : Oper} (hx : ops[i]? = some x) : x.guard = none ∧ ∀ e ∈ x.after, e.on < i := by
  unfold popB at h
  simp only [Bool.and_eq_true, List.all_eq_true, List.mem_range] at h
  have h1 := h.1.1 i (Array.getElem?_eq_some_iff.1 hx).1
  rw [hx] at h1
  simp only [Bool.and_eq_true, Option.isNone_iff_eq_none] at h1
  refine ⟨h1.1, fun e he => ?_⟩
  have := (Array.all_eq_true_iff_forall_mem.1 h1.2) e he
  simpa using this
theorem Sm.popB_last (h : popB md ops o = true) : ∀ e ∈ o.after, e.on < ops.size := by
  unfold popB at h
  simp only [Bool.and_eq_true] at h
  intro e he
  have := (Array.all_eq_true_iff_forall_mem.1 h.1.2) e he
  simpa using this
theorem Sm.popB_waits (h : popB md ops o = true) {i : Nat} (hi : i < ops.size) : (∃ e ∈ o.after, Region.binds md e = true ∧ e.on = i) ∨ ∃ k x, i < k ∧ ops[k]? = some x ∧ ∃ e ∈ x.after, Region.binds md e = true ∧ e.on = i := by
  unfold popB at h
  simp only [Bool.and_eq_true, List.all_eq_true, List.mem_range, Bool.or_eq_true, List.any_eq_true] at h
  rcases h.2 i hi with h | ⟨k, _, hik, h⟩
  · obtain ⟨e, he, hb⟩ := Array.any_eq_true'.1 h
    simp only [Bool.and_eq_true, beq_iff_eq] at hb
    exact .inl ⟨e, he, hb.1, hb.2⟩
  · cases hx : ops[k]? with
    | none => rw [hx] at h; cases h
    | some x =>
      rw [hx] at h
      obtain ⟨e, he, hb⟩ := Array.any_eq_true'.1 h
      simp only [Bool.and_eq_true, beq_iff_eq] at hb
      exact .inr ⟨k, x, by simpa using hik, hx, e, he, hb.1, hb.2⟩
/-- what has come up, what it waits for has -/
def Sm.ClosedL (md : Region.Mode) (ops : Array Oper) (l : Array Bool) : Prop := ∀ (j : Nat) x, ops[j]? = some x → l.getD j false = true → ∀ e ∈ x.after, Region.binds md e = true → l.getD e.on false = true
theorem Sm.all_listed (h : popB md ops o = true) {l : Array Bool} (hc : ClosedL md ops l) (hw : ∀ e ∈ o.after, Region.binds md e = true → l.getD e.on false = true) : ∀ n i, i < ops.size → ops.size - i = n → l.getD i false = true := by
  intro n
  induction n using Nat.strongRecOn with
  | _ n ih =>
    intro i hi hn
    rcases popB_waits h hi with ⟨e, he, hb, rfl⟩ | ⟨k, x, hik, hx, e, he, hb, rfl⟩
    · exact hw e he hb
    · have hk := (Array.getElem?_eq_some_iff.1 hx).1
      exact hc k x hx (ih (ops.size - k) (by omega) k hk rfl) e he hb
theorem Sm.ClosedL.step {l : Array Bool} (hc : ClosedL md ops l) {i : Nat} (hi : i ∈ Region.ready md ops l) (hs : i < l.size) : ClosedL md ops (l.setIfInBounds i true) := by
  obtain ⟨_, x, hx, hall⟩ := mem_ready.1 hi
  have keep : ∀ k, l.getD k false = true → (l.setIfInBounds i true).getD k false = true := fun k hk => by
    by_cases e : i = k
    · subst e; simp [Array.getD, hs]
    · rw [getD_set_ne false e]; exact hk
  intro j y hy hj e he hb
  by_cases e2 : i = j
  · subst e2
    have : y = x := Option.some.inj (hy.symm.trans hx)
    subst this
    exact keep _ (hall e he hb)
  · rw [getD_set_ne false e2] at hj
    exact keep _ (hc j y hy hj e he hb)
theorem Sm.push_getD {l : Array Bool} {i : Nat} (hi : i < l.size) (b d d' : Bool) : (l.push b).getD i d = l.getD i d' := by
  simp [Array.getD, Array.getElem_push, hi, Nat.lt_succ_of_lt hi]
/-- nothing may come up: all has come up -/
theorem Sm.ready_nil (h : popB md ops o = true) {l : Array Bool} (hs : l.size = ops.size) (hr : Region.ready md ops l = []) : ∀ i, i < ops.size → l.getD i false = true := by
  intro i
  induction i using Nat.strongRecOn with
  | _ i ih =>
    intro hi
    cases hb : l.getD i false with
    | true => rfl
    | false =>
      have hx : ops[i]? = some ops[i] := Array.getElem?_eq_getElem hi
      have : i ∈ Region.ready md ops l := by
        rw [mem_ready]
        refine ⟨by simp [Array.getD, hs, hi] at hb ⊢; exact hb, _, hx, fun e he _ => ?_⟩
        have hlt := (popB_at h hx).2 e he
        exact ih e.on hlt (by omega)
      rw [hr] at this
      cases this
theorem Sm.wpAny_pop (h : popB md ops o = true) : ∀ (fuel : Nat) (l : Array Bool) (a : Act) (w : World), l.size = ops.size → ClosedL md ops l → wpAny P md ops (tailQ P (ops.push o) Q ops.size) fuel l a w → wpAny P md (ops.push o) Q (fuel + 1) (l.push false) a w := by
  -- the last one's turn
  have last : ∀ (fuel : Nat) (l : Array Bool) (a : Act) (w : World), l.size = ops.size → Region.ready md ops l = [] → tailQ P (ops.push o) Q ops.size .normal a w → wpAny P md (ops.push o) Q (fuel + 1) (l.push false) a w := by
    intro fuel l a w hs hr ht
    have hall := ready_nil h hs hr
    have hrd : ∀ i, i ∈ Region.ready md (ops.push o) (l.push false) ↔ i = ops.size := by
      intro i
      rw [mem_ready]
      constructor
      · rintro ⟨h0, x, hx, _⟩
        rcases Nat.lt_trichotomy i ops.size with hi | hi | hi
        · rw [push_getD (by omega) false true false, hall i hi] at h0; cases h0
        · exact hi
        · rw [Array.getElem?_eq_none (by simp; omega)] at hx; cases hx
      · rintro rfl
        refine ⟨by simp [Array.getD, hs, Array.getElem_push], o, by simp, fun e he _ => ?_⟩
        have := popB_last h e he
        rw [push_getD (by omega) false false false]
        exact hall _ this
    refine ⟨fun h0 => ?_, fun i hi => ?_⟩
    · have := (hrd ops.size).2 rfl
      rw [h0] at this; cases this
    · obtain rfl := (hrd i).1 hi
      refine wpOp_mono (fun a' w' hq => ?_) ht
      have hnil : Region.ready md (ops.push o) ((l.push false).setIfInBounds ops.size true) = [] := by
        apply List.eq_nil_iff_forall_not_mem.2
        intro i hi
        rw [mem_ready] at hi
        obtain ⟨h0, x, hx, _⟩ := hi
        have hlt : i < (ops.push o).size := (Array.getElem?_eq_some_iff.1 hx).1
        simp only [Array.size_push] at hlt
        by_cases e : i = ops.size
        · subst e; simp [Array.getD, hs] at h0
        · rw [getD_set_ne true (fun e' => e e'.symm), push_getD (by omega) false true false, hall i (by omega)] at h0; cases h0
      exact wpAny_done hnil hq fuel
  intro fuel
  induction fuel with
  | zero =>
    intro l a w hs _ hw
    exact last 0 l a w hs hw.1 hw.2
  | succ fuel ih =>
    intro l a w hs hc hw
    by_cases hr : Region.ready md ops l = []
    · exact last (fuel + 1) l a w hs hr (hw.1 hr)
    · have hrd : ∀ i, i ∈ Region.ready md (ops.push o) (l.push false) → i ∈ Region.ready md ops l ∧ i < ops.size := by
        intro i hi
        rw [mem_ready] at hi
        obtain ⟨h0, x, hx, hall⟩ := hi
        have hlt : i < (ops.push o).size := (Array.getElem?_eq_some_iff.1 hx).1
        simp only [Array.size_push] at hlt
        by_cases e : i = ops.size
        · exfalso
          subst e
          have hxo : x = o := by simpa using hx.symm
          subst hxo
          obtain ⟨j, hj⟩ := List.exists_mem_of_ne_nil _ hr
          obtain ⟨hj0, y, hy, _⟩ := mem_ready.1 hj
          have hjl := (Array.getElem?_eq_some_iff.1 hy).1
          have := all_listed h hc (fun e he hb => by
            have h1 := hall e he hb
            rwa [push_getD (by rw [hs]; exact popB_last h e he) false false false] at h1) _ j hjl rfl
          have hjs : j < l.size := by omega
          simp [Array.getD, hjs] at hj0 this
          rw [hj0] at this; cases this
        · have hi' : i < ops.size := by omega
          have hx' : ops[i]? = some x := by rw [Array.getElem?_push, if_neg (by omega)] at hx; exact hx
          refine ⟨mem_ready.2 ⟨by rw [← push_getD (by omega) false true true]; exact h0, x, hx', fun e he hb => ?_⟩, hi'⟩
          have := (popB_at h hx').2 e he
          rw [← push_getD (by omega) false false false]
          exact hall e he hb
      refine ⟨fun h0 => ?_, fun i hi => ?_⟩
      · exfalso
        obtain ⟨j, hj⟩ := List.exists_mem_of_ne_nil _ hr
        obtain ⟨hj0, y, hy, hya⟩ := mem_ready.1 hj
        have hjl := (Array.getElem?_eq_some_iff.1 hy).1
        have : j ∈ Region.ready md (ops.push o) (l.push false) := by
          refine mem_ready.2 ⟨by rw [push_getD (by omega) false true true]; exact hj0, y, by rw [Array.getElem?_push, if_neg (by omega)]; exact hy, fun e he hb => ?_⟩
          have := (popB_at h hy).2 e he
          rw [push_getD (by omega) false false false]
          exact hya e he hb
        rw [h0] at this; cases this
      · obtain ⟨hir, hlt⟩ := hrd i hi
        have h1 := hw.2 i hir
        have hx : ops[i]? = some ops[i] := Array.getElem?_eq_getElem hlt
        have hx' : (ops.push o)[i]? = some ops[i] := by rw [Array.getElem?_push, if_neg (by omega)]; exact hx
        have hg := (popB_at h hx).1
        have hset : (l.push false).setIfInBounds i true = (l.setIfInBounds i true).push false := by
          have hil : i < l.size := by omega
          cases l with
          | mk l =>
            have hil' : i < l.length := by simpa using hil
            simp [hil']
        unfold wpOp at h1 ⊢
        simp only [hx, hx'] at h1 ⊢
        have hwant : ∀ t, Region.wanted ops[i] t = true := fun t => by simp [Region.wanted, hg]
        rw [if_pos (hwant _)] at h1 ⊢
        refine .inl ?_
        rcases h1 with h1 | ⟨_, h1⟩
        · refine operWp_mono (fun a' w' hh => ?_) (fun e a w hne hq => by cases e <;> first | exact absurd rfl hne | exact hq.elim) (tailQ_out _ _ _ _) h1
          rw [hset]
          exact ih _ a' w' (by simp [hs]) (hc.step hir (by omega)) hh
        · exact absurd h1 (tailQ_out _ _ _ _)
/-- **the law** -/
theorem Sm.wp_region_pop {id : Nat} {a : Act} {w : World} (h : popB .any ops o = true) (hm : P.follows .mixedOrders = true)
    (hw : wpAny P .any ops (tailQ P (ops.push o) Q ops.size) ops.size (Array.replicate ops.size false) a { w with drawn := w.drawn + 1 }) : (Code.region id (ops.push o) true).wp P Q a w := by
  refine wp_region_any hm ?_
  have := wpAny_pop (Q := Q) h ops.size _ a _ (by simp) (fun j x _ hj => by simp [Array.getD] at hj) hw
  have e : (Array.replicate ops.size false).push false = Array.replicate (ops.push o).size false := by
    rw [Array.size_push, Array.replicate_succ]
  rw [e] at this
  rw [Array.size_push]
  rw [Array.size_push] at this
  exact this
theorem Sm.wp_region_popL {id : Nat} {a : Act} {w : World} {l : List Oper} (n : Nat) (hd : l.drop n = [o]) (hn : (l.take n).length = n) (h : popB .any (l.take n).toArray o = true) (hm : P.follows .mixedOrders = true) {S : World → Prop} (hS : S w.drew)
    (hw : S w.drew → wpAnyH P .any (l.take n).toArray (tailQ P l.toArray Q n) S n (Array.replicate n false) a w.drew) : (Code.region id l.toArray true).wp P Q a w := by
  have e : l.toArray = (l.take n).toArray.push o := by
    rw [List.push_toArray, ← hd, List.take_append_drop]
  have hs : (l.take n).toArray.size = n := by simpa using hn
  have h1 := wpAny_of_held _ _ _ _ (hw hS)
  rw [e] at h1 ⊢
  refine wp_region_pop h hm ?_
  rw [hs]
  exact h1
end
end Go.Proofs
namespace Go.Proofs
open Go Go.RowKit Sm Go.Lib Go.Maps Go.WideMaps
attribute [local go_sem] Oper.semAt_some
set_option maxRecDepth 100000 in
theorem Sm.info41 : ∃ i, Try.prog.info? 41 = some i ∧ i.zero = some (.agg #[.int .i64 0, .int .i64 0, .int .i64 0, .slice none 0 0]) ∧ i.size = 4 ∧ i.bytes = 48 := ⟨Try.t41, rfl, rfl, rfl, rfl⟩
theorem Sm.opWp_app {P : Program} {o : Oper} {a : Act} {w : World} {K : Act → World → Prop} {Q : Exit → Act → World → Prop} (s x : Operand) (t : TypeId)
    (ho : o.op = .call { callee := .builtin .append, args := #[s, x], argTypes := #[t, t] })
    (base : Nat) (e : TypeId) (i : TypeInfo) (z : Value) (size bytes : Nat) (ht : P.underlying t = some (.slice e)) (hi : P.info? e = some i) (hz : i.zero = some z)
    (hsize : i.size = size) (hby : i.bytes = bytes) (hzs : z.cells.size = size) (hsz : 0 < size)
    (v : Value) (n : Nat) (xs : List Value) (hs : a.eval s = v) (hown : w.ownsRow base e size v n xs)
    (ad : Addr) (m c : Nat) (news : List Value) (hx : a.eval x = .slice (some ad) m c) (hl : news.length = m * size) (hnews : ∀ j u, news[j]? = some u → w.cell? (ad.add j) = some u) (h1 : ∀ u ∈ news, u.oneCell' = true)
    (h63 : n + m ≤ maxLen) (hbytes : (n + m) * bytes ≤ 140737488355328) (hbase : base ≤ w.heap.size)
    (h : ∀ v' w', w'.ownsRow base e size v' (n + m) (xs ++ news) → w.grownBy w' v.ownBlock → (v'.ownBlock = v.ownBlock ∨ v'.ownBlock = some w.heap.size) → K (a.put o.dst v') w') : Oper.wp P o a w K Q := by
  obtain ⟨v', w', hr, h2, h3, _, h5⟩ := run_append_own_at (P := P) w base t o.type e i z size bytes ht hi hz hsize hby hzs hsz v n xs hown ad m c news hl hnews h1 h63 hbytes hbase
  exact wp_append_run s x t ho v _ v' hs hx hr (h v' w' h2 h3 h5)
theorem Sm.five_cells {w : World} {p : Nat} {a b c d e : Value} {t : TypeId} (h : w.heap[p]? = some (.cells #[a, b, c, d, e] t (0, 0))) : (w.cell? ⟨p, 0, none⟩ = some a ∧ w.cell? ⟨p, 1, none⟩ = some b ∧ w.cell? ⟨p, 2, none⟩ = some c ∧ w.cell? ⟨p, 3, none⟩ = some d ∧ w.cell? ⟨p, 4, none⟩ = some e)
    ∧ (w.frozen? ⟨p, 0, none⟩ = false ∧ w.frozen? ⟨p, 1, none⟩ = false ∧ w.frozen? ⟨p, 2, none⟩ = false ∧ w.frozen? ⟨p, 3, none⟩ = false ∧ w.frozen? ⟨p, 4, none⟩ = false) :=
  ⟨⟨cell_of_heap h 0, cell_of_heap h 1, cell_of_heap h 2, cell_of_heap h 3, cell_of_heap h 4⟩, frozen_of_heap h 0, frozen_of_heap h 1, frozen_of_heap h 2, frozen_of_heap h 3, frozen_of_heap h 4⟩
def Sm.put5W (W : World) (b : Nat) (u0 u1 u2 u3 u4 : Value) : World := ((((W.setCell ⟨b, 0, none⟩ u0).setCell ⟨b, 1, none⟩ u1).setCell ⟨b, 2, none⟩ u2).setCell ⟨b, 3, none⟩ u3).setCell ⟨b, 4, none⟩ u4
theorem Sm.put5 {W : World} {b : Nat} {a0 a1 a2 a3 a4 : Value} {t : TypeId} (h : W.heap[b]? = some (.cells #[a0, a1, a2, a3, a4] t (0, 0))) (u0 u1 u2 u3 u4 : Value) : (put5W W b u0 u1 u2 u3 u4).heap[b]? = some (.cells #[u0, u1, u2, u3, u4] t (0, 0)) :=
  heap_setCells (i := 4) (u := u4) (heap_setCells (i := 3) (u := u3) (heap_setCells (i := 2) (u := u2) (heap_setCells (i := 1) (u := u1) (heap_setCells (i := 0) (u := u0) h))))
theorem Sm.put5_but (W : World) (b : Nat) (u0 u1 u2 u3 u4 : Value) : But (fun q => q = b) W (put5W W b u0 u1 u2 u3 u4) :=
  (((((But.refl (fun q => q = b) W).set ⟨b, 0, none⟩ _ (.inl rfl)).set ⟨b, 1, none⟩ _ (.inl rfl)).set ⟨b, 2, none⟩ _ (.inl rfl)).set ⟨b, 3, none⟩ _ (.inl rfl)).set ⟨b, 4, none⟩ _ (.inl rfl)
set_option maxRecDepth 100000 in
set_option maxHeartbeats 2000000 in
theorem Sm.refWithout_any {S : Nat → Prop} {N : NM} {AL AD : Option Addr} {nL cL nD cD : Nat} {R : List MsgM} (i m2 : Nat) (w : World) (h : RfAt S w N AL nL cL AD nD cD R) (hi : nL = i + 1 + m2) (hS : ∀ b, S b → b < w.heap.size) :
    Calls Try.prog 72 #[refV N.s AL nL cL AD nD cD, .int .i64 (i : Int)] w fun e w' => ∃ A c, e = .returned (refV N.s A (i + m2) c AD nD cD) ∧ RfAt S w' (N.less i) A (i + m2) c AD nD cD (R.eraseIdx i) ∧ Below w.heap.size w w' := by
  unfold refV
  obtain ⟨a1, ha1⟩ : ∃ a, N.s.ends = a := ⟨_, rfl⟩
  obtain ⟨a2, ha2⟩ : ∃ a, N.s.most = a := ⟨_, rfl⟩
  obtain ⟨a3, ha3⟩ : ∃ a, N.s.came = a := ⟨_, rfl⟩
  rw [ha1, ha2, ha3]
  have hb2' := bel2 w (.cells #[.int .i64 a1, .int .i64 a2, .int .i64 a3, .slice AL nL cL, .slice AD nD cD] 29) (.cells #[.int .i64 0, .int .i64 0, .int .i64 0, .slice none 0 0, .slice none 0 0] 29)
  have hbx : ((w.alloc (.cells #[.int .i64 a1, .int .i64 a2, .int .i64 a3, .slice AL nL cL, .slice AD nD cD] 29)).alloc (.cells #[.int .i64 0, .int .i64 0, .int .i64 0, .slice none 0 0, .slice none 0 0] 29)).heap[w.heap.size]? = some (.cells #[.int .i64 a1, .int .i64 a2, .int .i64 a3, .slice AL nL cL, .slice AD nD cD] 29 (0, 0)) := old_alloc _ (new_alloc _ rfl)
  have hpx : ((w.alloc (.cells #[.int .i64 a1, .int .i64 a2, .int .i64 a3, .slice AL nL cL, .slice AD nD cD] 29)).alloc (.cells #[.int .i64 0, .int .i64 0, .int .i64 0, .slice none 0 0, .slice none 0 0] 29)).heap[w.heap.size + 1]? = some (.cells #[.int .i64 0, .int .i64 0, .int .i64 0, .slice none 0 0, .slice none 0 0] 29 (0, 0)) := new_alloc _ (by simp)
  obtain ⟨w1, hw1⟩ : ∃ V, (w.alloc (.cells #[.int .i64 a1, .int .i64 a2, .int .i64 a3, .slice AL nL cL, .slice AD nD cD] 29)).alloc (.cells #[.int .i64 0, .int .i64 0, .int .i64 0, .slice none 0 0, .slice none 0 0] 29) = V := ⟨_, rfl⟩
  rw [hw1] at hbx hb2' hpx
  have hR := h.keep hb2'
  have HRW := Lib.hid hR
  obtain ⟨b, off, hAL, hbl, hSb, hcl⟩ := hR.row (by rw [cellsM_len, h.len]; omega)
  subst hAL
  have hlen4 : (cellsM R).length = (i + 1 + m2) * 4 := by rw [cellsM_len, h.len, hi]
  have HBX : Hid (∀ W, Below w1.heap.size w1 W → W.heap[w.heap.size]? = some (.cells #[.int .i64 a1, .int .i64 a2, .int .i64 a3, .slice (some ⟨b, off, none⟩) nL cL, .slice AD nD cD] 29 (0, 0))) := Lib.hid fun W hb => (hb.block _ (Array.getElem?_eq_some_iff.1 hbx).1).trans hbx
  have HPX : Hid (∀ W, Below w1.heap.size w1 W → W.heap[w.heap.size + 1]? = some (.cells #[.int .i64 0, .int .i64 0, .int .i64 0, .slice none 0 0, .slice none 0 0] 29 (0, 0))) := Lib.hid fun W hb => (hb.block _ (Array.getElem?_eq_some_iff.1 hpx).1).trans hpx
  have HC : Hid (∀ W, Below w1.heap.size w1 W → W.cell? ⟨w.heap.size, 0, none⟩ = some (.int .i64 a1) ∧ W.cell? ⟨w.heap.size, 1, none⟩ = some (.int .i64 a2) ∧ W.cell? ⟨w.heap.size, 2, none⟩ = some (.int .i64 a3) ∧ W.cell? ⟨w.heap.size, 3, none⟩ = some (.slice (some ⟨b, off, none⟩) nL cL) ∧ W.cell? ⟨w.heap.size, 4, none⟩ = some (.slice AD nD cD)) := Lib.hid fun W hb => (five_cells (HBX.out W hb)).1
  have HT1 : Hid (((cellsM R).take (i * 4)).length = i * 4 ∧ ∀ W, Below w1.heap.size w1 W → ∀ j u, ((cellsM R).take (i * 4))[j]? = some u → W.cell? ((⟨b, off, none⟩ : Addr).add j) = some u) := Lib.hid ⟨by rw [List.length_take, hlen4]; omega, fun W hb j u hj => by
    have hjl := (List.getElem?_eq_some_iff.1 hj).1
    rw [List.length_take] at hjl
    rw [List.getElem?_take_of_lt (by omega)] at hj
    rw [Addr.add_lit]
    exact (hb.cell (p := ⟨b, off + j, none⟩) hbl).trans (hcl j u hj)⟩
  have HT1c : Hid (∀ u ∈ (cellsM R).take (i * 4), u.oneCell' = true) := Lib.hid fun u hu => cellsM_one R u (List.mem_of_mem_take hu)
  have HT2c : Hid (∀ u ∈ (cellsM R).drop ((i + 1) * 4), u.oneCell' = true) := Lib.hid fun u hu => cellsM_one R u (List.mem_of_mem_drop hu)
  have hga : ∀ W, Below w1.heap.size w1 W → ∀ j u, ((cellsM R).drop ((i + 1) * 4))[j]? = some u → W.cell? ⟨b, off + (i + 1) * 4 + j, none⟩ = some u := fun W hb j u hj => by
    rw [List.getElem?_drop] at hj
    have h9 := (hb.cell (p := ⟨b, off + ((i + 1) * 4 + j), none⟩) hbl).trans (hcl _ u hj)
    rwa [← Nat.add_assoc] at h9
  have hdl : ((cellsM R).drop ((i + 1) * 4)).length = m2 * 4 := by rw [List.length_drop, hlen4]; omega
  obtain ⟨A2, hA2, HT2⟩ : ∃ A2, (if cL = i + 1 then some (⟨b, off, none⟩ : Addr) else some ⟨b, off + (i + 1) * 4, none⟩) = some A2 ∧ Hid (((cellsM R).drop ((i + 1) * 4)).length = m2 * 4 ∧ ∀ W, Below w1.heap.size w1 W → ∀ j u, ((cellsM R).drop ((i + 1) * 4))[j]? = some u → W.cell? (A2.add j) = some u) := by
    by_cases e : cL = i + 1
    · refine ⟨⟨b, off, none⟩, by rw [if_pos e], Lib.hid ⟨hdl, fun W hb j u hj => ?_⟩⟩
      have h9 := (List.getElem?_eq_some_iff.1 hj).1
      have := h.room
      omega
    · exact ⟨⟨b, off + (i + 1) * 4, none⟩, by rw [if_neg e], Lib.hid ⟨hdl, fun W hb j u hj => by rw [Addr.add_lit]; exact hga W hb j u hj⟩⟩
  have hroom := h.room
  have hfew := h.few
  have hic : i ≤ cL := by omega
  have hwr : IntKind.i64.wrap ((i : Int) + 1) = (i : Int) + 1 := by rw [IntKind.wrap_i64]; omega
  have hp0 : (0 : Int) ≤ (i : Int) + 1 := by omega
  have hp1 : (i : Int) + 1 ≤ (nL : Int) := by omega
  have hp2 : ((i : Int) + 1).toNat = i + 1 := by omega
  have hp3 : nL - (i + 1) = m2 := by omega
  have hp4 : i ≤ nL := by omega
  have hi41 : i + m2 ≤ 4096 := by omega
  have hbw : w1.heap.size = w.heap.size + 2 := by rw [← hw1]; simp
  have HBW := Lib.hid hb2'
  have HSW := Lib.hid hbw
  have HH := Lib.hid h
  have HHI := Lib.hid hi
  have HRS := Lib.hid hS
  have HAA := Lib.hid (show N.s.ends = a1 ∧ N.s.most = a2 ∧ N.s.came = a3 from ⟨ha1, ha2, ha3⟩)
  obtain ⟨c0, c1, c2, c3, c4⟩ := HC.out w1 (Below.refl _ _)
  obtain ⟨i41, q41, r41, s41, t41⟩ := info41
  clear hga hdl hlen4 hcl hR hbx hpx hb2' h hS hbw hSb hroom hfew ha1 ha2 ha3 hi
  go_enter Try.func72, Try.ntmps72
  go_upto_region 1 with fail
  clear hw1 c0 c1 c2 c3 c4
  refine wp_region_popL 13 rfl rfl (by kernel_rfl) (by kernel_rfl) (S := fun W => Below w1.heap.size w1 W) (Below.refl _ _).drew (fun hHeld => ?_)
  simp only [List.take_succ_cons, List.take_zero]
  obtain ⟨V0, hV0⟩ : ∃ V, w1.drew = V := ⟨_, rfl⟩
  have HB0 : Hid (Below w1.heap.size w1 V0) := Lib.hid (by rw [← hV0]; exact (Below.refl _ w1).drew)
  rw [hV0] at hHeld ⊢
  clear hV0
  refine wpAnyH_take (i := 1) (v := .pointer (some ⟨w.heap.size, 3, none⟩)) rfl (by kernel_rfl) (by kernel_rfl) (by kernel_rfl) (fun _ _ _ h => h) (Or.inl ⟨by rfl, ?_⟩) (by assumption) ?_
  · intro wx hs1; go_simp
  (try simp only [Act.put, List.getElem_toArray, List.getElem_cons_succ, List.getElem_cons_zero, List.setIfInBounds_toArray, List.set_cons_zero, List.set_cons_succ])
  refine wpAnyH_take (i := 2) (v := .slice (some ⟨b, off, none⟩) nL cL) rfl (by kernel_rfl) (by kernel_rfl) (by kernel_rfl) (fun _ _ _ h => h) (Or.inl ⟨by rfl, ?_⟩) (by assumption) ?_
  · intro wx hs1; obtain ⟨k0, k1, k2, k3, k4⟩ := HC.out wx hs1; go_simp
  (try simp only [Act.put, List.getElem_toArray, List.getElem_cons_succ, List.getElem_cons_zero, List.setIfInBounds_toArray, List.set_cons_zero, List.set_cons_succ])
  refine wpAnyH_take (i := 3) (v := .int .i64 (i : Int)) rfl (by kernel_rfl) (by kernel_rfl) (by kernel_rfl) (fun _ _ _ h => h) (Or.inl ⟨by rfl, ?_⟩) (by assumption) ?_
  · intro wx hs1; go_simp
  (try simp only [Act.put, List.getElem_toArray, List.getElem_cons_succ, List.getElem_cons_zero, List.setIfInBounds_toArray, List.set_cons_zero, List.set_cons_succ])
  refine wpAnyH_take (i := 4) (v := .slice (some ⟨b, off, none⟩) i cL) rfl (by kernel_rfl) (by kernel_rfl) (by kernel_rfl) (fun _ _ _ h => h) (Or.inl ⟨by rfl, ?_⟩) (by assumption) ?_
  · intro wx hs1; go_simp
  (try simp only [Act.put, List.getElem_toArray, List.getElem_cons_succ, List.getElem_cons_zero, List.setIfInBounds_toArray, List.set_cons_zero, List.set_cons_succ])
  refine wpAnyH_take (i := 6) (v := .pointer (some ⟨w.heap.size, 3, none⟩)) rfl (by kernel_rfl) (by kernel_rfl) (by kernel_rfl) (fun _ _ _ h => h) (Or.inl ⟨by rfl, ?_⟩) (by assumption) ?_
  · intro wx hs1; go_simp
  (try simp only [Act.put, List.getElem_toArray, List.getElem_cons_succ, List.getElem_cons_zero, List.setIfInBounds_toArray, List.set_cons_zero, List.set_cons_succ])
  refine wpAnyH_take (i := 7) (v := .slice (some ⟨b, off, none⟩) nL cL) rfl (by kernel_rfl) (by kernel_rfl) (by kernel_rfl) (fun _ _ _ h => h) (Or.inl ⟨by rfl, ?_⟩) (by assumption) ?_
  · intro wx hs1; obtain ⟨k0, k1, k2, k3, k4⟩ := HC.out wx hs1; go_simp
  (try simp only [Act.put, List.getElem_toArray, List.getElem_cons_succ, List.getElem_cons_zero, List.setIfInBounds_toArray, List.set_cons_zero, List.set_cons_succ])
  refine wpAnyH_take (i := 8) (v := .int .i64 (i : Int)) rfl (by kernel_rfl) (by kernel_rfl) (by kernel_rfl) (fun _ _ _ h => h) (Or.inl ⟨by rfl, ?_⟩) (by assumption) ?_
  · intro wx hs1; go_simp
  (try simp only [Act.put, List.getElem_toArray, List.getElem_cons_succ, List.getElem_cons_zero, List.setIfInBounds_toArray, List.set_cons_zero, List.set_cons_succ])
  refine wpAnyH_take (i := 9) (v := .int .i64 ((i : Int) + 1)) rfl (by kernel_rfl) (by kernel_rfl) (by kernel_rfl) (fun _ _ _ h => h) (Or.inl ⟨by rfl, ?_⟩) (by assumption) ?_
  · intro wx hs1; go_simp
  (try simp only [Act.put, List.getElem_toArray, List.getElem_cons_succ, List.getElem_cons_zero, List.setIfInBounds_toArray, List.set_cons_zero, List.set_cons_succ])
  refine wpAnyH_take (i := 10) (v := .slice (some A2) m2 (cL - (i + 1))) rfl (by kernel_rfl) (by kernel_rfl) (by kernel_rfl) (fun _ _ _ h => h) (Or.inl ⟨by rfl, ?_⟩) (by assumption) ?_
  · intro wx hs1; go_simp
  (try simp only [Act.put, List.getElem_toArray, List.getElem_cons_succ, List.getElem_cons_zero, List.setIfInBounds_toArray, List.set_cons_zero, List.set_cons_succ])
  refine wpAnyH_ready (rs := [0]) (by kernel_rfl) (by simp) (AllReadyH.cons rfl (fun K hK => ?_) AllReadyH.nil)
  go_simp
  obtain ⟨V1, hV1⟩ : ∃ V1, V0.alloc (.cells #[] 41) = V1 := ⟨_, rfl⟩
  have hb01 : Below w1.heap.size V0 V1 := by rw [← hV1]; exact (Below.refl _ V0).alloc HB0.out.size _
  have hown1 : V1.ownsRow w1.heap.size 41 4 (.slice (some ⟨V0.heap.size, 0, none⟩) 0 0) 0 [] := ⟨rfl, .inr ⟨V0.heap.size, 0, #[], rfl, HB0.out.size, by rw [← hV1]; exact World.alloc_heap_new V0 _, Nat.le_refl _, Nat.zero_le _, rfl, rfl⟩⟩
  have hb1 : Below w1.heap.size w1 V1 := HB0.out.trans hb01
  (try rw [hV1])
  clear hV1
  refine hK.out _ _ hb1 (fun hHeld1 => ?_)
  clear hK K
  try dsimp only
  (try simp only [Act.put, List.getElem_toArray, List.getElem_cons_succ, List.getElem_cons_zero, List.setIfInBounds_toArray, List.set_cons_zero, List.set_cons_succ])
  refine wpAnyH_ready (rs := [5]) (by kernel_rfl) (by simp) (AllReadyH.cons rfl (fun K hK => ?_) AllReadyH.nil)
  (try rw [if_pos (by rfl)])
  refine opWp_app (.tmp 5) (.tmp 9) 26 rfl w1.heap.size 41 i41 _ 4 48 Try.underlying26 q41 r41 s41 t41 rfl (by decide) _ 0 [] rfl hown1 ⟨b, off, none⟩ i cL ((cellsM R).take (i * 4)) rfl HT1.out.1 (fun j u hj => (HT1.out.2 V1 hb1 j u hj)) HT1c.out (by unfold maxLen; omega) (by omega) hb1.size ?_
  intro v1 V2 hown2 hgr2 _
  have hb2 : Below w1.heap.size w1 V2 := hb1.trans ((But.grown hgr2).to_below hb1.size (fun b e => (hown1.lt b e).1))
  refine hK.out _ _ hb2 (fun hHeld2 => ?_)
  clear hK K
  try dsimp only
  (try simp only [Act.put, List.getElem_toArray, List.getElem_cons_succ, List.getElem_cons_zero, List.setIfInBounds_toArray, List.set_cons_zero, List.set_cons_succ])
  refine wpAnyH_ready (rs := [11]) (by kernel_rfl) (by simp) (AllReadyH.cons rfl (fun K hK => ?_) AllReadyH.nil)
  (try rw [if_pos (by rfl)])
  refine opWp_app (.tmp 10) (.tmp 15) 26 rfl w1.heap.size 41 i41 _ 4 48 Try.underlying26 q41 r41 s41 t41 rfl (by decide) _ (0 + i) _ rfl hown2 A2 m2 (cL - (i + 1)) ((cellsM R).drop ((i + 1) * 4)) rfl HT2.out.1 (fun j u hj => (HT2.out.2 V2 hb2 j u hj)) HT2c.out (by unfold maxLen; omega) (by omega) hb2.size ?_
  intro v2 V3 hown3 hgr3 _
  have hb3 : Below w1.heap.size w1 V3 := hb2.trans ((But.grown hgr3).to_below hb2.size (fun b e => (hown2.lt b e).1))
  refine hK.out _ _ hb3 (fun hHeld3 => ?_)
  clear hK K
  try dsimp only
  (try simp only [Act.put, List.getElem_toArray, List.getElem_cons_succ, List.getElem_cons_zero, List.setIfInBounds_toArray, List.set_cons_zero, List.set_cons_succ])
  refine wpAnyH_take (i := 12) (v := .pointer (some ⟨w.heap.size, 3, none⟩)) rfl (by kernel_rfl) (by kernel_rfl) (by kernel_rfl) (fun _ _ _ h => h) (Or.inl ⟨by rfl, ?_⟩) (by assumption) ?_
  · intro wx hs1; go_simp
  (try simp only [Act.put, List.getElem_toArray, List.getElem_cons_succ, List.getElem_cons_zero, List.setIfInBounds_toArray, List.set_cons_zero, List.set_cons_succ])
  obtain ⟨A9, c9, rfl⟩ := own_form hown3
  have HO3 := Lib.hid hown3
  have HB3 := Lib.hid hb3
  obtain ⟨k0, k1, k2, k3, k4⟩ := HC.out V3 hb3
  have f3 := frozen_of_heap (HBX.out V3 hb3) 3
  clear hown3 hown2 hown1 hgr2 hgr3 hb1 hb2 hb3 hb01 hHeld hHeld1 hHeld2 hHeld3
  refine wpAnyH_done (by kernel_rfl) ?_ _
  unfold tailQ wpOp
  simp only [List.getElem?_toArray, List.getElem?_cons_succ, List.getElem?_cons_zero]
  rw [if_pos (by rfl)]
  obtain ⟨M, hM⟩ : ∃ M, 0 + i + m2 = M := ⟨_, rfl⟩
  have hM2 : M = i + m2 := by omega
  rw [hM] at HO3 ⊢
  have hcap : M ≤ c9 ∧ c9 ≤ 9223372036854775807 := by
    rcases HO3.out.2 with ⟨e1, e2⟩ | ⟨g, cap, cur, e1, _, _, e2, e3, _⟩
    · injection e1 with _ _ e3
      omega
    · injection e1 with _ _ e4
      unfold maxLen at e3
      omega
  have hb3s := heap_setCells (i := 3) (u := .slice A9 M c9) (HBX.out V3 HB3.out)
  have hbt : But (fun q => q = w.heap.size) V3 (V3.setCell ⟨w.heap.size, 3, none⟩ (.slice A9 M c9)) := (But.refl _ _).set ⟨w.heap.size, 3, none⟩ _ (.inl rfl)
  have hpx3 := hbt.box (HPX.out V3 HB3.out) (by omega)
  simp only [List.setIfInBounds_toArray, List.set_cons_zero, List.set_cons_succ] at hb3s
  have HB3S := Lib.hid hb3s
  have HBT := Lib.hid hbt
  have HPX3 := Lib.hid hpx3
  subst hM2
  refine Or.inl ?_
  go_simp
  obtain ⟨W9, hW9⟩ : ∃ W9, V3.setCell ⟨w.heap.size, 3, none⟩ (.slice A9 (i + m2) c9) = W9 := ⟨_, rfl⟩
  rw [hW9] at HB3S HBT HPX3 ⊢
  clear k0 k1 k2 k3 k4 f3 hb3s hbt hpx3 hW9
  obtain ⟨⟨k0, k1, k2, k3, k4⟩, _⟩ := five_cells HB3S.out
  obtain ⟨⟨j0, j1, j2, j3, j4⟩, ⟨g0, g1, g2, g3, g4⟩⟩ := five_cells HPX3.out
  go_wp2
  have h4 := put5 HPX3.out (.int .i64 a1) (.int .i64 a2) (.int .i64 a3) (.slice A9 (i + m2) c9) (.slice AD nD cD)
  have h5 := put5_but W9 (w.heap.size + 1) (.int .i64 a1) (.int .i64 a2) (.int .i64 a3) (.slice A9 (i + m2) c9) (.slice AD nD cD)
  unfold put5W at h4 h5
  obtain ⟨⟨z0, z1, z2, z3, z4⟩, _⟩ := five_cells h4
  have hbf3 := HBW.out.trans (HB3.out.mono HBW.out.size)
  have hbfW := hbf3.trans (HBT.out.to_below hbf3.size (fun b e => by omega))
  have hbf := hbfW.trans (h5.to_below hbfW.size (fun b e => by omega))
  have hro := h5.row (HBT.out.row HO3.out (fun g e e2 => by have h9 := (HO3.out.lt g e).1; have h10 := HSW.out; have e3 : g = w.heap.size := e2; omega)) (fun g e e2 => by have h9 := (HO3.out.lt g e).1; have h10 := HSW.out; have e3 : g = w.heap.size + 1 := e2; omega)
  have hcs : (cellsM R).take (i * 4) ++ (cellsM R).drop ((i + 1) * 4) = cellsM (R.eraseIdx i) := cells_erase R i
  rw [List.nil_append, hcs] at hro
  have hH := HH.out.keep hbf
  have hlen : (R.eraseIdx i).length = i + m2 := by rw [List.length_eraseIdx_of_lt (by rw [hH.len, HHI.out]; omega), hH.len, HHI.out]; omega
  exact bodyPost_ret (v := .agg #[.int .i64 a1, .int .i64 a2, .int .i64 a3, .slice A9 (i + m2) c9, .slice AD nD cD]) (by simp [results, Try.results72, go_sem, z0, z1, z2, z3, z4]) rfl ⟨A9, c9, rfl, ⟨hlen, hcap, hH.dlen, by rw [erase_map, hH.map]; rfl, own_rds hro (fun b e => by have := HRS.out b e; have := HSW.out; omega), fun m hm => hH.byt m (List.mem_of_mem_eraseIdx hm), hH.dn, ⟨hi41, hH.few.2⟩⟩, hbf⟩
end Go.Proofs
namespace Go.Proofs
open Go Go.RowKit Sm Go.Lib Go.Maps Go.WideMaps
attribute [local go_sem] Oper.semAt_some
theorem Sm.takeN_err {N : NM} {x y pick : Int} (h : reachE N x y pick ≠ 0) : takeN N x y pick = (N, zeroP, reachE N x y pick) := by
  unfold takeN
  rw [if_pos h]
theorem Sm.takeN_ok {N : NM} {x y pick : Int} (h : reachE N x y pick = 0) : takeN N x y pick = (N.less (findA N x y pick), findP N x y pick, 0) ∧ N.P[findA N x y pick]? = some (findP N x y pick) ∧ ((findP N x y pick).2.1, (findP N x y pick).2.2.1) ∉ N.D ∧ findE N x y = 0 := by
  have hf : findE N x y = 0 := by
    unfold reachE at h
    by_cases e : findE N x y = 0
    · exact e
    · rw [if_pos e] at h
      exact h
  refine ⟨?_, (find_ok pick hf).2.2.1, fun hd => ?_, hf⟩
  · unfold takeN
    rw [if_neg (by simp [h])]
  · unfold reachE at h
    rw [if_neg (by simp [hf]), if_pos hd] at h
    cases h
theorem Sm.dropN_err {N : NM} {x y pick : Int} (h : findE N x y ≠ 0) : dropN N x y pick = (N, 0, findE N x y) := by
  unfold dropN
  rw [if_pos h]
theorem Sm.dropN_ok {N : NM} {x y pick : Int} (h : findE N x y = 0) : dropN N x y pick = (N.less (findA N x y pick), (findP N x y pick).1, 0) ∧ N.P[findA N x y pick]? = some (findP N x y pick) := by
  refine ⟨?_, (find_ok pick h).2.2.1⟩
  unfold dropN
  rw [if_neg (by simp [h])]
theorem Sm.peekN_ok {N : NM} {x y pick : Int} (h : reachE N x y pick = 0) : peekN N x y pick = (findP N x y pick, 0) := by
  unfold peekN
  rw [if_neg (by simp [h])]
theorem Sm.peekN_err {N : NM} {x y pick : Int} (h : reachE N x y pick ≠ 0) : peekN N x y pick = (zeroP, reachE N x y pick) := by
  unfold peekN
  rw [if_pos h]
theorem Sm.RfAt.less {S S' : Nat → Prop} {W : World} {N : NM} {AL AD : Option Addr} {nL cL nD cD : Nat} {R : List MsgM} (h : RfAt S W N AL nL cL AD nD cD R) (hS : ∀ b, b < W.heap.size → S' b → S b) : RfAt S' W N AL nL cL AD nD cD R :=
  ⟨h.len, h.room, h.dlen, h.map, h.row.less hS, fun m hm => (h.byt m hm).less hS, h.dn.less hS, h.few⟩
set_option maxRecDepth 100000 in
set_option maxHeartbeats 4000000 in
theorem Sm.refTake_any {S : Nat → Prop} {N : NM} {AL AD : Option Addr} {nL cL nD cD : Nat} {R : List MsgM} (x y pick : Int) (w : World) (h : RfAt S w N AL nL cL AD nD cD R) (hS : ∀ b, S b → b < w.heap.size) :
    Calls Try.prog 56 #[refV N.s AL nL cL AD nD cD, .int .i64 x, .int .i64 y, .int .i64 pick] w fun e w' => ∃ A' nM c' R' A c, e = .returned (.tuple #[refV N.s A' nM c' AD nD cD, parVal (takeN N x y pick).2.1 A c, .int .i64 (takeN N x y pick).2.2]) ∧ RfAt S w' (takeN N x y pick).1 A' nM c' AD nD cD R' ∧ Rds w' S A ((takeN N x y pick).2.1.2.2.2.map byteCell) ∧ Below w.heap.size w w' := by
  obtain ⟨S2, hS2⟩ : ∃ S2 : Nat → Prop, S2 = fun b => S b ∨ b = w.heap.size + 1 ∨ b = w.heap.size + 2 := ⟨_, rfl⟩
  have h2 : RfAt S2 w N AL nL cL AD nD cD R := h.less (fun b hb e => by
    rw [hS2] at e
    rcases e with e | e | e
    · exact e
    · omega
    · omega)
  have hpk := fun W (hb : Below w.heap.size w W) => refPeek_any x y pick W (h2.keep hb)
  have hpi := fun W (hb : Below w.heap.size w W) => refPicked_any x y pick W (h2.keep hb)
  have hwo := fun (i m2 : Nat) W (hb : Below w.heap.size w W) (hz : w.heap.size + 3 ≤ W.heap.size) (hi : nL = i + 1 + m2) => refWithout_any i m2 W (h2.keep hb) hi (fun b e => by
    rw [hS2] at e
    rcases e with e | e | e
    · have := hS b e; omega
    · omega
    · omega)
  have HS2 : Hid ((∀ b, S b → S2 b) ∧ S2 (w.heap.size + 1) ∧ S2 (w.heap.size + 2)) := Lib.hid (by rw [hS2]; exact ⟨fun b e => .inl e, .inr (.inl rfl), .inr (.inr rfl)⟩)
  have H2 := Lib.hid h2
  clear hS2 h2
  unfold refV at hpk hpi hwo ⊢
  obtain ⟨a1, ha1⟩ : ∃ a, N.s.ends = a := ⟨_, rfl⟩
  obtain ⟨a2, ha2⟩ : ∃ a, N.s.most = a := ⟨_, rfl⟩
  obtain ⟨a3, ha3⟩ : ∃ a, N.s.came = a := ⟨_, rfl⟩
  rw [ha1, ha2, ha3] at hpk hpi hwo ⊢
  obtain ⟨w1, hw1⟩ : ∃ V, ((w.alloc (.cells #[.int .i64 a1, .int .i64 a2, .int .i64 a3, .slice AL nL cL, .slice AD nD cD] 29)).alloc (.cells #[.int .i64 0, .int .i64 0, .int .i64 0, .slice none 0 0, .slice none 0 0] 29)).alloc (.cells #[.int .i64 0, .int .i64 0, .int .i64 0, .slice none 0 0] 41) = V := ⟨_, rfl⟩
  have hb1 : Below w.heap.size w w1 := by rw [← hw1]; exact (bel2 w _ _).alloc (bel2 w _ _).size _
  have hx4 : w1.heap[w.heap.size]? = some (.cells #[.int .i64 a1, .int .i64 a2, .int .i64 a3, .slice AL nL cL, .slice AD nD cD] 29 (0, 0)) := by rw [← hw1]; exact old_alloc _ (old_alloc _ (new_alloc _ rfl))
  have hx8 : w1.heap[w.heap.size + 1]? = some (.cells #[.int .i64 0, .int .i64 0, .int .i64 0, .slice none 0 0, .slice none 0 0] 29 (0, 0)) := by rw [← hw1]; exact old_alloc _ (new_alloc _ (by simp))
  have hx9 : w1.heap[w.heap.size + 2]? = some (.cells #[.int .i64 0, .int .i64 0, .int .i64 0, .slice none 0 0] 41 (0, 0)) := by rw [← hw1]; exact new_alloc _ (by simp)
  have hs1 : w1.heap.size = w.heap.size + 3 := by rw [← hw1]; simp
  have h55 := hpk w1 hb1
  have HB := Lib.hid hb1
  have HH := Lib.hid h
  have HHS := Lib.hid hS
  have H4 := Lib.hid hx4
  have H8 := Lib.hid hx8
  have H9 := Lib.hid hx9
  have HS1 := Lib.hid hs1
  obtain ⟨⟨c0, c1, c2, c3, c4⟩, _⟩ := five_cells hx4
  clear hs1
  by_cases hE : reachE N x y pick = 0
  · obtain ⟨ht, hfi, _, hf0⟩ := takeN_ok hE
    rw [ht]
    rw [peekN_ok hE] at h55
    obtain ⟨⟨m1, m2, m3, ml⟩, hM⟩ : ∃ M, findP N x y pick = M := ⟨_, rfl⟩
    obtain ⟨i, hi⟩ : ∃ i, findA N x y pick = i := ⟨_, rfl⟩
    rw [hM] at h55 hfi ⊢
    rw [hi] at hfi ⊢
    have hil : i < nL := by have := (List.getElem?_eq_some_iff.1 hfi).1; rw [← h.map, List.length_map, h.len] at this; exact this
    obtain ⟨q, hnq⟩ : ∃ q, nL = i + 1 + q := ⟨nL - (i + 1), by omega⟩
    have hpi2 := fun W hb => hpi W hb
    rw [hf0, if_pos rfl, hi] at hpi2
    have HPI := Lib.hid hpi2
    have HWO : Hid (∀ W, Below w.heap.size w W → w.heap.size + 3 ≤ W.heap.size → Calls Try.prog 72 #[.agg #[.int .i64 a1, .int .i64 a2, .int .i64 a3, .slice AL nL cL, .slice AD nD cD], .int .i64 (i : Int)] W fun e w' => ∃ A c, e = .returned (.agg #[.int .i64 a1, .int .i64 a2, .int .i64 a3, .slice A (i + q) c, .slice AD nD cD]) ∧ RfAt S2 w' (N.less i) A (i + q) c AD nD cD (R.eraseIdx i) ∧ Below W.heap.size W w') := Lib.hid fun W hb hz => hwo i q W hb hz hnq
    unfold parVal at h55 ⊢
    simp only at h55 ⊢
    obtain ⟨m4, hm4⟩ : ∃ m4, ml.length = m4 := ⟨_, rfl⟩
    rw [hm4] at h55 ⊢
    obtain ⟨nM, hnM⟩ : ∃ nM, i + q = nM := ⟨_, rfl⟩
    rw [hnM] at HWO
    have HM4 := Lib.hid hm4
    clear hpk hpi hpi2 hwo hb1 hx4 hx8 hx9 hE ht hfi hf0 hM hi hil hnq h hS hm4 hnM
    go_enter Try.func56, Try.ntmps56
    go_upto_region 1 with fail
    clear hw1
    go_upto_region 2 with (go_at_call 55; (with_reducible refine h55.mono ?_); clear h55; rintro e w2 ⟨A8, c8, rfl, hrd, hbb⟩)
    have hx11 := World.alloc_heap_new w2 (.cells #[.int .i64 m1, .int .i64 m2, .int .i64 m3, .slice A8 m4 c8] 41)
    have hbc : Below w2.heap.size w2 (w2.alloc (.cells #[.int .i64 m1, .int .i64 m2, .int .i64 m3, .slice A8 m4 c8] 41)) := (Below.refl _ _).alloc (Nat.le_refl _) _
    have hrd2 := hrd.but (But.of_all hbc (fun _ => False)) (fun _ e => e.elim)
    have hbd := HB.out.trans ((hbb.trans (hbc.mono hbb.size)).mono HB.out.size)
    have hs2 := hbb.size
    obtain ⟨w3, hw3⟩ : ∃ V, w2.alloc (.cells #[.int .i64 m1, .int .i64 m2, .int .i64 m3, .slice A8 m4 c8] 41) = V := ⟨_, rfl⟩
    rw [hw3] at hx11 hbc hrd2 hbd ⊢
    have hbe : Below w1.heap.size w1 w3 := hbb.trans (hbc.mono hbb.size)
    have h71 := HPI.out w3 hbd
    have HRD2 := Lib.hid hrd2
    have HBE := Lib.hid hbe
    have HBD := Lib.hid hbd
    have HX11' := Lib.hid hx11
    have c0 := ((hbe.cell (p := ⟨w.heap.size, 0, none⟩) (by have := HS1.out; simp only; omega))).trans c0
    have c1 := ((hbe.cell (p := ⟨w.heap.size, 1, none⟩) (by have := HS1.out; simp only; omega))).trans c1
    have c2 := ((hbe.cell (p := ⟨w.heap.size, 2, none⟩) (by have := HS1.out; simp only; omega))).trans c2
    have c3 := ((hbe.cell (p := ⟨w.heap.size, 3, none⟩) (by have := HS1.out; simp only; omega))).trans c3
    have c4 := ((hbe.cell (p := ⟨w.heap.size, 4, none⟩) (by have := HS1.out; simp only; omega))).trans c4
    clear hrd hbb hx11 hbc hrd2 hbd hw3 hbe
    obtain ⟨w3', hw3'⟩ : ∃ V : World, V = w3 := ⟨_, rfl⟩
    go_upto_region 5 with (go_at_call 71; (with_reducible refine h71.mono ?_); clear h71; rintro e w4 ⟨rfl, hbb⟩)
    have HBF := Lib.hid (HBE.out.trans (hbb.mono HBE.out.size))
    have HX11 : Hid (∀ W, But (fun q => q = w.heap.size + 1 ∨ q = w.heap.size + 2) w4 W → W.heap[w2.heap.size]? = some (.cells #[.int .i64 m1, .int .i64 m2, .int .i64 m3, .slice A8 m4 c8] 41 (0, 0))) := Lib.hid fun W hb => hb.box ((hbb.block _ (Array.getElem?_eq_some_iff.1 HX11'.out).1).trans HX11'.out) (by have := HS1.out; omega)
    have HX4 : Hid (∀ W, But (fun q => q = w.heap.size + 1 ∨ q = w.heap.size + 2) w4 W → W.heap[w.heap.size]? = some (.cells #[.int .i64 a1, .int .i64 a2, .int .i64 a3, .slice AL nL cL, .slice AD nD cD] 29 (0, 0))) := Lib.hid fun W hb => hb.box ((HBF.out.block _ (by have := HS1.out; omega)).trans H4.out) (by omega)
    have HX8 : Hid (∀ W, Below w4.heap.size w4 W → W.heap[w.heap.size + 1]? = some (.cells #[.int .i64 0, .int .i64 0, .int .i64 0, .slice none 0 0, .slice none 0 0] 29 (0, 0))) := Lib.hid fun W hb => ((HBF.out.trans (hb.mono HBF.out.size)).block _ (by have := HS1.out; omega)).trans H8.out
    have HX9 : Hid (∀ W, Below w4.heap.size w4 W → W.heap[w.heap.size + 2]? = some (.cells #[.int .i64 0, .int .i64 0, .int .i64 0, .slice none 0 0] 41 (0, 0))) := Lib.hid fun W hb => ((HBF.out.trans (hb.mono HBF.out.size)).block _ (by have := HS1.out; omega)).trans H9.out
    have HBG := Lib.hid (HBD.out.trans (hbb.mono HBD.out.size))
    have H72 : Hid (∀ W, Below w4.heap.size w4 W → Calls Try.prog 72 #[.agg #[.int .i64 a1, .int .i64 a2, .int .i64 a3, .slice AL nL cL, .slice AD nD cD], .int .i64 (i : Int)] W fun e w' => ∃ A c, e = .returned (.agg #[.int .i64 a1, .int .i64 a2, .int .i64 a3, .slice A nM c, .slice AD nD cD]) ∧ RfAt S2 w' (N.less i) A nM c AD nD cD (R.eraseIdx i) ∧ Below W.heap.size W w') := Lib.hid fun W hb => HWO.out W (HBG.out.trans (hb.mono HBG.out.size)) (by have := HS1.out; have := HBF.out.size; have := hb.size; omega)
    have HRD3 := Lib.hid (HRD2.out.but (But.of_all hbb (fun _ => False)) (fun _ e => e.elim))
    clear hbb hw3' w3' c0 c1 c2 c3 c4
    have hS0 : (fun W => But (fun q => q = w.heap.size + 1 ∨ q = w.heap.size + 2) w4 W) w4.drew := (But.refl _ _).drew
    refine wp_region_held_drew (S := fun W => But (fun q => q = w.heap.size + 1 ∨ q = w.heap.size + 2) w4 W) rfl hS0 (fun hHeld => ?_)
    simp only [List.size_toArray, List.length_cons, List.length_nil, Nat.reduceAdd]
    have HB0 : Hid (Below w4.heap.size w4 w4.drew) := Lib.hid (Below.refl _ _).drew
    obtain ⟨V0, hV0⟩ : ∃ V, w4.drew = V := ⟨_, rfl⟩
    rw [hV0] at hHeld hS0 HB0 ⊢
    clear hV0
    refine wpAnyH_take (i := 0) (v := .agg #[.int .i64 a1, .int .i64 a2, .int .i64 a3, .slice AL nL cL, .slice AD nD cD]) rfl (by kernel_rfl) (by kernel_rfl) (by kernel_rfl) (fun _ _ _ h => h) (Or.inl ⟨by rfl, ?_⟩) (by assumption) ?_
    · intro wx hs1; obtain ⟨k0, k1, k2, k3, k4⟩ := (five_cells (HX4.out wx hs1)).1; go_simp
    (try simp only [Act.put, List.getElem_toArray, List.getElem_cons_zero, List.setIfInBounds_toArray, List.set_cons_zero, List.set_cons_succ])
    refine wpAnyH_take (i := 1) (v := .int .i64 (i : Int)) rfl (by kernel_rfl) (by kernel_rfl) (by kernel_rfl) (fun _ _ _ h => h) (Or.inl ⟨by rfl, ?_⟩) (by assumption) ?_
    · intro wx hs1; go_simp
    (try simp only [Act.put, List.getElem_toArray, List.getElem_cons_succ, List.getElem_cons_zero, List.setIfInBounds_toArray, List.set_cons_zero, List.set_cons_succ])
    refine wpAnyH_take (i := 3) (v := .agg #[.int .i64 m1, .int .i64 m2, .int .i64 m3, .slice A8 m4 c8]) rfl (by kernel_rfl) (by kernel_rfl) (by kernel_rfl) (fun _ _ _ h => h) (Or.inl ⟨by rfl, ?_⟩) (by assumption) ?_
    · intro wx hs1; obtain ⟨k0, k1, k2, k3⟩ := (four_cells (HX11.out wx hs1)).1; go_simp
    (try simp only [Act.put, List.getElem_toArray, List.getElem_cons_succ, List.getElem_cons_zero, List.setIfInBounds_toArray, List.set_cons_zero, List.set_cons_succ])
    refine wpAnyH_ready (rs := [2]) (by kernel_rfl) (by simp) (AllReadyH.cons rfl (fun K hK => ?_) AllReadyH.nil)
    go_simp
    go_at_call 72
    (with_reducible refine (H72.out _ HB0.out).mono ?_)
    rintro e w5 ⟨A9, c9, rfl, hrf, hb⟩
    try dsimp only
    have HB1 : Hid (Below w4.heap.size w4 w5) := Lib.hid (HB0.out.trans (hb.mono HB0.out.size)); have HRF := Lib.hid hrf; clear hb hrf; have hS := But.of_all HB1.out (fun q => q = w.heap.size + 1 ∨ q = w.heap.size + 2)
    refine hK.out _ _ hS (fun _ => ?_)
    clear hK K
    (try simp only [Act.put, List.getElem_toArray, List.getElem_cons_succ, List.getElem_cons_zero, List.setIfInBounds_toArray, List.set_cons_zero, List.set_cons_succ])
    obtain ⟨⟨j0, j1, j2, j3, j4⟩, ⟨g0, g1, g2, g3, g4⟩⟩ := five_cells (HX8.out w5 HB1.out)
    refine wpAnyH_ready (rs := [4]) (by kernel_rfl) (by simp) (AllReadyH.cons rfl (fun K hK => ?_) AllReadyH.nil)
    go_simp
    try dsimp only
    have hW5x := put5 (HX8.out w5 HB1.out) (.int .i64 a1) (.int .i64 a2) (.int .i64 a3) (.slice A9 nM c9) (.slice AD nD cD)
    have hW5b := put5_but w5 (w.heap.size + 1) (.int .i64 a1) (.int .i64 a2) (.int .i64 a3) (.slice A9 nM c9) (.slice AD nD cD)
    unfold put5W at hW5x hW5b
    obtain ⟨W5, hqW5⟩ : ∃ V, put5W w5 (w.heap.size + 1) (.int .i64 a1) (.int .i64 a2) (.int .i64 a3) (.slice A9 nM c9) (.slice AD nD cD) = V := ⟨_, rfl⟩
    unfold put5W at hqW5
    rw [hqW5] at hW5x hW5b ⊢
    clear hqW5 j0 j1 j2 j3 j4 g0 g1 g2 g3 g4
    have hS := (But.of_all HB1.out (fun q => q = w.heap.size + 1 ∨ q = w.heap.size + 2)).trans hW5b (fun _ _ e => Or.inl e)
    refine hK.out _ _ hS (fun _ => ?_)
    clear hK K
    (try simp only [Act.put, List.getElem_toArray, List.getElem_cons_succ, List.getElem_cons_zero, List.setIfInBounds_toArray, List.set_cons_zero, List.set_cons_succ])
    obtain ⟨⟨j0, j1, j2, j3⟩, ⟨g0, g1, g2, g3⟩⟩ := four_cells (hW5b.box (HX9.out w5 HB1.out) (by omega))
    refine wpAnyH_ready (rs := [5]) (by kernel_rfl) (by simp) (AllReadyH.cons rfl (fun K hK => ?_) AllReadyH.nil)
    go_simp
    try dsimp only
    have hW6x := put4 (hW5b.box (HX9.out w5 HB1.out) (by omega)) (.int .i64 m1) (.int .i64 m2) (.int .i64 m3) (.slice A8 m4 c8)
    have hW6b := put4_but W5 (w.heap.size + 2) (.int .i64 m1) (.int .i64 m2) (.int .i64 m3) (.slice A8 m4 c8)
    unfold put4W at hW6x hW6b
    obtain ⟨W6, hqW6⟩ : ∃ V, put4W W5 (w.heap.size + 2) (.int .i64 m1) (.int .i64 m2) (.int .i64 m3) (.slice A8 m4 c8) = V := ⟨_, rfl⟩
    unfold put4W at hqW6
    rw [hqW6] at hW6x hW6b ⊢
    clear hqW6 j0 j1 j2 j3 g0 g1 g2 g3
    have hS := ((But.of_all HB1.out (fun q => q = w.heap.size + 1 ∨ q = w.heap.size + 2)).trans hW5b (fun _ _ e => Or.inl e)).trans hW6b (fun _ _ e => Or.inr e)
    refine hK.out _ _ hS (fun _ => ?_)
    clear hK K
    (try simp only [Act.put, List.getElem_toArray, List.getElem_cons_succ, List.getElem_cons_zero, List.setIfInBounds_toArray, List.set_cons_zero, List.set_cons_succ])
    refine wpAnyH_take (i := 6) (v := .int .i64 0) rfl (by kernel_rfl) (by kernel_rfl) (by kernel_rfl) (fun _ _ _ h => h) (Or.inl ⟨by rfl, ?_⟩) (by assumption) ?_
    · intro wx hs1; go_simp
    (try simp only [Act.put, List.getElem_toArray, List.getElem_cons_succ, List.getElem_cons_zero, List.setIfInBounds_toArray, List.set_cons_zero, List.set_cons_succ])
    refine wpAnyH_done (by kernel_rfl) ?_ _
    have hWz := hW6b.box hW5x (by omega)
    obtain ⟨⟨z0, z1, z2, z3, z4⟩, _⟩ := five_cells hWz
    obtain ⟨⟨y0, y1, y2, y3⟩, _⟩ := four_cells hW6x
    have hbh := HBG.out.trans (HB1.out.mono HBG.out.size)
    have hbi := hbh.trans (hW5b.to_below hbh.size (fun b e => by omega))
    have hbj := hbi.trans (hW6b.to_below hbi.size (fun b e => by omega))
    have hrf2 := ((HRF.out.but hW5b (fun b e => by rw [e]; exact HS2.out.2.1)).but hW6b (fun b e => by rw [e]; exact HS2.out.2.2)).less (S' := S) (fun b _ e => HS2.out.1 b e)
    have hrd4 := ((((HRD3.out.but (But.of_all HB1.out (fun _ => False)) (fun _ e => e.elim)).but hW5b (fun b e => by rw [e]; exact HS2.out.2.1)).but hW6b (fun b e => by rw [e]; exact HS2.out.2.2))).less (S' := S) (fun b _ e => HS2.out.1 b e)
    go_wp2
    exact bodyPost_ret (v := .tuple #[.agg #[.int .i64 a1, .int .i64 a2, .int .i64 a3, .slice A9 nM c9, .slice AD nD cD], .agg #[.int .i64 m1, .int .i64 m2, .int .i64 m3, .slice A8 m4 c8], .int .i64 0]) (by simp [results, Try.results56, go_sem, z0, z1, z2, z3, z4, y0, y1, y2, y3]) rfl ⟨A9, nM, c9, _, A8, c8, rfl, hrf2, hrd4, hbj⟩
  · rw [takeN_err hE]
    rw [peekN_err hE] at h55
    obtain ⟨E, hEE⟩ : ∃ E, reachE N x y pick = E := ⟨_, rfl⟩
    rw [hEE] at h55 hE ⊢
    have hE2 : (E != 0) = true := by simpa using hE
    unfold parVal at h55 ⊢
    simp only [zeroP, List.length_nil] at h55 ⊢
    obtain ⟨m1, hm1⟩ : ∃ m1 : Int, 0 = m1 := ⟨_, rfl⟩
    clear hpk hpi hwo hb1 hx4 hx8 hx9 hE h hS hEE hm1 m1
    go_enter Try.func56, Try.ntmps56
    go_upto_region 1 with fail
    clear hw1
    go_upto_region 2 with (go_at_call 55; (with_reducible refine h55.mono ?_); clear h55; rintro e w2 ⟨A8, c8, rfl, hrd, hbb⟩)
    have hx11 := World.alloc_heap_new w2 (.cells #[.int .i64 0, .int .i64 0, .int .i64 0, .slice A8 0 c8] 41)
    have hbc : Below w2.heap.size w2 (w2.alloc (.cells #[.int .i64 0, .int .i64 0, .int .i64 0, .slice A8 0 c8] 41)) := (Below.refl _ _).alloc (Nat.le_refl _) _
    have hbd := HB.out.trans ((hbb.trans (hbc.mono hbb.size)).mono HB.out.size)
    have hs2 := hbb.size
    obtain ⟨w3, hw3⟩ : ∃ V, w2.alloc (.cells #[.int .i64 0, .int .i64 0, .int .i64 0, .slice A8 0 c8] 41) = V := ⟨_, rfl⟩
    rw [hw3] at hx11 hbc hbd ⊢
    have hbe : Below w1.heap.size w1 w3 := hbb.trans (hbc.mono hbb.size)
    have HBE := Lib.hid hbe
    have HBD := Lib.hid hbd
    have HX11' := Lib.hid hx11
    have HBF := HBE
    have HX11 : Hid (∀ W, But (fun q => q = w.heap.size + 1 ∨ q = w.heap.size + 2) w3 W → W.heap[w2.heap.size]? = some (.cells #[.int .i64 0, .int .i64 0, .int .i64 0, .slice A8 0 c8] 41 (0, 0))) := Lib.hid fun W hb => hb.box HX11'.out (by have := HS1.out; omega)
    have HX4 : Hid (∀ W, But (fun q => q = w.heap.size + 1 ∨ q = w.heap.size + 2) w3 W → W.heap[w.heap.size]? = some (.cells #[.int .i64 a1, .int .i64 a2, .int .i64 a3, .slice AL nL cL, .slice AD nD cD] 29 (0, 0))) := Lib.hid fun W hb => hb.box ((HBF.out.block _ (by have := HS1.out; omega)).trans H4.out) (by omega)
    have HX8 : Hid (∀ W, Below w3.heap.size w3 W → W.heap[w.heap.size + 1]? = some (.cells #[.int .i64 0, .int .i64 0, .int .i64 0, .slice none 0 0, .slice none 0 0] 29 (0, 0))) := Lib.hid fun W hb => ((HBF.out.trans (hb.mono HBF.out.size)).block _ (by have := HS1.out; omega)).trans H8.out
    have HX9 : Hid (∀ W, Below w3.heap.size w3 W → W.heap[w.heap.size + 2]? = some (.cells #[.int .i64 0, .int .i64 0, .int .i64 0, .slice none 0 0] 41 (0, 0))) := Lib.hid fun W hb => ((HBF.out.trans (hb.mono HBF.out.size)).block _ (by have := HS1.out; omega)).trans H9.out
    clear hrd hbb hx11 hbc hbd hw3 hbe c0 c1 c2 c3 c4
    go_upto_region 3 with fail
    have hS0 : (fun W => But (fun q => q = w.heap.size + 1 ∨ q = w.heap.size + 2) w3 W) w3.drew := (But.refl _ _).drew
    refine wp_region_held_drew (S := fun W => But (fun q => q = w.heap.size + 1 ∨ q = w.heap.size + 2) w3 W) rfl hS0 (fun hHeld => ?_)
    simp only [List.size_toArray, List.length_cons, List.length_nil, Nat.reduceAdd]
    have HB0 : Hid (Below w3.heap.size w3 w3.drew) := Lib.hid (Below.refl _ _).drew
    obtain ⟨V0, hV0⟩ : ∃ V, w3.drew = V := ⟨_, rfl⟩
    rw [hV0] at hHeld hS0 HB0 ⊢
    clear hV0
    refine wpAnyH_take (i := 0) (v := .agg #[.int .i64 a1, .int .i64 a2, .int .i64 a3, .slice AL nL cL, .slice AD nD cD]) rfl (by kernel_rfl) (by kernel_rfl) (by kernel_rfl) (fun _ _ _ h => h) (Or.inl ⟨by rfl, ?_⟩) (by assumption) ?_
    · intro wx hs1; obtain ⟨k0, k1, k2, k3, k4⟩ := (five_cells (HX4.out wx hs1)).1; go_simp
    (try simp only [Act.put, List.getElem_toArray, List.getElem_cons_zero, List.setIfInBounds_toArray, List.set_cons_zero, List.set_cons_succ])
    refine wpAnyH_take (i := 1) (v := .agg #[.int .i64 0, .int .i64 0, .int .i64 0, .slice A8 0 c8]) rfl (by kernel_rfl) (by kernel_rfl) (by kernel_rfl) (fun _ _ _ h => h) (Or.inl ⟨by rfl, ?_⟩) (by assumption) ?_
    · intro wx hs1; obtain ⟨k0, k1, k2, k3⟩ := (four_cells (HX11.out wx hs1)).1; go_simp
    (try simp only [Act.put, List.getElem_toArray, List.getElem_cons_succ, List.getElem_cons_zero, List.setIfInBounds_toArray, List.set_cons_zero, List.set_cons_succ])
    refine wpAnyH_take (i := 2) (v := .int .i64 E) rfl (by kernel_rfl) (by kernel_rfl) (by kernel_rfl) (fun _ _ _ h => h) (Or.inl ⟨by rfl, ?_⟩) (by assumption) ?_
    · intro wx hs1; go_simp
    (try simp only [Act.put, List.getElem_toArray, List.getElem_cons_succ, List.getElem_cons_zero, List.setIfInBounds_toArray, List.set_cons_zero, List.set_cons_succ])
    obtain ⟨⟨j0, j1, j2, j3, j4⟩, ⟨g0, g1, g2, g3, g4⟩⟩ := five_cells (HX8.out V0 HB0.out)
    refine wpAnyH_ready (rs := [3]) (by kernel_rfl) (by simp) (AllReadyH.cons rfl (fun K hK => ?_) AllReadyH.nil)
    go_simp
    try dsimp only
    have hW5x := put5 (HX8.out V0 HB0.out) (.int .i64 a1) (.int .i64 a2) (.int .i64 a3) (.slice AL nL cL) (.slice AD nD cD)
    have hW5b := put5_but V0 (w.heap.size + 1) (.int .i64 a1) (.int .i64 a2) (.int .i64 a3) (.slice AL nL cL) (.slice AD nD cD)
    unfold put5W at hW5x hW5b
    obtain ⟨W5, hqW5⟩ : ∃ V, put5W V0 (w.heap.size + 1) (.int .i64 a1) (.int .i64 a2) (.int .i64 a3) (.slice AL nL cL) (.slice AD nD cD) = V := ⟨_, rfl⟩
    unfold put5W at hqW5
    rw [hqW5] at hW5x hW5b ⊢
    clear hqW5 j0 j1 j2 j3 j4 g0 g1 g2 g3 g4
    have hS := hS0.trans hW5b (fun _ _ e => .inl e)
    refine hK.out _ _ hS (fun _ => ?_)
    clear hK K
    (try simp only [Act.put, List.getElem_toArray, List.getElem_cons_succ, List.getElem_cons_zero, List.setIfInBounds_toArray, List.set_cons_zero, List.set_cons_succ])
    obtain ⟨⟨j0, j1, j2, j3⟩, ⟨g0, g1, g2, g3⟩⟩ := four_cells (hW5b.box (HX9.out V0 HB0.out) (by omega))
    refine wpAnyH_ready (rs := [4]) (by kernel_rfl) (by simp) (AllReadyH.cons rfl (fun K hK => ?_) AllReadyH.nil)
    go_simp
    try dsimp only
    have hW6x := put4 (hW5b.box (HX9.out V0 HB0.out) (by omega)) (.int .i64 0) (.int .i64 0) (.int .i64 0) (.slice A8 0 c8)
    have hW6b := put4_but W5 (w.heap.size + 2) (.int .i64 0) (.int .i64 0) (.int .i64 0) (.slice A8 0 c8)
    unfold put4W at hW6x hW6b
    obtain ⟨W6, hqW6⟩ : ∃ V, put4W W5 (w.heap.size + 2) (.int .i64 0) (.int .i64 0) (.int .i64 0) (.slice A8 0 c8) = V := ⟨_, rfl⟩
    unfold put4W at hqW6
    rw [hqW6] at hW6x hW6b ⊢
    clear hqW6 j0 j1 j2 j3 g0 g1 g2 g3
    have hS := (hS0.trans hW5b (fun _ _ e => .inl e)).trans hW6b (fun _ _ e => .inr e)
    refine hK.out _ _ hS (fun _ => ?_)
    clear hK K
    (try simp only [Act.put, List.getElem_toArray, List.getElem_cons_succ, List.getElem_cons_zero, List.setIfInBounds_toArray, List.set_cons_zero, List.set_cons_succ])
    refine wpAnyH_take (i := 5) (v := .int .i64 E) rfl (by kernel_rfl) (by kernel_rfl) (by kernel_rfl) (fun _ _ _ h => h) (Or.inl ⟨by rfl, ?_⟩) (by assumption) ?_
    · intro wx hs1; go_simp
    (try simp only [Act.put, List.getElem_toArray, List.getElem_cons_succ, List.getElem_cons_zero, List.setIfInBounds_toArray, List.set_cons_zero, List.set_cons_succ])
    refine wpAnyH_done (by kernel_rfl) ?_ _
    have hWz := hW6b.box hW5x (by omega)
    obtain ⟨⟨z0, z1, z2, z3, z4⟩, _⟩ := five_cells hWz
    obtain ⟨⟨y0, y1, y2, y3⟩, _⟩ := four_cells hW6x
    have hbh := HBD.out.trans (HB0.out.mono HBD.out.size)
    have hbi := hbh.trans (hW5b.to_below hbh.size (fun b e => by omega))
    have hbj := hbi.trans (hW6b.to_below hbi.size (fun b e => by omega))
    go_wp2
    exact bodyPost_ret (v := .tuple #[.agg #[.int .i64 a1, .int .i64 a2, .int .i64 a3, .slice AL nL cL, .slice AD nD cD], .agg #[.int .i64 0, .int .i64 0, .int .i64 0, .slice A8 0 c8], .int .i64 E]) (by simp [results, Try.results56, go_sem, z0, z1, z2, z3, z4, y0, y1, y2, y3]) rfl ⟨AL, nL, cL, R, A8, c8, rfl, HH.out.keep hbj, (fun h0 => absurd h0 (by simp)), hbj⟩
end Go.Proofs
namespace Go.Proofs
open Go Go.RowKit Sm Go.Lib Go.Maps Go.WideMaps
attribute [local go_sem] Oper.semAt_some
set_option maxRecDepth 100000 in
set_option maxHeartbeats 4000000 in
theorem Sm.refDrop_any {S : Nat → Prop} {N : NM} {AL AD : Option Addr} {nL cL nD cD : Nat} {R : List MsgM} (x y pick : Int) (w : World) (h : RfAt S w N AL nL cL AD nD cD R) (hS : ∀ b, S b → b < w.heap.size) :
    Calls Try.prog 57 #[refV N.s AL nL cL AD nD cD, .int .i64 x, .int .i64 y, .int .i64 pick] w fun e w' => ∃ A' nM c' R', e = .returned (.tuple #[refV N.s A' nM c' AD nD cD, .int .i64 (dropN N x y pick).2.1, .int .i64 (dropN N x y pick).2.2]) ∧ RfAt S w' (dropN N x y pick).1 A' nM c' AD nD cD R' ∧ Below w.heap.size w w' := by
  obtain ⟨S2, hS2⟩ : ∃ S2 : Nat → Prop, S2 = fun b => S b ∨ b = w.heap.size + 1 := ⟨_, rfl⟩
  have h2 : RfAt S2 w N AL nL cL AD nD cD R := h.less (fun b hb e => by
    rw [hS2] at e
    rcases e with e | e
    · exact e
    · omega)
  have hpi := fun W (hb : Below w.heap.size w W) => refPicked_any x y pick W (h2.keep hb)
  have hwo := fun (i m2 : Nat) W (hb : Below w.heap.size w W) (hz : w.heap.size + 2 ≤ W.heap.size) (hi : nL = i + 1 + m2) => refWithout_any i m2 W (h2.keep hb) hi (fun b e => by
    rw [hS2] at e
    rcases e with e | e
    · have := hS b e; omega
    · omega)
  have HS2 : Hid ((∀ b, S b → S2 b) ∧ S2 (w.heap.size + 1)) := Lib.hid (by rw [hS2]; exact ⟨fun b e => .inl e, .inr rfl⟩)
  have H2 := Lib.hid h2
  clear hS2 h2
  unfold refV at hpi hwo ⊢
  obtain ⟨a1, ha1⟩ : ∃ a, N.s.ends = a := ⟨_, rfl⟩
  obtain ⟨a2, ha2⟩ : ∃ a, N.s.most = a := ⟨_, rfl⟩
  obtain ⟨a3, ha3⟩ : ∃ a, N.s.came = a := ⟨_, rfl⟩
  rw [ha1, ha2, ha3] at hpi hwo ⊢
  by_cases hE : findE N x y = 0
  · obtain ⟨ht, hfi⟩ := dropN_ok (pick := pick) hE
    rw [ht]
    obtain ⟨m, hm, hfp, hlt⟩ := find_msg h.map pick hE
    obtain ⟨i, hi⟩ : ∃ i, findA N x y pick = i := ⟨_, rfl⟩
    rw [hfp]
    rw [hi] at hm hlt ⊢
    rw [h.len] at hlt
    have hnum : m.d.1 = m.num := rfl
    rw [hnum]
    obtain ⟨q, hnq⟩ : ∃ q, nL = i + 1 + q := ⟨nL - (i + 1), by omega⟩
    obtain ⟨b, off, hAL, hbl, hSb, hcl⟩ := H2.out.row (by rw [cellsM_len, h.len]; omega)
    subst hAL
    have hcm := (cellsM_at R i m hm).1
    obtain ⟨w1, hw1⟩ : ∃ V, (w.alloc (.cells #[.int .i64 a1, .int .i64 a2, .int .i64 a3, .slice (some ⟨b, off, none⟩) nL cL, .slice AD nD cD] 29)).alloc (.cells #[.int .i64 0, .int .i64 0, .int .i64 0, .slice none 0 0, .slice none 0 0] 29) = V := ⟨_, rfl⟩
    have hb1 : Below w.heap.size w w1 := by rw [← hw1]; exact bel2 w _ _
    have hx4 : w1.heap[w.heap.size]? = some (.cells #[.int .i64 a1, .int .i64 a2, .int .i64 a3, .slice (some ⟨b, off, none⟩) nL cL, .slice AD nD cD] 29 (0, 0)) := by rw [← hw1]; exact old_alloc _ (new_alloc _ rfl)
    have hx8 : w1.heap[w.heap.size + 1]? = some (.cells #[.int .i64 0, .int .i64 0, .int .i64 0, .slice none 0 0, .slice none 0 0] 29 (0, 0)) := by rw [← hw1]; exact new_alloc _ (by simp)
    have hs1 : w1.heap.size = w.heap.size + 2 := by rw [← hw1]; simp
    have hpi2 := fun W hb => hpi W hb
    rw [hE, if_pos rfl, hi] at hpi2
    have h71 := hpi2 w1 hb1
    have HQ0 : Hid (∀ W, Below w.heap.size w W → W.cell? ⟨b, off + i * 4, none⟩ = some (.int .i64 m.num)) := Lib.hid fun W hb => (hb.cell (p := ⟨b, off + i * 4, none⟩) hbl).trans (hcl (i * 4) _ hcm)
    have HNB : Hid (b < w.heap.size ∧ b ≠ w.heap.size + 1) := Lib.hid ⟨hbl, fun e => hSb (by rw [e]; exact HS2.out.2)⟩
    have HWO : Hid (∀ W, Below w.heap.size w W → w.heap.size + 2 ≤ W.heap.size → Calls Try.prog 72 #[.agg #[.int .i64 a1, .int .i64 a2, .int .i64 a3, .slice (some ⟨b, off, none⟩) nL cL, .slice AD nD cD], .int .i64 (i : Int)] W fun e w' => ∃ A c, e = .returned (.agg #[.int .i64 a1, .int .i64 a2, .int .i64 a3, .slice A (i + q) c, .slice AD nD cD]) ∧ RfAt S2 w' (N.less i) A (i + q) c AD nD cD (R.eraseIdx i) ∧ Below W.heap.size W w') := Lib.hid fun W hb hz => hwo i q W hb hz hnq
    have hiI : (i : Int) < (nL : Int) := by omega
    have hnI : (nL : Int) ≤ 4096 := by have := h.few; omega
    obtain ⟨nM, hnM⟩ : ∃ nM, i + q = nM := ⟨_, rfl⟩
    rw [hnM] at HWO
    have HB := Lib.hid hb1
    have H4 := Lib.hid hx4
    have H8 := Lib.hid hx8
    have HS1 := Lib.hid hs1
    obtain ⟨⟨c0, c1, c2, c3, c4⟩, _⟩ := five_cells hx4
    clear hs1 hpi hpi2 hwo hb1 hx4 hx8 hE ht hfi hfp hm hi hnq h hS hnM hnum hcl hcm hbl hSb
    go_enter Try.func57, Try.ntmps57
    go_upto_region 1 with fail
    clear hw1
    go_upto_region 4 with (go_at_call 71; (with_reducible refine h71.mono ?_); clear h71; rintro e w2 ⟨rfl, hbb⟩)
    have HBG := Lib.hid (HB.out.trans (hbb.mono HB.out.size))
    have HX4 : Hid (∀ W, But (fun q => q = w.heap.size + 1) w2 W → W.heap[w.heap.size]? = some (.cells #[.int .i64 a1, .int .i64 a2, .int .i64 a3, .slice (some ⟨b, off, none⟩) nL cL, .slice AD nD cD] 29 (0, 0))) := Lib.hid fun W hb => hb.box ((hbb.block _ (by have := HS1.out; omega)).trans H4.out) (by omega)
    have HX8 : Hid (∀ W, Below w2.heap.size w2 W → W.heap[w.heap.size + 1]? = some (.cells #[.int .i64 0, .int .i64 0, .int .i64 0, .slice none 0 0, .slice none 0 0] 29 (0, 0))) := Lib.hid fun W hb => ((hbb.trans (hb.mono hbb.size)).block _ (by have := HS1.out; omega)).trans H8.out
    have HQ : Hid (∀ W, But (fun q => q = w.heap.size + 1) w2 W → W.cell? ⟨b, off + i * 4, none⟩ = some (.int .i64 m.num)) := Lib.hid fun W hb => (hb.cell (p := ⟨b, off + i * 4, none⟩) (by have := HNB.out.1; have := HBG.out.size; simp only; omega) HNB.out.2).trans (HQ0.out w2 HBG.out)
    have H72 : Hid (∀ W, Below w2.heap.size w2 W → Calls Try.prog 72 #[.agg #[.int .i64 a1, .int .i64 a2, .int .i64 a3, .slice (some ⟨b, off, none⟩) nL cL, .slice AD nD cD], .int .i64 (i : Int)] W fun e w' => ∃ A c, e = .returned (.agg #[.int .i64 a1, .int .i64 a2, .int .i64 a3, .slice A nM c, .slice AD nD cD]) ∧ RfAt S2 w' (N.less i) A nM c AD nD cD (R.eraseIdx i) ∧ Below W.heap.size W w') := Lib.hid fun W hb => HWO.out W (HBG.out.trans (hb.mono HBG.out.size)) (by have := HS1.out; have := hbb.size; have := hb.size; omega)
    clear hbb c0 c1 c2 c3 c4
    have hS0 : (fun W => But (fun q => q = w.heap.size + 1) w2 W) w2.drew := (But.refl _ _).drew
    refine wp_region_held_drew (S := fun W => But (fun q => q = w.heap.size + 1) w2 W) rfl hS0 (fun hHeld => ?_)
    simp only [List.size_toArray, List.length_cons, List.length_nil, Nat.reduceAdd]
    have HB0 : Hid (Below w2.heap.size w2 w2.drew) := Lib.hid (Below.refl _ _).drew
    obtain ⟨V0, hV0⟩ : ∃ V, w2.drew = V := ⟨_, rfl⟩
    rw [hV0] at hHeld hS0 HB0 ⊢
    clear hV0
    refine wpAnyH_take (i := 0) (v := .agg #[.int .i64 a1, .int .i64 a2, .int .i64 a3, .slice (some ⟨b, off, none⟩) nL cL, .slice AD nD cD]) rfl (by kernel_rfl) (by kernel_rfl) (by kernel_rfl) (fun _ _ _ h => h) (Or.inl ⟨by rfl, ?_⟩) (by assumption) ?_
    · intro wx hs1; obtain ⟨k0, k1, k2, k3, k4⟩ := (five_cells (HX4.out wx hs1)).1; go_simp
    (try simp only [Act.put, List.getElem_toArray, List.getElem_cons_zero, List.setIfInBounds_toArray, List.set_cons_zero, List.set_cons_succ])
    refine wpAnyH_take (i := 1) (v := .int .i64 (i : Int)) rfl (by kernel_rfl) (by kernel_rfl) (by kernel_rfl) (fun _ _ _ h => h) (Or.inl ⟨by rfl, ?_⟩) (by assumption) ?_
    · intro wx hs1; go_simp
    (try simp only [Act.put, List.getElem_toArray, List.getElem_cons_succ, List.getElem_cons_zero, List.setIfInBounds_toArray, List.set_cons_zero, List.set_cons_succ])
    refine wpAnyH_take (i := 3) (v := .pointer (some ⟨w.heap.size, 3, none⟩)) rfl (by kernel_rfl) (by kernel_rfl) (by kernel_rfl) (fun _ _ _ h => h) (Or.inl ⟨by rfl, ?_⟩) (by assumption) ?_
    · intro wx hs1; go_simp
    (try simp only [Act.put, List.getElem_toArray, List.getElem_cons_succ, List.getElem_cons_zero, List.setIfInBounds_toArray, List.set_cons_zero, List.set_cons_succ])
    refine wpAnyH_take (i := 4) (v := .slice (some ⟨b, off, none⟩) nL cL) rfl (by kernel_rfl) (by kernel_rfl) (by kernel_rfl) (fun _ _ _ h => h) (Or.inl ⟨by rfl, ?_⟩) (by assumption) ?_
    · intro wx hs1; obtain ⟨k0, k1, k2, k3, k4⟩ := (five_cells (HX4.out wx hs1)).1; go_simp
    (try simp only [Act.put, List.getElem_toArray, List.getElem_cons_succ, List.getElem_cons_zero, List.setIfInBounds_toArray, List.set_cons_zero, List.set_cons_succ])
    refine wpAnyH_take (i := 5) (v := .int .i64 (i : Int)) rfl (by kernel_rfl) (by kernel_rfl) (by kernel_rfl) (fun _ _ _ h => h) (Or.inl ⟨by rfl, ?_⟩) (by assumption) ?_
    · intro wx hs1; go_simp
    (try simp only [Act.put, List.getElem_toArray, List.getElem_cons_succ, List.getElem_cons_zero, List.setIfInBounds_toArray, List.set_cons_zero, List.set_cons_succ])
    refine wpAnyH_take (i := 6) (v := .pointer (some ⟨b, off + i * 4, none⟩)) rfl (by kernel_rfl) (by kernel_rfl) (by kernel_rfl) (fun _ _ _ h => h) (Or.inl ⟨by rfl, ?_⟩) (by assumption) ?_
    · intro wx hs1; go_simp
    (try simp only [Act.put, List.getElem_toArray, List.getElem_cons_succ, List.getElem_cons_zero, List.setIfInBounds_toArray, List.set_cons_zero, List.set_cons_succ])
    refine wpAnyH_take (i := 7) (v := .pointer (some ⟨b, off + i * 4, none⟩)) rfl (by kernel_rfl) (by kernel_rfl) (by kernel_rfl) (fun _ _ _ h => h) (Or.inl ⟨by rfl, ?_⟩) (by assumption) ?_
    · intro wx hs1; go_simp
    (try simp only [Act.put, List.getElem_toArray, List.getElem_cons_succ, List.getElem_cons_zero, List.setIfInBounds_toArray, List.set_cons_zero, List.set_cons_succ])
    refine wpAnyH_take (i := 8) (v := .int .i64 m.num) rfl (by kernel_rfl) (by kernel_rfl) (by kernel_rfl) (fun _ _ _ h => h) (Or.inl ⟨by rfl, ?_⟩) (by assumption) ?_
    · intro wx hs1; have hq := HQ.out wx hs1; go_simp
    (try simp only [Act.put, List.getElem_toArray, List.getElem_cons_succ, List.getElem_cons_zero, List.setIfInBounds_toArray, List.set_cons_zero, List.set_cons_succ])
    refine wpAnyH_ready (rs := [2]) (by kernel_rfl) (by simp) (AllReadyH.cons rfl (fun K hK => ?_) AllReadyH.nil)
    go_simp
    go_at_call 72
    (with_reducible refine (H72.out _ HB0.out).mono ?_)
    rintro e w5 ⟨A9, c9, rfl, hrf, hb⟩
    try dsimp only
    have HB1 : Hid (Below w2.heap.size w2 w5) := Lib.hid (HB0.out.trans (hb.mono HB0.out.size)); have HRF := Lib.hid hrf; clear hb hrf; have hS := But.of_all HB1.out (fun q => q = w.heap.size + 1)
    refine hK.out _ _ hS (fun _ => ?_)
    clear hK K
    (try simp only [Act.put, List.getElem_toArray, List.getElem_cons_succ, List.getElem_cons_zero, List.setIfInBounds_toArray, List.set_cons_zero, List.set_cons_succ])
    obtain ⟨⟨j0, j1, j2, j3, j4⟩, ⟨g0, g1, g2, g3, g4⟩⟩ := five_cells (HX8.out w5 HB1.out)
    refine wpAnyH_ready (rs := [9]) (by kernel_rfl) (by simp) (AllReadyH.cons rfl (fun K hK => ?_) AllReadyH.nil)
    go_simp
    try dsimp only
    have hW5x := put5 (HX8.out w5 HB1.out) (.int .i64 a1) (.int .i64 a2) (.int .i64 a3) (.slice A9 nM c9) (.slice AD nD cD)
    have hW5b := put5_but w5 (w.heap.size + 1) (.int .i64 a1) (.int .i64 a2) (.int .i64 a3) (.slice A9 nM c9) (.slice AD nD cD)
    unfold put5W at hW5x hW5b
    obtain ⟨W5, hqW5⟩ : ∃ V, put5W w5 (w.heap.size + 1) (.int .i64 a1) (.int .i64 a2) (.int .i64 a3) (.slice A9 nM c9) (.slice AD nD cD) = V := ⟨_, rfl⟩
    unfold put5W at hqW5
    rw [hqW5] at hW5x hW5b ⊢
    clear hqW5 j0 j1 j2 j3 j4 g0 g1 g2 g3 g4
    have hS := (But.of_all HB1.out (fun q => q = w.heap.size + 1)).trans hW5b (fun _ _ e => e)
    refine hK.out _ _ hS (fun _ => ?_)
    clear hK K
    (try simp only [Act.put, List.getElem_toArray, List.getElem_cons_succ, List.getElem_cons_zero, List.setIfInBounds_toArray, List.set_cons_zero, List.set_cons_succ])
    refine wpAnyH_take (i := 10) (v := .int .i64 m.num) rfl (by kernel_rfl) (by kernel_rfl) (by kernel_rfl) (fun _ _ _ h => h) (Or.inl ⟨by rfl, ?_⟩) (by assumption) ?_
    · intro wx hs1; go_simp
    (try simp only [Act.put, List.getElem_toArray, List.getElem_cons_succ, List.getElem_cons_zero, List.setIfInBounds_toArray, List.set_cons_zero, List.set_cons_succ])
    refine wpAnyH_take (i := 11) (v := .int .i64 0) rfl (by kernel_rfl) (by kernel_rfl) (by kernel_rfl) (fun _ _ _ h => h) (Or.inl ⟨by rfl, ?_⟩) (by assumption) ?_
    · intro wx hs1; go_simp
    (try simp only [Act.put, List.getElem_toArray, List.getElem_cons_succ, List.getElem_cons_zero, List.setIfInBounds_toArray, List.set_cons_zero, List.set_cons_succ])
    refine wpAnyH_done (by kernel_rfl) ?_ _
    obtain ⟨⟨z0, z1, z2, z3, z4⟩, _⟩ := five_cells hW5x
    have hbh := HBG.out.trans (HB1.out.mono HBG.out.size)
    have hbi := hbh.trans (hW5b.to_below hbh.size (fun b e => by omega))
    have hrf2 := (HRF.out.but hW5b (fun b e => by rw [e]; exact HS2.out.2)).less (S' := S) (fun b _ e => HS2.out.1 b e)
    go_wp2
    exact bodyPost_ret (v := .tuple #[.agg #[.int .i64 a1, .int .i64 a2, .int .i64 a3, .slice A9 nM c9, .slice AD nD cD], .int .i64 m.num, .int .i64 0]) (by simp [results, Try.results57, go_sem, z0, z1, z2, z3, z4]) rfl ⟨A9, nM, c9, _, rfl, hrf2, hbi⟩
  · rw [dropN_err hE]
    obtain ⟨E, hEE⟩ : ∃ E, findE N x y = E := ⟨_, rfl⟩
    obtain ⟨w1, hw1⟩ : ∃ V, (w.alloc (.cells #[.int .i64 a1, .int .i64 a2, .int .i64 a3, .slice AL nL cL, .slice AD nD cD] 29)).alloc (.cells #[.int .i64 0, .int .i64 0, .int .i64 0, .slice none 0 0, .slice none 0 0] 29) = V := ⟨_, rfl⟩
    have hb1 : Below w.heap.size w w1 := by rw [← hw1]; exact bel2 w _ _
    have hx4 : w1.heap[w.heap.size]? = some (.cells #[.int .i64 a1, .int .i64 a2, .int .i64 a3, .slice AL nL cL, .slice AD nD cD] 29 (0, 0)) := by rw [← hw1]; exact old_alloc _ (new_alloc _ rfl)
    have hx8 : w1.heap[w.heap.size + 1]? = some (.cells #[.int .i64 0, .int .i64 0, .int .i64 0, .slice none 0 0, .slice none 0 0] 29 (0, 0)) := by rw [← hw1]; exact new_alloc _ (by simp)
    have h71 := hpi w1 hb1
    rw [if_neg hE, hEE] at h71
    rw [hEE] at hE ⊢
    have hE2 : (E != 0) = true := by simpa using hE
    have HB := Lib.hid hb1
    have HH := Lib.hid h
    have H4 := Lib.hid hx4
    have H8 := Lib.hid hx8
    obtain ⟨⟨c0, c1, c2, c3, c4⟩, _⟩ := five_cells hx4
    clear hpi hwo hb1 hx4 hx8 hE h hS hEE
    go_enter Try.func57, Try.ntmps57
    go_upto_region 1 with fail
    clear hw1
    go_wp2_with (go_at_call 71; (with_reducible refine h71.mono ?_); clear h71; rintro e w5 ⟨rfl, hbb⟩; have HX4 := Lib.hid ((hbb.block _ (Array.getElem?_eq_some_iff.1 H4.out).1).trans H4.out); have HX8 := Lib.hid ((hbb.block _ (Array.getElem?_eq_some_iff.1 H8.out).1).trans H8.out); have HBw := Lib.hid (HB.out.trans (hbb.mono HB.out.size)); clear hbb c0 c1 c2 c3 c4; obtain ⟨⟨c0, c1, c2, c3, c4⟩, _⟩ := five_cells HX4.out; obtain ⟨⟨j0, j1, j2, j3, j4⟩, ⟨g0, g1, g2, g3, g4⟩⟩ := five_cells HX8.out)
    have h4 := put5 HX8.out (.int .i64 a1) (.int .i64 a2) (.int .i64 a3) (.slice AL nL cL) (.slice AD nD cD)
    have h5 := put5_but w5 (w.heap.size + 1) (.int .i64 a1) (.int .i64 a2) (.int .i64 a3) (.slice AL nL cL) (.slice AD nD cD)
    unfold put5W at h4 h5
    obtain ⟨⟨z0, z1, z2, z3, z4⟩, _⟩ := five_cells h4
    have hbf := HBw.out.trans (h5.to_below HBw.out.size (fun b e => by omega))
    exact bodyPost_ret (v := .tuple #[.agg #[.int .i64 a1, .int .i64 a2, .int .i64 a3, .slice AL nL cL, .slice AD nD cD], .int .i64 0, .int .i64 E]) (by simp [results, Try.results57, go_sem, z0, z1, z2, z3, z4]) rfl ⟨AL, nL, cL, R, rfl, HH.out.keep hbf, hbf⟩
end Go.Proofs
namespace Go.Proofs
open Go Go.RowKit Sm Go.Lib Go.Maps Go.WideMaps
attribute [local go_sem] Oper.semAt_some
def Sm.zRef : Value := .agg #[.int .i64 0, .int .i64 0, .int .i64 0, .slice none 0 0, .slice none 0 0]
theorem Sm.build29 (w : World) : (Instr.build 29 #[]).run Try.prog w = .ok zRef w := by kernel_rfl
set_option maxRecDepth 100000 in
set_option maxHeartbeats 1000000 in
theorem Sm.refNew_any (ends most : Int) (w : World) : Calls Try.prog 31 #[.int .i64 ends, .int .i64 most] w fun e w' => e = .returned (.tuple #[if newB ends most = true then refV ⟨ends, most, 0⟩ none 0 0 none 0 0 else refV ⟨0, 0, 0⟩ none 0 0 none 0 0, .int .i64 (if newB ends most = true then 0 else 2)]) ∧ Below w.heap.size w w' := by
  obtain ⟨w1, hw1⟩ : ∃ V, w.alloc (.cells #[.int .i64 0, .int .i64 0, .int .i64 0, .slice none 0 0, .slice none 0 0] 29) = V := ⟨_, rfl⟩
  have hb1 : Below w.heap.size w w1 := by rw [← hw1]; exact (Below.refl _ w).alloc (Nat.le_refl _) _
  have hx4 : w1.heap[w.heap.size]? = some (.cells #[.int .i64 0, .int .i64 0, .int .i64 0, .slice none 0 0, .slice none 0 0] 29 (0, 0)) := by rw [← hw1]; exact World.alloc_heap_new w _
  have HB := Lib.hid hb1
  have HX := Lib.hid hx4
  have hz := build29
  unfold zRef at hz
  obtain ⟨⟨j0, j1, j2, j3, j4⟩, ⟨g0, g1, g2, g3, g4⟩⟩ := five_cells hx4
  clear hb1 hx4
  by_cases h1 : ends < 1
  · have h1' : (decide (ends < 1)) = true := decide_eq_true h1
    rw [show newB ends most = false from by unfold newB wiB; simp; omega, if_neg (by decide), if_neg (by decide)]
    unfold refV
    go_enter Try.func31, Try.ntmps31
    go_upto_region 1 with fail
    clear hw1
    go_wp2
    have h4 := put5 HX.out (.int .i64 0) (.int .i64 0) (.int .i64 0) (.slice none 0 0) (.slice none 0 0)
    have h5 := put5_but w1 w.heap.size (.int .i64 0) (.int .i64 0) (.int .i64 0) (.slice none 0 0) (.slice none 0 0)
    unfold put5W at h4 h5
    obtain ⟨⟨z0, z1, z2, z3, z4⟩, _⟩ := five_cells h4
    exact bodyPost_ret (v := .tuple #[.agg #[.int .i64 0, .int .i64 0, .int .i64 0, .slice none 0 0, .slice none 0 0], .int .i64 2]) (by simp [results, Try.results31, go_sem, z0, z1, z2, z3, z4]) rfl ⟨rfl, HB.out.trans (h5.to_below HB.out.size (fun b e => by omega))⟩
  · by_cases h2 : 64 < ends
    · have h1' : (decide (ends < 1)) = false := decide_eq_false h1
      rw [show newB ends most = false from by unfold newB wiB; simp; omega, if_neg (by decide), if_neg (by decide)]
      unfold refV
      go_enter Try.func31, Try.ntmps31
      go_upto_region 1 with fail
      clear hw1
      go_wp2
      have h4 := put5 HX.out (.int .i64 0) (.int .i64 0) (.int .i64 0) (.slice none 0 0) (.slice none 0 0)
      have h5 := put5_but w1 w.heap.size (.int .i64 0) (.int .i64 0) (.int .i64 0) (.slice none 0 0) (.slice none 0 0)
      unfold put5W at h4 h5
      obtain ⟨⟨z0, z1, z2, z3, z4⟩, _⟩ := five_cells h4
      exact bodyPost_ret (v := .tuple #[.agg #[.int .i64 0, .int .i64 0, .int .i64 0, .slice none 0 0, .slice none 0 0], .int .i64 2]) (by simp [results, Try.results31, go_sem, z0, z1, z2, z3, z4]) rfl ⟨rfl, HB.out.trans (h5.to_below HB.out.size (fun b e => by omega))⟩
    · by_cases h3 : most < 1
      · have h1' : (decide (ends < 1)) = false := decide_eq_false h1
        rw [show newB ends most = false from by unfold newB wiB; simp; omega, if_neg (by decide), if_neg (by decide)]
        unfold refV
        go_enter Try.func31, Try.ntmps31
        go_upto_region 1 with fail
        clear hw1
        go_wp2
        have h4 := put5 HX.out (.int .i64 0) (.int .i64 0) (.int .i64 0) (.slice none 0 0) (.slice none 0 0)
        have h5 := put5_but w1 w.heap.size (.int .i64 0) (.int .i64 0) (.int .i64 0) (.slice none 0 0) (.slice none 0 0)
        unfold put5W at h4 h5
        obtain ⟨⟨z0, z1, z2, z3, z4⟩, _⟩ := five_cells h4
        exact bodyPost_ret (v := .tuple #[.agg #[.int .i64 0, .int .i64 0, .int .i64 0, .slice none 0 0, .slice none 0 0], .int .i64 2]) (by simp [results, Try.results31, go_sem, z0, z1, z2, z3, z4]) rfl ⟨rfl, HB.out.trans (h5.to_below HB.out.size (fun b e => by omega))⟩
      · by_cases h4 : 4096 < most
        · have h1' : (decide (ends < 1)) = false := decide_eq_false h1
          rw [show newB ends most = false from by unfold newB wiB; simp; omega, if_neg (by decide), if_neg (by decide)]
          unfold refV
          go_enter Try.func31, Try.ntmps31
          go_upto_region 1 with fail
          clear hw1
          go_wp2
          have h4x := put5 HX.out (.int .i64 0) (.int .i64 0) (.int .i64 0) (.slice none 0 0) (.slice none 0 0)
          have h5 := put5_but w1 w.heap.size (.int .i64 0) (.int .i64 0) (.int .i64 0) (.slice none 0 0) (.slice none 0 0)
          unfold put5W at h4x h5
          obtain ⟨⟨z0, z1, z2, z3, z4⟩, _⟩ := five_cells h4x
          exact bodyPost_ret (v := .tuple #[.agg #[.int .i64 0, .int .i64 0, .int .i64 0, .slice none 0 0, .slice none 0 0], .int .i64 2]) (by simp [results, Try.results31, go_sem, z0, z1, z2, z3, z4]) rfl ⟨rfl, HB.out.trans (h5.to_below HB.out.size (fun b e => by omega))⟩
        · have h1' : (decide (ends < 1)) = false := decide_eq_false h1
          rw [show newB ends most = true from by unfold newB wiB; simp; omega, if_pos rfl, if_pos rfl]
          unfold refV
          go_enter Try.func31, Try.ntmps31
          go_upto_region 1 with fail
          clear hw1
          go_wp2
          have h4x := put5 HX.out (.int .i64 ends) (.int .i64 most) (.int .i64 0) (.slice none 0 0) (.slice none 0 0)
          have h5 := put5_but w1 w.heap.size (.int .i64 ends) (.int .i64 most) (.int .i64 0) (.slice none 0 0) (.slice none 0 0)
          unfold put5W at h4x h5
          obtain ⟨⟨z0, z1, z2, z3, z4⟩, _⟩ := five_cells h4x
          exact bodyPost_ret (v := .tuple #[.agg #[.int .i64 ends, .int .i64 most, .int .i64 0, .slice none 0 0, .slice none 0 0], .int .i64 0]) (by simp [results, Try.results31, go_sem, z0, z1, z2, z3, z4]) rfl ⟨rfl, HB.out.trans (h5.to_below HB.out.size (fun b e => by omega))⟩
end Go.Proofs
namespace Go.Proofs
open Go Go.RowKit Sm Go.Lib Go.Maps Go.WideMaps
attribute [local go_sem] Oper.semAt_some
theorem Sm.run_append_zero {P : Program} {w : World} {base : Nat} (t ty e : TypeId) (i : TypeInfo) (size : Nat) (ht : P.underlying t = some (.slice e)) (hi : P.info? e = some i)
    (v : Value) (n : Nat) (xs : List Value) (hown : w.ownsRow base e size v n xs) (c : Nat) :
    (Builtin.append_ #[t, t] ty #[v, .slice none 0 c]).run P w = .ok v w := by
  rcases hown.2 with ⟨rfl, rfl⟩ | ⟨g, cap, cur, rfl, _, _, hnc, _⟩
  · simp [Builtin.append_, run_underlying ht, sizeOf, typeInfo, hi, Builtin.lenOf, Builtin.firstCells]
  · simp [Builtin.append_, run_underlying ht, sizeOf, typeInfo, hi, Builtin.lenOf, Builtin.firstCells, hnc, storeCells]
theorem Sm.opWp_appR {P : Program} {o : Oper} {a : Act} {w : World} {K : Act → World → Prop} {Q : Exit → Act → World → Prop} (s x : Operand) (t : TypeId)
    (ho : o.op = .call { callee := .builtin .append, args := #[s, x], argTypes := #[t, t] })
    (base : Nat) (e : TypeId) (i : TypeInfo) (z : Value) (size bytes : Nat) (ht : P.underlying t = some (.slice e)) (hi : P.info? e = some i) (hz : i.zero = some z)
    (hsize : i.size = size) (hby : i.bytes = bytes) (hzs : z.cells.size = size) (hsz : 0 < size)
    (v : Value) (n : Nat) (xs : List Value) (hs : a.eval s = v) (hown : w.ownsRow base e size v n xs)
    (A : Option Addr) (m c : Nat) (news : List Value) (S : Nat → Prop) (hx : a.eval x = .slice A m c) (hl : news.length = m * size) (hrd : Rds w S A news) (h1 : ∀ u ∈ news, u.oneCell' = true)
    (h63 : n + m ≤ maxLen) (hbytes : (n + m) * bytes ≤ 140737488355328) (hbase : base ≤ w.heap.size)
    (h : ∀ v' w', w'.ownsRow base e size v' (n + m) (xs ++ news) → w.grownBy w' v.ownBlock → (v'.ownBlock = v.ownBlock ∨ v'.ownBlock = some w.heap.size) → K (a.put o.dst v') w') : Oper.wp P o a w K Q := by
  cases A with
  | none =>
    have hm : m = 0 := by
      rcases Nat.eq_zero_or_pos news.length with e0 | e0
      · rw [hl] at e0
        rcases Nat.mul_eq_zero.1 e0 with e1 | e1
        · exact e1
        · omega
      · obtain ⟨b, off, e1, _⟩ := hrd e0
        cases e1
    subst hm
    obtain rfl : news = [] := List.eq_nil_of_length_eq_zero (by rw [hl, Nat.zero_mul])
    exact wp_append_run s x t ho v _ v hs hx (run_append_zero t _ e i size ht hi v n xs hown c) (h v w (by simpa using hown) ⟨rfl, rfl, rfl, Nat.le_refl _, fun _ _ _ => rfl⟩ (.inl rfl))
  | some ad =>
    exact opWp_app s x t ho base e i z size bytes ht hi hz hsize hby hzs hsz v n xs hs hown ad m c news hx hl (fun j u hj => by
      obtain ⟨b, off, e1, e2, e3, e4⟩ := hrd (by have := (List.getElem?_eq_some_iff.1 hj).1; omega)
      injection e1 with e1
      subst e1
      rw [Addr.add_lit]
      exact e4 j u hj) h1 h63 hbytes hbase h
set_option maxRecDepth 100000 in
set_option maxHeartbeats 4000000 in
theorem Sm.refPut_bad {S : Nat → Prop} {N : NM} {AL AD : Option Addr} {nL cL nD cD : Nat} {R : List MsgM} (x y : Int) (Ab : Option Addr) (nb cb : Nat) (w : World) (h : RfAt S w N AL nL cL AD nD cD R) (hn : nb ≤ 1000000000) (hE : putE N.s N.D N.P.length x y nb ≠ 0) :
    Calls Try.prog 54 #[refV N.s AL nL cL AD nD cD, .int .i64 x, .int .i64 y, .slice Ab nb cb] w fun e w' => e = .returned (.tuple #[refV N.s AL nL cL AD nD cD, .int .i64 0, .int .i64 (putE N.s N.D N.P.length x y nb)]) ∧ RfAt S w' N AL nL cL AD nD cD R ∧ Below w.heap.size w w' := by
  have hS : True := trivial
  unfold refV
  obtain ⟨a1, ha1⟩ : ∃ a, N.s.ends = a := ⟨_, rfl⟩
  obtain ⟨a2, ha2⟩ : ∃ a, N.s.most = a := ⟨_, rfl⟩
  obtain ⟨a3, ha3⟩ : ∃ a, N.s.came = a := ⟨_, rfl⟩
  rw [ha1, ha2, ha3]
  obtain ⟨w1, hw1⟩ : ∃ V, (w.alloc (.cells #[.int .i64 a1, .int .i64 a2, .int .i64 a3, .slice AL nL cL, .slice AD nD cD] 29)).alloc (.cells #[.int .i64 0, .int .i64 0, .int .i64 0, .slice none 0 0, .slice none 0 0] 29) = V := ⟨_, rfl⟩
  have hb1 : Below w.heap.size w w1 := by rw [← hw1]; exact bel2 w _ _
  have hx4 : w1.heap[w.heap.size]? = some (.cells #[.int .i64 a1, .int .i64 a2, .int .i64 a3, .slice AL nL cL, .slice AD nD cD] 29 (0, 0)) := by rw [← hw1]; exact old_alloc _ (new_alloc _ rfl)
  have hx8 : w1.heap[w.heap.size + 1]? = some (.cells #[.int .i64 0, .int .i64 0, .int .i64 0, .slice none 0 0, .slice none 0 0] 29 (0, 0)) := by rw [← hw1]; exact new_alloc _ (by simp)
  have hs1 : w1.heap.size = w.heap.size + 2 := by rw [← hw1]; simp
  have HX4 : Hid (∀ W, Below w1.heap.size w1 W → W.heap[w.heap.size]? = some (.cells #[.int .i64 a1, .int .i64 a2, .int .i64 a3, .slice AL nL cL, .slice AD nD cD] 29 (0, 0))) := Lib.hid fun W hb => (hb.block _ (by omega)).trans hx4
  have HX8 : Hid (∀ W, Below w1.heap.size w1 W → W.heap[w.heap.size + 1]? = some (.cells #[.int .i64 0, .int .i64 0, .int .i64 0, .slice none 0 0, .slice none 0 0] 29 (0, 0))) := Lib.hid fun W hb => (hb.block _ (by omega)).trans hx8
  have HB := Lib.hid hb1
  have HH := Lib.hid h
  have HBW : Hid (Below w1.heap.size w1 w1) := Lib.hid (Below.refl _ _)
  have HS1 := Lib.hid hs1
  obtain ⟨⟨c0, c1, c2, c3, c4⟩, _⟩ := five_cells hx4
  obtain ⟨⟨j0, j1, j2, j3, j4⟩, ⟨g0, g1, g2, g3, g4⟩⟩ := five_cells hx8
  obtain ⟨bx, hbx⟩ : ∃ b, wiB 0 x (a1 - 1) = b := ⟨_, rfl⟩
  obtain ⟨bY, hby⟩ : ∃ b, wiB 0 y (a1 - 1) = b := ⟨_, rfl⟩
  have hex := fun W => refEnd_any a1 a2 a3 (.slice AL nL cL) (.slice AD nD cD) x W
  have hey := fun W => refEnd_any a1 a2 a3 (.slice AL nL cL) (.slice AD nD cD) y W
  rw [hbx] at hex
  rw [hby] at hey
  obtain ⟨dn, hdn⟩ : ∃ dn, decide ((x, y) ∈ N.D) = dn := ⟨_, rfl⟩
  have hD : ∀ W, Below w1.heap.size w1 W → Calls Try.prog 25 #[.agg #[.int .i64 a1, .int .i64 a2, .int .i64 a3, .slice AL nL cL, .slice AD nD cD], .int .i64 x, .int .i64 y] W fun e w' => e = .returned (.bool dn) ∧ Below W.heap.size W w' := fun W hb => by
    have := refDown_at a1 a2 a3 (.slice AL nL cL) AD nD cD N.D x y W h.dlen h.few.2 (h.keep (hb1.trans (hb.mono hb1.size))).dn
    rwa [hdn] at this
  have HD := Lib.hid hD
  have HEx := Lib.hid hex
  have HEy := Lib.hid hey
  have hlk : lnkB N.s x y = (bx && bY) := by rw [lnkB_wi, ha1, hbx, hby]
  have hPL : N.P.length = nL := by rw [← h.map, List.length_map, h.len]
  cases bx with
  | false =>
    have hq : putE N.s N.D N.P.length x y nb = 2 := by unfold putE; rw [hlk, hPL, ha2]; simp [*]
    rw [hq] at hE ⊢
    clear h hS hx4 hx8 hex hey hD hs1 hb1 hlk hPL hbx hby hdn hE ha1 ha2 ha3
    go_enter Try.func54, Try.ntmps54
    go_upto_region 1 with fail
    clear hw1
    go_wp2_with (first | (go_at_call 52; (with_reducible (first | refine (HEx.out _).mono ?_ | refine (HEy.out _).mono ?_)); rintro e w2 ⟨rfl, hbb⟩; have HBW := Lib.hid (HBW.out.trans (hbb.mono HBW.out.size)); clear hbb c0 c1 c2 c3 c4 j0 j1 j2 j3 j4 g0 g1 g2 g3 g4; obtain ⟨⟨c0, c1, c2, c3, c4⟩, _⟩ := five_cells (HX4.out _ HBW.out); obtain ⟨⟨j0, j1, j2, j3, j4⟩, ⟨g0, g1, g2, g3, g4⟩⟩ := five_cells (HX8.out _ HBW.out)) | (go_at_call 25; (with_reducible refine (HD.out _ HBW.out).mono ?_); rintro e w2 ⟨rfl, hbb⟩; have HBW := Lib.hid (HBW.out.trans (hbb.mono HBW.out.size)); clear hbb c0 c1 c2 c3 c4 j0 j1 j2 j3 j4 g0 g1 g2 g3 g4; obtain ⟨⟨c0, c1, c2, c3, c4⟩, _⟩ := five_cells (HX4.out _ HBW.out); obtain ⟨⟨j0, j1, j2, j3, j4⟩, ⟨g0, g1, g2, g3, g4⟩⟩ := five_cells (HX8.out _ HBW.out)))
    have h4 := put5 (HX8.out _ HBW.out) (.int .i64 a1) (.int .i64 a2) (.int .i64 a3) (.slice AL nL cL) (.slice AD nD cD)
    have h5 := put5_but w2 (w.heap.size + 1) (.int .i64 a1) (.int .i64 a2) (.int .i64 a3) (.slice AL nL cL) (.slice AD nD cD)
    unfold put5W at h4 h5
    obtain ⟨⟨z0, z1, z2, z3, z4⟩, _⟩ := five_cells h4
    have hbf0 := HB.out.trans (HBW.out.mono HB.out.size)
    have hbf := hbf0.trans (h5.to_below hbf0.size (fun b e => by omega))
    exact bodyPost_ret (v := .tuple #[.agg #[.int .i64 a1, .int .i64 a2, .int .i64 a3, .slice AL nL cL, .slice AD nD cD], .int .i64 0, .int .i64 2]) (by simp [results, Try.results54, go_sem, z0, z1, z2, z3, z4]) rfl ⟨rfl, HH.out.keep hbf, hbf⟩
  | true =>
    cases bY with
    | false =>
      have hq : putE N.s N.D N.P.length x y nb = 2 := by unfold putE; rw [hlk, hPL, ha2]; simp [*]
      rw [hq] at hE ⊢
      clear h hS hx4 hx8 hex hey hD hs1 hb1 hlk hPL hbx hby hdn hE ha1 ha2 ha3
      go_enter Try.func54, Try.ntmps54
      go_upto_region 1 with fail
      clear hw1
      go_wp2_with (first | (go_at_call 52; (with_reducible (first | refine (HEx.out _).mono ?_ | refine (HEy.out _).mono ?_)); rintro e w2 ⟨rfl, hbb⟩; have HBW := Lib.hid (HBW.out.trans (hbb.mono HBW.out.size)); clear hbb c0 c1 c2 c3 c4 j0 j1 j2 j3 j4 g0 g1 g2 g3 g4; obtain ⟨⟨c0, c1, c2, c3, c4⟩, _⟩ := five_cells (HX4.out _ HBW.out); obtain ⟨⟨j0, j1, j2, j3, j4⟩, ⟨g0, g1, g2, g3, g4⟩⟩ := five_cells (HX8.out _ HBW.out)) | (go_at_call 25; (with_reducible refine (HD.out _ HBW.out).mono ?_); rintro e w2 ⟨rfl, hbb⟩; have HBW := Lib.hid (HBW.out.trans (hbb.mono HBW.out.size)); clear hbb c0 c1 c2 c3 c4 j0 j1 j2 j3 j4 g0 g1 g2 g3 g4; obtain ⟨⟨c0, c1, c2, c3, c4⟩, _⟩ := five_cells (HX4.out _ HBW.out); obtain ⟨⟨j0, j1, j2, j3, j4⟩, ⟨g0, g1, g2, g3, g4⟩⟩ := five_cells (HX8.out _ HBW.out)))
      have h4 := put5 (HX8.out _ HBW.out) (.int .i64 a1) (.int .i64 a2) (.int .i64 a3) (.slice AL nL cL) (.slice AD nD cD)
      have h5 := put5_but w2 (w.heap.size + 1) (.int .i64 a1) (.int .i64 a2) (.int .i64 a3) (.slice AL nL cL) (.slice AD nD cD)
      unfold put5W at h4 h5
      obtain ⟨⟨z0, z1, z2, z3, z4⟩, _⟩ := five_cells h4
      have hbf0 := HB.out.trans (HBW.out.mono HB.out.size)
      have hbf := hbf0.trans (h5.to_below hbf0.size (fun b e => by omega))
      exact bodyPost_ret (v := .tuple #[.agg #[.int .i64 a1, .int .i64 a2, .int .i64 a3, .slice AL nL cL, .slice AD nD cD], .int .i64 0, .int .i64 2]) (by simp [results, Try.results54, go_sem, z0, z1, z2, z3, z4]) rfl ⟨rfl, HH.out.keep hbf, hbf⟩
    | true =>
      by_cases hnb : 8192 < nb
      · have hnbI : (8192 : Int) < (nb : Int) := by omega
        have hq : putE N.s N.D N.P.length x y nb = 3 := by unfold putE; rw [hlk, hPL, ha2]; simp [*]
        rw [hq] at hE ⊢
        clear h hS hx4 hx8 hex hey hD hs1 hb1 hlk hPL hbx hby hdn hE ha1 ha2 ha3
        go_enter Try.func54, Try.ntmps54
        go_upto_region 1 with fail
        clear hw1
        go_wp2_with (first | (go_at_call 52; (with_reducible (first | refine (HEx.out _).mono ?_ | refine (HEy.out _).mono ?_)); rintro e w2 ⟨rfl, hbb⟩; have HBW := Lib.hid (HBW.out.trans (hbb.mono HBW.out.size)); clear hbb c0 c1 c2 c3 c4 j0 j1 j2 j3 j4 g0 g1 g2 g3 g4; obtain ⟨⟨c0, c1, c2, c3, c4⟩, _⟩ := five_cells (HX4.out _ HBW.out); obtain ⟨⟨j0, j1, j2, j3, j4⟩, ⟨g0, g1, g2, g3, g4⟩⟩ := five_cells (HX8.out _ HBW.out)) | (go_at_call 25; (with_reducible refine (HD.out _ HBW.out).mono ?_); rintro e w2 ⟨rfl, hbb⟩; have HBW := Lib.hid (HBW.out.trans (hbb.mono HBW.out.size)); clear hbb c0 c1 c2 c3 c4 j0 j1 j2 j3 j4 g0 g1 g2 g3 g4; obtain ⟨⟨c0, c1, c2, c3, c4⟩, _⟩ := five_cells (HX4.out _ HBW.out); obtain ⟨⟨j0, j1, j2, j3, j4⟩, ⟨g0, g1, g2, g3, g4⟩⟩ := five_cells (HX8.out _ HBW.out)))
        have h4 := put5 (HX8.out _ HBW.out) (.int .i64 a1) (.int .i64 a2) (.int .i64 a3) (.slice AL nL cL) (.slice AD nD cD)
        have h5 := put5_but w2 (w.heap.size + 1) (.int .i64 a1) (.int .i64 a2) (.int .i64 a3) (.slice AL nL cL) (.slice AD nD cD)
        unfold put5W at h4 h5
        obtain ⟨⟨z0, z1, z2, z3, z4⟩, _⟩ := five_cells h4
        have hbf0 := HB.out.trans (HBW.out.mono HB.out.size)
        have hbf := hbf0.trans (h5.to_below hbf0.size (fun b e => by omega))
        exact bodyPost_ret (v := .tuple #[.agg #[.int .i64 a1, .int .i64 a2, .int .i64 a3, .slice AL nL cL, .slice AD nD cD], .int .i64 0, .int .i64 3]) (by simp [results, Try.results54, go_sem, z0, z1, z2, z3, z4]) rfl ⟨rfl, HH.out.keep hbf, hbf⟩
      · have hnbI : (nb : Int) ≤ 8192 := by omega
        cases dn with
        | true =>
          have hdn2 : (x, y) ∈ N.D := of_decide_eq_true hdn
          have hq : putE N.s N.D N.P.length x y nb = 210 := by unfold putE; rw [hlk, hPL, ha2]; simp [*]
          rw [hq] at hE ⊢
          clear hdn2 h hS hx4 hx8 hex hey hD hs1 hb1 hlk hPL hbx hby hdn hE ha1 ha2 ha3
          go_enter Try.func54, Try.ntmps54
          go_upto_region 1 with fail
          clear hw1
          go_wp2_with (first | (go_at_call 52; (with_reducible (first | refine (HEx.out _).mono ?_ | refine (HEy.out _).mono ?_)); rintro e w2 ⟨rfl, hbb⟩; have HBW := Lib.hid (HBW.out.trans (hbb.mono HBW.out.size)); clear hbb c0 c1 c2 c3 c4 j0 j1 j2 j3 j4 g0 g1 g2 g3 g4; obtain ⟨⟨c0, c1, c2, c3, c4⟩, _⟩ := five_cells (HX4.out _ HBW.out); obtain ⟨⟨j0, j1, j2, j3, j4⟩, ⟨g0, g1, g2, g3, g4⟩⟩ := five_cells (HX8.out _ HBW.out)) | (go_at_call 25; (with_reducible refine (HD.out _ HBW.out).mono ?_); rintro e w2 ⟨rfl, hbb⟩; have HBW := Lib.hid (HBW.out.trans (hbb.mono HBW.out.size)); clear hbb c0 c1 c2 c3 c4 j0 j1 j2 j3 j4 g0 g1 g2 g3 g4; obtain ⟨⟨c0, c1, c2, c3, c4⟩, _⟩ := five_cells (HX4.out _ HBW.out); obtain ⟨⟨j0, j1, j2, j3, j4⟩, ⟨g0, g1, g2, g3, g4⟩⟩ := five_cells (HX8.out _ HBW.out)))
          have h4 := put5 (HX8.out _ HBW.out) (.int .i64 a1) (.int .i64 a2) (.int .i64 a3) (.slice AL nL cL) (.slice AD nD cD)
          have h5 := put5_but w2 (w.heap.size + 1) (.int .i64 a1) (.int .i64 a2) (.int .i64 a3) (.slice AL nL cL) (.slice AD nD cD)
          unfold put5W at h4 h5
          obtain ⟨⟨z0, z1, z2, z3, z4⟩, _⟩ := five_cells h4
          have hbf0 := HB.out.trans (HBW.out.mono HB.out.size)
          have hbf := hbf0.trans (h5.to_below hbf0.size (fun b e => by omega))
          exact bodyPost_ret (v := .tuple #[.agg #[.int .i64 a1, .int .i64 a2, .int .i64 a3, .slice AL nL cL, .slice AD nD cD], .int .i64 0, .int .i64 210]) (by simp [results, Try.results54, go_sem, z0, z1, z2, z3, z4]) rfl ⟨rfl, HH.out.keep hbf, hbf⟩
        | false =>
          have hdn2 : (x, y) ∉ N.D := of_decide_eq_false hdn
          by_cases hm : (nL : Int) = a2
          · have hge : a2 ≤ (nL : Int) := by omega
            have hq : putE N.s N.D N.P.length x y nb = 211 := by unfold putE; rw [hlk, hPL, ha2]; simp [*]
            rw [hq] at hE ⊢
            clear hdn2 h hS hx4 hx8 hex hey hD hs1 hb1 hlk hPL hbx hby hdn hE ha1 ha2 ha3
            go_enter Try.func54, Try.ntmps54
            go_upto_region 1 with fail
            clear hw1
            go_wp2_with (first | (go_at_call 52; (with_reducible (first | refine (HEx.out _).mono ?_ | refine (HEy.out _).mono ?_)); rintro e w2 ⟨rfl, hbb⟩; have HBW := Lib.hid (HBW.out.trans (hbb.mono HBW.out.size)); clear hbb c0 c1 c2 c3 c4 j0 j1 j2 j3 j4 g0 g1 g2 g3 g4; obtain ⟨⟨c0, c1, c2, c3, c4⟩, _⟩ := five_cells (HX4.out _ HBW.out); obtain ⟨⟨j0, j1, j2, j3, j4⟩, ⟨g0, g1, g2, g3, g4⟩⟩ := five_cells (HX8.out _ HBW.out)) | (go_at_call 25; (with_reducible refine (HD.out _ HBW.out).mono ?_); rintro e w2 ⟨rfl, hbb⟩; have HBW := Lib.hid (HBW.out.trans (hbb.mono HBW.out.size)); clear hbb c0 c1 c2 c3 c4 j0 j1 j2 j3 j4 g0 g1 g2 g3 g4; obtain ⟨⟨c0, c1, c2, c3, c4⟩, _⟩ := five_cells (HX4.out _ HBW.out); obtain ⟨⟨j0, j1, j2, j3, j4⟩, ⟨g0, g1, g2, g3, g4⟩⟩ := five_cells (HX8.out _ HBW.out)))
            have h4 := put5 (HX8.out _ HBW.out) (.int .i64 a1) (.int .i64 a2) (.int .i64 a3) (.slice AL nL cL) (.slice AD nD cD)
            have h5 := put5_but w2 (w.heap.size + 1) (.int .i64 a1) (.int .i64 a2) (.int .i64 a3) (.slice AL nL cL) (.slice AD nD cD)
            unfold put5W at h4 h5
            obtain ⟨⟨z0, z1, z2, z3, z4⟩, _⟩ := five_cells h4
            have hbf0 := HB.out.trans (HBW.out.mono HB.out.size)
            have hbf := hbf0.trans (h5.to_below hbf0.size (fun b e => by omega))
            exact bodyPost_ret (v := .tuple #[.agg #[.int .i64 a1, .int .i64 a2, .int .i64 a3, .slice AL nL cL, .slice AD nD cD], .int .i64 0, .int .i64 211]) (by simp [results, Try.results54, go_sem, z0, z1, z2, z3, z4]) rfl ⟨rfl, HH.out.keep hbf, hbf⟩
          · exact absurd (by unfold putE; rw [hlk, hPL, ha2]; simp [*]) hE
end Go.Proofs
namespace Go.Proofs
open Go Go.RowKit Sm Go.Lib Go.Maps Go.WideMaps
attribute [local go_sem] Oper.semAt_some
set_option maxRecDepth 100000 in
theorem Sm.info5 : ∃ i, Try.prog.info? 5 = some i ∧ i.zero = some (.int .u8 0) ∧ i.size = 1 ∧ i.bytes = 1 := ⟨Try.t5, rfl, rfl, rfl, rfl⟩
theorem Sm.four_at {W : World} {p : Nat} {a b c d : Value} {t : TypeId} (h : W.heap[p]? = some (.cells #[a, b, c, d] t (0, 0))) : ∀ j u, [a, b, c, d][j]? = some u → W.cell? ((⟨p, 0, none⟩ : Addr).add j) = some u := fun j u hj => by
  rw [Addr.add_lit, Nat.zero_add, cell_of_heap h j]
  simpa using hj
theorem Sm.four_one (a x y : Int) (A : Option Addr) (n c : Nat) : ∀ u ∈ [Value.int .i64 a, .int .i64 x, .int .i64 y, .slice A n c], u.oneCell' = true := fun u hu => by
  simp only [List.mem_cons, List.not_mem_nil, or_false] at hu
  rcases hu with rfl | rfl | rfl | rfl <;> rfl
theorem Sm.own_cap {W : World} {base n c size : Nat} {e : TypeId} {A : Option Addr} {xs : List Value} (h : W.ownsRow base e size (.slice A n c) n xs) (hn : 0 < n) : n ≤ c ∧ c ≤ 9223372036854775807 := by
  rcases h.2 with ⟨e1, e2⟩ | ⟨g, cap, cur, e1, _, _, e2, e3, _⟩
  · omega
  · injection e1 with _ _ e4
    unfold maxLen at e3
    omega
theorem Sm.put_at {S : Nat → Prop} {W : World} {N : NM} {AL AD A9 A10 : Option Addr} {nL cL nD cD c9 c10 : Nat} {R : List MsgM} {a1 a2 a3 x y : Int} {l : List (BitVec 8)} (h : RfAt S W N AL nL cL AD nD cD R) (hc : nL + 1 ≤ c9 ∧ c9 ≤ 9223372036854775807) (hf : nL + 1 ≤ 4096)
    (h1 : Rds W S A9 (cellsM R ++ [.int .i64 a3, .int .i64 x, .int .i64 y, .slice A10 l.length c10])) (h2 : Rds W S A10 (l.map byteCell)) : RfAt S W ⟨⟨a1, a2, a3 + 1⟩, N.D, N.P ++ [(a3, x, y, l)]⟩ A9 (nL + 1) c9 AD nD cD (R ++ [⟨a3, x, y, l, A10, c10⟩]) :=
  ⟨by rw [List.length_append, h.len]; rfl, hc, h.dlen, by rw [List.map_append, h.map]; rfl, by rw [cellsM_add]; exact h1, fun m hm => by
    rcases List.mem_append.1 hm with hm | hm
    · exact h.byt m hm
    · rw [List.mem_singleton] at hm
      subst hm
      exact h2, h.dn, ⟨hf, h.few.2⟩⟩
set_option maxRecDepth 100000 in
set_option maxHeartbeats 8000000 in
theorem Sm.refPut_yes {S : Nat → Prop} {N : NM} {AL AD : Option Addr} {nL cL nD cD : Nat} {R : List MsgM} (x y : Int) (Ab : Option Addr) (nb cb : Nat) (l : List (BitVec 8)) (w : World) (h : RfAt S w N AL nL cL AD nD cD R) (hS : ∀ b, S b → b < w.heap.size) (hl : l.length = nb) (hrd : Rds w S Ab (l.map byteCell)) (hM : N.s.most ≤ 4096) (hC : 0 ≤ N.s.came ∧ N.s.came ≤ 1000000000) (hk : (nL : Int) ≤ N.s.most) (hE : putE N.s N.D N.P.length x y nb = 0) :
    Calls Try.prog 54 #[refV N.s AL nL cL AD nD cD, .int .i64 x, .int .i64 y, .slice Ab nb cb] w fun e w' => ∃ A' c', e = .returned (.tuple #[refV ⟨N.s.ends, N.s.most, N.s.came + 1⟩ A' (nL + 1) c' AD nD cD, .int .i64 N.s.came, .int .i64 0]) ∧ (∃ m, RfAt S w' ⟨⟨N.s.ends, N.s.most, N.s.came + 1⟩, N.D, N.P ++ [(N.s.came, x, y, l)]⟩ A' (nL + 1) c' AD nD cD (R ++ [m])) ∧ Below w.heap.size w w' := by
  unfold refV
  obtain ⟨a1, ha1⟩ : ∃ a, N.s.ends = a := ⟨_, rfl⟩
  obtain ⟨a2, ha2⟩ : ∃ a, N.s.most = a := ⟨_, rfl⟩
  obtain ⟨a3, ha3⟩ : ∃ a, N.s.came = a := ⟨_, rfl⟩
  rw [ha2] at hk hM
  rw [ha3] at hC
  rw [ha1, ha2, ha3]
  obtain ⟨w1, hw1⟩ : ∃ V, (w.alloc (.cells #[.int .i64 a1, .int .i64 a2, .int .i64 a3, .slice AL nL cL, .slice AD nD cD] 29)).alloc (.cells #[.int .i64 0, .int .i64 0, .int .i64 0, .slice none 0 0, .slice none 0 0] 29) = V := ⟨_, rfl⟩
  have hb1 : Below w.heap.size w w1 := by rw [← hw1]; exact bel2 w _ _
  have hx4 : w1.heap[w.heap.size]? = some (.cells #[.int .i64 a1, .int .i64 a2, .int .i64 a3, .slice AL nL cL, .slice AD nD cD] 29 (0, 0)) := by rw [← hw1]; exact old_alloc _ (new_alloc _ rfl)
  have hx8 : w1.heap[w.heap.size + 1]? = some (.cells #[.int .i64 0, .int .i64 0, .int .i64 0, .slice none 0 0, .slice none 0 0] 29 (0, 0)) := by rw [← hw1]; exact new_alloc _ (by simp)
  have hs1 : w1.heap.size = w.heap.size + 2 := by rw [← hw1]; simp
  have HX4 : Hid (∀ W, Below w1.heap.size w1 W → W.heap[w.heap.size]? = some (.cells #[.int .i64 a1, .int .i64 a2, .int .i64 a3, .slice AL nL cL, .slice AD nD cD] 29 (0, 0))) := Lib.hid fun W hb => (hb.block _ (by omega)).trans hx4
  have HX8 : Hid (∀ W, Below w1.heap.size w1 W → W.heap[w.heap.size + 1]? = some (.cells #[.int .i64 0, .int .i64 0, .int .i64 0, .slice none 0 0, .slice none 0 0] 29 (0, 0))) := Lib.hid fun W hb => (hb.block _ (by omega)).trans hx8
  have HB := Lib.hid hb1
  have HH := Lib.hid h
  have HBW : Hid (Below w1.heap.size w1 w1) := Lib.hid (Below.refl _ _)
  have HS1 := Lib.hid hs1
  obtain ⟨⟨c0, c1, c2, c3, c4⟩, _⟩ := five_cells hx4
  obtain ⟨⟨j0, j1, j2, j3, j4⟩, ⟨g0, g1, g2, g3, g4⟩⟩ := five_cells hx8
  obtain ⟨bx, hbx⟩ : ∃ b, wiB 0 x (a1 - 1) = b := ⟨_, rfl⟩
  obtain ⟨bY, hby⟩ : ∃ b, wiB 0 y (a1 - 1) = b := ⟨_, rfl⟩
  have hex := fun W => refEnd_any a1 a2 a3 (.slice AL nL cL) (.slice AD nD cD) x W
  have hey := fun W => refEnd_any a1 a2 a3 (.slice AL nL cL) (.slice AD nD cD) y W
  rw [hbx] at hex
  rw [hby] at hey
  obtain ⟨dn, hdn⟩ : ∃ dn, decide ((x, y) ∈ N.D) = dn := ⟨_, rfl⟩
  have hD : ∀ W, Below w1.heap.size w1 W → Calls Try.prog 25 #[.agg #[.int .i64 a1, .int .i64 a2, .int .i64 a3, .slice AL nL cL, .slice AD nD cD], .int .i64 x, .int .i64 y] W fun e w' => e = .returned (.bool dn) ∧ Below W.heap.size W w' := fun W hb => by
    have := refDown_at a1 a2 a3 (.slice AL nL cL) AD nD cD N.D x y W h.dlen h.few.2 (h.keep (hb1.trans (hb.mono hb1.size))).dn
    rwa [hdn] at this
  have HD := Lib.hid hD
  have HEx := Lib.hid hex
  have HEy := Lib.hid hey
  have hlk : lnkB N.s x y = (bx && bY) := by rw [lnkB_wi, ha1, hbx, hby]
  have hPL : N.P.length = nL := by rw [← h.map, List.length_map, h.len]
  unfold putE at hE
  rw [hlk, hPL, ha2] at hE
  have hE1 : bx = true ∧ bY = true ∧ ¬ 8192 < nb ∧ (x, y) ∉ N.D ∧ ¬ (nL : Int) = a2 := by
    revert hE
    cases bx <;> cases bY <;> simp <;> (try omega)
    intro hE
    split at hE
    · cases hE
    · split at hE
      · cases hE
      · split at hE
        · cases hE
        · rename_i q1 q2 q3
          exact ⟨by omega, q2, q3⟩
  obtain ⟨rfl, rfl, hnb, hdm, hne⟩ := hE1
  obtain rfl : dn = false := by rw [← hdn]; exact decide_eq_false hdm
  have hnbI : (nb : Int) ≤ 8192 := by omega
  have hlt : (nL : Int) < a2 := by omega
  have hnl : nL < 4096 := by omega
  have hw3 : IntKind.i64.wrap (a3 + 1) = a3 + 1 := by rw [IntKind.wrap_i64]; omega
  have hw4 : IntKind.i64.wrap a3 = a3 := by rw [IntKind.wrap_i64]; omega
  have HRS := Lib.hid hS
  have HLB0 := Lib.hid hl
  have HLB : Hid ((l.map byteCell).length = nb * 1) := Lib.hid (by rw [List.length_map]; omega)
  have HLR : Hid ((cellsM R).length = nL * 4) := Lib.hid (by rw [cellsM_len, h.len])
  have HC1 := Lib.hid (cellsM_one R)
  have HHR := Lib.hid hrd
  obtain ⟨i41, q41, r41, s41, t41⟩ := info41
  obtain ⟨i5, q5, r5, s5, t5⟩ := info5
  clear h hS hx4 hx8 hex hey hD hs1 hb1 hlk hPL hbx hby hdn hE ha1 ha2 ha3 hl hrd hdm hne
  go_enter Try.func54, Try.ntmps54
  go_upto_region 1 with fail
  clear hw1
  go_upto_region 9 with (first | (go_at_call 52; (with_reducible (first | refine (HEx.out _).mono ?_ | refine (HEy.out _).mono ?_)); rintro e w2 ⟨rfl, hbb⟩; have HBW := Lib.hid (HBW.out.trans (hbb.mono HBW.out.size)); clear hbb c0 c1 c2 c3 c4 j0 j1 j2 j3 j4 g0 g1 g2 g3 g4; obtain ⟨⟨c0, c1, c2, c3, c4⟩, _⟩ := five_cells (HX4.out _ HBW.out); obtain ⟨⟨j0, j1, j2, j3, j4⟩, ⟨g0, g1, g2, g3, g4⟩⟩ := five_cells (HX8.out _ HBW.out)) | (go_at_call 25; (with_reducible refine (HD.out _ HBW.out).mono ?_); rintro e w2 ⟨rfl, hbb⟩; have HBW := Lib.hid (HBW.out.trans (hbb.mono HBW.out.size)); clear hbb c0 c1 c2 c3 c4 j0 j1 j2 j3 j4 g0 g1 g2 g3 g4; obtain ⟨⟨c0, c1, c2, c3, c4⟩, _⟩ := five_cells (HX4.out _ HBW.out); obtain ⟨⟨j0, j1, j2, j3, j4⟩, ⟨g0, g1, g2, g3, g4⟩⟩ := five_cells (HX8.out _ HBW.out)))
  clear c0 c1 c2 c3 c4 j0 j1 j2 j3 j4 g0 g1 g2 g3 g4
  have HBG := Lib.hid (HB.out.trans (HBW.out.mono HB.out.size))
  have HRW : Hid (∀ W, Below w2.heap.size w2 W → Rds W S AL (cellsM R)) := Lib.hid fun W hb => (HH.out.keep (HBG.out.trans (hb.mono HBG.out.size))).row
  have HRB : Hid (∀ W, Below w2.heap.size w2 W → Rds W S Ab (l.map byteCell)) := Lib.hid fun W hb => HHR.out.but (But.of_all (HBG.out.trans (hb.mono HBG.out.size)) (fun _ => False)) (fun _ e => e.elim)
  refine wp_region_popL 15 rfl rfl (by kernel_rfl) (by kernel_rfl) (S := fun W => Below w2.heap.size w2 W) (Below.refl _ _).drew (fun hHeld => ?_)
  simp only [List.take_succ_cons, List.take_zero]
  obtain ⟨V0, hV0⟩ : ∃ V, w2.drew = V := ⟨_, rfl⟩
  have HB_V0 : Hid (Below w2.heap.size w2 V0) := Lib.hid (by rw [← hV0]; exact (Below.refl _ w2).drew)
  rw [hV0] at hHeld ⊢
  clear hV0 hHeld
  refine wpAnyH_take (i := 1) (v := .pointer (some ⟨w.heap.size, 3, none⟩)) rfl (by kernel_rfl) (by kernel_rfl) (by kernel_rfl) (fun _ _ _ h => h) (Or.inl ⟨by rfl, ?_⟩) (by assumption) ?_
  · intro wx hs1; go_simp
  (try simp only [Act.put, List.getElem_toArray, List.getElem_cons_succ, List.getElem_cons_zero, List.setIfInBounds_toArray, List.set_cons_zero, List.set_cons_succ])
  refine wpAnyH_take (i := 2) (v := .slice AL nL cL) rfl (by kernel_rfl) (by kernel_rfl) (by kernel_rfl) (fun _ _ _ h => h) (Or.inl ⟨by rfl, ?_⟩) (by assumption) ?_
  · intro wx hs1; obtain ⟨k0, k1, k2, k3, k4⟩ := (five_cells (HX4.out wx (HBW.out.trans (hs1.mono HBW.out.size)))).1; go_simp
  (try simp only [Act.put, List.getElem_toArray, List.getElem_cons_succ, List.getElem_cons_zero, List.setIfInBounds_toArray, List.set_cons_zero, List.set_cons_succ])
  refine wpAnyH_take (i := 4) (v := .pointer (some ⟨w.heap.size, 2, none⟩)) rfl (by kernel_rfl) (by kernel_rfl) (by kernel_rfl) (fun _ _ _ h => h) (Or.inl ⟨by rfl, ?_⟩) (by assumption) ?_
  · intro wx hs1; go_simp
  (try simp only [Act.put, List.getElem_toArray, List.getElem_cons_succ, List.getElem_cons_zero, List.setIfInBounds_toArray, List.set_cons_zero, List.set_cons_succ])
  refine wpAnyH_take (i := 5) (v := .int .i64 a3) rfl (by kernel_rfl) (by kernel_rfl) (by kernel_rfl) (fun _ _ _ h => h) (Or.inl ⟨by rfl, ?_⟩) (by assumption) ?_
  · intro wx hs1; obtain ⟨k0, k1, k2, k3, k4⟩ := (five_cells (HX4.out wx (HBW.out.trans (hs1.mono HBW.out.size)))).1; go_simp
  (try simp only [Act.put, List.getElem_toArray, List.getElem_cons_succ, List.getElem_cons_zero, List.setIfInBounds_toArray, List.set_cons_zero, List.set_cons_succ])
  refine wpAnyH_take (i := 6) (v := .int .i64 x) rfl (by kernel_rfl) (by kernel_rfl) (by kernel_rfl) (fun _ _ _ h => h) (Or.inl ⟨by rfl, ?_⟩) (by assumption) ?_
  · intro wx hs1; go_simp
  (try simp only [Act.put, List.getElem_toArray, List.getElem_cons_succ, List.getElem_cons_zero, List.setIfInBounds_toArray, List.set_cons_zero, List.set_cons_succ])
  refine wpAnyH_take (i := 7) (v := .int .i64 y) rfl (by kernel_rfl) (by kernel_rfl) (by kernel_rfl) (fun _ _ _ h => h) (Or.inl ⟨by rfl, ?_⟩) (by assumption) ?_
  · intro wx hs1; go_simp
  (try simp only [Act.put, List.getElem_toArray, List.getElem_cons_succ, List.getElem_cons_zero, List.setIfInBounds_toArray, List.set_cons_zero, List.set_cons_succ])
  refine wpAnyH_take (i := 9) (v := .slice Ab nb cb) rfl (by kernel_rfl) (by kernel_rfl) (by kernel_rfl) (fun _ _ _ h => h) (Or.inl ⟨by rfl, ?_⟩) (by assumption) ?_
  · intro wx hs1; go_simp
  (try simp only [Act.put, List.getElem_toArray, List.getElem_cons_succ, List.getElem_cons_zero, List.setIfInBounds_toArray, List.set_cons_zero, List.set_cons_succ])
  refine wpAnyH_ready (rs := [0, 8]) (by kernel_rfl) (by simp) (AllReadyH.cons rfl (fun K hK => ?_) (AllReadyH.cons rfl (fun K hK => ?_) AllReadyH.nil))
  · go_simp
    have hbq : Below w2.heap.size w2 (V0.alloc (.cells #[] 41)) := HB_V0.out.alloc HB_V0.out.size _
    have hbs : Below V0.heap.size V0 (V0.alloc (.cells #[] 41)) := (Below.refl _ _).alloc (Nat.le_refl _) _
    have hz : (V0.alloc (.cells #[] 41)).heap.size = V0.heap.size + 1 := by simp
    have hon : (V0.alloc (.cells #[] 41)).ownsRow w2.heap.size 41 4 (.slice (some ⟨V0.heap.size, 0, none⟩) 0 0) 0 [] := ⟨rfl, .inr ⟨V0.heap.size, 0, #[], rfl, HB_V0.out.size, World.alloc_heap_new V0 _, Nat.le_refl _, Nat.zero_le _, rfl, rfl⟩⟩
    obtain ⟨V1, hW2⟩ : ∃ V, V0.alloc (.cells #[] 41) = V := ⟨_, rfl⟩
    rw [hW2] at hbq hbs hz hon
    (try rw [hW2])
    clear hW2
    have HB_V1 := Lib.hid hbq
    have HZ_V1 := Lib.hid hz
    have HO38 := Lib.hid hon
    have LT38 := Lib.hid (fun g e => (hon.lt g e))
    refine hK.out _ _ hbq (fun _ => ?_)
    clear hK K hbq hbs hz hon
    try dsimp only
    (try simp only [Act.put, List.getElem_toArray, List.getElem_cons_succ, List.getElem_cons_zero, List.setIfInBounds_toArray, List.set_cons_zero, List.set_cons_succ])
    refine wpAnyH_ready (rs := [3, 8]) (by kernel_rfl) (by simp) (AllReadyH.cons rfl (fun K hK => ?_) (AllReadyH.cons rfl (fun K hK => ?_) AllReadyH.nil))
    · (try rw [if_pos (by rfl)])
      refine opWp_appR (.tmp 38) (.tmp 40) 26 rfl (w2.heap.size) 41 i41 _ 4 48 Try.underlying26 q41 r41 s41 t41 rfl (by decide) _ 0 [] rfl HO38.out AL nL cL (cellsM R) S rfl HLR.out (HRW.out V1 HB_V1.out) HC1.out (by unfold maxLen; omega) (by omega) HB_V1.out.size ?_
      intro v9 V2 hown hgr hor
      have hbq : Below w2.heap.size w2 V2 := HB_V1.out.trans ((But.grown hgr).to_below HB_V1.out.size (fun b e => by have h1 := (HO38.out.lt b e).1; exact (by omega)))
      simp only [Nat.zero_add, List.nil_append] at hown
      obtain ⟨A3, c3, rfl⟩ := own_form hown
      have HO3 := Lib.hid hown
      have LT3 := Lib.hid (fun g e => (hown.lt g e))
      have HR3 := Lib.hid hor
      have HB_V2 := Lib.hid hbq
      have HG_V2 := Lib.hid hgr.size
      refine hK.out _ _ hbq (fun _ => ?_)
      clear hK K hown hgr hor hbq
      try dsimp only
      (try simp only [Act.put, List.getElem_toArray, List.getElem_cons_succ, List.getElem_cons_zero, List.setIfInBounds_toArray, List.set_cons_zero, List.set_cons_succ])
      refine wpAnyH_ready (rs := [8]) (by kernel_rfl) (by simp) (AllReadyH.cons rfl (fun K hK => ?_) AllReadyH.nil)
      go_simp
      have hbq : Below w2.heap.size w2 (V2.alloc (.cells #[] 5)) := HB_V2.out.alloc HB_V2.out.size _
      have hbs : Below V2.heap.size V2 (V2.alloc (.cells #[] 5)) := (Below.refl _ _).alloc (Nat.le_refl _) _
      have hz : (V2.alloc (.cells #[] 5)).heap.size = V2.heap.size + 1 := by simp
      have hon : (V2.alloc (.cells #[] 5)).ownsRow V2.heap.size 5 1 (.slice (some ⟨V2.heap.size, 0, none⟩) 0 0) 0 [] := ⟨rfl, .inr ⟨V2.heap.size, 0, #[], rfl, (by have := HB_V2.out.size; first | exact Nat.le_refl _ | omega), World.alloc_heap_new V2 _, Nat.le_refl _, Nat.zero_le _, rfl, rfl⟩⟩
      obtain ⟨V3, hW2⟩ : ∃ V, V2.alloc (.cells #[] 5) = V := ⟨_, rfl⟩
      rw [hW2] at hbq hbs hz hon
      (try rw [hW2])
      clear hW2
      have HB_V3 := Lib.hid hbq
      have HZ_V3 := Lib.hid hz
      have HO46 := Lib.hid hon
      have LT46 := Lib.hid (fun g e => (hon.lt g e))
      have HO3 := Lib.hid (own_below HO3.out hbs)
      refine hK.out _ _ hbq (fun _ => ?_)
      clear hK K hbq hbs hz hon
      try dsimp only
      (try simp only [Act.put, List.getElem_toArray, List.getElem_cons_succ, List.getElem_cons_zero, List.setIfInBounds_toArray, List.set_cons_zero, List.set_cons_succ])
      have BG := Lib.hid HB_V2.out.size
      have SZ_V3 := Lib.hid (show V2.heap.size ≤ V3.heap.size by have := HZ_V3.out; omega)
      refine wpAnyH_ready (rs := [10]) (by kernel_rfl) (by simp) (AllReadyH.cons rfl (fun K hK => ?_) AllReadyH.nil)
      (try rw [if_pos (by rfl)])
      refine opWp_appR (.tmp 46) (.tmp 47) 39 rfl (V2.heap.size) 5 i5 _ 1 1 Try.underlying39 q5 r5 s5 t5 rfl (by decide) _ 0 [] rfl HO46.out Ab nb cb (l.map byteCell) S rfl HLB.out (HRB.out V3 HB_V3.out) (byteCell_one l) (by unfold maxLen; omega) (by omega) SZ_V3.out ?_
      intro v9 V4 hown hgr hor
      have hbq : Below w2.heap.size w2 V4 := HB_V3.out.trans ((But.grown hgr).to_below HB_V3.out.size (fun b e => by have h1 := (HO46.out.lt b e).1; have h2 := BG.out; exact (by omega)))
      have HO3 := Lib.hid (But.row (But.grown hgr) HO3.out (fun g e e2 => by have h1 := LT3.out g e; have h2 := LT46.out g e2; omega))
      simp only [Nat.zero_add, List.nil_append] at hown
      obtain ⟨A10, c10, rfl⟩ := own_form hown
      have HO10 := Lib.hid hown
      have LT10 := Lib.hid (fun g e => (hown.lt g e))
      have HR10 := Lib.hid hor
      have HB_V4 := Lib.hid hbq
      have HG_V4 := Lib.hid hgr.size
      refine hK.out _ _ hbq (fun _ => ?_)
      clear hK K hown hgr hor hbq
      try dsimp only
      (try simp only [Act.put, List.getElem_toArray, List.getElem_cons_succ, List.getElem_cons_zero, List.setIfInBounds_toArray, List.set_cons_zero, List.set_cons_succ])
      have SEP : Hid (∀ g, (Value.slice A10 nb c10).ownBlock = some g → (Value.slice A3 nL c3).ownBlock ≠ some g) := Lib.hid (fun g e e2 => by have h1 := LT10.out g e; have h2 := LT3.out g e2; omega)
      refine wpAnyH_take (i := 11) (v := .agg #[.int .i64 a3, .int .i64 x, .int .i64 y, .slice A10 nb c10]) rfl (by kernel_rfl) (by kernel_rfl) (by kernel_rfl) (fun _ _ _ h => h) (Or.inl ⟨by rfl, ?_⟩) (by assumption) ?_
      · intro wx hs1; go_simp
      (try simp only [Act.put, List.getElem_toArray, List.getElem_cons_succ, List.getElem_cons_zero, List.setIfInBounds_toArray, List.set_cons_zero, List.set_cons_succ])
      refine wpAnyH_ready (rs := [12]) (by kernel_rfl) (by simp) (AllReadyH.cons rfl (fun K hK => ?_) AllReadyH.nil)
      go_simp
      have hbq : Below w2.heap.size w2 (V4.alloc (.cells #[.int .i64 a3, .int .i64 x, .int .i64 y, .slice A10 nb c10] 41)) := HB_V4.out.alloc HB_V4.out.size _
      have hbs : Below V4.heap.size V4 (V4.alloc (.cells #[.int .i64 a3, .int .i64 x, .int .i64 y, .slice A10 nb c10] 41)) := (Below.refl _ _).alloc (Nat.le_refl _) _
      have hz5 : (V4.alloc (.cells #[.int .i64 a3, .int .i64 x, .int .i64 y, .slice A10 nb c10] 41)).heap[V4.heap.size]? = some (.cells #[.int .i64 a3, .int .i64 x, .int .i64 y, .slice A10 nb c10] 41 (0, 0)) := World.alloc_heap_new _ _
      obtain ⟨V5, hW2⟩ : ∃ V, V4.alloc (.cells #[.int .i64 a3, .int .i64 x, .int .i64 y, .slice A10 nb c10] 41) = V := ⟨_, rfl⟩
      rw [hW2] at hbq hbs hz5
      (try rw [hW2])
      clear hW2
      have HB_V5 := Lib.hid hbq
      have HZ5 := Lib.hid hz5
      have HO3 := Lib.hid (own_below HO3.out hbs)
      have HO10 := Lib.hid (own_below HO10.out hbs)
      have SZ5 := Lib.hid hbs.size
      refine hK.out _ _ hbq (fun _ => ?_)
      clear hK K hbq hbs hz5
      try dsimp only
      (try simp only [Act.put, List.getElem_toArray, List.getElem_cons_succ, List.getElem_cons_zero, List.setIfInBounds_toArray, List.set_cons_zero, List.set_cons_succ])
      refine wpAnyH_ready (rs := [13]) (by kernel_rfl) (by simp) (AllReadyH.cons rfl (fun K hK => ?_) AllReadyH.nil)
      (try rw [if_pos (by rfl)])
      refine opWp_app (.tmp 41) (.tmp 50) 26 rfl (w2.heap.size) 41 i41 _ 4 48 Try.underlying26 q41 r41 s41 t41 rfl (by decide) _ nL (cellsM R) rfl HO3.out ⟨V4.heap.size, 0, none⟩ 1 1 [.int .i64 a3, .int .i64 x, .int .i64 y, .slice A10 nb c10] rfl rfl (four_at HZ5.out) (four_one _ _ _ _ _ _) (by unfold maxLen; omega) (by omega) (Nat.le_trans HB_V4.out.size SZ5.out) ?_
      intro v9 V6 hown hgr _
      have hbq : Below w2.heap.size w2 V6 := HB_V5.out.trans ((But.grown hgr).to_below HB_V5.out.size (fun b e => by have h1 := (HO3.out.lt b e).1; exact (by omega)))
      have HO10 := Lib.hid (But.row (But.grown hgr) HO10.out (fun g e e2 => SEP.out g e e2))
      refine hK.out _ _ hbq (fun _ => ?_)
      clear hK K
      try dsimp only
      (try simp only [Act.put, List.getElem_toArray, List.getElem_cons_succ, List.getElem_cons_zero, List.setIfInBounds_toArray, List.set_cons_zero, List.set_cons_succ])
      refine wpAnyH_take (i := 14) (v := .pointer (some ⟨w.heap.size, 3, none⟩)) rfl (by kernel_rfl) (by kernel_rfl) (by kernel_rfl) (fun _ _ _ h => h) (Or.inl ⟨by rfl, ?_⟩) (by assumption) ?_
      · intro wx hs1; go_simp
      (try simp only [Act.put, List.getElem_toArray, List.getElem_cons_succ, List.getElem_cons_zero, List.setIfInBounds_toArray, List.set_cons_zero, List.set_cons_succ])
      obtain ⟨A9, c9, rfl⟩ := own_form hown
      have HO13 := Lib.hid hown
      have HB6 := Lib.hid hbq
      have HB1w := Lib.hid (HBW.out.trans (hbq.mono HBW.out.size))
      clear hown hgr hbq
      obtain ⟨⟨k0, k1, k2, k3, k4⟩, ⟨f0, f1, f2, f3, f4⟩⟩ := five_cells (HX4.out V6 HB1w.out)
      refine wpAnyH_done (by kernel_rfl) ?_ _
      unfold tailQ wpOp
      simp only [List.getElem?_toArray, List.getElem?_cons_succ, List.getElem?_cons_zero]
      rw [if_pos (by rfl)]
      have hcap := own_cap HO13.out (by omega)
      have hb3s := heap_setCells (i := 3) (u := .slice A9 (nL + 1) c9) (HX4.out V6 HB1w.out)
      have hbt : But (fun q => q = w.heap.size) V6 (V6.setCell ⟨w.heap.size, 3, none⟩ (.slice A9 (nL + 1) c9)) := (But.refl _ _).set ⟨w.heap.size, 3, none⟩ _ (.inl rfl)
      have hpx3 := hbt.box (HX8.out V6 HB1w.out) (by omega)
      simp only [List.setIfInBounds_toArray, List.set_cons_zero, List.set_cons_succ] at hb3s
      have HB3S := Lib.hid hb3s
      have HBT := Lib.hid hbt
      have HPX3 := Lib.hid hpx3
      refine Or.inl ?_
      go_simp
      obtain ⟨W9, hW9⟩ : ∃ W9, V6.setCell ⟨w.heap.size, 3, none⟩ (.slice A9 (nL + 1) c9) = W9 := ⟨_, rfl⟩
      rw [hW9] at HB3S HBT HPX3 ⊢
      clear k0 k1 k2 k3 k4 f0 f1 f2 f3 f4 hb3s hbt hpx3 hW9
      obtain ⟨⟨k0, k1, k2, k3, k4⟩, ⟨f0, f1, f2, f3, f4⟩⟩ := five_cells HB3S.out
      go_upto_region 11 with fail
      have hb3s := heap_setCells (i := 2) (u := .int .i64 (a3 + 1)) HB3S.out
      have hbt : But (fun q => q = w.heap.size) W9 (W9.setCell ⟨w.heap.size, 2, none⟩ (.int .i64 (a3 + 1))) := (But.refl _ _).set ⟨w.heap.size, 2, none⟩ _ (.inl rfl)
      have hpx3 := hbt.box HPX3.out (by omega)
      simp only [List.setIfInBounds_toArray, List.set_cons_zero, List.set_cons_succ] at hb3s
      have HB4S := Lib.hid hb3s
      have HBT4 := Lib.hid (HBT.out.trans hbt (fun _ _ e => e))
      have HPX4 := Lib.hid hpx3
      obtain ⟨WA, hWA⟩ : ∃ W, W9.setCell ⟨w.heap.size, 2, none⟩ (.int .i64 (a3 + 1)) = W := ⟨_, rfl⟩
      rw [hWA] at HB4S HBT4 HPX4 ⊢
      clear k0 k1 k2 k3 k4 f0 f1 f2 f3 f4 hb3s hbt hpx3 hWA
      have HX4A : Hid (∀ W, But (fun q => q = w.heap.size + 1) WA W → W.heap[w.heap.size]? = some (.cells #[.int .i64 a1, .int .i64 a2, .int .i64 (a3 + 1), .slice A9 (nL + 1) c9, .slice AD nD cD] 29 (0, 0))) := Lib.hid fun W hb => hb.box HB4S.out (by omega)
      have HX8A : Hid (∀ W, Below WA.heap.size WA W → W.heap[w.heap.size + 1]? = some (.cells #[.int .i64 0, .int .i64 0, .int .i64 0, .slice none 0 0, .slice none 0 0] 29 (0, 0))) := Lib.hid fun W hb => (hb.block _ (Array.getElem?_eq_some_iff.1 HPX4.out).1).trans HPX4.out
      have hS0 : (fun W => But (fun q => q = w.heap.size + 1) WA W) WA.drew := (But.refl _ _).drew
      refine wp_region_held_drew (S := fun W => But (fun q => q = w.heap.size + 1) WA W) rfl hS0 (fun hHeld => ?_)
      simp only [List.size_toArray, List.length_cons, List.length_nil, Nat.reduceAdd]
      have HB0 : Hid (Below WA.heap.size WA WA.drew) := Lib.hid (Below.refl _ _).drew
      obtain ⟨V0, hV0⟩ : ∃ V, WA.drew = V := ⟨_, rfl⟩
      rw [hV0] at hHeld hS0 HB0 ⊢
      clear hV0
      refine wpAnyH_take (i := 0) (v := .agg #[.int .i64 a1, .int .i64 a2, .int .i64 (a3 + 1), .slice A9 (nL + 1) c9, .slice AD nD cD]) rfl (by kernel_rfl) (by kernel_rfl) (by kernel_rfl) (fun _ _ _ h => h) (Or.inl ⟨by rfl, ?_⟩) (by assumption) ?_
      · intro wx hs1; obtain ⟨k0, k1, k2, k3, k4⟩ := (five_cells (HX4A.out wx hs1)).1; go_simp
      (try simp only [Act.put, List.getElem_toArray, List.getElem_cons_zero, List.setIfInBounds_toArray, List.set_cons_zero, List.set_cons_succ])
      refine wpAnyH_take (i := 1) (v := .pointer (some ⟨w.heap.size, 2, none⟩)) rfl (by kernel_rfl) (by kernel_rfl) (by kernel_rfl) (fun _ _ _ h => h) (Or.inl ⟨by rfl, ?_⟩) (by assumption) ?_
      · intro wx hs1; go_simp
      (try simp only [Act.put, List.getElem_toArray, List.getElem_cons_succ, List.getElem_cons_zero, List.setIfInBounds_toArray, List.set_cons_zero, List.set_cons_succ])
      refine wpAnyH_take (i := 2) (v := .int .i64 (a3 + 1)) rfl (by kernel_rfl) (by kernel_rfl) (by kernel_rfl) (fun _ _ _ h => h) (Or.inl ⟨by rfl, ?_⟩) (by assumption) ?_
      · intro wx hs1; obtain ⟨k0, k1, k2, k3, k4⟩ := (five_cells (HX4A.out wx hs1)).1; go_simp
      (try simp only [Act.put, List.getElem_toArray, List.getElem_cons_succ, List.getElem_cons_zero, List.setIfInBounds_toArray, List.set_cons_zero, List.set_cons_succ])
      refine wpAnyH_take (i := 3) (v := .int .i64 a3) rfl (by kernel_rfl) (by kernel_rfl) (by kernel_rfl) (fun _ _ _ h => h) (Or.inl ⟨by rfl, ?_⟩) (by assumption) ?_
      · intro wx hs1; go_simp
      (try simp only [Act.put, List.getElem_toArray, List.getElem_cons_succ, List.getElem_cons_zero, List.setIfInBounds_toArray, List.set_cons_zero, List.set_cons_succ])
      obtain ⟨⟨j0, j1, j2, j3, j4⟩, ⟨g0, g1, g2, g3, g4⟩⟩ := five_cells (HX8A.out V0 HB0.out)
      refine wpAnyH_ready (rs := [4]) (by kernel_rfl) (by simp) (AllReadyH.cons rfl (fun K hK => ?_) AllReadyH.nil)
      go_simp
      try dsimp only
      have hW5x := put5 (HX8A.out V0 HB0.out) (.int .i64 a1) (.int .i64 a2) (.int .i64 (a3 + 1)) (.slice A9 (nL + 1) c9) (.slice AD nD cD)
      have hW5b := put5_but V0 (w.heap.size + 1) (.int .i64 a1) (.int .i64 a2) (.int .i64 (a3 + 1)) (.slice A9 (nL + 1) c9) (.slice AD nD cD)
      unfold put5W at hW5x hW5b
      obtain ⟨W5, hqW5⟩ : ∃ V, put5W V0 (w.heap.size + 1) (.int .i64 a1) (.int .i64 a2) (.int .i64 (a3 + 1)) (.slice A9 (nL + 1) c9) (.slice AD nD cD) = V := ⟨_, rfl⟩
      unfold put5W at hqW5
      rw [hqW5] at hW5x hW5b ⊢
      clear hqW5 j0 j1 j2 j3 j4 g0 g1 g2 g3 g4
      have hS := hS0.trans hW5b (fun _ _ e => e)
      refine hK.out _ _ hS (fun _ => ?_)
      clear hK K
      (try simp only [Act.put, List.getElem_toArray, List.getElem_cons_succ, List.getElem_cons_zero, List.setIfInBounds_toArray, List.set_cons_zero, List.set_cons_succ])
      refine wpAnyH_take (i := 5) (v := .int .i64 a3) rfl (by kernel_rfl) (by kernel_rfl) (by kernel_rfl) (fun _ _ _ h => h) (Or.inl ⟨by rfl, ?_⟩) (by assumption) ?_
      · intro wx hs1; go_simp
      (try simp only [Act.put, List.getElem_toArray, List.getElem_cons_succ, List.getElem_cons_zero, List.setIfInBounds_toArray, List.set_cons_zero, List.set_cons_succ])
      refine wpAnyH_take (i := 6) (v := .int .i64 0) rfl (by kernel_rfl) (by kernel_rfl) (by kernel_rfl) (fun _ _ _ h => h) (Or.inl ⟨by rfl, ?_⟩) (by assumption) ?_
      · intro wx hs1; go_simp
      (try simp only [Act.put, List.getElem_toArray, List.getElem_cons_succ, List.getElem_cons_zero, List.setIfInBounds_toArray, List.set_cons_zero, List.set_cons_succ])
      refine wpAnyH_done (by kernel_rfl) ?_ _
      obtain ⟨⟨z0, z1, z2, z3, z4⟩, _⟩ := five_cells hW5x
      have hbh := HB.out.trans (HB1w.out.mono HB.out.size)
      have hbi := hbh.trans (HBT4.out.to_below hbh.size (fun b e => by omega))
      have hbj := hbi.trans (HB0.out.mono hbi.size)
      have hbk := hbj.trans (hW5b.to_below hbj.size (fun b e => by omega))
      have hw2s : w.heap.size + 2 ≤ w2.heap.size := by have := HS1.out; have := HBW.out.size; omega
      have hro := hW5b.row (own_below (HBT4.out.row HO13.out (fun g e e2 => by have h9 := (HO13.out.lt g e).1; have h10 : g = w.heap.size := e2; have := BG.out; omega)) HB0.out) (fun g e e2 => by have h9 := (HO13.out.lt g e).1; have h10 : g = w.heap.size + 1 := e2; have := BG.out; omega)
      have hrb := hW5b.row (own_below (HBT4.out.row HO10.out (fun g e e2 => by have h9 := (HO10.out.lt g e).1; have h10 : g = w.heap.size := e2; have := BG.out; omega)) HB0.out) (fun g e e2 => by have h9 := (HO10.out.lt g e).1; have h10 : g = w.heap.size + 1 := e2; have := BG.out; omega)
      have hH := HH.out.keep hbk
      have HLN := HLB0.out
      subst HLN
      go_wp2
      exact bodyPost_ret (v := .tuple #[.agg #[.int .i64 a1, .int .i64 a2, .int .i64 (a3 + 1), .slice A9 (nL + 1) c9, .slice AD nD cD], .int .i64 a3, .int .i64 0]) (by simp [results, Try.results54, go_sem, z0, z1, z2, z3, z4]) rfl ⟨A9, c9, rfl, ⟨⟨a3, x, y, l, A10, c10⟩, put_at hH hcap (by omega) (own_rds hro (fun b e => by have := HRS.out b e; have := BG.out; omega)) (own_rds hrb (fun b e => by have := HRS.out b e; have := BG.out; omega))⟩, hbk⟩
    · go_simp
      have hbq : Below w2.heap.size w2 (V1.alloc (.cells #[] 5)) := HB_V1.out.alloc HB_V1.out.size _
      have hbs : Below V1.heap.size V1 (V1.alloc (.cells #[] 5)) := (Below.refl _ _).alloc (Nat.le_refl _) _
      have hz : (V1.alloc (.cells #[] 5)).heap.size = V1.heap.size + 1 := by simp
      have hon : (V1.alloc (.cells #[] 5)).ownsRow V1.heap.size 5 1 (.slice (some ⟨V1.heap.size, 0, none⟩) 0 0) 0 [] := ⟨rfl, .inr ⟨V1.heap.size, 0, #[], rfl, (by have := HB_V1.out.size; first | exact Nat.le_refl _ | omega), World.alloc_heap_new V1 _, Nat.le_refl _, Nat.zero_le _, rfl, rfl⟩⟩
      obtain ⟨V2, hW2⟩ : ∃ V, V1.alloc (.cells #[] 5) = V := ⟨_, rfl⟩
      rw [hW2] at hbq hbs hz hon
      (try rw [hW2])
      clear hW2
      have HB_V2 := Lib.hid hbq
      have HZ_V2 := Lib.hid hz
      have HO46 := Lib.hid hon
      have LT46 := Lib.hid (fun g e => (hon.lt g e))
      have HO38 := Lib.hid (own_below HO38.out hbs)
      refine hK.out _ _ hbq (fun _ => ?_)
      clear hK K hbq hbs hz hon
      try dsimp only
      (try simp only [Act.put, List.getElem_toArray, List.getElem_cons_succ, List.getElem_cons_zero, List.setIfInBounds_toArray, List.set_cons_zero, List.set_cons_succ])
      have BG := Lib.hid HB_V1.out.size
      refine wpAnyH_ready (rs := [3]) (by kernel_rfl) (by simp) (AllReadyH.cons rfl (fun K hK => ?_) AllReadyH.nil)
      (try rw [if_pos (by rfl)])
      refine opWp_appR (.tmp 38) (.tmp 40) 26 rfl (w2.heap.size) 41 i41 _ 4 48 Try.underlying26 q41 r41 s41 t41 rfl (by decide) _ 0 [] rfl HO38.out AL nL cL (cellsM R) S rfl HLR.out (HRW.out V2 HB_V2.out) HC1.out (by unfold maxLen; omega) (by omega) HB_V2.out.size ?_
      intro v9 V3 hown hgr hor
      have hbq : Below w2.heap.size w2 V3 := HB_V2.out.trans ((But.grown hgr).to_below HB_V2.out.size (fun b e => by have h1 := (HO38.out.lt b e).1; exact (by omega)))
      have HO46 := Lib.hid (But.row (But.grown hgr) HO46.out (fun g e e2 => by have h1 := LT46.out g e; have h2 := LT38.out g e2; omega))
      simp only [Nat.zero_add, List.nil_append] at hown
      obtain ⟨A3, c3, rfl⟩ := own_form hown
      have HO3 := Lib.hid hown
      have LT3 := Lib.hid (fun g e => (hown.lt g e))
      have HR3 := Lib.hid hor
      have HB_V3 := Lib.hid hbq
      have HG_V3 := Lib.hid hgr.size
      refine hK.out _ _ hbq (fun _ => ?_)
      clear hK K hown hgr hor hbq
      try dsimp only
      (try simp only [Act.put, List.getElem_toArray, List.getElem_cons_succ, List.getElem_cons_zero, List.setIfInBounds_toArray, List.set_cons_zero, List.set_cons_succ])
      have SZ_V3 := Lib.hid (show V1.heap.size ≤ V3.heap.size by have := HZ_V2.out; have := HG_V3.out; omega)
      refine wpAnyH_ready (rs := [10]) (by kernel_rfl) (by simp) (AllReadyH.cons rfl (fun K hK => ?_) AllReadyH.nil)
      (try rw [if_pos (by rfl)])
      refine opWp_appR (.tmp 46) (.tmp 47) 39 rfl (V1.heap.size) 5 i5 _ 1 1 Try.underlying39 q5 r5 s5 t5 rfl (by decide) _ 0 [] rfl HO46.out Ab nb cb (l.map byteCell) S rfl HLB.out (HRB.out V3 HB_V3.out) (byteCell_one l) (by unfold maxLen; omega) (by omega) SZ_V3.out ?_
      intro v9 V4 hown hgr hor
      have hbq : Below w2.heap.size w2 V4 := HB_V3.out.trans ((But.grown hgr).to_below HB_V3.out.size (fun b e => by have h1 := (HO46.out.lt b e).1; have h2 := BG.out; exact (by omega)))
      have HO3 := Lib.hid (But.row (But.grown hgr) HO3.out (fun g e e2 => by have h1 := LT46.out g e2; have h5 := HZ_V2.out; exact HR3.out.elim (fun r => by have h2 := LT38.out g (r ▸ e); omega) (fun r => by rw [r] at e; injection e with e; omega)))
      simp only [Nat.zero_add, List.nil_append] at hown
      obtain ⟨A10, c10, rfl⟩ := own_form hown
      have HO10 := Lib.hid hown
      have LT10 := Lib.hid (fun g e => (hown.lt g e))
      have HR10 := Lib.hid hor
      have HB_V4 := Lib.hid hbq
      have HG_V4 := Lib.hid hgr.size
      refine hK.out _ _ hbq (fun _ => ?_)
      clear hK K hown hgr hor hbq
      try dsimp only
      (try simp only [Act.put, List.getElem_toArray, List.getElem_cons_succ, List.getElem_cons_zero, List.setIfInBounds_toArray, List.set_cons_zero, List.set_cons_succ])
      have SEP : Hid (∀ g, (Value.slice A10 nb c10).ownBlock = some g → (Value.slice A3 nL c3).ownBlock ≠ some g) := Lib.hid (fun g e e2 => by have h5 := HZ_V2.out; exact HR10.out.elim (fun q => by have h1 := LT46.out g (q ▸ e); exact HR3.out.elim (fun r => by have h2 := LT38.out g (r ▸ e2); omega) (fun r => by rw [r] at e2; injection e2 with e2; omega)) (fun q => by rw [q] at e; injection e with e; have h2 := LT3.out g e2; omega))
      refine wpAnyH_take (i := 11) (v := .agg #[.int .i64 a3, .int .i64 x, .int .i64 y, .slice A10 nb c10]) rfl (by kernel_rfl) (by kernel_rfl) (by kernel_rfl) (fun _ _ _ h => h) (Or.inl ⟨by rfl, ?_⟩) (by assumption) ?_
      · intro wx hs1; go_simp
      (try simp only [Act.put, List.getElem_toArray, List.getElem_cons_succ, List.getElem_cons_zero, List.setIfInBounds_toArray, List.set_cons_zero, List.set_cons_succ])
      refine wpAnyH_ready (rs := [12]) (by kernel_rfl) (by simp) (AllReadyH.cons rfl (fun K hK => ?_) AllReadyH.nil)
      go_simp
      have hbq : Below w2.heap.size w2 (V4.alloc (.cells #[.int .i64 a3, .int .i64 x, .int .i64 y, .slice A10 nb c10] 41)) := HB_V4.out.alloc HB_V4.out.size _
      have hbs : Below V4.heap.size V4 (V4.alloc (.cells #[.int .i64 a3, .int .i64 x, .int .i64 y, .slice A10 nb c10] 41)) := (Below.refl _ _).alloc (Nat.le_refl _) _
      have hz5 : (V4.alloc (.cells #[.int .i64 a3, .int .i64 x, .int .i64 y, .slice A10 nb c10] 41)).heap[V4.heap.size]? = some (.cells #[.int .i64 a3, .int .i64 x, .int .i64 y, .slice A10 nb c10] 41 (0, 0)) := World.alloc_heap_new _ _
      obtain ⟨V5, hW2⟩ : ∃ V, V4.alloc (.cells #[.int .i64 a3, .int .i64 x, .int .i64 y, .slice A10 nb c10] 41) = V := ⟨_, rfl⟩
      rw [hW2] at hbq hbs hz5
      (try rw [hW2])
      clear hW2
      have HB_V5 := Lib.hid hbq
      have HZ5 := Lib.hid hz5
      have HO3 := Lib.hid (own_below HO3.out hbs)
      have HO10 := Lib.hid (own_below HO10.out hbs)
      have SZ5 := Lib.hid hbs.size
      refine hK.out _ _ hbq (fun _ => ?_)
      clear hK K hbq hbs hz5
      try dsimp only
      (try simp only [Act.put, List.getElem_toArray, List.getElem_cons_succ, List.getElem_cons_zero, List.setIfInBounds_toArray, List.set_cons_zero, List.set_cons_succ])
      refine wpAnyH_ready (rs := [13]) (by kernel_rfl) (by simp) (AllReadyH.cons rfl (fun K hK => ?_) AllReadyH.nil)
      (try rw [if_pos (by rfl)])
      refine opWp_app (.tmp 41) (.tmp 50) 26 rfl (w2.heap.size) 41 i41 _ 4 48 Try.underlying26 q41 r41 s41 t41 rfl (by decide) _ nL (cellsM R) rfl HO3.out ⟨V4.heap.size, 0, none⟩ 1 1 [.int .i64 a3, .int .i64 x, .int .i64 y, .slice A10 nb c10] rfl rfl (four_at HZ5.out) (four_one _ _ _ _ _ _) (by unfold maxLen; omega) (by omega) (Nat.le_trans HB_V4.out.size SZ5.out) ?_
      intro v9 V6 hown hgr _
      have hbq : Below w2.heap.size w2 V6 := HB_V5.out.trans ((But.grown hgr).to_below HB_V5.out.size (fun b e => by have h1 := (HO3.out.lt b e).1; exact (by omega)))
      have HO10 := Lib.hid (But.row (But.grown hgr) HO10.out (fun g e e2 => SEP.out g e e2))
      refine hK.out _ _ hbq (fun _ => ?_)
      clear hK K
      try dsimp only
      (try simp only [Act.put, List.getElem_toArray, List.getElem_cons_succ, List.getElem_cons_zero, List.setIfInBounds_toArray, List.set_cons_zero, List.set_cons_succ])
      refine wpAnyH_take (i := 14) (v := .pointer (some ⟨w.heap.size, 3, none⟩)) rfl (by kernel_rfl) (by kernel_rfl) (by kernel_rfl) (fun _ _ _ h => h) (Or.inl ⟨by rfl, ?_⟩) (by assumption) ?_
      · intro wx hs1; go_simp
      (try simp only [Act.put, List.getElem_toArray, List.getElem_cons_succ, List.getElem_cons_zero, List.setIfInBounds_toArray, List.set_cons_zero, List.set_cons_succ])
      obtain ⟨A9, c9, rfl⟩ := own_form hown
      have HO13 := Lib.hid hown
      have HB6 := Lib.hid hbq
      have HB1w := Lib.hid (HBW.out.trans (hbq.mono HBW.out.size))
      clear hown hgr hbq
      obtain ⟨⟨k0, k1, k2, k3, k4⟩, ⟨f0, f1, f2, f3, f4⟩⟩ := five_cells (HX4.out V6 HB1w.out)
      refine wpAnyH_done (by kernel_rfl) ?_ _
      unfold tailQ wpOp
      simp only [List.getElem?_toArray, List.getElem?_cons_succ, List.getElem?_cons_zero]
      rw [if_pos (by rfl)]
      have hcap := own_cap HO13.out (by omega)
      have hb3s := heap_setCells (i := 3) (u := .slice A9 (nL + 1) c9) (HX4.out V6 HB1w.out)
      have hbt : But (fun q => q = w.heap.size) V6 (V6.setCell ⟨w.heap.size, 3, none⟩ (.slice A9 (nL + 1) c9)) := (But.refl _ _).set ⟨w.heap.size, 3, none⟩ _ (.inl rfl)
      have hpx3 := hbt.box (HX8.out V6 HB1w.out) (by omega)
      simp only [List.setIfInBounds_toArray, List.set_cons_zero, List.set_cons_succ] at hb3s
      have HB3S := Lib.hid hb3s
      have HBT := Lib.hid hbt
      have HPX3 := Lib.hid hpx3
      refine Or.inl ?_
      go_simp
      obtain ⟨W9, hW9⟩ : ∃ W9, V6.setCell ⟨w.heap.size, 3, none⟩ (.slice A9 (nL + 1) c9) = W9 := ⟨_, rfl⟩
      rw [hW9] at HB3S HBT HPX3 ⊢
      clear k0 k1 k2 k3 k4 f0 f1 f2 f3 f4 hb3s hbt hpx3 hW9
      obtain ⟨⟨k0, k1, k2, k3, k4⟩, ⟨f0, f1, f2, f3, f4⟩⟩ := five_cells HB3S.out
      go_upto_region 11 with fail
      have hb3s := heap_setCells (i := 2) (u := .int .i64 (a3 + 1)) HB3S.out
      have hbt : But (fun q => q = w.heap.size) W9 (W9.setCell ⟨w.heap.size, 2, none⟩ (.int .i64 (a3 + 1))) := (But.refl _ _).set ⟨w.heap.size, 2, none⟩ _ (.inl rfl)
      have hpx3 := hbt.box HPX3.out (by omega)
      simp only [List.setIfInBounds_toArray, List.set_cons_zero, List.set_cons_succ] at hb3s
      have HB4S := Lib.hid hb3s
      have HBT4 := Lib.hid (HBT.out.trans hbt (fun _ _ e => e))
      have HPX4 := Lib.hid hpx3
      obtain ⟨WA, hWA⟩ : ∃ W, W9.setCell ⟨w.heap.size, 2, none⟩ (.int .i64 (a3 + 1)) = W := ⟨_, rfl⟩
      rw [hWA] at HB4S HBT4 HPX4 ⊢
      clear k0 k1 k2 k3 k4 f0 f1 f2 f3 f4 hb3s hbt hpx3 hWA
      have HX4A : Hid (∀ W, But (fun q => q = w.heap.size + 1) WA W → W.heap[w.heap.size]? = some (.cells #[.int .i64 a1, .int .i64 a2, .int .i64 (a3 + 1), .slice A9 (nL + 1) c9, .slice AD nD cD] 29 (0, 0))) := Lib.hid fun W hb => hb.box HB4S.out (by omega)
      have HX8A : Hid (∀ W, Below WA.heap.size WA W → W.heap[w.heap.size + 1]? = some (.cells #[.int .i64 0, .int .i64 0, .int .i64 0, .slice none 0 0, .slice none 0 0] 29 (0, 0))) := Lib.hid fun W hb => (hb.block _ (Array.getElem?_eq_some_iff.1 HPX4.out).1).trans HPX4.out
      have hS0 : (fun W => But (fun q => q = w.heap.size + 1) WA W) WA.drew := (But.refl _ _).drew
      refine wp_region_held_drew (S := fun W => But (fun q => q = w.heap.size + 1) WA W) rfl hS0 (fun hHeld => ?_)
      simp only [List.size_toArray, List.length_cons, List.length_nil, Nat.reduceAdd]
      have HB0 : Hid (Below WA.heap.size WA WA.drew) := Lib.hid (Below.refl _ _).drew
      obtain ⟨V0, hV0⟩ : ∃ V, WA.drew = V := ⟨_, rfl⟩
      rw [hV0] at hHeld hS0 HB0 ⊢
      clear hV0
      refine wpAnyH_take (i := 0) (v := .agg #[.int .i64 a1, .int .i64 a2, .int .i64 (a3 + 1), .slice A9 (nL + 1) c9, .slice AD nD cD]) rfl (by kernel_rfl) (by kernel_rfl) (by kernel_rfl) (fun _ _ _ h => h) (Or.inl ⟨by rfl, ?_⟩) (by assumption) ?_
      · intro wx hs1; obtain ⟨k0, k1, k2, k3, k4⟩ := (five_cells (HX4A.out wx hs1)).1; go_simp
      (try simp only [Act.put, List.getElem_toArray, List.getElem_cons_zero, List.setIfInBounds_toArray, List.set_cons_zero, List.set_cons_succ])
      refine wpAnyH_take (i := 1) (v := .pointer (some ⟨w.heap.size, 2, none⟩)) rfl (by kernel_rfl) (by kernel_rfl) (by kernel_rfl) (fun _ _ _ h => h) (Or.inl ⟨by rfl, ?_⟩) (by assumption) ?_
      · intro wx hs1; go_simp
      (try simp only [Act.put, List.getElem_toArray, List.getElem_cons_succ, List.getElem_cons_zero, List.setIfInBounds_toArray, List.set_cons_zero, List.set_cons_succ])
      refine wpAnyH_take (i := 2) (v := .int .i64 (a3 + 1)) rfl (by kernel_rfl) (by kernel_rfl) (by kernel_rfl) (fun _ _ _ h => h) (Or.inl ⟨by rfl, ?_⟩) (by assumption) ?_
      · intro wx hs1; obtain ⟨k0, k1, k2, k3, k4⟩ := (five_cells (HX4A.out wx hs1)).1; go_simp
      (try simp only [Act.put, List.getElem_toArray, List.getElem_cons_succ, List.getElem_cons_zero, List.setIfInBounds_toArray, List.set_cons_zero, List.set_cons_succ])
      refine wpAnyH_take (i := 3) (v := .int .i64 a3) rfl (by kernel_rfl) (by kernel_rfl) (by kernel_rfl) (fun _ _ _ h => h) (Or.inl ⟨by rfl, ?_⟩) (by assumption) ?_
      · intro wx hs1; go_simp
      (try simp only [Act.put, List.getElem_toArray, List.getElem_cons_succ, List.getElem_cons_zero, List.setIfInBounds_toArray, List.set_cons_zero, List.set_cons_succ])
      obtain ⟨⟨j0, j1, j2, j3, j4⟩, ⟨g0, g1, g2, g3, g4⟩⟩ := five_cells (HX8A.out V0 HB0.out)
      refine wpAnyH_ready (rs := [4]) (by kernel_rfl) (by simp) (AllReadyH.cons rfl (fun K hK => ?_) AllReadyH.nil)
      go_simp
      try dsimp only
      have hW5x := put5 (HX8A.out V0 HB0.out) (.int .i64 a1) (.int .i64 a2) (.int .i64 (a3 + 1)) (.slice A9 (nL + 1) c9) (.slice AD nD cD)
      have hW5b := put5_but V0 (w.heap.size + 1) (.int .i64 a1) (.int .i64 a2) (.int .i64 (a3 + 1)) (.slice A9 (nL + 1) c9) (.slice AD nD cD)
      unfold put5W at hW5x hW5b
      obtain ⟨W5, hqW5⟩ : ∃ V, put5W V0 (w.heap.size + 1) (.int .i64 a1) (.int .i64 a2) (.int .i64 (a3 + 1)) (.slice A9 (nL + 1) c9) (.slice AD nD cD) = V := ⟨_, rfl⟩
      unfold put5W at hqW5
      rw [hqW5] at hW5x hW5b ⊢
      clear hqW5 j0 j1 j2 j3 j4 g0 g1 g2 g3 g4
      have hS := hS0.trans hW5b (fun _ _ e => e)
      refine hK.out _ _ hS (fun _ => ?_)
      clear hK K
      (try simp only [Act.put, List.getElem_toArray, List.getElem_cons_succ, List.getElem_cons_zero, List.setIfInBounds_toArray, List.set_cons_zero, List.set_cons_succ])
      refine wpAnyH_take (i := 5) (v := .int .i64 a3) rfl (by kernel_rfl) (by kernel_rfl) (by kernel_rfl) (fun _ _ _ h => h) (Or.inl ⟨by rfl, ?_⟩) (by assumption) ?_
      · intro wx hs1; go_simp
      (try simp only [Act.put, List.getElem_toArray, List.getElem_cons_succ, List.getElem_cons_zero, List.setIfInBounds_toArray, List.set_cons_zero, List.set_cons_succ])
      refine wpAnyH_take (i := 6) (v := .int .i64 0) rfl (by kernel_rfl) (by kernel_rfl) (by kernel_rfl) (fun _ _ _ h => h) (Or.inl ⟨by rfl, ?_⟩) (by assumption) ?_
      · intro wx hs1; go_simp
      (try simp only [Act.put, List.getElem_toArray, List.getElem_cons_succ, List.getElem_cons_zero, List.setIfInBounds_toArray, List.set_cons_zero, List.set_cons_succ])
      refine wpAnyH_done (by kernel_rfl) ?_ _
      obtain ⟨⟨z0, z1, z2, z3, z4⟩, _⟩ := five_cells hW5x
      have hbh := HB.out.trans (HB1w.out.mono HB.out.size)
      have hbi := hbh.trans (HBT4.out.to_below hbh.size (fun b e => by omega))
      have hbj := hbi.trans (HB0.out.mono hbi.size)
      have hbk := hbj.trans (hW5b.to_below hbj.size (fun b e => by omega))
      have hw2s : w.heap.size + 2 ≤ w2.heap.size := by have := HS1.out; have := HBW.out.size; omega
      have hro := hW5b.row (own_below (HBT4.out.row HO13.out (fun g e e2 => by have h9 := (HO13.out.lt g e).1; have h10 : g = w.heap.size := e2; have := BG.out; omega)) HB0.out) (fun g e e2 => by have h9 := (HO13.out.lt g e).1; have h10 : g = w.heap.size + 1 := e2; have := BG.out; omega)
      have hrb := hW5b.row (own_below (HBT4.out.row HO10.out (fun g e e2 => by have h9 := (HO10.out.lt g e).1; have h10 : g = w.heap.size := e2; have := BG.out; omega)) HB0.out) (fun g e e2 => by have h9 := (HO10.out.lt g e).1; have h10 : g = w.heap.size + 1 := e2; have := BG.out; omega)
      have hH := HH.out.keep hbk
      have HLN := HLB0.out
      subst HLN
      go_wp2
      exact bodyPost_ret (v := .tuple #[.agg #[.int .i64 a1, .int .i64 a2, .int .i64 (a3 + 1), .slice A9 (nL + 1) c9, .slice AD nD cD], .int .i64 a3, .int .i64 0]) (by simp [results, Try.results54, go_sem, z0, z1, z2, z3, z4]) rfl ⟨A9, c9, rfl, ⟨⟨a3, x, y, l, A10, c10⟩, put_at hH hcap (by omega) (own_rds hro (fun b e => by have := HRS.out b e; have := BG.out; omega)) (own_rds hrb (fun b e => by have := HRS.out b e; have := BG.out; omega))⟩, hbk⟩
  · go_simp
    have hbq : Below w2.heap.size w2 (V0.alloc (.cells #[] 5)) := HB_V0.out.alloc HB_V0.out.size _
    have hbs : Below V0.heap.size V0 (V0.alloc (.cells #[] 5)) := (Below.refl _ _).alloc (Nat.le_refl _) _
    have hz : (V0.alloc (.cells #[] 5)).heap.size = V0.heap.size + 1 := by simp
    have hon : (V0.alloc (.cells #[] 5)).ownsRow w2.heap.size 5 1 (.slice (some ⟨V0.heap.size, 0, none⟩) 0 0) 0 [] := ⟨rfl, .inr ⟨V0.heap.size, 0, #[], rfl, HB_V0.out.size, World.alloc_heap_new V0 _, Nat.le_refl _, Nat.zero_le _, rfl, rfl⟩⟩
    obtain ⟨V1, hW2⟩ : ∃ V, V0.alloc (.cells #[] 5) = V := ⟨_, rfl⟩
    rw [hW2] at hbq hbs hz hon
    (try rw [hW2])
    clear hW2
    have HB_V1 := Lib.hid hbq
    have HZ_V1 := Lib.hid hz
    have HO46 := Lib.hid hon
    have LT46 := Lib.hid (fun g e => (hon.lt g e))
    refine hK.out _ _ hbq (fun _ => ?_)
    clear hK K hbq hbs hz hon
    try dsimp only
    (try simp only [Act.put, List.getElem_toArray, List.getElem_cons_succ, List.getElem_cons_zero, List.setIfInBounds_toArray, List.set_cons_zero, List.set_cons_succ])
    refine wpAnyH_ready (rs := [0]) (by kernel_rfl) (by simp) (AllReadyH.cons rfl (fun K hK => ?_) AllReadyH.nil)
    go_simp
    have hbq : Below w2.heap.size w2 (V1.alloc (.cells #[] 41)) := HB_V1.out.alloc HB_V1.out.size _
    have hbs : Below V1.heap.size V1 (V1.alloc (.cells #[] 41)) := (Below.refl _ _).alloc (Nat.le_refl _) _
    have hz : (V1.alloc (.cells #[] 41)).heap.size = V1.heap.size + 1 := by simp
    have hon : (V1.alloc (.cells #[] 41)).ownsRow V1.heap.size 41 4 (.slice (some ⟨V1.heap.size, 0, none⟩) 0 0) 0 [] := ⟨rfl, .inr ⟨V1.heap.size, 0, #[], rfl, (by have := HB_V1.out.size; first | exact Nat.le_refl _ | omega), World.alloc_heap_new V1 _, Nat.le_refl _, Nat.zero_le _, rfl, rfl⟩⟩
    obtain ⟨V2, hW2⟩ : ∃ V, V1.alloc (.cells #[] 41) = V := ⟨_, rfl⟩
    rw [hW2] at hbq hbs hz hon
    (try rw [hW2])
    clear hW2
    have HB_V2 := Lib.hid hbq
    have HZ_V2 := Lib.hid hz
    have HO38 := Lib.hid hon
    have LT38 := Lib.hid (fun g e => (hon.lt g e))
    have HO46 := Lib.hid (own_below HO46.out hbs)
    refine hK.out _ _ hbq (fun _ => ?_)
    clear hK K hbq hbs hz hon
    try dsimp only
    (try simp only [Act.put, List.getElem_toArray, List.getElem_cons_succ, List.getElem_cons_zero, List.setIfInBounds_toArray, List.set_cons_zero, List.set_cons_succ])
    have BG := Lib.hid HB_V1.out.size
    have SZ_V2 := Lib.hid (show V1.heap.size ≤ V2.heap.size by have := HZ_V2.out; omega)
    refine wpAnyH_ready (rs := [3]) (by kernel_rfl) (by simp) (AllReadyH.cons rfl (fun K hK => ?_) AllReadyH.nil)
    (try rw [if_pos (by rfl)])
    refine opWp_appR (.tmp 38) (.tmp 40) 26 rfl (V1.heap.size) 41 i41 _ 4 48 Try.underlying26 q41 r41 s41 t41 rfl (by decide) _ 0 [] rfl HO38.out AL nL cL (cellsM R) S rfl HLR.out (HRW.out V2 HB_V2.out) HC1.out (by unfold maxLen; omega) (by omega) SZ_V2.out ?_
    intro v9 V3 hown hgr hor
    have hbq : Below w2.heap.size w2 V3 := HB_V2.out.trans ((But.grown hgr).to_below HB_V2.out.size (fun b e => by have h1 := (HO38.out.lt b e).1; have h2 := BG.out; exact (by omega)))
    have HO46 := Lib.hid (But.row (But.grown hgr) HO46.out (fun g e e2 => by have h1 := LT46.out g e; have h2 := LT38.out g e2; omega))
    simp only [Nat.zero_add, List.nil_append] at hown
    obtain ⟨A3, c3, rfl⟩ := own_form hown
    have HO3 := Lib.hid hown
    have LT3 := Lib.hid (fun g e => (hown.lt g e))
    have HR3 := Lib.hid hor
    have HB_V3 := Lib.hid hbq
    have HG_V3 := Lib.hid hgr.size
    refine hK.out _ _ hbq (fun _ => ?_)
    clear hK K hown hgr hor hbq
    try dsimp only
    (try simp only [Act.put, List.getElem_toArray, List.getElem_cons_succ, List.getElem_cons_zero, List.setIfInBounds_toArray, List.set_cons_zero, List.set_cons_succ])
    refine wpAnyH_ready (rs := [10]) (by kernel_rfl) (by simp) (AllReadyH.cons rfl (fun K hK => ?_) AllReadyH.nil)
    (try rw [if_pos (by rfl)])
    refine opWp_appR (.tmp 46) (.tmp 47) 39 rfl (w2.heap.size) 5 i5 _ 1 1 Try.underlying39 q5 r5 s5 t5 rfl (by decide) _ 0 [] rfl HO46.out Ab nb cb (l.map byteCell) S rfl HLB.out (HRB.out V3 HB_V3.out) (byteCell_one l) (by unfold maxLen; omega) (by omega) HB_V3.out.size ?_
    intro v9 V4 hown hgr hor
    have hbq : Below w2.heap.size w2 V4 := HB_V3.out.trans ((But.grown hgr).to_below HB_V3.out.size (fun b e => by have h1 := (HO46.out.lt b e).1; exact (by omega)))
    have HO3 := Lib.hid (But.row (But.grown hgr) HO3.out (fun g e e2 => by have h1 := LT3.out g e; have h2 := LT46.out g e2; omega))
    simp only [Nat.zero_add, List.nil_append] at hown
    obtain ⟨A10, c10, rfl⟩ := own_form hown
    have HO10 := Lib.hid hown
    have LT10 := Lib.hid (fun g e => (hown.lt g e))
    have HR10 := Lib.hid hor
    have HB_V4 := Lib.hid hbq
    have HG_V4 := Lib.hid hgr.size
    refine hK.out _ _ hbq (fun _ => ?_)
    clear hK K hown hgr hor hbq
    try dsimp only
    (try simp only [Act.put, List.getElem_toArray, List.getElem_cons_succ, List.getElem_cons_zero, List.setIfInBounds_toArray, List.set_cons_zero, List.set_cons_succ])
    have SZ_V4 := Lib.hid (show V1.heap.size ≤ V4.heap.size by have := HZ_V2.out; have := HG_V3.out; have := HG_V4.out; omega)
    have SEP : Hid (∀ g, (Value.slice A10 nb c10).ownBlock = some g → (Value.slice A3 nL c3).ownBlock ≠ some g) := Lib.hid (fun g e e2 => by have h2 := LT3.out g e2; exact HR10.out.elim (fun q => by have h1 := LT46.out g (q ▸ e); omega) (fun q => by rw [q] at e; injection e with e; omega))
    refine wpAnyH_take (i := 11) (v := .agg #[.int .i64 a3, .int .i64 x, .int .i64 y, .slice A10 nb c10]) rfl (by kernel_rfl) (by kernel_rfl) (by kernel_rfl) (fun _ _ _ h => h) (Or.inl ⟨by rfl, ?_⟩) (by assumption) ?_
    · intro wx hs1; go_simp
    (try simp only [Act.put, List.getElem_toArray, List.getElem_cons_succ, List.getElem_cons_zero, List.setIfInBounds_toArray, List.set_cons_zero, List.set_cons_succ])
    refine wpAnyH_ready (rs := [12]) (by kernel_rfl) (by simp) (AllReadyH.cons rfl (fun K hK => ?_) AllReadyH.nil)
    go_simp
    have hbq : Below w2.heap.size w2 (V4.alloc (.cells #[.int .i64 a3, .int .i64 x, .int .i64 y, .slice A10 nb c10] 41)) := HB_V4.out.alloc HB_V4.out.size _
    have hbs : Below V4.heap.size V4 (V4.alloc (.cells #[.int .i64 a3, .int .i64 x, .int .i64 y, .slice A10 nb c10] 41)) := (Below.refl _ _).alloc (Nat.le_refl _) _
    have hz5 : (V4.alloc (.cells #[.int .i64 a3, .int .i64 x, .int .i64 y, .slice A10 nb c10] 41)).heap[V4.heap.size]? = some (.cells #[.int .i64 a3, .int .i64 x, .int .i64 y, .slice A10 nb c10] 41 (0, 0)) := World.alloc_heap_new _ _
    obtain ⟨V5, hW2⟩ : ∃ V, V4.alloc (.cells #[.int .i64 a3, .int .i64 x, .int .i64 y, .slice A10 nb c10] 41) = V := ⟨_, rfl⟩
    rw [hW2] at hbq hbs hz5
    (try rw [hW2])
    clear hW2
    have HB_V5 := Lib.hid hbq
    have HZ5 := Lib.hid hz5
    have HO3 := Lib.hid (own_below HO3.out hbs)
    have HO10 := Lib.hid (own_below HO10.out hbs)
    have SZ5 := Lib.hid hbs.size
    refine hK.out _ _ hbq (fun _ => ?_)
    clear hK K hbq hbs hz5
    try dsimp only
    (try simp only [Act.put, List.getElem_toArray, List.getElem_cons_succ, List.getElem_cons_zero, List.setIfInBounds_toArray, List.set_cons_zero, List.set_cons_succ])
    refine wpAnyH_ready (rs := [13]) (by kernel_rfl) (by simp) (AllReadyH.cons rfl (fun K hK => ?_) AllReadyH.nil)
    (try rw [if_pos (by rfl)])
    refine opWp_app (.tmp 41) (.tmp 50) 26 rfl (V1.heap.size) 41 i41 _ 4 48 Try.underlying26 q41 r41 s41 t41 rfl (by decide) _ nL (cellsM R) rfl HO3.out ⟨V4.heap.size, 0, none⟩ 1 1 [.int .i64 a3, .int .i64 x, .int .i64 y, .slice A10 nb c10] rfl rfl (four_at HZ5.out) (four_one _ _ _ _ _ _) (by unfold maxLen; omega) (by omega) (Nat.le_trans SZ_V4.out SZ5.out) ?_
    intro v9 V6 hown hgr _
    have hbq : Below w2.heap.size w2 V6 := HB_V5.out.trans ((But.grown hgr).to_below HB_V5.out.size (fun b e => by have h1 := (HO3.out.lt b e).1; have h2 := BG.out; exact (by omega)))
    have HO10 := Lib.hid (But.row (But.grown hgr) HO10.out (fun g e e2 => SEP.out g e e2))
    refine hK.out _ _ hbq (fun _ => ?_)
    clear hK K
    try dsimp only
    (try simp only [Act.put, List.getElem_toArray, List.getElem_cons_succ, List.getElem_cons_zero, List.setIfInBounds_toArray, List.set_cons_zero, List.set_cons_succ])
    refine wpAnyH_take (i := 14) (v := .pointer (some ⟨w.heap.size, 3, none⟩)) rfl (by kernel_rfl) (by kernel_rfl) (by kernel_rfl) (fun _ _ _ h => h) (Or.inl ⟨by rfl, ?_⟩) (by assumption) ?_
    · intro wx hs1; go_simp
    (try simp only [Act.put, List.getElem_toArray, List.getElem_cons_succ, List.getElem_cons_zero, List.setIfInBounds_toArray, List.set_cons_zero, List.set_cons_succ])
    obtain ⟨A9, c9, rfl⟩ := own_form hown
    have HO13 := Lib.hid hown
    have HB6 := Lib.hid hbq
    have HB1w := Lib.hid (HBW.out.trans (hbq.mono HBW.out.size))
    clear hown hgr hbq
    obtain ⟨⟨k0, k1, k2, k3, k4⟩, ⟨f0, f1, f2, f3, f4⟩⟩ := five_cells (HX4.out V6 HB1w.out)
    refine wpAnyH_done (by kernel_rfl) ?_ _
    unfold tailQ wpOp
    simp only [List.getElem?_toArray, List.getElem?_cons_succ, List.getElem?_cons_zero]
    rw [if_pos (by rfl)]
    have hcap := own_cap HO13.out (by omega)
    have hb3s := heap_setCells (i := 3) (u := .slice A9 (nL + 1) c9) (HX4.out V6 HB1w.out)
    have hbt : But (fun q => q = w.heap.size) V6 (V6.setCell ⟨w.heap.size, 3, none⟩ (.slice A9 (nL + 1) c9)) := (But.refl _ _).set ⟨w.heap.size, 3, none⟩ _ (.inl rfl)
    have hpx3 := hbt.box (HX8.out V6 HB1w.out) (by omega)
    simp only [List.setIfInBounds_toArray, List.set_cons_zero, List.set_cons_succ] at hb3s
    have HB3S := Lib.hid hb3s
    have HBT := Lib.hid hbt
    have HPX3 := Lib.hid hpx3
    refine Or.inl ?_
    go_simp
    obtain ⟨W9, hW9⟩ : ∃ W9, V6.setCell ⟨w.heap.size, 3, none⟩ (.slice A9 (nL + 1) c9) = W9 := ⟨_, rfl⟩
    rw [hW9] at HB3S HBT HPX3 ⊢
    clear k0 k1 k2 k3 k4 f0 f1 f2 f3 f4 hb3s hbt hpx3 hW9
    obtain ⟨⟨k0, k1, k2, k3, k4⟩, ⟨f0, f1, f2, f3, f4⟩⟩ := five_cells HB3S.out
    go_upto_region 11 with fail
    have hb3s := heap_setCells (i := 2) (u := .int .i64 (a3 + 1)) HB3S.out
    have hbt : But (fun q => q = w.heap.size) W9 (W9.setCell ⟨w.heap.size, 2, none⟩ (.int .i64 (a3 + 1))) := (But.refl _ _).set ⟨w.heap.size, 2, none⟩ _ (.inl rfl)
    have hpx3 := hbt.box HPX3.out (by omega)
    simp only [List.setIfInBounds_toArray, List.set_cons_zero, List.set_cons_succ] at hb3s
    have HB4S := Lib.hid hb3s
    have HBT4 := Lib.hid (HBT.out.trans hbt (fun _ _ e => e))
    have HPX4 := Lib.hid hpx3
    obtain ⟨WA, hWA⟩ : ∃ W, W9.setCell ⟨w.heap.size, 2, none⟩ (.int .i64 (a3 + 1)) = W := ⟨_, rfl⟩
    rw [hWA] at HB4S HBT4 HPX4 ⊢
    clear k0 k1 k2 k3 k4 f0 f1 f2 f3 f4 hb3s hbt hpx3 hWA
    have HX4A : Hid (∀ W, But (fun q => q = w.heap.size + 1) WA W → W.heap[w.heap.size]? = some (.cells #[.int .i64 a1, .int .i64 a2, .int .i64 (a3 + 1), .slice A9 (nL + 1) c9, .slice AD nD cD] 29 (0, 0))) := Lib.hid fun W hb => hb.box HB4S.out (by omega)
    have HX8A : Hid (∀ W, Below WA.heap.size WA W → W.heap[w.heap.size + 1]? = some (.cells #[.int .i64 0, .int .i64 0, .int .i64 0, .slice none 0 0, .slice none 0 0] 29 (0, 0))) := Lib.hid fun W hb => (hb.block _ (Array.getElem?_eq_some_iff.1 HPX4.out).1).trans HPX4.out
    have hS0 : (fun W => But (fun q => q = w.heap.size + 1) WA W) WA.drew := (But.refl _ _).drew
    refine wp_region_held_drew (S := fun W => But (fun q => q = w.heap.size + 1) WA W) rfl hS0 (fun hHeld => ?_)
    simp only [List.size_toArray, List.length_cons, List.length_nil, Nat.reduceAdd]
    have HB0 : Hid (Below WA.heap.size WA WA.drew) := Lib.hid (Below.refl _ _).drew
    obtain ⟨V0, hV0⟩ : ∃ V, WA.drew = V := ⟨_, rfl⟩
    rw [hV0] at hHeld hS0 HB0 ⊢
    clear hV0
    refine wpAnyH_take (i := 0) (v := .agg #[.int .i64 a1, .int .i64 a2, .int .i64 (a3 + 1), .slice A9 (nL + 1) c9, .slice AD nD cD]) rfl (by kernel_rfl) (by kernel_rfl) (by kernel_rfl) (fun _ _ _ h => h) (Or.inl ⟨by rfl, ?_⟩) (by assumption) ?_
    · intro wx hs1; obtain ⟨k0, k1, k2, k3, k4⟩ := (five_cells (HX4A.out wx hs1)).1; go_simp
    (try simp only [Act.put, List.getElem_toArray, List.getElem_cons_zero, List.setIfInBounds_toArray, List.set_cons_zero, List.set_cons_succ])
    refine wpAnyH_take (i := 1) (v := .pointer (some ⟨w.heap.size, 2, none⟩)) rfl (by kernel_rfl) (by kernel_rfl) (by kernel_rfl) (fun _ _ _ h => h) (Or.inl ⟨by rfl, ?_⟩) (by assumption) ?_
    · intro wx hs1; go_simp
    (try simp only [Act.put, List.getElem_toArray, List.getElem_cons_succ, List.getElem_cons_zero, List.setIfInBounds_toArray, List.set_cons_zero, List.set_cons_succ])
    refine wpAnyH_take (i := 2) (v := .int .i64 (a3 + 1)) rfl (by kernel_rfl) (by kernel_rfl) (by kernel_rfl) (fun _ _ _ h => h) (Or.inl ⟨by rfl, ?_⟩) (by assumption) ?_
    · intro wx hs1; obtain ⟨k0, k1, k2, k3, k4⟩ := (five_cells (HX4A.out wx hs1)).1; go_simp
    (try simp only [Act.put, List.getElem_toArray, List.getElem_cons_succ, List.getElem_cons_zero, List.setIfInBounds_toArray, List.set_cons_zero, List.set_cons_succ])
    refine wpAnyH_take (i := 3) (v := .int .i64 a3) rfl (by kernel_rfl) (by kernel_rfl) (by kernel_rfl) (fun _ _ _ h => h) (Or.inl ⟨by rfl, ?_⟩) (by assumption) ?_
    · intro wx hs1; go_simp
    (try simp only [Act.put, List.getElem_toArray, List.getElem_cons_succ, List.getElem_cons_zero, List.setIfInBounds_toArray, List.set_cons_zero, List.set_cons_succ])
    obtain ⟨⟨j0, j1, j2, j3, j4⟩, ⟨g0, g1, g2, g3, g4⟩⟩ := five_cells (HX8A.out V0 HB0.out)
    refine wpAnyH_ready (rs := [4]) (by kernel_rfl) (by simp) (AllReadyH.cons rfl (fun K hK => ?_) AllReadyH.nil)
    go_simp
    try dsimp only
    have hW5x := put5 (HX8A.out V0 HB0.out) (.int .i64 a1) (.int .i64 a2) (.int .i64 (a3 + 1)) (.slice A9 (nL + 1) c9) (.slice AD nD cD)
    have hW5b := put5_but V0 (w.heap.size + 1) (.int .i64 a1) (.int .i64 a2) (.int .i64 (a3 + 1)) (.slice A9 (nL + 1) c9) (.slice AD nD cD)
    unfold put5W at hW5x hW5b
    obtain ⟨W5, hqW5⟩ : ∃ V, put5W V0 (w.heap.size + 1) (.int .i64 a1) (.int .i64 a2) (.int .i64 (a3 + 1)) (.slice A9 (nL + 1) c9) (.slice AD nD cD) = V := ⟨_, rfl⟩
    unfold put5W at hqW5
    rw [hqW5] at hW5x hW5b ⊢
    clear hqW5 j0 j1 j2 j3 j4 g0 g1 g2 g3 g4
    have hS := hS0.trans hW5b (fun _ _ e => e)
    refine hK.out _ _ hS (fun _ => ?_)
    clear hK K
    (try simp only [Act.put, List.getElem_toArray, List.getElem_cons_succ, List.getElem_cons_zero, List.setIfInBounds_toArray, List.set_cons_zero, List.set_cons_succ])
    refine wpAnyH_take (i := 5) (v := .int .i64 a3) rfl (by kernel_rfl) (by kernel_rfl) (by kernel_rfl) (fun _ _ _ h => h) (Or.inl ⟨by rfl, ?_⟩) (by assumption) ?_
    · intro wx hs1; go_simp
    (try simp only [Act.put, List.getElem_toArray, List.getElem_cons_succ, List.getElem_cons_zero, List.setIfInBounds_toArray, List.set_cons_zero, List.set_cons_succ])
    refine wpAnyH_take (i := 6) (v := .int .i64 0) rfl (by kernel_rfl) (by kernel_rfl) (by kernel_rfl) (fun _ _ _ h => h) (Or.inl ⟨by rfl, ?_⟩) (by assumption) ?_
    · intro wx hs1; go_simp
    (try simp only [Act.put, List.getElem_toArray, List.getElem_cons_succ, List.getElem_cons_zero, List.setIfInBounds_toArray, List.set_cons_zero, List.set_cons_succ])
    refine wpAnyH_done (by kernel_rfl) ?_ _
    obtain ⟨⟨z0, z1, z2, z3, z4⟩, _⟩ := five_cells hW5x
    have hbh := HB.out.trans (HB1w.out.mono HB.out.size)
    have hbi := hbh.trans (HBT4.out.to_below hbh.size (fun b e => by omega))
    have hbj := hbi.trans (HB0.out.mono hbi.size)
    have hbk := hbj.trans (hW5b.to_below hbj.size (fun b e => by omega))
    have hw2s : w.heap.size + 2 ≤ w2.heap.size := by have := HS1.out; have := HBW.out.size; omega
    have hro := hW5b.row (own_below (HBT4.out.row HO13.out (fun g e e2 => by have h9 := (HO13.out.lt g e).1; have h10 : g = w.heap.size := e2; have := BG.out; omega)) HB0.out) (fun g e e2 => by have h9 := (HO13.out.lt g e).1; have h10 : g = w.heap.size + 1 := e2; have := BG.out; omega)
    have hrb := hW5b.row (own_below (HBT4.out.row HO10.out (fun g e e2 => by have h9 := (HO10.out.lt g e).1; have h10 : g = w.heap.size := e2; have := BG.out; omega)) HB0.out) (fun g e e2 => by have h9 := (HO10.out.lt g e).1; have h10 : g = w.heap.size + 1 := e2; have := BG.out; omega)
    have hH := HH.out.keep hbk
    have HLN := HLB0.out
    subst HLN
    go_wp2
    exact bodyPost_ret (v := .tuple #[.agg #[.int .i64 a1, .int .i64 a2, .int .i64 (a3 + 1), .slice A9 (nL + 1) c9, .slice AD nD cD], .int .i64 a3, .int .i64 0]) (by simp [results, Try.results54, go_sem, z0, z1, z2, z3, z4]) rfl ⟨A9, c9, rfl, ⟨⟨a3, x, y, l, A10, c10⟩, put_at hH hcap (by omega) (own_rds hro (fun b e => by have := HRS.out b e; have := BG.out; omega)) (own_rds hrb (fun b e => by have := HRS.out b e; have := BG.out; omega))⟩, hbk⟩
end Go.Proofs
