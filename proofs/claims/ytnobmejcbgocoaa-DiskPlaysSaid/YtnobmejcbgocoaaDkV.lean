/-
  What the program's calls on a disk do, by its data. Conditions: as each theorem names them.
-/
import Derived.Test.YtnobmejcbgocoaaDkU
import Derived.Test.YtnobmejcbgocoaaDkR
namespace Go.Proofs
open Go Go.RowKit Sm Go.Lib Go.Maps Go.WideMaps
theorem Sm.done_M {B : Nat → Prop} {w w' : World} {p Mb base : Nat} {s : DSt} {G G2 : List FileM} {er : Int} (h : Done w w' p Mb base s G G2 er) (hp : B p) (hM : B Mb) (hG : ∀ f ∈ G, ∀ b, f.sl.ownBlock = some b → B b) (hG2 : ∀ f ∈ G2, ∀ b, f.sl.ownBlock = some b → B b ∨ w.heap.size ≤ b) :
    er = (doneM s (G.map datF) (G2.map datF)).2.2 ∧ StepM B w w' p (doneM s (G.map datF) (G2.map datF)) := by
  unfold doneM StepM
  have hm : ∀ b, DMay p Mb b → B b := fun b e => by
    rcases e with e | e
    · rw [e]; exact hp
    · rw [e]; exact hM
  rcases h with ⟨h1, rfl, h3, h4⟩ | ⟨h1, rfl, h3, h4⟩
  · rw [if_pos h1]
    exact ⟨rfl, ⟨Mb, base, G, h3, rfl, .inl hp, .inl hM, fun f hf b e => .inl (hG f hf b e)⟩, h4.mono (fun b _ e => hm b e)⟩
  · rw [if_neg (by rw [h1]; decide)]
    exact ⟨rfl, ⟨Mb, base, G2, h3, rfl, .inl hp, .inl hM, hG2⟩, h4.mono (fun b _ e => hm b e)⟩
theorem Sm.sync_M {B : Nat → Prop} {p : Nat} {s : DSt} {L : List (List (BitVec 8) × List (BitVec 8) × Nat)} (x : ByteArray) (w : World) (h : Dk B w p s L) (hxz : x.size ≤ 1000000) (hl : L.length ≤ 1000000) :
    Calls Try.prog 17 #[.pointer (some ⟨p, 0, none⟩), .string x] w fun e w' => e = .returned (.int .i64 (synM s L (strL x)).2.2) ∧ StepM B w w' p (synM s L (strL x)) := by
  have h0 := h
  obtain ⟨Mb, base, G, hD, rfl, hp, hM, hG⟩ := h
  rw [List.length_map] at hl
  refine (sync_any x w hD hxz hl).mono ?_
  rintro e w' ⟨v, why, er, rfl, hv, hc⟩
  unfold synM
  rcases hv with ⟨k1, k2, rfl⟩ | ⟨k1, k2, k3, rfl⟩ | ⟨k1, f, k2, k3, k4, rfl⟩
  · rcases hc with ⟨_, rfl, _, c4⟩ | ⟨f, _, _, _, c4, _⟩
    · rw [if_pos k1]
      exact ⟨rfl, step_same h0 c4 _⟩
    · exact absurd c4 (by decide)
  · rcases hc with ⟨_, rfl, _, c4⟩ | ⟨f, _, _, _, c4, _⟩
    · rw [if_neg (by rw [k1]; decide), get_none k2]
      exact ⟨rfl, step_same h0 c4 _⟩
    · exact absurd c4 (by decide)
  · rcases hc with ⟨c1, _⟩ | ⟨g, c1, c2, _, _, c5⟩
    · exact absurd rfl c1
    · rw [if_neg (by rw [k1]; decide), ← c2, get_some hD.sort c1]
      have hd := done_M c5 hp hM hG (fun f' hf' b e => by
        rcases mem_put.1 hf' with rfl | ⟨h1, _⟩
        · exact .inl (hG g c1 b e)
        · exact .inl (hG f' h1 b e))
      rw [put_map] at hd
      exact ⟨by rw [hd.1]; rfl, hd.2⟩
theorem Sm.cut_M {B : Nat → Prop} {p : Nat} {s : DSt} {L : List (List (BitVec 8) × List (BitVec 8) × Nat)} (x : ByteArray) (k : Int) (w : World) (h : Dk B w p s L) (hxz : x.size ≤ 1000000) (hl : L.length ≤ 1000000) :
    Calls Try.prog 18 #[.pointer (some ⟨p, 0, none⟩), .string x, .int .i64 k] w fun e w' => e = .returned (.int .i64 (cutM s L (strL x) k).2.2) ∧ StepM B w w' p (cutM s L (strL x) k) := by
  have h0 := h
  obtain ⟨Mb, base, G, hD, rfl, hp, hM, hG⟩ := h
  rw [List.length_map] at hl
  refine (cutd_any x k w hD hxz hl).mono ?_
  rintro e w' ⟨v, why, er, rfl, hv, hc⟩
  unfold cutM
  rcases hv with ⟨k1, k2, rfl⟩ | ⟨k1, k2, k3, rfl⟩ | ⟨k1, f, k2, k3, k4, rfl⟩
  · rcases hc with ⟨_, rfl, _, c4⟩ | ⟨f, _, _, _, c4, _⟩
    · rw [if_pos k1]
      exact ⟨rfl, step_same h0 c4 _⟩
    · exact absurd c4 (by decide)
  · rcases hc with ⟨_, rfl, _, c4⟩ | ⟨f, _, _, _, c4, _⟩
    · rw [if_neg (by rw [k1]; decide), get_none k2]
      exact ⟨rfl, step_same h0 c4 _⟩
    · exact absurd c4 (by decide)
  · rcases hc with ⟨c1, _⟩ | ⟨g, c1, c2, _, _, c5⟩
    · exact absurd rfl c1
    · rw [if_neg (by rw [k1]; decide), ← c2, get_some hD.sort c1]
      dsimp only
      rcases c5 with ⟨d1, rfl, _, d4⟩ | ⟨d1, d2, A', c', d3, d4⟩
      · rw [if_pos (show k < 0 ∨ ((datF g).2.1.length : Int) < k from d1)]
        exact ⟨rfl, step_same h0 d4 _⟩
      · rw [if_neg (show ¬ (k < 0 ∨ ((datF g).2.1.length : Int) < k) from fun e => by have e2 : k < 0 ∨ (g.bytes.length : Int) < k := e; omega)]
        have hd := done_M d3 hp hM hG (fun f' hf' b e => by
          rcases mem_put.1 hf' with rfl | ⟨h1, _⟩
          · exact .inr (d4 b e)
          · exact .inl (hG f' h1 b e))
        rw [put_map] at hd
        exact ⟨by rw [hd.1]; rfl, hd.2⟩
theorem Sm.remove_M {B : Nat → Prop} {p : Nat} {s : DSt} {L : List (List (BitVec 8) × List (BitVec 8) × Nat)} (x : ByteArray) (w : World) (h : Dk B w p s L) (hxz : x.size ≤ 1000000) :
    Calls Try.prog 19 #[.pointer (some ⟨p, 0, none⟩), .string x] w fun e w' => e = .returned (.int .i64 (remM s L (strL x)).2.2) ∧ StepM B w w' p (remM s L (strL x)) := by
  have h0 := h
  obtain ⟨Mb, base, G, hD, rfl, hp, hM, hG⟩ := h
  refine (remove_any x w hD hxz).mono ?_
  rintro e w' ⟨v, why, er, rfl, hv, hc⟩
  unfold remM
  rcases hv with ⟨k1, k2, rfl⟩ | ⟨k1, k2, k3, rfl⟩ | ⟨k1, f, k2, k3, k4, rfl⟩
  · rcases hc with ⟨_, rfl, _, c4⟩ | ⟨f, _, _, _, c4, _⟩
    · rw [if_pos k1]
      exact ⟨rfl, step_same h0 c4 _⟩
    · exact absurd c4 (by decide)
  · rcases hc with ⟨_, rfl, _, c4⟩ | ⟨f, _, _, _, c4, _⟩
    · rw [if_neg (by rw [k1]; decide), get_none k2]
      exact ⟨rfl, step_same h0 c4 _⟩
    · exact absurd c4 (by decide)
  · rcases hc with ⟨c1, _⟩ | ⟨g, c1, c2, _, _, c5⟩
    · exact absurd rfl c1
    · have hd := done_M c5 hp hM hG (fun f' hf' b e => .inl (hG f' (mem_del.1 hf').1 b e))
      rw [del_map] at hd
      rw [if_neg (by rw [k1]; decide), ← c2, get_some hD.sort c1]
      rw [← c2] at hd
      exact ⟨by rw [hd.1], hd.2⟩
theorem Sm.rename_M {B : Nat → Prop} {p : Nat} {s : DSt} {L : List (List (BitVec 8) × List (BitVec 8) × Nat)} (x y : ByteArray) (w : World) (h : Dk B w p s L) (hxz : x.size ≤ 1000000) (hyz : y.size ≤ 1000000) (hl : L.length ≤ 1000000) :
    Calls Try.prog 20 #[.pointer (some ⟨p, 0, none⟩), .string x, .string y] w fun e w' => e = .returned (.int .i64 (renM s L (strL x) (strL y)).2.2) ∧ StepM B w w' p (renM s L (strL x) (strL y)) := by
  have h0 := h
  obtain ⟨Mb, base, G, hD, rfl, hp, hM, hG⟩ := h
  rw [List.length_map] at hl
  refine (rename_any x y w hD hxz hyz hl).mono ?_
  rintro e w' ⟨v, why, er, rfl, hv, hc⟩
  unfold renM
  rcases hv with ⟨k1, k2, rfl⟩ | ⟨k1, k2, k3, rfl⟩ | ⟨k1, f, k2, k3, k4, rfl⟩
  · rcases hc with ⟨_, rfl, _, c4⟩ | ⟨f, _, _, _, c4, _⟩
    · rw [if_pos k1]
      exact ⟨rfl, step_same h0 c4 _⟩
    · exact absurd c4 (by decide)
  · rcases hc with ⟨_, rfl, _, c4⟩ | ⟨f, _, _, _, c4, _⟩
    · rw [if_neg (by rw [k1]; decide), get_none k2]
      exact ⟨rfl, step_same h0 c4 _⟩
    · exact absurd c4 (by decide)
  · rcases hc with ⟨c1, _⟩ | ⟨g, c1, c2, _, _, c5⟩
    · exact absurd rfl c1
    · have hd := done_M c5 hp hM hG (fun f' hf' b e => by
        rcases mem_put.1 hf' with rfl | ⟨h1, _⟩
        · exact .inl (hG g c1 b e)
        · exact .inl (hG f' (mem_del.1 h1).1 b e))
      rw [put_map, del_map] at hd
      rw [if_neg (by rw [k1]; decide), ← c2, get_some hD.sort c1]
      rw [← c2] at hd
      exact ⟨by rw [hd.1]; rfl, hd.2⟩
theorem Sm.append_M {B : Nat → Prop} {p : Nat} {s : DSt} {L : List (List (BitVec 8) × List (BitVec 8) × Nat)} (x : ByteArray) (N : Nat) (Ab : Option Addr) (m cb : Nat) (l : List (BitVec 8)) (w : World) (h : Dk B w p s L) (hxz : x.size ≤ 1000000) (hl : L.length ≤ 1000000)
    (hN : N ≤ w.heap.size) (hrd : ∀ W, But B w W → Rd W N Ab l) (hlm : l.length = m) (hm : m ≤ 1000000000) :
    Calls Try.prog 16 #[.pointer (some ⟨p, 0, none⟩), .string x, .slice Ab m cb] w fun e w' => e = .returned (.int .i64 (appM s L (strL x) l).2.2) ∧ StepM B w w' p (appM s L (strL x) l) := by
  have h0 := h
  obtain ⟨Mb, base, G, hD, rfl, hp, hM, hG⟩ := h
  rw [List.length_map] at hl
  have hBm : ∀ b, DMay p Mb b → B b := fun b e => by
    rcases e with e | e
    · rw [e]; exact hp
    · rw [e]; exact hM
  refine (append_any x N Ab m cb l w hD hxz hl hN (fun W hb => hrd W (hb.mono (fun b _ e => hBm b e))) hlm hm).mono ?_
  rintro e w' ⟨er, rfl, hc⟩
  unfold appM
  rw [← used_map]
  rcases hc with ⟨c1, rfl, _, c4⟩ | ⟨c1, c2, rfl, _, c4⟩ | ⟨c1, c2, c3, rfl, c5, c6⟩ | ⟨c1, c2, c3, rfl, f, A', c', c5, ⟨c6, c7⟩, c8⟩
  · rw [if_pos c1]
    exact ⟨rfl, step_same h0 c4 _⟩
  · rw [if_neg (by rw [c1]; decide), if_pos (by omega)]
    exact ⟨rfl, step_same h0 c4 _⟩
  · rw [if_neg (by rw [c1]; decide), if_neg (by omega)]
    unfold doneM
    rw [if_pos c3]
    exact ⟨rfl, ⟨Mb, base, G, c5, rfl, .inl hp, .inl hM, fun f hf b e => .inl (hG f hf b e)⟩, c6.mono (fun b _ e => hBm b e)⟩
  · rw [if_neg (by rw [c1]; decide), if_neg (by omega)]
    unfold doneM
    rw [if_neg (by rw [c3]; decide)]
    have hfB : ∀ b, f.sl.ownBlock = some b → B b := fun b e => by
      rcases c5.2 with k | ⟨_, _, _, k, _⟩
      · exact hG f k b e
      · unfold FileM.sl at e
        rw [k] at e
        cases e
    have hdat : datF (appF f l A' c') = (strL x, ((getL (strL x) (G.map datF)).map fun t => t.2.1).getD [] ++ l, ((getL (strL x) (G.map datF)).map fun t => t.2.2).getD 0) := by
      rcases c5.2 with k | ⟨k1, k2, k3, _⟩
      · rw [← c5.1, get_some hD.sort k]
        rfl
      · rw [get_none k1]
        unfold datF appF
        show (f.name, f.bytes ++ l, f.sure) = _
        rw [c5.1, k2, k3]
        rfl
    refine ⟨rfl, ⟨Mb, base, _, c6, by rw [put_map, hdat], .inl hp, .inl hM, fun f' hf' b e => ?_⟩, c8.mono (fun b _ e => ?_)⟩
    · rcases mem_put.1 hf' with rfl | ⟨h1, _⟩
      · rcases c7 b (by
          have : (appF f l A' c').sl = .slice A' (f.bytes.length + m) c' := by
            unfold FileM.sl appF
            rw [← hlm]
            show Value.slice A' (f.bytes ++ l).length c' = _
            rw [List.length_append]
          rw [← this]; exact e) with e | e
        · exact .inl (hfB b e)
        · exact .inr e
      · exact .inl (hG f' h1 b e)
    · rcases e with e | e
      · exact hBm b e
      · exact hfB b e
theorem Sm.stop_M {B : Nat → Prop} {p : Nat} {s : DSt} {L : List (List (BitVec 8) × List (BitVec 8) × Nat)} (n : Int) (w : World) (h : Dk B w p s L) (hn : n ≤ 9223372036854775807) :
    Calls Try.prog 21 #[.pointer (some ⟨p, 0, none⟩), .int .i64 n] w fun e w' => e = .returned (.int .i64 (stoM s n).2) ∧ StepM B w w' p ((stoM s n).1, L, 0) := by
  have h0 := h
  obtain ⟨Mb, base, G, hD, rfl, hp, hM, hG⟩ := h
  unfold stoM
  by_cases h1 : n < 0 ∨ s.dead = true
  · refine (stop_bad n w hD h1).mono ?_
    rintro e w' ⟨rfl, rfl⟩
    by_cases h2 : n < 0
    · rw [if_pos h2, if_pos h2]
      exact ⟨rfl, step_same h0 (Below.refl _ _) _⟩
    · rw [if_neg h2, if_neg h2, if_pos (h1.resolve_left h2)]
      exact ⟨rfl, step_same h0 (Below.refl _ _) _⟩
  · have h2 : ¬ n < 0 := fun e => h1 (.inl e)
    have h3 : s.dead = false := by
      cases e : s.dead with
      | true => exact absurd (Or.inr e) h1
      | false => rfl
    refine (stop_any n w hD ⟨by omega, hn⟩ h3).mono ?_
    rintro e w' ⟨rfl, k1, k2⟩
    rw [if_neg h2, if_neg (by rw [h3]; decide)]
    refine ⟨rfl, ⟨Mb, base, G, k1, rfl, .inl hp, .inl hM, fun f hf b e => .inl (hG f hf b e)⟩, k2.mono (fun b _ e => ?_)⟩
    rcases e with e | e
    · rw [e]; exact hp
    · rw [e]; exact hM
theorem Sm.find_M {G : List FileM} (hs : SortG G) {x : ByteArray} {A : Option Addr} {n c : Nat} {sv : Int} {er : Int} (hv : findV G x (.agg #[.slice A n c, .int .i64 sv]) er) :
    er = (tellM (G.map datF) (strL x)).2.2 ∧ sv = ((tellM (G.map datF) (strL x)).2.1 : Int) ∧ ((er ≠ 0 ∧ (tellM (G.map datF) (strL x)).1 = []) ∨ (er = 0 ∧ ∃ f ∈ G, f.name = strL x ∧ (tellM (G.map datF) (strL x)).1 = f.bytes)) := by
  unfold tellM
  rcases hv with ⟨k1, k2, rfl⟩ | ⟨k1, k2, k3, rfl⟩ | ⟨k1, f, k2, k3, k4, rfl⟩
  · unfold zeroF at k2
    injection k2 with k2
    simp only [Array.mk.injEq, List.cons.injEq, and_true, Value.slice.injEq, Value.int.injEq, true_and] at k2
    obtain ⟨⟨rfl, rfl, rfl⟩, rfl⟩ := k2
    rw [if_pos k1]
    exact ⟨rfl, rfl, .inl ⟨by decide, rfl⟩⟩
  · unfold zeroF at k3
    injection k3 with k3
    simp only [Array.mk.injEq, List.cons.injEq, and_true, Value.slice.injEq, Value.int.injEq, true_and] at k3
    obtain ⟨⟨rfl, rfl, rfl⟩, rfl⟩ := k3
    rw [if_neg (by rw [k1]; decide), get_none k2]
    exact ⟨rfl, rfl, .inl ⟨by decide, rfl⟩⟩
  · unfold FileM.val FileM.sl at k4
    injection k4 with k4
    simp only [Array.mk.injEq, List.cons.injEq, and_true, Value.slice.injEq, Value.int.injEq, true_and] at k4
    obtain ⟨⟨rfl, rfl, rfl⟩, rfl⟩ := k4
    rw [if_neg (by rw [k1]; decide), ← k3, get_some hs k2]
    exact ⟨rfl, rfl, .inr ⟨rfl, f, k2, rfl, rfl⟩⟩
theorem Sm.read_M {B : Nat → Prop} {p : Nat} {s : DSt} {L : List (List (BitVec 8) × List (BitVec 8) × Nat)} (x : ByteArray) (w : World) (h : Dk B w p s L) (hxz : x.size ≤ 1000000) :
    Calls Try.prog 12 #[.pointer (some ⟨p, 0, none⟩), .string x] w fun e w' => ∃ A c, e = .returned (.tuple #[.slice A (tellM L (strL x)).1.length c, .int .i64 (tellM L (strL x)).2.2]) ∧ w'.ownsRow w.heap.size 5 1 (.slice A (tellM L (strL x)).1.length c) (tellM L (strL x)).1.length ((tellM L (strL x)).1.map byteCell) ∧ Below w.heap.size w w' := by
  obtain ⟨Mb, base, G, hD, rfl, hp, hM, hG⟩ := h
  refine (read_any x w hD hxz).mono ?_
  rintro e w' ⟨A, n, c, sv, er, l, rfl, hrow, ⟨A0, c0, hv⟩, hl, hc, hb⟩
  obtain ⟨h1, h2, h3⟩ := find_M hD.sort hv
  have hll : (tellM (G.map datF) (strL x)).1 = l := by
    rcases h3 with ⟨k1, k2⟩ | ⟨k1, f, k2, k3, k4⟩
    · rcases hc with ⟨c1, _⟩ | ⟨_, c2⟩
      · exact absurd c1 k1
      · rw [k2]
        exact (List.eq_nil_of_length_eq_zero (hl.trans c2)).symm
    · rcases hc with ⟨_, g, c1, c2, c3⟩ | ⟨c1, _⟩
      · rw [k4, ← c3, sort_name hD.sort k2 c1 (k3.trans c2.symm)]
      · exact absurd k1 c1
  refine ⟨A, c, ?_, ?_, hb⟩
  · rw [← h1, hll, hl]
  · rw [hll, hl]
    exact hrow
theorem Sm.sure_M {B : Nat → Prop} {p : Nat} {s : DSt} {L : List (List (BitVec 8) × List (BitVec 8) × Nat)} (x : ByteArray) (w : World) (h : Dk B w p s L) (hxz : x.size ≤ 1000000) :
    Calls Try.prog 13 #[.pointer (some ⟨p, 0, none⟩), .string x] w fun e w' => e = .returned (.tuple #[.int .i64 ((tellM L (strL x)).2.1 : Int), .int .i64 (tellM L (strL x)).2.2]) ∧ Below w.heap.size w w' := by
  obtain ⟨Mb, base, G, hD, rfl, hp, hM, hG⟩ := h
  refine (sure_any x w hD hxz).mono ?_
  rintro e w' ⟨A, n, c, sv, er, rfl, hv, hb⟩
  obtain ⟨h1, h2, _⟩ := find_M hD.sort hv
  exact ⟨by rw [h1, h2], hb⟩
theorem Sm.used_M {B : Nat → Prop} {p : Nat} {s : DSt} {L : List (List (BitVec 8) × List (BitVec 8) × Nat)} (w : World) (h : Dk B w p s L) :
    Calls Try.prog 23 #[.pointer (some ⟨p, 0, none⟩)] w fun e w' => e = .returned (.int .i64 (usedL L : Int)) ∧ w = w' := by
  obtain ⟨Mb, base, G, hD, rfl, hp, hM, hG⟩ := h
  rw [← used_map]
  exact used_any w hD
theorem Sm.dead_M {B : Nat → Prop} {p : Nat} {s : DSt} {L : List (List (BitVec 8) × List (BitVec 8) × Nat)} (w : World) (h : Dk B w p s L) :
    Calls Try.prog 24 #[.pointer (some ⟨p, 0, none⟩)] w fun e w' => e = .returned (.bool s.dead) ∧ w = w' := by
  obtain ⟨Mb, base, G, hD, rfl, hp, hM, hG⟩ := h
  exact dead_any w hD
theorem Sm.names_M {B : Nat → Prop} {p : Nat} {s : DSt} {L : List (List (BitVec 8) × List (BitVec 8) × Nat)} (w : World) (h : Dk B w p s L) (hl : L.length ≤ 1000000) :
    Calls Try.prog 22 #[.pointer (some ⟨p, 0, none⟩)] w fun e w' => ∃ v, e = .returned v ∧ w'.ownsRow w.heap.size 9 1 v L.length (L.map fun t => .string (strB t.1)) ∧ Below w.heap.size w w' := by
  obtain ⟨Mb, base, G, hD, rfl, hp, hM, hG⟩ := h
  rw [List.length_map] at hl
  refine (names_any w hD hl).mono ?_
  rintro e w' ⟨v, rfl, h1, h2⟩
  refine ⟨v, rfl, ?_, h2⟩
  rw [List.length_map, List.map_map]
  exact h1
theorem Sm.new_M (r : Int) (w : World) (h0 : 0 < r) (h1 : r ≤ 16777216) : Calls Try.prog 30 #[.int .i64 r] w fun e w' =>
    e = .returned (.tuple #[.pointer (some ⟨w.heap.size + 1, 0, none⟩), .int .i64 0]) ∧ Dk (fun b => w.heap.size ≤ b) w' (w.heap.size + 1) ⟨false, 0, false, r⟩ [] ∧ Below w.heap.size w w' := by
  refine (new_any r w h0 h1).mono ?_
  rintro e w' ⟨rfl, hD, hb⟩
  exact ⟨rfl, ⟨_, _, _, hD, rfl, Nat.le_succ _, Nat.le_refl _, fun f hf => by cases hf⟩, hb⟩
theorem Sm.crash_M {B : Nat → Prop} {p : Nat} {s : DSt} {L : List (List (BitVec 8) × List (BitVec 8) × Nat)} (Ap : Option Addr) (np cp : Nat) (picks : List Int) (w : World) (h : Dk B w p s L) (hl : L.length ≤ 1000000) (hpk : PkV w picks w.heap.size 0 (.slice Ap np cp)) :
    Calls Try.prog 14 #[.pointer (some ⟨p, 0, none⟩), .slice Ap np cp] w fun e w' => ∃ q, e = .returned (.tuple #[.pointer (some ⟨q, 0, none⟩), .int .i64 0]) ∧ Dk (fun b => w.heap.size ≤ b) w' q ⟨false, 0, false, s.room⟩ (crM picks 0 L) ∧ Below w.heap.size w w' := by
  obtain ⟨Mb, base, G, hD, rfl, hp, hM, hG⟩ := h
  rw [List.length_map] at hl
  refine (crash_any Ap np cp picks w hD hl hpk).mono ?_
  rintro e w' ⟨q, Mq, bq, G2, rfl, h1, h2, h3, h4, h5, h6⟩
  exact ⟨q, rfl, ⟨Mq, bq, G2, h1, by rw [h2, cr_map], h3, h4, fun f hf b e => Nat.le_trans h5 ((h1.row f hf).lt b e).1⟩, h6⟩
end Go.Proofs
