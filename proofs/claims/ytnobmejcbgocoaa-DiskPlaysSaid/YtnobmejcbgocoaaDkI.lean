/-
  A file is cut. Conditions: as each theorem names them.
-/
import Derived.Test.YtnobmejcbgocoaaDkH
namespace Go.Proofs
open Go Go.RowKit Sm Go.Lib Go.Maps Go.WideMaps
attribute [local go_sem] Oper.semAt_some
def Sm.cutF (f : FileM) (k : Nat) (A : Option Addr) (c : Nat) : FileM := { f with bytes := f.bytes.take k, sure := min f.sure k, A := A, c := c }
theorem Sm.used_cutF {f : FileM} {k : Nat} (hk : k ≤ f.bytes.length) : (f.bytes.take k).length = k := by rw [List.length_take]; omega
set_option maxRecDepth 100000 in
set_option maxHeartbeats 1000000 in
theorem Sm.step_49 {p Mb base bd bn bf bi : Nat} {s : DSt} {G : List FileM} (x : ByteArray) (f : FileM) (k : Nat) (w : World) (h : DAt w p Mb base s G) (hc : Caps w p bd bn bf base x f) (hi : w.heap[bi]? = some (.cells #[.int .i64 (k : Int)] 3 (0, 0))) (hbi : base ≤ bi) (hk : k ≤ f.bytes.length) (hxz : x.size ≤ 1000000) (hf : f ∈ G) (hn : f.name = strL x) (hGl : G.length ≤ 1000000) :
    Calls Try.prog 49 #[.pointer (some ⟨bd, 0, none⟩), .pointer (some ⟨bn, 0, none⟩), .pointer (some ⟨bf, 0, none⟩), .pointer (some ⟨bi, 0, none⟩)] w fun e w' => e = .returned (.tuple #[]) ∧ ∃ A' c', (DAt w' p Mb base s (putG (cutF f k A' c') G) ∧ (∀ b, (cutF f k A' c').sl.ownBlock = some b → w.heap.size ≤ b)) ∧ But (DMay p Mb) w w' := by
  have hlow := h.low
  have hlt := used_le hf
  have hroom := h.room_
  have hS : ∀ W, But (DMay p Mb) w W → W.cell? ⟨bd, 0, none⟩ = some (.pointer (some ⟨p, 0, none⟩)) ∧ W.cell? ⟨bn, 0, none⟩ = some (.string x) ∧ W.cell? ⟨bf, 0, none⟩ = some (.slice f.A f.bytes.length f.c) ∧ W.cell? ⟨bf, 1, none⟩ = some (.int .i64 (f.sure : Int)) ∧ W.cell? ⟨bi, 0, none⟩ = some (.int .i64 (k : Int)) := fun W hb => by
    obtain ⟨h1, h2, h3, h4⟩ := (hc.keep hb (fun b e => by rcases e with e | e <;> omega)).cells
    exact ⟨h1, h2, h3, h4, cell_of_heap (hb.box hi (fun e => by rcases e with e | e <;> omega)) 0⟩
  have hcut : ∀ W, Below w.heap.size w W → Calls Try.prog 42 #[.agg #[.slice f.A f.bytes.length f.c, .int .i64 (f.sure : Int)], .int .i64 (k : Int)] W fun e w' => ∃ A' c', e = .returned (.agg #[.slice A' k c', .int .i64 ((min f.sure k : Nat) : Int)]) ∧ (w'.ownsRow base 5 1 (.slice A' k c') k ((f.bytes.take k).map byteCell) ∧ (∀ b, (Value.slice A' k c').ownBlock = some b → w.heap.size ≤ b)) ∧ Below w.heap.size w w' := fun W hb => by
    refine (cut_any f.A f.bytes f.sure k W ((h.keep hb).row f hf) hk (by omega)).mono ?_
    rintro e w' ⟨A', c', rfl, hown, hb2⟩
    have hsz := hb.size
    exact ⟨A', c', rfl, ⟨hown.mono (by omega), fun b e => Nat.le_trans hsz (hown.lt b e).1⟩, hb.trans (hb2.mono hsz)⟩
  have hset : ∀ W A' c', Below w.heap.size w W → (W.ownsRow base 5 1 (.slice A' k c') k ((f.bytes.take k).map byteCell) ∧ (∀ b, (Value.slice A' k c').ownBlock = some b → w.heap.size ≤ b)) → Calls Try.prog 41 #[.pointer (some ⟨p, 0, none⟩), .string x, .agg #[.slice A' k c', .int .i64 ((min f.sure k : Nat) : Int)]] W fun e w' => e = .returned (.tuple #[]) ∧ (DAt w' p Mb base s (putG (cutF f k A' c') G) ∧ (∀ b, (cutF f k A' c').sl.ownBlock = some b → w.heap.size ≤ b)) ∧ But (DMay p Mb) W w' := fun W A' c' hb hr => by
    have hkk := h.keep hb
    have hu := used_del h.sort hf hn
    have htk := used_cutF hk
    have hsl : (cutF f k A' c').sl = .slice A' k c' := by unfold FileM.sl cutF; simp only [htk]
    have hv : (cutF f k A' c').val = .agg #[.slice A' k c', .int .i64 ((min f.sure k : Nat) : Int)] := by unfold FileM.val; rw [hsl]; rfl
    rw [← hv]
    refine (set_any x (cutF f k A' c') W hkk hxz hn ?_ (fun g hg hne b e1 e2 => ?_) ?_ ⟨(h.ok f hf).1, ?_⟩ hGl).mono (fun e w' q => ⟨q.1, ⟨q.2.1, fun b e => hr.2 b (by rw [← hsl]; exact e)⟩, q.2.2⟩)
    · rw [hsl]
      show W.ownsRow base 5 1 (.slice A' k c') (f.bytes.take k).length ((f.bytes.take k).map byteCell)
      rw [htk]
      exact hr.1
    · rw [hsl] at e1
      have h1 := hr.2 b e1
      have h2 := ((h.row g hg).lt b e2).2
      omega
    · show ((usedG (delG f.name G) : Int) + ((f.bytes.take k).length : Int)) ≤ s.room
      rw [hn, htk]
      omega
    · show min f.sure k ≤ (f.bytes.take k).length
      rw [htk]
      omega
  have q0 := hS w (But.refl _ w)
  have HS := Lib.hid hS
  have HSET := Lib.hid hset
  have HCUT := Lib.hid hcut
  have hk1 : (k : Int) ≤ 16777216 := by omega
  obtain ⟨A, hA⟩ : ∃ A, f.A = A := ⟨_, rfl⟩
  obtain ⟨n, hN⟩ : ∃ n, f.bytes.length = n := ⟨_, rfl⟩
  obtain ⟨c, hC⟩ : ∃ c, f.c = c := ⟨_, rfl⟩
  obtain ⟨sv, hsv⟩ : ∃ sv, f.sure = sv := ⟨_, rfl⟩
  rw [hsv] at HSET
  rw [hA, hN, hC, hsv] at q0 HS HCUT
  clear hS hset hcut h hc hi hn hA hN hC hsv hlt hroom
  go_enter Try.func49, Try.ntmps49
  go_upto_region 0 with fail
  go_region_held_law (fun W => W.cell? ⟨bd, 0, none⟩ = some (.pointer (some ⟨p, 0, none⟩)) ∧ W.cell? ⟨bn, 0, none⟩ = some (.string x) ∧ W.cell? ⟨bf, 0, none⟩ = some (.slice A n c) ∧ W.cell? ⟨bf, 1, none⟩ = some (.int .i64 (sv : Int)) ∧ W.cell? ⟨bi, 0, none⟩ = some (.int .i64 (k : Int)))
    (first | exact q2 | exact q1 | exact q0)
    (first | (go_at_call 42; (with_reducible refine (HCUT.out _ ((Below.refl _ _).drew)).mono ?_); rintro e w4 ⟨A', c', rfl, hr4, hb4⟩; have HB4 := Lib.hid hb4; have HR4 := Lib.hid hr4; have q1 := HS.out w4 (But.of_all HB4.out _); clear hb4 hr4)
           | (go_at_call 41; (with_reducible refine (HSET.out _ A' c' HB4.out HR4.out).mono ?_); rintro e w5 ⟨rfl, hD5, hb5⟩; have HB5 : Hid (But (DMay p Mb) w w5) := Lib.hid ((But.of_all HB4.out _).trans hb5 (fun b _ e => e)); have q2 := HS.out w5 HB5.out; have HD5 := Lib.hid hD5; clear hb5 hD5))
  all_goals
    go_end0
    exact ⟨rfl, A', c', HD5.out, HB5.out⟩
theorem Sm.boxes3 (w : World) (p : Nat) (x : ByteArray) (v : Value) (t : TypeId) : ∃ w2, ((w.alloc (.cells #[.pointer (some ⟨p, 0, none⟩)] 25)).alloc (.cells #[.string x] 9)).alloc (.cells #[v] t) = w2 ∧ Below w.heap.size w w2 ∧ w2.heap.size = w.heap.size + 3 ∧
    w2.heap[w.heap.size]? = some (.cells #[.pointer (some ⟨p, 0, none⟩)] 25 (0, 0)) ∧ w2.heap[w.heap.size + 1]? = some (.cells #[.string x] 9 (0, 0)) ∧ w2.heap[w.heap.size + 1 + 1]? = some (.cells #[v] t (0, 0)) := by
  obtain ⟨w1, h1, hb1, hs1, hd1, hn1⟩ := boxes w p x
  have hb : Below w1.heap.size w1 (w1.alloc (.cells #[v] t)) := (Below.refl _ w1).alloc (Nat.le_refl _) _
  refine ⟨w1.alloc (.cells #[v] t), by rw [h1], hb1.trans (hb.mono hb1.size), by simp [hs1], ?_, ?_, ?_⟩
  · rw [hb.block _ (by omega), hd1]
  · rw [hb.block _ (by omega), hn1]
  · have := World.alloc_heap_new w1 (.cells #[v] t)
    rwa [hs1] at this
set_option maxRecDepth 100000 in
set_option maxHeartbeats 2000000 in
theorem Sm.cutd_any {p Mb base : Nat} {s : DSt} {G : List FileM} (x : ByteArray) (k : Int) (w : World) (h : DAt w p Mb base s G) (hxz : x.size ≤ 1000000) (hGl : G.length ≤ 1000000) :
    Calls Try.prog 18 #[.pointer (some ⟨p, 0, none⟩), .string x, .int .i64 k] w fun e w' => ∃ v why er, e = .returned (.int .i64 er) ∧ findV G x v why ∧ ((why ≠ 0 ∧ er = why ∧ DAt w' p Mb base s G ∧ Below w.heap.size w w') ∨ ∃ f ∈ G, f.name = strL x ∧ v = f.val ∧ why = 0 ∧
      (((k < 0 ∨ (f.bytes.length : Int) < k) ∧ er = 4 ∧ DAt w' p Mb base s G ∧ Below w.heap.size w w') ∨ (0 ≤ k ∧ k ≤ f.bytes.length ∧ ∃ A' c', Done w w' p Mb base s G (putG (cutF f k.toNat A' c') G) er ∧ ∀ b, (cutF f k.toNat A' c').sl.ownBlock = some b → w.heap.size ≤ b))) := by
  have hlow := h.low
  obtain ⟨w2, hw2, hb2, hs2, hd2, hn2, hi2⟩ := boxes3 w p x (.int .i64 k) 3
  have hf := find_one x w2 (h.keep hb2) hxz
  have c1 := cell_of_heap hd2 0
  have c2 := cell_of_heap hn2 0
  simp only [List.getElem?_toArray, List.getElem?_cons_zero] at c1 c2
  have HB2 := Lib.hid hb2
  have HD2 := Lib.hid hd2
  have HN2 := Lib.hid hn2
  have HI2 := Lib.hid hi2
  have HS2 := Lib.hid hs2
  have H := Lib.hid h
  clear hb2 hd2 hn2 hi2 hs2 h
  go_enter Try.func18, Try.ntmps18
  go_upto_region 2 with (go_at_call 36; (with_reducible refine hf.mono ?_); clear hf; rintro e w3 ⟨v, er, rfl, hfv, hb3⟩; obtain ⟨A, n, c, sv, rfl⟩ := findV_parts hfv)
  obtain ⟨w4, hw4⟩ : ∃ w4, w3.alloc (.cells #[.slice A n c, .int .i64 sv] 79) = w4 := ⟨_, rfl⟩
  have hb34 : Below w3.heap.size w3 w4 := by rw [← hw4]; exact (Below.refl _ w3).alloc (Nat.le_refl _) _
  have hx4 : w4.heap[w3.heap.size]? = some (.cells #[.slice A n c, .int .i64 sv] 79 (0, 0)) := by rw [← hw4]; exact World.alloc_heap_new w3 _
  have hsz2 := HS2.out
  have hsz3 := hb3.size
  have hb13 : Below w.heap.size w w3 := HB2.out.trans (hb3.mono HB2.out.size)
  have hb4 : Below w.heap.size w w4 := hb13.trans (hb34.mono hb13.size)
  have hd4 := (hb34.block w.heap.size (by omega)).trans ((hb3.block w.heap.size (by omega)).trans HD2.out)
  have hn4 := (hb34.block (w.heap.size + 1) (by omega)).trans ((hb3.block (w.heap.size + 1) (by omega)).trans HN2.out)
  have hi4 := (hb34.block (w.heap.size + 1 + 1) (by omega)).trans ((hb3.block (w.heap.size + 1 + 1) (by omega)).trans HI2.out)
  rw [hw4]
  have c4 := cell_of_heap hd4 0
  have i4 := cell_of_heap hi4 0
  have x4 := cell_of_heap hx4 0
  simp only [List.getElem?_toArray, List.getElem?_cons_zero] at c4 i4 x4
  have hs3 : w.heap.size ≤ w3.heap.size := by omega
  have hbl : base ≤ w3.heap.size := Nat.le_trans hlow.2.2.2 hs3
  obtain ⟨l, hrow, hlen, hnz, hcase⟩ := findV_row hfv (H.out.keep hb13)
  have HB4 := Lib.hid hb4
  have HD4 := Lib.hid hd4
  have HN4 := Lib.hid hn4
  have HX4 := Lib.hid hx4
  have HI4 := Lib.hid hi4
  have HV := Lib.hid hfv
  have hnI : (0 : Int) ≤ (n : Int) ∧ (n : Int) ≤ 16777216 := by omega
  obtain ⟨hn0, hn1⟩ := hnI
  clear hb4 hd4 hn4 hi4 hx4 hfv hb3 hw4 hw2 c1 c2 hb34 hb13 hsz2 hsz3 hrow hlen hcase
  by_cases he : er = 0
  · subst he
    obtain ⟨f, hfm, hfn, hfv⟩ : ∃ f ∈ G, f.name = strL x ∧ (Value.agg #[.slice A n c, .int .i64 sv]) = f.val := by
      rcases HV.out with ⟨_, _, h0⟩ | ⟨_, _, _, h0⟩ | ⟨_, f, h1, h2, h3, _⟩
      · exact absurd h0 (by decide)
      · exact absurd h0 (by decide)
      · exact ⟨f, h1, h2, h3⟩
    have hval : (#[.slice A n c, .int .i64 sv] : Array Value) = #[f.sl, .int .i64 (f.sure : Int)] := by
      have h0 := hfv
      unfold FileM.val at h0
      injection h0 with h0
    have hnl : n = f.bytes.length := by
      have h0 := hval
      unfold FileM.sl at h0
      simp only [Array.mk.injEq, List.cons.injEq, and_true, Value.slice.injEq] at h0
      exact h0.1.2.1
    have HNL := Lib.hid hnl
    have HVL := Lib.hid hval
    have HFV := Lib.hid hfv
    clear hval hnl hfv
    have hcap : Caps w4 p w.heap.size (w.heap.size + 1) w3.heap.size base x f := by
      refine ⟨HD4.out, HN4.out, ?_, by omega⟩
      rw [HX4.out, HVL.out]
    by_cases hk : 0 ≤ k ∧ k ≤ (n : Int)
    · obtain ⟨hk0, hk1⟩ := hk
      have g1 : ¬ k < 0 := by omega
      have g2 : ¬ (n : Int) < k := by omega
      have hkn : ((k.toNat : Nat) : Int) = k := by omega
      have hdo := do_49 #[.pointer (some ⟨w.heap.size, 0, none⟩), .pointer (some ⟨w.heap.size + 1, 0, none⟩), .pointer (some ⟨w3.heap.size, 0, none⟩), .pointer (some ⟨w.heap.size + 1 + 1, 0, none⟩)] w4 (H.out.keep HB4.out) (fun w' => ∃ A' c', (DAt w' p Mb base (nextD s) (putG (cutF f k.toNat A' c') G) ∧ (∀ b, (cutF f k.toNat A' c').sl.ownBlock = some b → w4.heap.size ≤ b)) ∧ But (DMay p Mb) w4 w')
        (fun _ W hD hb => (step_49 x f k.toNat W hD (hcap.keep hb (fun b e => by rcases e with e | e <;> omega)) (hb.box (by rw [hkn]; exact HI4.out) (fun e => by rcases e with e | e <;> omega)) (by omega) (by have := HNL.out; omega) hxz hfm hfn hGl).mono (by rintro e w' ⟨rfl, A', c', h1, h2⟩; exact ⟨rfl, A', c', ⟨h1.1, fun b e => Nat.le_trans hb.size (h1.2 b e)⟩, hb.trans h2 (fun b _ e => e)⟩))
      clear hcap hkn
      go_wp2_with (go_at_call 46; (with_reducible refine hdo.mono ?_); clear hdo; rintro e w5 (⟨hd, rfl, hD5, hb5⟩ | ⟨hd, rfl, A', c', hD5, hb5⟩))
      · go_ret
        exact ⟨_, 0, 172, rfl, HV.out, .inr ⟨f, hfm, hfn, HFV.out, rfl, .inr ⟨hk0, by rw [← HNL.out]; exact hk1, none, 0, .inl ⟨hd, rfl, hD5, (But.of_all HB4.out _).trans hb5 (fun b _ e => e)⟩, fun b e => by cases e⟩⟩⟩
      · go_ret
        exact ⟨_, 0, 0, rfl, HV.out, .inr ⟨f, hfm, hfn, HFV.out, rfl, .inr ⟨hk0, by rw [← HNL.out]; exact hk1, A', c', .inr ⟨hd, rfl, hD5.1, (But.of_all HB4.out _).trans hb5 (fun b _ e => e)⟩, fun b e => Nat.le_trans HB4.out.size (hD5.2 b e)⟩⟩⟩
    · have hdo := do_why (.pointer (some ⟨p, 0, none⟩)) (.func (.func 49) #[] #[.pointer (some ⟨w.heap.size, 0, none⟩), .pointer (some ⟨w.heap.size + 1, 0, none⟩), .pointer (some ⟨w3.heap.size, 0, none⟩), .pointer (some ⟨w.heap.size + 1 + 1, 0, none⟩)]) 4 (by decide) w4
      have hkk : k < 0 ∨ (f.bytes.length : Int) < k := by have := HNL.out; omega
      clear hcap
      by_cases hk0 : k < 0
      · go_wp2_with (go_at_call 46; (with_reducible refine hdo.mono ?_); clear hdo; rintro e w5 ⟨rfl, rfl⟩)
        go_ret
        exact ⟨_, 0, 4, rfl, HV.out, .inr ⟨f, hfm, hfn, HFV.out, rfl, .inl ⟨hkk, rfl, H.out.keep HB4.out, HB4.out⟩⟩⟩
      · have hk1 : (n : Int) < k := by omega
        go_wp2_with (go_at_call 46; (with_reducible refine hdo.mono ?_); clear hdo; rintro e w5 ⟨rfl, rfl⟩)
        go_ret
        exact ⟨_, 0, 4, rfl, HV.out, .inr ⟨f, hfm, hfn, HFV.out, rfl, .inl ⟨hkk, rfl, H.out.keep HB4.out, HB4.out⟩⟩⟩
  · have hdo := do_why (.pointer (some ⟨p, 0, none⟩)) (.func (.func 49) #[] #[.pointer (some ⟨w.heap.size, 0, none⟩), .pointer (some ⟨w.heap.size + 1, 0, none⟩), .pointer (some ⟨w3.heap.size, 0, none⟩), .pointer (some ⟨w.heap.size + 1 + 1, 0, none⟩)]) er he w4
    have hef : (er == 0) = false := by simpa using he
    go_wp2_with (go_at_call 46; (with_reducible refine hdo.mono ?_); clear hdo; rintro e w5 ⟨rfl, rfl⟩)
    go_ret
    exact ⟨_, er, er, rfl, HV.out, .inl ⟨he, rfl, H.out.keep HB4.out, HB4.out⟩⟩
end Go.Proofs
