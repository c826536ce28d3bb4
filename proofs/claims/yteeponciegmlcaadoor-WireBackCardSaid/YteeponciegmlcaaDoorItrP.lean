/-
  The iterator over a stream's pieces, round by round. Conditions: what the theorem names.
-/
import Derived.Shelf.Abstract
import Derived.WalkKit
import Derived.OwnWalkIn
import Derived.TacticsInMore
import Derived.LoopNIn
import Derived.LoopIn
import Derived.Test.YteeponciegmlcaaDoorItr
import Derived.Test.YteeponciegmlcaaDoorPrt
namespace Go.Proofs
open Go.RowKit Go.Shelf Sm
attribute [local go_sem] Oper.semAt_some
/-- the bytes that an iterator has captured -/
structure Sm.Cap (w : World) (N Bx : Nat) (A : Option Addr) (n c : Nat) (l : List (BitVec 8)) : Prop where
  box : w.heap[Bx]? = some (.cells #[.slice A n c] 27 (0, 0))
  len : l.length = n
  room : n ≤ c
  none_ : A = none → c = 0
  form : ∀ a, A = some a → ∃ b off, a = ⟨b, off, none⟩ ∧ b < N
  rd : Rd w N A l
  lt : N ≤ w.heap.size
  tab : Tab w
theorem Sm.Cap.but {w w' : World} {N Bx : Nat} {A : Option Addr} {n c : Nat} {l : List (BitVec 8)} {S : Nat → Prop} (h : Cap w N Bx A n c l) (hb : But S w w') (h1 : ¬ S Bx) (h2 : ∀ b off, A = some ⟨b, off, none⟩ → ¬ S b) (h3 : ¬ S 0) : Cap w' N Bx A n c l :=
  ⟨hb.box h.box h1, h.len, h.room, h.none_, h.form, fun hl => by
    obtain ⟨b, off, e, hbN, hc⟩ := h.rd hl
    exact ⟨b, off, e, hbN, fun j x hj => (hb.cell (p := ⟨b, off + j, none⟩) (Nat.lt_of_lt_of_le hbN h.lt) (h2 b off e)).trans (hc j x hj)⟩,
   Nat.le_trans h.lt hb.size, ⟨Nat.lt_of_lt_of_le h.tab.1 hb.size, fun k hk => (hb.cell (p := ⟨0, k, none⟩) h.tab.1 h3).trans (h.tab.2 k hk)⟩⟩
theorem Sm.Cap.below {w w' : World} {N Bx : Nat} {A : Option Addr} {n c : Nat} {l : List (BitVec 8)} (h : Cap w N Bx A n c l) (hb : Below w.heap.size w w') : Cap w' N Bx A n c l := h.but (But.of_all hb (fun _ => False)) id (fun _ _ _ => id) id
/-- with what piece k is told -/
def Sm.HP (l : List (BitVec 8)) (L k : Nat) (args : Array Value) (W : World) : Prop :=
  ∃ v, args = #[.int .i64 (offK l (k + 1) : Int), .agg #[v, .int .i64 (szK l k : Int), .int .i64 (errK l k)]] ∧ W.ownsRow L 5 1 v (bodyK l k).length ((bodyK l k).map byteCell)
def Sm.rowP (args : Array Value) (b : Nat) : Prop := ∃ x v y z, args = #[x, .agg #[v, y, z]] ∧ v.ownBlock = some b
/-- what stands ahead from a place on -/
theorem Sm.first_at {w : World} {N Bx : Nat} {A : Option Addr} {n c : Nat} {l : List (BitVec 8)} (h : Cap w N Bx A n c l) (hn : n ≤ 1000000) (k L : Nat) (hL : L ≤ w.heap.size) (A' : Option Addr) (n' c' : Nat) (hn' : n' = n - offK l k) (hc' : c' = c - offK l k) (hA : A' = none → c' = 0) (hr : Rd w N A' (l.drop (offK l k))) :
    Calls Tryd.prog 60 #[.slice A' n' c'] w fun e w1 => ∃ Av cv, e = .returned (.agg #[.slice Av (bodyK l k).length cv, .int .i64 (szK l k : Int), .int .i64 (errK l k)]) ∧ w1.ownsRow L 5 1 (.slice Av (bodyK l k).length cv) (bodyK l k).length ((bodyK l k).map byteCell) ∧ Below w.heap.size w w1 := by
  have h1 := offK_le l k
  have h2 := h.room
  have h3 := h.len
  refine (first_any (l.drop (offK l k)) n' c' A' w (by rw [List.length_drop]; omega) (by omega) hA (hr.more h.lt) h.tab (by omega)).mono ?_
  rintro e w1 ⟨⟨v, rfl, ho⟩, hb⟩
  obtain ⟨Av, cv, rfl⟩ := own_slice ho
  exact ⟨Av, cv, rfl, ⟨ho.1, ho.2.imp id (fun ⟨g, cap, cur, e, h1, r⟩ => ⟨g, cap, cur, e, Nat.le_trans hL h1, r⟩)⟩, hb⟩
/-- how all stands at the head of a round -/
structure Sm.PcAt (J : Nat → World → Prop) (wr : World) (N Bx L Q k : Nat) (A : Option Addr) (n c : Nat) (l : List (BitVec 8)) (v : Value) : Prop where
  j : J k wr
  p : wr.heap[Q]? = some (.cells #[v, .int .i64 (szK l k : Int), .int .i64 (errK l k)] 105 (0, 0))
  row : wr.ownsRow L 5 1 v (bodyK l k).length ((bodyK l k).map byteCell)
  cap : Cap wr N Bx A n c l
def Sm.pcSize (Q : Nat) (wr : World) : Nat := match wr.cell? ⟨Q, 1, none⟩ with
  | some (.int _ s) => s.toNat
  | _ => 0
theorem Sm.PcAt.size {J : Nat → World → Prop} {wr : World} {N Bx L Q k : Nat} {A : Option Addr} {n c : Nat} {l : List (BitVec 8)} {v : Value} (h : PcAt J wr N Bx L Q k A n c l v) : pcSize Q wr = szK l k := by
  unfold pcSize
  rw [cell_of_heap h.p 1]
  simp
theorem Sm.not_row {w : World} {Q : Nat} {cs : Array Value} {t : TypeId} (h : w.heap[Q]? = some (.cells cs t (0, 0))) (ht : t ≠ 5) {base n : Nat} {v : Value} {xs : List Value} (hr : w.ownsRow base 5 1 v n xs) : v.ownBlock ≠ some Q := by
  rcases hr.2 with ⟨rfl, _⟩ | ⟨g, cap, cur, rfl, _, hgb, _⟩
  · simp [Value.ownBlock]
  · intro e
    simp only [Value.ownBlock, Option.some.injEq] at e
    subst e
    rw [h] at hgb
    simp at hgb
    exact ht hgb.2
set_option maxRecDepth 100000 in
set_option maxHeartbeats 4000000 in
theorem Sm.pieces_seq (l : List (BitVec 8)) (A : Option Addr) (n c Bx : Nat) (w : World) (X : Nat → Prop) (hcap : Cap w w.heap.size Bx A n c l) (hn : n ≤ 1000000) (hX : ∀ b, X b → b < w.heap.size) (h1 : ¬ X Bx) (h2 : ∀ b off, A = some ⟨b, off, none⟩ → ¬ X b) (h3 : ¬ X 0) :
    SeqX Tryd.prog 71 #[.pointer (some ⟨Bx, 0, none⟩)] X (HP l) rowP (fun k => szK l k ≠ 0) (fun _ => False) (fun _ => True) w := by
  intro L0 J Jx W hW hJ hJx hY hJ0
  have hBx : Bx < w.heap.size := (Array.getElem?_eq_some_iff.1 hcap.box).1
  have hcapW : Cap W w.heap.size Bx A n c l := hcap.below hW
  obtain ⟨L, hL⟩ : ∃ L, W.heap.size = L := ⟨_, rfl⟩
  have hwL : w.heap.size ≤ L := by rw [← hL]; exact hW.size
  have hf0 := first_at hcapW hn 0 L (by omega) A n c (by simp [offK]) (by simp [offK]) hcap.none_ (by simpa [offK] using hcapW.rd)
  rw [hL] at hJ hJx hY
  have HC := Lib.hid hcapW
  have HJ0 := Lib.hid hJ0
  have HL := Lib.hid hL
  have hbox := cell_of_heap hcapW.box 0
  simp only [List.getElem?_toArray, List.getElem?_cons_zero] at hbox
  clear hcap hcapW hJ0 hL
  refine (callsIn_wide (n := 3)).1 ?_
  refine callsIn_of_wp Tryd.func71 rfl trivial ?_ rfl
  simp only [Tryd.ntmps71, List.size_toArray, List.length_cons, List.length_nil, Nat.reduceAdd, Nat.reduceSub, Array.replicate_succ, Array.replicate_zero, List.push_toArray, List.append_toArray, List.nil_append, List.cons_append]
  gi_wp2_with ((try refine ⟨trivial, ?_⟩); gi_at_call 60; refine (callsIn_wide.2 hf0).mono ?_; rintro e w1 ⟨Av, cv, rfl, hown, hb1⟩)
  obtain ⟨Q, hQ⟩ : ∃ Q, w1.heap.size = Q := ⟨_, rfl⟩
  have hLQ : L ≤ Q := by rw [← hQ, ← HL.out]; exact hb1.size
  have hb2 : Below W.heap.size W (w1.alloc (.cells #[.slice Av (bodyK l 0).length cv, .int .i64 (szK l 0 : Int), .int .i64 (errK l 0)] 105)) := hb1.alloc hb1.size _
  have H0 : Hid (PcAt J (w1.alloc (.cells #[.slice Av (bodyK l 0).length cv, .int .i64 (szK l 0 : Int), .int .i64 (errK l 0)] 105)) w.heap.size Bx L Q 0 A n c l (.slice Av (bodyK l 0).length cv)) := Lib.hid ⟨hJ 0 W _ HJ0.out (HL.out ▸ hb2), by rw [← hQ]; exact World.alloc_heap_new w1 _, hown.alloc _, HC.out.below hb2⟩
  obtain ⟨W0, hW0⟩ : ∃ W0, w1.alloc (.cells #[.slice Av (bodyK l 0).length cv, .int .i64 (szK l 0 : Int), .int .i64 (errK l 0)] 105) = W0 := ⟨_, rfl⟩
  have e1 : (offK l (0 + 1) : Nat) = szK l 0 := by rw [offK_succ]; simp [offK]
  have E1 := Lib.hid e1
  clear hown hb1 hb2 HC HJ0 HL hbox hf0 e1
  rw [hW0] at H0
  gi_wp2
  rw [hW0, hQ]
  clear hW0 hQ
  gi_loopw [4] (fun en wr => ∃ (k : Nat) (Av : Option Addr) (cv : Nat), en = .int .i64 (offK l (k + 1) : Int) ∧ Hid (PcAt J wr w.heap.size Bx L Q k A n c l (.slice Av (bodyK l k).length cv)))
    (fun en wr => l.length + 1 - ((intOf en).toNat - pcSize Q wr))
  case atStart => exact ⟨0, Av, cv, by rw [E1.out], H0⟩
  case round =>
    obtain ⟨k, Av, cv, rfl, HP0⟩ := hrel
    clear H0 E1
    obtain ⟨fn, tmps, assign, body, hy, hR⟩ := hY k _ wr HP0.out.j ⟨_, rfl, HP0.out.row⟩
    have p0 := cell_of_heap HP0.out.p 0
    have p1 := cell_of_heap HP0.out.p 1
    have p2 := cell_of_heap HP0.out.p 2
    simp only [List.getElem?_toArray, List.getElem?_cons_zero, List.getElem?_cons_succ] at p0 p1 p2
    gi_wp2
    refine (roundIn_any hR).mono ?_
    clear hR hy p0 p1 p2
    rintro e W3 (⟨rfl, hgo, hJ3, hbut⟩ | ⟨rfl, hJx3, _⟩)
    · have hno : ∀ b, b < w.heap.size → ¬ X b → ¬ RoundMay X w.heap.size L rowP #[.int .i64 (offK l (k + 1) : Int), .agg #[.slice Av (bodyK l k).length cv, .int .i64 (szK l k : Int), .int .i64 (errK l k)]] b := fun b hb hx e => by
        rcases e with e | e | ⟨x, v', y, z, e, e2⟩
        · exact hx e
        · omega
        · simp only [Array.mk.injEq, List.cons.injEq, Value.agg.injEq, and_true] at e
          obtain ⟨_, e3, _⟩ := e
          rw [← e3] at e2
          have := HP0.out.row.lt b e2
          omega
      have hA : ∀ b off, A = some ⟨b, off, none⟩ → b < w.heap.size := fun b off e => by
        obtain ⟨b', off', e', hb'⟩ := HP0.out.cap.form _ e
        cases e'
        exact hb'
      have hcap3 : Cap W3 w.heap.size Bx A n c l := HP0.out.cap.but hbut (hno _ hBx h1) (fun b off e h => hno b (hA b off e) (h2 b off e) h) (hno 0 (by omega) h3)
      have hp3 := hbut.box HP0.out.p (fun e => by
        rcases e with e | e | ⟨x, v', y, z, e, e2⟩
        · have := hX _ e; omega
        · omega
        · simp only [Array.mk.injEq, List.cons.injEq, Value.agg.injEq, and_true] at e
          obtain ⟨_, e3, _⟩ := e
          rw [← e3] at e2
          exact not_row HP0.out.p (by decide) HP0.out.row e2)
      have hLs : L ≤ wr.heap.size := by have := (Array.getElem?_eq_some_iff.1 HP0.out.p).1; omega
      have hL3 : L ≤ W3.heap.size := Nat.le_trans hLs hbut.size
      have hb3 := cell_of_heap hcap3.box 0
      simp only [List.getElem?_toArray, List.getElem?_cons_zero] at hb3
      have hE1 := offK_le l (k + 1)
      have hE2 := hcap3.len
      have hE3 := hcap3.room
      have HCAP := Lib.hid hcap3
      have HNN := Lib.hid hcap3.none_
      have hE4 : (0 : Int) ≤ (offK l (k + 1) : Int) := by omega
      have hE5 : (offK l (k + 1) : Int) ≤ (n : Int) := by omega
      have hE6 : (n : Int) ≤ (c : Int) := by omega
      have hsz : Hid (offK l (k + 1 + 1) = offK l (k + 1) + szK l (k + 1)) := Lib.hid (offK_succ l (k + 1))
      have hsz0 : Hid (offK l (k + 1) = offK l k + szK l k) := Lib.hid (offK_succ l k)
      have hfin : ∀ (w4 : World) (A4 : Option Addr) (c4 : Nat), Below W3.heap.size W3 w4 → w4.ownsRow L 5 1 (.slice A4 (bodyK l (k + 1)).length c4) (bodyK l (k + 1)).length ((bodyK l (k + 1)).map byteCell) → (w4.cell? ⟨Q, 0, none⟩ = some (.slice Av (bodyK l k).length cv) ∧ w4.cell? ⟨Q, 1, none⟩ = some (.int .i64 (szK l k : Int)) ∧ w4.cell? ⟨Q, 2, none⟩ = some (.int .i64 (errK l k)) ∧ w4.frozen? ⟨Q, 0, none⟩ = false ∧ w4.frozen? ⟨Q, 1, none⟩ = false ∧ w4.frozen? ⟨Q, 2, none⟩ = false) ∧
          Hid (PcAt J (set3 w4 Q (.slice A4 (bodyK l (k + 1)).length c4) (.int .i64 (szK l (k + 1) : Int)) (.int .i64 (errK l (k + 1)))) w.heap.size Bx L Q (k + 1) A n c l (.slice A4 (bodyK l (k + 1)).length c4)) := fun w4 A4 c4 hb4 ho4 => by
        have hp4 := (hb4.block Q (Array.getElem?_eq_some_iff.1 hp3).1).trans hp3
        have hs := set3_but (But.refl (fun b => b = Q) w4) (P := Q) (a := .slice A4 (bodyK l (k + 1)).length c4) (b := .int .i64 (szK l (k + 1) : Int)) (c := .int .i64 (errK l (k + 1))) (.inl rfl)
        refine ⟨⟨cell_of_heap hp4 0, cell_of_heap hp4 1, cell_of_heap hp4 2, frozen_of_heap hp4 0, frozen_of_heap hp4 1, frozen_of_heap hp4 2⟩, Lib.hid ⟨?_, set3_heap hp4, hs.row ho4 (fun q e1 e2 => ?_), (hcap3.below hb4).but hs (by omega) (fun b off e1 e2 => ?_) (by omega)⟩⟩
        · exact hJ _ _ _ hJ3 ((hb4.mono hL3).trans (hs.to_below (n := L) (Nat.le_trans hL3 hb4.size) (fun b e => by omega)))
        · subst e2
          exact not_row hp4 (by decide) ho4 e1
        · have := hA b off e1
          omega
      have hfst : ∀ A', (A' = none → c - offK l (k + 1) = 0) → Rd W3 w.heap.size A' (l.drop (offK l (k + 1))) → ∀ n' c', n' = n - offK l (k + 1) → c' = c - offK l (k + 1) → Calls Tryd.prog 60 #[.slice A' n' c'] W3 fun e w4 => ∃ A4 c4, e = .returned (.agg #[.slice A4 (bodyK l (k + 1)).length c4, .int .i64 (szK l (k + 1) : Int), .int .i64 (errK l (k + 1))]) ∧ (w4.cell? ⟨Q, 0, none⟩ = some (.slice Av (bodyK l k).length cv) ∧ w4.cell? ⟨Q, 1, none⟩ = some (.int .i64 (szK l k : Int)) ∧ w4.cell? ⟨Q, 2, none⟩ = some (.int .i64 (errK l k)) ∧ w4.frozen? ⟨Q, 0, none⟩ = false ∧ w4.frozen? ⟨Q, 1, none⟩ = false ∧ w4.frozen? ⟨Q, 2, none⟩ = false) ∧
          Hid (PcAt J (set3 w4 Q (.slice A4 (bodyK l (k + 1)).length c4) (.int .i64 (szK l (k + 1) : Int)) (.int .i64 (errK l (k + 1)))) w.heap.size Bx L Q (k + 1) A n c l (.slice A4 (bodyK l (k + 1)).length c4)) := fun A' h5 h6 n' c' h7 h8 => by
        refine (first_at hcap3 hn (k + 1) L hL3 A' n' c' h7 h8 (fun e => by rw [h8]; exact h5 e) h6).mono ?_
        rintro e w4 ⟨A4, c4, rfl, ho, hb⟩
        exact ⟨A4, c4, rfl, hfin w4 A4 c4 hb ho⟩
      have hrdd : ∀ b off, A = some ⟨b, off, none⟩ → Rd W3 w.heap.size (some ⟨b, off + offK l (k + 1), none⟩) (l.drop (offK l (k + 1))) := fun b off e => by
        intro h
        have h0 : 0 < l.length := by rw [List.length_drop] at h; omega
        obtain ⟨b', off', e', hb', hc'⟩ := hcap3.rd h0
        rw [e] at e'
        cases e'
        exact ⟨b, off + offK l (k + 1), rfl, hb', fun j x hj => by
          rw [List.getElem?_drop] at hj
          have := hc' _ x hj
          rw [Nat.add_assoc]
          exact this⟩
      have hform := hcap3.form
      have hpc : Hid (pcSize Q wr = szK l k) := Lib.hid HP0.out.size
      have hz1 : szK l (k + 1) ≤ 1000000 := by have h5 := offK_le l (k + 1 + 1); have h6 := hsz.out; omega
      clear hbut hp3 hcap3 HP0 hJ3 hLs hno hfin
      obtain ⟨E, hE⟩ : ∃ E, offK l (k + 1) = E := ⟨_, rfl⟩
      rw [hE] at hE1 hE4 hE5 hsz hsz0 hfst hrdd ⊢
      have HE := Lib.hid hE
      clear hE
      have hgo0 : Hid (offK l k < E ∧ E ≤ l.length) := Lib.hid (by have := hsz0.out; omega)
      have hsz1 : Hid (E - szK l k = offK l k) := Lib.hid (by have := hsz0.out; omega)
      clear hgo hsz0
      rcases A with _ | ad
      · have hc0 : c = 0 := HNN.out rfl
        subst hc0
        obtain rfl : n = 0 := by omega
        obtain rfl : E = 0 := by omega
        have hf1 := hfst none (fun _ => rfl) (by rw [List.drop_eq_nil_of_le (by omega)]; exact Rd.nil) 0 0 rfl rfl
        clear hfst hrdd hform HNN
        gi_wp2_with ((try refine ⟨trivial, ?_⟩); gi_at_call 60; refine (callsIn_wide.2 hf1).mono ?_; rintro e w4 ⟨A4, c4, rfl, ⟨q0, q1, q2, q3, q4, q5⟩, HN⟩)
        have HS := HN.out.size
        unfold set3 at HS
        refine ⟨⟨k + 1, A4, c4, by rw [hsz.out]; simp, HN⟩, ?_⟩
        rw [HS, hpc.out, HE.out]
        have g1 := hgo0.out
        have g2 := hsz1.out
        simp [intOf]
        omega
      · obtain ⟨b, off, rfl, hbb⟩ := hform _ rfl
        by_cases hEc : E = c
        · obtain rfl : n = c := by omega
          subst hEc
          have hf1 := hfst (some ⟨b, off, none⟩) (fun e => by cases e) (by rw [List.drop_eq_nil_of_le (by omega)]; exact Rd.nil) 0 0 (by omega) (by omega)
          clear hfst hrdd hform HNN
          gi_wp2_with ((try refine ⟨trivial, ?_⟩); gi_at_call 60; refine (callsIn_wide.2 hf1).mono ?_; rintro e w4 ⟨A4, c4, rfl, ⟨q0, q1, q2, q3, q4, q5⟩, HN⟩)
          have HS := HN.out.size
          unfold set3 at HS
          refine ⟨⟨k + 1, A4, c4, by rw [hsz.out]; simp, HN⟩, ?_⟩
          rw [HS, hpc.out, HE.out]
          have g1 := hgo0.out
          have g2 := hsz1.out
          simp [intOf]
          omega
        · have hf1 := hfst (some ⟨b, off + E, none⟩) (fun e => by cases e) (hrdd b off rfl) (n - E) (c - E) rfl rfl
          clear hfst hrdd hform HNN
          gi_wp2_with ((try refine ⟨trivial, ?_⟩); gi_at_call 60; refine (callsIn_wide.2 hf1).mono ?_; rintro e w4 ⟨A4, c4, rfl, ⟨q0, q1, q2, q3, q4, q5⟩, HN⟩)
          have HS := HN.out.size
          unfold set3 at HS
          refine ⟨⟨k + 1, A4, c4, by rw [hsz.out]; simp, HN⟩, ?_⟩
          rw [HS, hpc.out, HE.out]
          have g1 := hgo0.out
          have g2 := hsz1.out
          simp [intOf]
          omega
    · gi_wp2
      go_end0
      exact ⟨⟨_, rfl⟩, .inr ⟨k + 1, trivial, hJx3⟩⟩
end Go.Proofs
