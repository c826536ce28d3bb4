/-
  works: the chapter's rows. Conditions: as each theorem names them.
-/
import Derived.Lib.SlBytesConst
import Derived.Test.YtkipjlcbmiagcaaNtZ
namespace Go.Proofs
open Go Go.RowKit Sm Go.Lib Go.Maps Go.WideMaps
attribute [local go_sem] Oper.semAt_some
theorem Sm.num_any (x : Int) (w : World) (h : 0 ≤ x) (h2 : x ≤ 1000) : Calls Try.prog 17 #[.int .i64 x] w fun e w' => e = .returned (.int .i64 x) ∧ w = w' := by
  go_enter Try.func17, Try.ntmps17
  go_wp2
  go_ret
  exact ⟨rfl, rfl⟩
/-- a net whose blocks lie between two bounds -/
def Sm.NW (n0 hi : Nat) (W : World) (p : Nat) (N : NM) : Prop := Nt (fun b => n0 ≤ b ∧ b < hi) W p N ∧ n0 ≤ hi ∧ hi ≤ W.heap.size
theorem Sm.NW.keep {n0 hi p : Nat} {W W' : World} {N : NM} (h : NW n0 hi W p N) (hb : Below W.heap.size W W') : NW n0 hi W' p N := ⟨h.1.keep hb, h.2.1, Nat.le_trans h.2.2 hb.size⟩
theorem Sm.NW.low {n0 hi p : Nat} {W W' : World} {N : NM} (h : NW n0 hi W p N) (hb : But (fun b => n0 ≤ b ∧ b < hi) W W') : Below n0 W W' := hb.to_below (Nat.le_trans h.2.1 h.2.2) (fun _ e => e.1)
/-- a parcel that was handed out -/
structure Sm.PK (hi : Nat) (W : World) (b : Nat) (P : PD) (A : Option Addr) (c : Nat) : Prop where
  blk : W.heap[b]? = some (.cells #[.int .i64 P.1, .int .i64 P.2.1, .int .i64 P.2.2.1, .slice A P.2.2.2.length c] 41 (0, 0))
  par : ParV W hi P A c
  hi : hi ≤ b
theorem Sm.PK.but {n0 hi b : Nat} {W W' : World} {P : PD} {A : Option Addr} {c : Nat} (h : PK hi W b P A c) (hb : But (fun b => n0 ≤ b ∧ b < hi) W W') : PK hi W' b P A c :=
  ⟨hb.box h.blk (fun e => by have := h.hi; omega), h.par.but hb (fun _ e => e.2) (Nat.le_refl _), h.hi⟩
theorem Sm.PK.keep {hi b : Nat} {W W' : World} {P : PD} {A : Option Addr} {c : Nat} (h : PK hi W b P A c) (hb : Below W.heap.size W W') : PK hi W' b P A c :=
  ⟨(hb.block _ (Array.getElem?_eq_some_iff.1 h.blk).1).trans h.blk, h.par.but (But.of_all hb (fun _ => False)) (fun _ e => e.elim) (Nat.le_refl _), h.hi⟩
theorem Sm.PK.new {hi : Nat} {w W : World} {P : PD} {A : Option Addr} {c : Nat} (h : ParV W w.heap.size P A c) (hh : hi ≤ w.heap.size) (hw : w.heap.size ≤ W.heap.size) :
    PK hi (W.alloc (.cells #[.int .i64 P.1, .int .i64 P.2.1, .int .i64 P.2.2.1, .slice A P.2.2.2.length c] 41)) W.heap.size P A c :=
  ⟨World.alloc_heap_new W _, h.but (But.of_all ((Below.refl _ W).alloc (Nat.le_refl _) _) (fun _ => False)) (fun _ e => e.elim) hh, Nat.le_trans hh hw⟩
theorem Sm.PK.str {hi b : Nat} {W : World} {P : PD} {A : Option Addr} {c : Nat} (h : PK hi W b P A c) : (convert 39 9 (.slice A P.2.2.2.length c)).run Try.prog W = .ok (.string (strB P.2.2.2)) W :=
  run_str (P := Try.prog) W 39 5 Try.underlying39 Try.underlying5 P.2.2.2 P.2.2.2.length c W.heap.size A rfl (own_rd h.par) 9 Try.underlying9
theorem Sm.put_lit {n0 hi p : Nat} {N : NM} (x y : Int) (l : List (BitVec 8)) (n : Nat) (W : World) (h : NW n0 hi W p N) (hc : N.s.came < 1000000000) (hl : l.length = n) (hn : n ≤ 1000000) (t : TypeId) (k : Nat) (r : NM × Int × Int) (hr : putN N x y l = r) :
    Calls Try.prog 12 #[.pointer (some ⟨p, 0, none⟩), .int .i64 x, .int .i64 y, .slice (some ⟨W.heap.size, 0, none⟩) n n] (W.alloc (.cells (l.map byteCell).toArray t (k, k + 1))) fun e w' => e = .returned (.tuple #[.int .i64 r.2.1, .int .i64 r.2.2]) ∧ NW n0 w'.heap.size w' p r.1 ∧ Below n0 W w' := by
  have hb : Below W.heap.size W (W.alloc (.cells (l.map byteCell).toArray t (k, k + 1))) := (Below.refl _ _).alloc (Nat.le_refl _) _
  have hk := h.keep hb
  refine (put_N x y _ n n l _ hk.1 hc hl (by omega) (fun hl0 => ⟨W.heap.size, 0, rfl, by simp, fun j c hj => ?_⟩)).mono ?_
  · rw [cell_of_heap (World.alloc_heap_new W _)]
    simp [hj, byteCell]
  · rintro e w' ⟨rfl, h1, h2⟩
    rw [hr] at h1 ⊢
    have hlow := hk.low h2
    have hs := h2.size
    refine ⟨rfl, ⟨h1.mono (fun b hb e => ?_), by have := h.2; have := hlow.size; have := hk.2.2; omega, Nat.le_refl _⟩, (hb.mono (Nat.le_trans h.2.1 h.2.2)).trans hlow⟩
    have h3 := hk.2
    rcases e with e | e
    · exact ⟨e.1, hb⟩
    · exact ⟨by omega, hb⟩
theorem Sm.put_litE {B : Nat → Prop} {p : Nat} {N : NM} (x y : Int) (A : Option Addr) (n c : Nat) (l : List (BitVec 8)) (W : World) (h : Nt B W p N) (hl : l.length = n) (hn : n ≤ 1000000) (E : Int) (hr : putE N.s N.D N.P.length x y n = E) (hE : E ≠ 0) :
    Calls Try.prog 12 #[.pointer (some ⟨p, 0, none⟩), .int .i64 x, .int .i64 y, .slice A n c] W fun e w' => e = .returned (.tuple #[.int .i64 0, .int .i64 E]) ∧ StepK B W w' p N := by
  have h0 := h
  obtain ⟨Mb, base, A0, cap, L, h1, h2, _⟩ := h
  have hll : L.length = N.P.length := by rw [← h2, List.length_map]
  have hb := put_bad x y A n c W h1 (by omega) (by rw [hll, hr]; exact hE)
  rw [hll, hr] at hb
  refine hb.mono ?_
  rintro e w' ⟨rfl, k1⟩
  exact ⟨rfl, stepK_same h0 k1⟩
section
variable {n0 hi p : Nat} {N : NM}
theorem Sm.take_lit (x y pick : Int) (W : World) (h : NW n0 hi W p N) (r : NM × PD × Int) (hr : takeN N x y pick = r) (n : Nat) (hn : r.2.1.2.2.2.length = n) :
    Calls Try.prog 14 #[.pointer (some ⟨p, 0, none⟩), .int .i64 x, .int .i64 y, .int .i64 pick] W fun e w' => ∃ A c, e = .returned (.tuple #[.agg #[.int .i64 r.2.1.1, .int .i64 r.2.1.2.1, .int .i64 r.2.1.2.2.1, .slice A n c], .int .i64 r.2.2]) ∧ NW n0 hi (w'.alloc (.cells #[.int .i64 r.2.1.1, .int .i64 r.2.1.2.1, .int .i64 r.2.1.2.2.1, .slice A n c] 41)) p r.1 ∧ PK hi (w'.alloc (.cells #[.int .i64 r.2.1.1, .int .i64 r.2.1.2.1, .int .i64 r.2.1.2.2.1, .slice A n c] 41)) w'.heap.size r.2.1 A c ∧ But (fun b => n0 ≤ b ∧ b < hi) W (w'.alloc (.cells #[.int .i64 r.2.1.1, .int .i64 r.2.1.2.1, .int .i64 r.2.1.2.2.1, .slice A n c] 41)) := by
  subst hn
  refine (take_N x y pick W h.1).mono ?_
  rintro e w' ⟨A, c, rfl, h1, h2, h3⟩
  rw [hr] at h1 h2 ⊢
  refine ⟨A, c, rfl, NW.keep ⟨h2, h.2.1, Nat.le_trans h.2.2 h3.size⟩ ((Below.refl _ w').alloc (Nat.le_refl _) _), PK.new h1 h.2.2 h3.size, h3.alloc _⟩
theorem Sm.drop_lit (x y pick : Int) (W : World) (h : NW n0 hi W p N) (r : NM × Int × Int) (hr : dropN N x y pick = r) :
    Calls Try.prog 15 #[.pointer (some ⟨p, 0, none⟩), .int .i64 x, .int .i64 y, .int .i64 pick] W fun e w' => e = .returned (.tuple #[.int .i64 r.2.1, .int .i64 r.2.2]) ∧ NW n0 hi w' p r.1 ∧ But (fun b => n0 ≤ b ∧ b < hi) W w' := by
  refine (drop_N x y pick W h.1).mono ?_
  rintro e w' ⟨rfl, h2, h3⟩
  rw [hr] at h2 ⊢
  exact ⟨rfl, ⟨h2, h.2.1, Nat.le_trans h.2.2 h3.size⟩, h3⟩
theorem Sm.down_lit (x y : Int) (is : Bool) (W : World) (h : NW n0 hi W p N) (r : NM × Int) (hr : downN N x y is = r) :
    Calls Try.prog 18 #[.pointer (some ⟨p, 0, none⟩), .int .i64 x, .int .i64 y, .bool is] W fun e w' => e = .returned (.int .i64 r.2) ∧ NW n0 hi w' p r.1 ∧ But (fun b => n0 ≤ b ∧ b < hi) W w' := by
  refine (down_N x y is W h.1).mono ?_
  rintro e w' ⟨rfl, h2, h3⟩
  rw [hr] at h2 ⊢
  exact ⟨rfl, ⟨h2, h.2.1, Nat.le_trans h.2.2 h3.size⟩, h3⟩
theorem Sm.putE_lit (x y : Int) (A : Option Addr) (n c : Nat) (l : List (BitVec 8)) (W : World) (h : NW n0 hi W p N) (hl : l.length = n) (hn : n ≤ 1000000) (E : Int) (hr : putE N.s N.D N.P.length x y n = E) (hE : E ≠ 0) :
    Calls Try.prog 12 #[.pointer (some ⟨p, 0, none⟩), .int .i64 x, .int .i64 y, .slice A n c] W fun e w' => e = .returned (.tuple #[.int .i64 0, .int .i64 E]) ∧ NW n0 hi w' p N ∧ But (fun b => n0 ≤ b ∧ b < hi) W w' := by
  refine (put_litE x y A n c l W h.1 hl hn E hr hE).mono ?_
  rintro e w' ⟨rfl, h2, h3⟩
  exact ⟨rfl, ⟨h2, h.2.1, Nat.le_trans h.2.2 h3.size⟩, h3⟩
end
set_option maxRecDepth 100000 in
set_option maxHeartbeats 4000000 in
theorem Sm.works_any (w : World) : Calls Try.prog 10 #[] w fun e w' => e = .returned (.bool true) ∧ Below w.heap.size w w' := by
  obtain ⟨n0, hn0⟩ : ∃ n0, w.heap.size = n0 := ⟨_, rfl⟩
  have hnew := new_N 3 10 w (by decide)
  rw [hn0] at hnew ⊢
  have HN0 := Lib.hid hn0
  clear hn0
  have P0 : ∀ (p hi : Nat) W, NW n0 hi W p (⟨⟨3, 10, 0⟩, [], []⟩ : NM) → Calls Try.prog 12 #[.pointer (some ⟨p, 0, none⟩), .int .i64 0, .int .i64 1, .slice (some ⟨W.heap.size, 0, none⟩) 1 1] (W.alloc (.cells #[.int .u8 97] 5 (1, 2))) fun e w' => e = .returned (.tuple #[.int .i64 0, .int .i64 0]) ∧ NW n0 w'.heap.size w' p (⟨⟨3, 10, 1⟩, [], [(0, 0, 1, [97#8])]⟩ : NM) ∧ Below n0 W w' :=
    fun p hi W h => put_lit 0 1 [97#8] 1 W h (by decide) rfl (by decide) 5 1 ((⟨⟨3, 10, 1⟩, [], [(0, 0, 1, [97#8])]⟩ : NM), 0, 0) (by kernel_rfl)
  have P1 : ∀ (p hi : Nat) W, NW n0 hi W p (⟨⟨3, 10, 1⟩, [], [(0, 0, 1, [97#8])]⟩ : NM) → Calls Try.prog 12 #[.pointer (some ⟨p, 0, none⟩), .int .i64 1, .int .i64 2, .slice (some ⟨W.heap.size, 0, none⟩) 1 1] (W.alloc (.cells #[.int .u8 98] 5 (1, 2))) fun e w' => e = .returned (.tuple #[.int .i64 1, .int .i64 0]) ∧ NW n0 w'.heap.size w' p (⟨⟨3, 10, 2⟩, [], [(0, 0, 1, [97#8]), (1, 1, 2, [98#8])]⟩ : NM) ∧ Below n0 W w' :=
    fun p hi W h => put_lit 1 2 [98#8] 1 W h (by decide) rfl (by decide) 5 1 ((⟨⟨3, 10, 2⟩, [], [(0, 0, 1, [97#8]), (1, 1, 2, [98#8])]⟩ : NM), 1, 0) (by kernel_rfl)
  have P2 : ∀ (p hi : Nat) W, NW n0 hi W p (⟨⟨3, 10, 2⟩, [], [(0, 0, 1, [97#8]), (1, 1, 2, [98#8])]⟩ : NM) → Calls Try.prog 12 #[.pointer (some ⟨p, 0, none⟩), .int .i64 0, .int .i64 1, .slice (some ⟨W.heap.size, 0, none⟩) 1 1] (W.alloc (.cells #[.int .u8 99] 5 (1, 2))) fun e w' => e = .returned (.tuple #[.int .i64 2, .int .i64 0]) ∧ NW n0 w'.heap.size w' p (⟨⟨3, 10, 3⟩, [], [(0, 0, 1, [97#8]), (1, 1, 2, [98#8]), (2, 0, 1, [99#8])]⟩ : NM) ∧ Below n0 W w' :=
    fun p hi W h => put_lit 0 1 [99#8] 1 W h (by decide) rfl (by decide) 5 1 ((⟨⟨3, 10, 3⟩, [], [(0, 0, 1, [97#8]), (1, 1, 2, [98#8]), (2, 0, 1, [99#8])]⟩ : NM), 2, 0) (by kernel_rfl)
  have T1 : ∀ (p hi : Nat) W, NW n0 hi W p (⟨⟨3, 10, 3⟩, [], [(0, 0, 1, [97#8]), (1, 1, 2, [98#8]), (2, 0, 1, [99#8])]⟩ : NM) → Calls Try.prog 14 #[.pointer (some ⟨p, 0, none⟩), .int .i64 0, .int .i64 1, .int .i64 1] W fun e w' => ∃ A c, e = .returned (.tuple #[.agg #[.int .i64 2, .int .i64 0, .int .i64 1, .slice A 1 c], .int .i64 0]) ∧ NW n0 hi (w'.alloc (.cells #[.int .i64 2, .int .i64 0, .int .i64 1, .slice A 1 c] 41)) p (⟨⟨3, 10, 3⟩, [], [(0, 0, 1, [97#8]), (1, 1, 2, [98#8])]⟩ : NM) ∧ PK hi (w'.alloc (.cells #[.int .i64 2, .int .i64 0, .int .i64 1, .slice A 1 c] 41)) w'.heap.size (2, 0, 1, [99#8]) A c ∧ But (fun b => n0 ≤ b ∧ b < hi) W (w'.alloc (.cells #[.int .i64 2, .int .i64 0, .int .i64 1, .slice A 1 c] 41)) :=
    fun p hi W h => take_lit (0) (1) (1) W h ((⟨⟨3, 10, 3⟩, [], [(0, 0, 1, [97#8]), (1, 1, 2, [98#8])]⟩ : NM), (2, 0, 1, [99#8]), 0) (by kernel_rfl) 1 rfl
  have T2 : ∀ (p hi : Nat) W, NW n0 hi W p (⟨⟨3, 10, 3⟩, [], [(0, 0, 1, [97#8]), (1, 1, 2, [98#8])]⟩ : NM) → Calls Try.prog 14 #[.pointer (some ⟨p, 0, none⟩), .int .i64 (-1), .int .i64 (-1), .int .i64 1] W fun e w' => ∃ A c, e = .returned (.tuple #[.agg #[.int .i64 1, .int .i64 1, .int .i64 2, .slice A 1 c], .int .i64 0]) ∧ NW n0 hi (w'.alloc (.cells #[.int .i64 1, .int .i64 1, .int .i64 2, .slice A 1 c] 41)) p (⟨⟨3, 10, 3⟩, [], [(0, 0, 1, [97#8])]⟩ : NM) ∧ PK hi (w'.alloc (.cells #[.int .i64 1, .int .i64 1, .int .i64 2, .slice A 1 c] 41)) w'.heap.size (1, 1, 2, [98#8]) A c ∧ But (fun b => n0 ≤ b ∧ b < hi) W (w'.alloc (.cells #[.int .i64 1, .int .i64 1, .int .i64 2, .slice A 1 c] 41)) :=
    fun p hi W h => take_lit ((-1)) ((-1)) (1) W h ((⟨⟨3, 10, 3⟩, [], [(0, 0, 1, [97#8])]⟩ : NM), (1, 1, 2, [98#8]), 0) (by kernel_rfl) 1 rfl
  have T3 : ∀ (p hi : Nat) W, NW n0 hi W p (⟨⟨3, 10, 3⟩, [(0, 1)], [(0, 0, 1, [97#8])]⟩ : NM) → Calls Try.prog 14 #[.pointer (some ⟨p, 0, none⟩), .int .i64 0, .int .i64 1, .int .i64 0] W fun e w' => ∃ A c, e = .returned (.tuple #[.agg #[.int .i64 0, .int .i64 0, .int .i64 0, .slice A 0 c], .int .i64 210]) ∧ NW n0 hi (w'.alloc (.cells #[.int .i64 0, .int .i64 0, .int .i64 0, .slice A 0 c] 41)) p (⟨⟨3, 10, 3⟩, [(0, 1)], [(0, 0, 1, [97#8])]⟩ : NM) ∧ PK hi (w'.alloc (.cells #[.int .i64 0, .int .i64 0, .int .i64 0, .slice A 0 c] 41)) w'.heap.size (0, 0, 0, []) A c ∧ But (fun b => n0 ≤ b ∧ b < hi) W (w'.alloc (.cells #[.int .i64 0, .int .i64 0, .int .i64 0, .slice A 0 c] 41)) :=
    fun p hi W h => take_lit (0) (1) (0) W h ((⟨⟨3, 10, 3⟩, [(0, 1)], [(0, 0, 1, [97#8])]⟩ : NM), (0, 0, 0, []), 210) (by kernel_rfl) 0 rfl
  have T4 : ∀ (p hi : Nat) W, NW n0 hi W p (⟨⟨3, 10, 3⟩, [(0, 1)], []⟩ : NM) → Calls Try.prog 14 #[.pointer (some ⟨p, 0, none⟩), .int .i64 0, .int .i64 1, .int .i64 0] W fun e w' => ∃ A c, e = .returned (.tuple #[.agg #[.int .i64 0, .int .i64 0, .int .i64 0, .slice A 0 c], .int .i64 5]) ∧ NW n0 hi (w'.alloc (.cells #[.int .i64 0, .int .i64 0, .int .i64 0, .slice A 0 c] 41)) p (⟨⟨3, 10, 3⟩, [(0, 1)], []⟩ : NM) ∧ PK hi (w'.alloc (.cells #[.int .i64 0, .int .i64 0, .int .i64 0, .slice A 0 c] 41)) w'.heap.size (0, 0, 0, []) A c ∧ But (fun b => n0 ≤ b ∧ b < hi) W (w'.alloc (.cells #[.int .i64 0, .int .i64 0, .int .i64 0, .slice A 0 c] 41)) :=
    fun p hi W h => take_lit (0) (1) (0) W h ((⟨⟨3, 10, 3⟩, [(0, 1)], []⟩ : NM), (0, 0, 0, []), 5) (by kernel_rfl) 0 rfl
  have T5 : ∀ (p hi : Nat) W, NW n0 hi W p (⟨⟨3, 10, 3⟩, [(0, 1)], []⟩ : NM) → Calls Try.prog 14 #[.pointer (some ⟨p, 0, none⟩), .int .i64 0, .int .i64 (-1), .int .i64 0] W fun e w' => ∃ A c, e = .returned (.tuple #[.agg #[.int .i64 0, .int .i64 0, .int .i64 0, .slice A 0 c], .int .i64 2]) ∧ NW n0 hi (w'.alloc (.cells #[.int .i64 0, .int .i64 0, .int .i64 0, .slice A 0 c] 41)) p (⟨⟨3, 10, 3⟩, [(0, 1)], []⟩ : NM) ∧ PK hi (w'.alloc (.cells #[.int .i64 0, .int .i64 0, .int .i64 0, .slice A 0 c] 41)) w'.heap.size (0, 0, 0, []) A c ∧ But (fun b => n0 ≤ b ∧ b < hi) W (w'.alloc (.cells #[.int .i64 0, .int .i64 0, .int .i64 0, .slice A 0 c] 41)) :=
    fun p hi W h => take_lit (0) ((-1)) (0) W h ((⟨⟨3, 10, 3⟩, [(0, 1)], []⟩ : NM), (0, 0, 0, []), 2) (by kernel_rfl) 0 rfl
  have W1 : ∀ (p hi : Nat) W, NW n0 hi W p (⟨⟨3, 10, 3⟩, [], [(0, 0, 1, [97#8])]⟩ : NM) → Calls Try.prog 18 #[.pointer (some ⟨p, 0, none⟩), .int .i64 0, .int .i64 1, .bool true] W fun e w' => e = .returned (.int .i64 0) ∧ NW n0 hi w' p (⟨⟨3, 10, 3⟩, [(0, 1)], [(0, 0, 1, [97#8])]⟩ : NM) ∧ But (fun b => n0 ≤ b ∧ b < hi) W w' := fun p hi W h => down_lit 0 1 true W h ((⟨⟨3, 10, 3⟩, [(0, 1)], [(0, 0, 1, [97#8])]⟩ : NM), 0) (by kernel_rfl)
  have E1 : ∀ (p hi : Nat) W, NW n0 hi W p (⟨⟨3, 10, 3⟩, [(0, 1)], [(0, 0, 1, [97#8])]⟩ : NM) → Calls Try.prog 12 #[.pointer (some ⟨p, 0, none⟩), .int .i64 0, .int .i64 1, .slice (some ⟨W.heap.size, 0, none⟩) 1 1] (W.alloc (.cells #[.int .u8 100] 5 (1, 2))) fun e w' => e = .returned (.tuple #[.int .i64 0, .int .i64 210]) ∧ NW n0 hi w' p (⟨⟨3, 10, 3⟩, [(0, 1)], [(0, 0, 1, [97#8])]⟩ : NM) ∧ But (fun b => n0 ≤ b ∧ b < hi) W w' := fun p hi W h => (putE_lit 0 1 _ 1 1 [100#8] (W.alloc (.cells #[.int .u8 100] 5 (1, 2))) (h.keep ((Below.refl _ W).alloc (Nat.le_refl _) _)) rfl (by decide) 210 (by kernel_rfl) (by decide)).mono fun e w' ⟨h1, h2, h3⟩ => ⟨h1, h2, (But.of_all ((Below.refl _ W).alloc (Nat.le_refl _) _) _).trans h3 (fun _ _ e => e)⟩
  have D1 : ∀ (p hi : Nat) W, NW n0 hi W p (⟨⟨3, 10, 3⟩, [(0, 1)], [(0, 0, 1, [97#8])]⟩ : NM) → Calls Try.prog 15 #[.pointer (some ⟨p, 0, none⟩), .int .i64 0, .int .i64 1, .int .i64 7] W fun e w' => e = .returned (.tuple #[.int .i64 0, .int .i64 0]) ∧ NW n0 hi w' p (⟨⟨3, 10, 3⟩, [(0, 1)], []⟩ : NM) ∧ But (fun b => n0 ≤ b ∧ b < hi) W w' := fun p hi W h => drop_lit 0 1 7 W h ((⟨⟨3, 10, 3⟩, [(0, 1)], []⟩ : NM), 0, 0) (by kernel_rfl)
  have E2 : ∀ (p hi : Nat) W, NW n0 hi W p (⟨⟨3, 10, 3⟩, [(0, 1)], []⟩ : NM) → Calls Try.prog 12 #[.pointer (some ⟨p, 0, none⟩), .int .i64 3, .int .i64 0, .slice none 0 0] W fun e w' => e = .returned (.tuple #[.int .i64 0, .int .i64 2]) ∧ NW n0 hi w' p (⟨⟨3, 10, 3⟩, [(0, 1)], []⟩ : NM) ∧ But (fun b => n0 ≤ b ∧ b < hi) W w' := fun p hi W h => putE_lit 3 0 none 0 0 [] W h rfl (by decide) 2 (by kernel_rfl) (by decide)
  have L1 : ∀ (p hi : Nat) W, NW n0 hi W p (⟨⟨3, 10, 3⟩, [(0, 1)], []⟩ : NM) → Calls Try.prog 20 #[.pointer (some ⟨p, 0, none⟩), .int .i64 (-1), .int .i64 (-1)] W fun e w' => e = .returned (.int .i64 0) ∧ Below W.heap.size W w' := fun p hi W h => len_N (-1) (-1) W h.1
  have C1 : ∀ (p hi : Nat) W, NW n0 hi W p (⟨⟨3, 10, 3⟩, [(0, 1)], []⟩ : NM) → Calls Try.prog 21 #[.pointer (some ⟨p, 0, none⟩)] W fun e w' => e = .returned (.int .i64 3) ∧ W = w' := fun p hi W h => came_N W h.1
  have kc := fun (w : World) (C : Array Value) (n c : Nat) => Lib.run_convert_bytes_const (P := Try.prog) w 39 5 C n c Try.underlying39 Try.underlying5
  go_enter Try.func10, Try.ntmps10
  go_upto_region 9 with (first
    | (go_at_call 26; (with_reducible refine hnew.mono ?_); clear hnew; rintro e w1 ⟨p, rfl, hD, hb⟩; have HB1 := Lib.hid hb; have HD1 : Hid (NW n0 w1.heap.size w1 p (⟨⟨3, 10, 0⟩, [], []⟩ : NM)) := Lib.hid ⟨hD.mono (fun b hb e => ⟨e, hb⟩), by have h1 := hb.size; have h2 := HN0.out; omega, Nat.le_refl _⟩; clear hD hb)
    | (go_at_call 12; (with_reducible refine (P0 _ _ _ HD1.out).mono ?_); rintro e w2 ⟨rfl, hD, hb⟩; have HB2 := Lib.hid (HB1.out.trans hb); have HD2 := Lib.hid hD; clear hD hb HD1 HB1)
    | (go_at_call 12; (with_reducible refine (P1 _ _ _ HD2.out).mono ?_); rintro e w3 ⟨rfl, hD, hb⟩; have HB3 := Lib.hid (HB2.out.trans hb); have HD3 := Lib.hid hD; clear hD hb HD2 HB2)
    | (go_at_call 12; (with_reducible refine (P2 _ _ _ HD3.out).mono ?_); rintro e w4 ⟨rfl, hD, hb⟩; have HB4 := Lib.hid (HB3.out.trans hb); have HD4 := Lib.hid hD; clear hD hb HD3 HB3)
    | (go_at_call 14; (with_reducible refine (T1 _ _ _ HD4.out).mono ?_); rintro e w5 ⟨A1, c1, rfl, hD, hp, hb⟩; have HB5 := Lib.hid (HB4.out.trans (HD4.out.low hb)); have HD5 := Lib.hid hD; have HX5 := Lib.hid hp; clear hD hb hp HD4 HB4)
    | (go_at_call 14; (with_reducible refine (T2 _ _ _ HD5.out).mono ?_); rintro e w6 ⟨A2, c2, rfl, hD, hp, hb⟩; have HB6 := Lib.hid (HB5.out.trans (HD5.out.low hb)); have HD6 := Lib.hid hD; have HX6 := Lib.hid (HX5.out.but hb); have HY6 := Lib.hid hp; clear hD hb hp HD5 HB5 HX5)
    | (go_at_call 18; (with_reducible refine (W1 _ _ _ HD6.out).mono ?_); rintro e w7 ⟨rfl, hD, hb⟩; have HB7 := Lib.hid (HB6.out.trans (HD6.out.low hb)); have HD7 := Lib.hid hD; have HX7 := Lib.hid (HX6.out.but hb); have HY7 := Lib.hid (HY6.out.but hb); clear hD hb HD6 HB6 HX6 HY6)
    | (go_at_call 14; (with_reducible refine (T3 _ _ _ HD7.out).mono ?_); rintro e w8 ⟨A3, c3, rfl, hD, _, hb⟩; have HB8 := Lib.hid (HB7.out.trans (HD7.out.low hb)); have HD8 := Lib.hid hD; have HX8 := Lib.hid (HX7.out.but hb); have HY8 := Lib.hid (HY7.out.but hb); clear hD hb HD7 HB7 HX7 HY7))
  obtain ⟨w8b, hw8b⟩ : ∃ V, w8.alloc (.cells #[.int .i64 0, .int .i64 0, .int .i64 0, .slice A3 0 c3] 41) = V := ⟨_, rfl⟩
  rw [hw8b] at HD8 HB8 HX8 HY8 ⊢
  clear hw8b
  go_upto_region 14 with (first
    | (go_at_call 12; (with_reducible refine (E1 _ _ _ HD8.out).mono ?_); rintro e w9 ⟨rfl, hD, hb⟩; have HB9 := Lib.hid (HB8.out.trans (HD8.out.low hb)); have HD9 := Lib.hid hD; have HX9 := Lib.hid (HX8.out.but hb); have HY9 := Lib.hid (HY8.out.but hb); clear hD hb HD8 HB8 HX8 HY8)
    | (go_at_call 15; (with_reducible refine (D1 _ _ _ HD9.out).mono ?_); rintro e w10 ⟨rfl, hD, hb⟩; have HB10 := Lib.hid (HB9.out.trans (HD9.out.low hb)); have HD10 := Lib.hid hD; have HX10 := Lib.hid (HX9.out.but hb); have HY10 := Lib.hid (HY9.out.but hb); clear hD hb HD9 HB9 HX9 HY9)
    | (go_at_call 12; (with_reducible refine (E2 _ _ _ HD10.out).mono ?_); rintro e w11 ⟨rfl, hD, hb⟩; have HB11 := Lib.hid (HB10.out.trans (HD10.out.low hb)); have HD11 := Lib.hid hD; have HX11 := Lib.hid (HX10.out.but hb); have HY11 := Lib.hid (HY10.out.but hb); clear hD hb HD10 HB10 HX10 HY10)
    | (go_at_call 14; (with_reducible refine (T4 _ _ _ HD11.out).mono ?_); rintro e w12 ⟨A4, c4, rfl, hD, _, hb⟩; have HB12 := Lib.hid (HB11.out.trans (HD11.out.low hb)); have HD12 := Lib.hid hD; have HX12 := Lib.hid (HX11.out.but hb); have HY12 := Lib.hid (HY11.out.but hb); clear hD hb HD11 HB11 HX11 HY11)
    | (go_at_call 14; (with_reducible refine (T5 _ _ _ HD12.out).mono ?_); rintro e w13 ⟨A5, c5, rfl, hD, _, hb⟩; have HB13 := Lib.hid (HB12.out.trans (HD12.out.low hb)); have HD13 := Lib.hid hD; have HX13 := Lib.hid (HX12.out.but hb); have HY13 := Lib.hid (HY12.out.but hb); clear hD hb HD12 HB12 HX12 HY12))
  have sx := HX13.out.str
  have sy := HY13.out.str
  have kx := cell_of_heap HX13.out.blk 3
  have ky := cell_of_heap HY13.out.blk 3
  simp only [List.getElem?_toArray, List.getElem?_cons_zero, List.getElem?_cons_succ, List.length_cons, List.length_nil] at kx ky sx sy
  clear HX13 HY13
  have ec : strB [99#8] = ⟨#[99]⟩ := by decide +kernel
  have eb : strB [98#8] = ⟨#[98]⟩ := by decide +kernel
  rw [ec] at sx
  rw [eb] at sy
  go_wp2_with (first
    | (go_at_call 17; (with_reducible refine (num_any _ _ (by decide) (by decide)).mono ?_); rintro e w' ⟨rfl, rfl⟩)
    | (go_at_call 20; (with_reducible refine (L1 _ _ _ HD13.out).mono ?_); rintro e w14 ⟨rfl, hb⟩; have HB14 := Lib.hid (HB13.out.trans (hb.mono (Nat.le_trans HD13.out.2.1 HD13.out.2.2))); have HD14 := Lib.hid (HD13.out.keep hb); clear hb)
    | (go_at_call 21; (with_reducible refine (C1 _ _ _ HD14.out).mono ?_); rintro e w' ⟨rfl, rfl⟩))
  go_ret
  exact ⟨rfl, HB14.out⟩
end Go.Proofs
