/-
  A call by both, the program's disk and the document's: act. A disk behind calls, and the document's: played. Conditions: as each theorem names them.
-/
import Derived.BigQuiet
import Derived.Test.YtnobmejcbgocoaaRk
import Derived.Test.YtnobmejcbgocoaaLwB
import Derived.Test.YtnobmejcbgocoaaDkY
namespace Go.Proofs
open Go Go.RowKit Sm Go.Lib Go.Maps Go.WideMaps
attribute [local go_sem] Oper.semAt_some
/-- what a call makes of a disk -/
def Sm.actM (s : DSt) (L : List (List (BitVec 8) × List (BitVec 8) × Nat)) (y : ActV) : DSt × List (List (BitVec 8) × List (BitVec 8) × Nat) :=
  if y.crash = true then (⟨false, 0, false, s.room⟩, crM y.picks 0 L) else if y.stop = true then ((stoM s y.N).1, L) else ((stepM s L y).1, (stepM s L y).2.1)
/-- both disks behind a call -/
structure Sm.ActAt (B S : Nat → Prop) (p0 : Nat) (cr : Bool) (w w' : World) (v : Value) (s : DSt) (L : List (List (BitVec 8) × List (BitVec 8) × Nat)) : Prop where
  ex : ∃ q A n c fs B', v = .tuple #[.pointer (some ⟨q, 0, none⟩), refV s A n c, .bool true] ∧ (cr = false → q = p0) ∧ Dk B' w' q s L ∧ FsAt (fun b => S b ∨ B' b) w' A fs ∧ fs.length = n ∧ fs.map (fun f => f.t) = L ∧ ∀ b, B' b → (B b ∨ w.heap.size ≤ b) ∧ b < w'.heap.size
  but : But B w w'
theorem Sm.Dk.tight {B : Nat → Prop} {W : World} {p : Nat} {s : DSt} {L : List (List (BitVec 8) × List (BitVec 8) × Nat)} (h : Dk B W p s L) : Dk (fun b => B b ∧ b < W.heap.size) W p s L := h.mono fun _ h1 h2 => ⟨h2, h1⟩
theorem Sm.Dk.roomy {B : Nat → Prop} {W : World} {p : Nat} {s : DSt} {L : List (List (BitVec 8) × List (BitVec 8) × Nat)} (h : Dk B W p s L) : (0 < s.room ∧ s.room ≤ 16777216) ∧ (usedL L : Int) ≤ s.room := by
  obtain ⟨Mb, base, G, hD, hm, _⟩ := h
  have := hD.room_
  rw [← hm, ← used_map]
  exact ⟨⟨this.1, this.2.1⟩, this.2.2⟩
theorem Sm.Rd.rds {W : World} {S : Nat → Prop} {N : Nat} {A : Option Addr} {l : List (BitVec 8)} (h : Rd W N A l) (hN : N ≤ W.heap.size) (hS : ∀ b, S b → N ≤ b) : Rds W S A (l.map byteCell) := fun h0 => by
  obtain ⟨b, off, e, hb, hc⟩ := h (by simpa using h0)
  refine ⟨b, off, e, by omega, fun e2 => by have := hS b e2; omega, fun j c hj => ?_⟩
  rw [List.getElem?_map] at hj
  obtain ⟨x, hx, rfl⟩ := Option.map_eq_some_iff.1 hj
  exact hc j x hx
theorem Sm.used_each {L : List (List (BitVec 8) × List (BitVec 8) × Nat)} {t : List (BitVec 8) × List (BitVec 8) × Nat} (h : t ∈ L) : t.2.1.length ≤ usedL L := by
  obtain ⟨a, b, rfl⟩ := List.append_of_mem h
  unfold usedL
  rw [List.map_append, List.sum_append, List.map_cons, List.sum_cons]
  omega
theorem Sm.cells8 {W : World} {B : Nat} {a b c d e f g h : Value} {t : TypeId} (hx : W.heap[B]? = some (.cells #[a, b, c, d, e, f, g, h] t (0, 0))) :
    W.cell? ⟨B, 0, none⟩ = some a ∧ W.cell? ⟨B, 1, none⟩ = some b ∧ W.cell? ⟨B, 2, none⟩ = some c ∧ W.cell? ⟨B, 3, none⟩ = some d ∧ W.cell? ⟨B, 4, none⟩ = some e ∧ W.cell? ⟨B, 5, none⟩ = some f ∧ W.cell? ⟨B, 6, none⟩ = some g ∧ W.cell? ⟨B, 7, none⟩ = some h := by
  have r0 := cell_of_heap hx 0
  have r1 := cell_of_heap hx 1
  have r2 := cell_of_heap hx 2
  have r3 := cell_of_heap hx 3
  have r4 := cell_of_heap hx 4
  have r5 := cell_of_heap hx 5
  have r6 := cell_of_heap hx 6
  have r7 := cell_of_heap hx 7
  simp only [List.getElem?_toArray, List.getElem?_cons_succ, List.getElem?_cons_zero] at r0 r1 r2 r3 r4 r5 r6 r7
  exact ⟨r0, r1, r2, r3, r4, r5, r6, r7⟩
theorem Sm.act_end {B S : Nat → Prop} {p R : Nat} {s : DSt} {w w6 w7 w8 : World} (A : Option Addr) (n c : Nat) (fs : List FileR) (hF : FsAt (fun b => S b ∨ b = R) w6 A fs) (hn : fs.length = n) (hSB : ∀ b, B b → S b) (hS : ∀ b, S b → b < w.heap.size)
    (hb6 : Below w.heap.size w w6) (hb67 : But B w6 w7) (hb78 : But (fun b => b = R) w7 w8) (hR : w.heap.size ≤ R) (hR6 : R < w6.heap.size) (hD : Dk (fun b => B b ∨ w6.heap.size ≤ b) w7 p s (fs.map fun f => f.t)) :
    ActAt B S p false w w8 (.tuple #[.pointer (some ⟨p, 0, none⟩), refV s A n c, .bool true]) s (fs.map fun f => f.t) := by
  have h67 := hb67.size
  have h78 := hb78.size
  have h6 := hb6.size
  refine ⟨⟨p, A, n, c, fs, _, rfl, fun _ => rfl, (hD.tight.but hb78 (fun b h1 h2 => ?_)), ?_, hn, rfl, fun b h1 => ⟨h1.1.imp id (fun h2 => by omega), by omega⟩⟩, ?_⟩
  · rcases h2.1 with h2 | h2
    · have := hS b (hSB b h2); omega
    · omega
  · have h1 : FsAt (fun b => (S b ∨ ((B b ∨ w6.heap.size ≤ b) ∧ b < w7.heap.size)) ∨ b = R) w6 A fs := hF.less (fun b h1 h2 => by
      rcases h2 with (h2 | ⟨h2 | h2, _⟩) | h2
      · exact .inl h2
      · exact .inl (hSB b h2)
      · omega
      · exact .inr h2)
    exact ((h1.but hb67 (fun b e => .inl (.inl (hSB b e)))).but hb78 (fun b e => .inr e)).less (fun b _ e => .inl e)
  · exact ((But.of_all hb6 B).trans hb67 (fun b _ e => e)).trans hb78 (fun b h1 e => by omega)
set_option maxRecDepth 100000 in
set_option maxHeartbeats 4000000 in
theorem Sm.act_any {B S : Nat → Prop} {p : Nat} {s : DSt} {L : List (List (BitVec 8) × List (BitVec 8) × Nat)} (A : Option Addr) (n c : Nat) (fs : List FileR) (y : ActV) (N : Nat) (w : World)
    (hd : Dk B w p s L) (h : FsAt S w A fs) (hn : fs.length = n) (hm : fs.map (fun f => f.t) = L) (hL : L.length ≤ 100000) (hSB : ∀ b, B b → S b) (hS : ∀ b, S b → b < w.heap.size ∧ N ≤ b) (hN : N ≤ w.heap.size) (he : EndOK s) (hy : smallA y = true)
    (hyl : y.bytes.length = y.n) (hbd : y.N ≤ 9223372036854775807) (hrd : Rd w N y.A y.bytes) (hpl : y.picks.length = y.np) (hpr : y.np ≤ y.cp ∧ y.cp ≤ 9223372036854775807) (hprd : Rds w (fun _ => False) y.Ap (y.picks.map fun k => .int .i64 k)) :
    Calls Try.prog 31 #[.pointer (some ⟨p, 0, none⟩), refV s A n c, .agg y.cells.toArray] w fun e w' => ∃ v, e = .returned v ∧ ActAt B S p y.crash w w' v (actM s L y).1 (actM s L y).2 := by
  have hrm := hd.roomy
  have hfc := hd.facts
  subst hm
  have hul : ∀ t ∈ fs.map (fun f => f.t), t.2.1.length ≤ 16777216 := fun t ht => by
    have := used_each ht
    omega
  obtain ⟨what, name, to_, XA, Xn, Xc, bytes, NN, stop, crash, Ap, np, cp, picks⟩ := y
  dsimp only at hyl hbd hrd hpl hpr hprd
  obtain ⟨st, af, de, ro⟩ := s
  obtain ⟨w3, hw3⟩ : ∃ w3, ((w.alloc (.cells #[.int .i64 ro, .slice A n c, .bool st, .int .i64 af, .bool de] 28)).alloc (.cells #[.int .i64 what, .string name, .string to_, .slice XA Xn Xc, .int .i64 NN, .bool stop, .bool crash, .slice Ap np cp] 68)).alloc (.cells #[.int .i64 0, .slice none 0 0, .bool false, .int .i64 0, .bool false] 28) = w3 := ⟨_, rfl⟩
  have hb3 : Below w.heap.size w w3 := by rw [← hw3]; exact (((Below.refl _ w).alloc (Nat.le_refl _) _).alloc (by simp) _).alloc (by simp; omega) _
  have hx : w3.heap[w.heap.size]? = some (.cells #[.int .i64 ro, .slice A n c, .bool st, .int .i64 af, .bool de] 28 (0, 0)) := by
    rw [← hw3]; exact ((Below.heap_alloc _ _ _ (by simp; omega)).trans (Below.heap_alloc _ _ _ (by simp))).trans (World.alloc_heap_new w _)
  have hz : w3.heap[w.heap.size + 1]? = some (.cells #[.int .i64 what, .string name, .string to_, .slice XA Xn Xc, .int .i64 NN, .bool stop, .bool crash, .slice Ap np cp] 68 (0, 0)) := by
    rw [← hw3]
    refine (Below.heap_alloc _ _ _ (by simp)).trans ?_
    have := World.alloc_heap_new (w.alloc (.cells #[.int .i64 ro, .slice A n c, .bool st, .int .i64 af, .bool de] 28)) (.cells #[.int .i64 what, .string name, .string to_, .slice XA Xn Xc, .int .i64 NN, .bool stop, .bool crash, .slice Ap np cp] 68)
    rwa [World.size_alloc] at this
  have hr : w3.heap[w.heap.size + 1 + 1]? = some (.cells #[.int .i64 0, .slice none 0 0, .bool false, .int .i64 0, .bool false] 28 (0, 0)) := by
    rw [← hw3]
    have := World.alloc_heap_new ((w.alloc (.cells #[.int .i64 ro, .slice A n c, .bool st, .int .i64 af, .bool de] 28)).alloc (.cells #[.int .i64 what, .string name, .string to_, .slice XA Xn Xc, .int .i64 NN, .bool stop, .bool crash, .slice Ap np cp] 68)) (.cells #[.int .i64 0, .slice none 0 0, .bool false, .int .i64 0, .bool false] 28)
    rwa [World.size_alloc, World.size_alloc] at this
  have hs3 : w.heap.size + 1 + 1 < w3.heap.size := (Array.getElem?_eq_some_iff.1 hr).1
  obtain ⟨x0, x1, x2, x3, x4⟩ := cells5 hx
  obtain ⟨z0, z1, z2, z3, z4, z5, z6, z7⟩ := cells8 hz
  have HX := Lib.hid hx
  have HZ := Lib.hid hz
  have HR := Lib.hid hr
  have HB3 := Lib.hid hb3
  have HD := Lib.hid (hd.keep hb3)
  have HF := Lib.hid h
  have HN := Lib.hid hn
  have HW3 := Lib.hid hw3
  have HSB := Lib.hid hSB
  have HS := Lib.hid hS
  have HFC := Lib.hid hfc
  have HUL := Lib.hid hul
  have HRM := Lib.hid hrm
  have hlen : fs.length ≤ 100000 := by simpa using hL
  clear hx hz hr hb3 hd h hn hw3 hSB hS hfc hul hrm
  unfold refV
  dsimp only
  unfold ActV.cells
  dsimp only
  cases crash with
  | true =>
    have hact : actM ⟨st, af, de, ro⟩ (fs.map fun f => f.t) ⟨what, name, to_, XA, Xn, Xc, bytes, NN, stop, true, Ap, np, cp, picks⟩ = (⟨false, 0, false, ro⟩, crM picks 0 (fs.map fun f => f.t)) := by unfold actM; rw [if_pos rfl]
    rw [hact]
    have hpk := pkv_came hpl hpr.1 hpr.2 (hprd.but (But.of_all HB3.out (fun _ => False)) (fun _ e => e))
    have hcr := crash_M Ap np cp picks w3 HD.out (by simpa using (by omega : fs.length ≤ 1000000)) hpk
    clear hact hpk
    go_enter Try.func31, Try.ntmps31
    go_upto_region 1 with fail
    rw [HW3.out]
    go_upto_region 3 with (go_at_call 14; (with_reducible refine hcr.mono ?_); clear hcr; rintro e w4 ⟨q, rfl, hD4, hb4⟩)
    have hF4 : FsAt (fun b => (S b ∨ (w3.heap.size ≤ b ∧ b < w4.heap.size)) ∨ b = w.heap.size + 1 + 1) w4 A fs := ((HF.out.less (fun b h1 h2 => h2.elim (fun h3 => h3.elim id (fun h4 => absurd h4.1 (by omega))) (fun h4 => by omega))).keep HB3.out).keep hb4
    have hpk4 := pkv_came hpl hpr.1 hpr.2 (hprd.but (But.of_all (HB3.out.trans (hb4.mono HB3.out.size)) (fun _ => False)) (fun _ e => e))
    have hrc := refCrash_any ⟨st, af, de, ro⟩ A n c fs Ap np cp picks w4 hF4 HN.out (by have := HN.out; omega) (fun b h1 => by have := hb4.size; rcases h1 with (h1 | h1) | h1; have := HS.out b h1; omega; exact h1.2; omega) (fun f hf => ⟨(HFC.out.2 f.t (List.mem_map.2 ⟨f, hf, rfl⟩)).2, by have := HUL.out f.t (List.mem_map.2 ⟨f, hf, rfl⟩); omega⟩) hpk4
    unfold refV at hrc
    dsimp only at hrc
    obtain ⟨x0, x1, x2, x3, x4⟩ := cells5 ((hb4.block _ (by omega)).trans HX.out)
    obtain ⟨z0, z1, z2, z3, z4, z5, z6, z7⟩ := cells8 ((hb4.block _ (by omega)).trans HZ.out)
    have hR4 := (hb4.block _ hs3).trans HR.out
    have HR4 := Lib.hid hR4
    have HB4 := Lib.hid hb4
    have HD4 := Lib.hid hD4.tight
    have hs4 := hb4.size
    clear hpk4 hF4 hb4 hD4 hR4
    have hlt4 : w.heap.size + 1 + 1 < w4.heap.size := by omega
    go_wp2_with (first
      | (go_at_call 58; (with_reducible refine hrc.mono ?_); clear hrc; rintro e w5 ⟨A5, c5, fs5, rfl, hF5, hm5, hb5⟩; have hR5 := (hb5.block _ hlt4).trans HR4.out; obtain ⟨k0, k1, k2, k3, k4⟩ := cells5 hR5; have g0 := frozen_of_heap hR5 0; have g1 := frozen_of_heap hR5 1; have g2 := frozen_of_heap hR5 2; have g3 := frozen_of_heap hR5 3; have g4 := frozen_of_heap hR5 4)
      | (go_at_call 15; (with_reducible refine (num_any _ _ (by decide) (by decide)).mono ?_); rintro e w' ⟨rfl, rfl⟩))
    obtain ⟨d0, d1, d2, d3, d4⟩ := cells5 (set5 hR5 (.int .i64 ro) (.slice A5 n c5) (.bool false) (.int .i64 0) (.bool false))
    have hbp := put5 w5 (w.heap.size + 1 + 1) (.int .i64 ro) (.slice A5 n c5) (.bool false) (.int .i64 0) (.bool false)
    obtain ⟨w6, hw6⟩ : ∃ w6, ((((w5.setCell ⟨w.heap.size + 1 + 1, 0, none⟩ (.int .i64 ro)).setCell ⟨w.heap.size + 1 + 1, 1, none⟩ (.slice A5 n c5)).setCell ⟨w.heap.size + 1 + 1, 2, none⟩ (.bool false)).setCell ⟨w.heap.size + 1 + 1, 3, none⟩ (.int .i64 0)).setCell ⟨w.heap.size + 1 + 1, 4, none⟩ (.bool false) = w6 := ⟨_, rfl⟩
    rw [hw6] at hbp d0 d1 d2 d3 d4 ⊢
    refine bodyPost_ret (v := .tuple #[.pointer (some ⟨q, 0, none⟩), .agg #[.int .i64 ro, .slice A5 n c5, .bool false, .int .i64 0, .bool false], .bool true]) (by simp [results, Try.results31, go_sem, d0, d1, d2, d3, d4]) rfl ⟨_, rfl, ?_⟩
    have hs5 := hb5.size
    have hs6 := hbp.size
    have hD6 := (HD4.out.keep hb5).but hbp (fun b h1 h2 => by omega)
    have hF6 : FsAt (fun b => (S b ∨ (w3.heap.size ≤ b ∧ b < w4.heap.size)) ∨ b = w.heap.size + 1 + 1) w6 A5 fs5 := by
      exact hF5.but hbp (fun b e => .inr e)
    refine ⟨⟨q, A5, n, c5, fs5, _, rfl, fun e => absurd e (show ¬ (true = false) by decide), hD6, hF6.less (fun b _ h1 => ?_), ?_, hm5, fun b h1 => ⟨.inr (by omega), by omega⟩⟩, ?_⟩
    · rcases h1 with h1 | h1
      · exact .inl (.inl h1)
      · exact .inl (.inr h1)
    · have := congrArg List.length hm5
      rw [List.length_map, crM_len, List.length_map] at this
      have := HN.out
      omega
    · exact But.of_all ((HB3.out.trans ((HB4.out.trans (hb5.mono HB4.out.size)).mono HB3.out.size)).trans (hbp.to_below (by omega) (fun b e => by omega))) B
  | false =>
    cases stop with
    | true =>
      have hact : actM ⟨st, af, de, ro⟩ (fs.map fun f => f.t) ⟨what, name, to_, XA, Xn, Xc, bytes, NN, true, false, Ap, np, cp, picks⟩ = ((stoM ⟨st, af, de, ro⟩ NN).1, fs.map fun f => f.t) := by unfold actM; rw [if_neg (show ¬ (false = true) by decide), if_pos rfl]
      rw [hact]
      have hrs := refStop_any ⟨st, af, de, ro⟩ A n c NN w3
      obtain ⟨r, hr⟩ : ∃ r, stoM ⟨st, af, de, ro⟩ NN = r := ⟨_, rfl⟩
      have her : r.2 = 0 ∨ r.2 = 2 ∨ r.2 = 172 := by
        rw [← hr]
        unfold stoM
        split
        · exact .inr (.inl rfl)
        · split
          · exact .inr (.inr rfl)
          · exact .inl rfl
      rw [hr] at hrs ⊢
      have hsM := fun W (hb : Below w3.heap.size w3 W) => stop_M NN W (HD.out.keep hb) hbd
      rw [hr] at hsM
      obtain ⟨⟨s1, a1, de1, r1⟩, er⟩ := r
      dsimp only at her hrs hsM ⊢
      have he0 : 0 ≤ er := by omega
      have he1 : er ≤ 100000 := by omega
      have hee : (er == er) = true := by simp
      have HSM := Lib.hid hsM
      have HNU := Lib.hid (fun W => num_any er W he0 he1)
      clear hact hsM hr her
      unfold refV at hrs
      dsimp only at hrs
      go_enter Try.func31, Try.ntmps31
      go_upto_region 1 with fail
      rw [HW3.out]
      go_upto_region 6 with (go_at_call 59; (with_reducible refine hrs.mono ?_); clear hrs; rintro e w4 ⟨rfl, hb4⟩; obtain ⟨z0, z1, z2, z3, z4, z5, z6, z7⟩ := cells8 ((hb4.block _ (by omega)).trans HZ.out); obtain ⟨x0, x1, x2, x3, x4⟩ := cells5 ((hb4.block _ (by omega)).trans HX.out))
      obtain ⟨w6, hw6⟩ : ∃ w6, w4.alloc (.cells #[.int .i64 r1, .slice A n c, .bool s1, .int .i64 a1, .bool de1] 28) = w6 := ⟨_, rfl⟩
      have hb6 : Below w3.heap.size w3 w6 := by rw [← hw6]; exact hb4.alloc hb4.size _
      have ho6 : w6.heap[w4.heap.size]? = some (.cells #[.int .i64 r1, .slice A n c, .bool s1, .int .i64 a1, .bool de1] 28 (0, 0)) := by rw [← hw6]; exact World.alloc_heap_new w4 _
      have hs4 := hb4.size
      have hs6 := hb6.size
      have hl6 : w4.heap.size < w6.heap.size := (Array.getElem?_eq_some_iff.1 ho6).1
      rw [hw6]
      have hZ6 := (hb6.block _ (by omega)).trans HZ.out
      have HR6 := Lib.hid ((hb6.block _ hs3).trans HR.out)
      have HZ6 := Lib.hid hZ6
      have HO6 := Lib.hid ho6
      have HB6 := Lib.hid hb6
      clear z0 z1 z2 z3 z4 z5 z6 z7 x0 x1 x2 x3 x4 hb6 ho6 hw6 hb4 hZ6
      have hS6 : ∀ W, But (fun b => B b ∨ b = w.heap.size + 1 + 1) w6 W → W.cell? ⟨w.heap.size + 1, 4, none⟩ = some (.int .i64 NN) ∧ W.cell? ⟨w4.heap.size, 0, none⟩ = some (.int .i64 r1) ∧ W.cell? ⟨w4.heap.size, 1, none⟩ = some (.slice A n c) ∧ W.cell? ⟨w4.heap.size, 2, none⟩ = some (.bool s1) ∧ W.cell? ⟨w4.heap.size, 3, none⟩ = some (.int .i64 a1) ∧ W.cell? ⟨w4.heap.size, 4, none⟩ = some (.bool de1) ∧ But (fun b => B b ∨ b = w.heap.size + 1 + 1) w6 W := fun W hb => by
        have nB : ∀ b, w.heap.size ≤ b → b ≠ w.heap.size + 1 + 1 → ¬ (B b ∨ b = w.heap.size + 1 + 1) := fun b h1 h2 h3 => by
          rcases h3 with h3 | h3
          · have := (HS.out b (HSB.out b h3)).1; omega
          · omega
        obtain ⟨a, b, c, d, e⟩ := cells5 (hb.box HO6.out (nB _ (by omega) (by omega)))
        obtain ⟨_, _, _, _, f, _⟩ := cells8 (hb.box HZ6.out (nB _ (by omega) (by omega)))
        exact ⟨f, a, b, c, d, e, hb⟩
      have HS6 := Lib.hid hS6
      clear hS6
      go_region_held (fun W => W.cell? ⟨w.heap.size + 1, 4, none⟩ = some (.int .i64 NN) ∧ W.cell? ⟨w4.heap.size, 0, none⟩ = some (.int .i64 r1) ∧ W.cell? ⟨w4.heap.size, 1, none⟩ = some (.slice A n c) ∧ W.cell? ⟨w4.heap.size, 2, none⟩ = some (.bool s1) ∧ W.cell? ⟨w4.heap.size, 3, none⟩ = some (.int .i64 a1) ∧ W.cell? ⟨w4.heap.size, 4, none⟩ = some (.bool de1) ∧ But (fun b => B b ∨ b = w.heap.size + 1 + 1) w6 W)
        (first | assumption | (refine HS6.out _ ?_; first | exact (But.refl _ w6).drew | assumption | exact ((((((by assumption : But (fun b => B b ∨ b = w.heap.size + 1 + 1) w6 _).set ⟨w.heap.size + 1 + 1, 0, none⟩ _ (.inl (.inr rfl))).set ⟨w.heap.size + 1 + 1, 1, none⟩ _ (.inl (.inr rfl))).set ⟨w.heap.size + 1 + 1, 2, none⟩ _ (.inl (.inr rfl))).set ⟨w.heap.size + 1 + 1, 3, none⟩ _ (.inl (.inr rfl))).set ⟨w.heap.size + 1 + 1, 4, none⟩ _ (.inl (.inr rfl)))))
        (first
          | (go_at_call 21; refine (HSM.out _ (HB6.out.trans ((Below.refl _ w6).drew.mono HB6.out.size))).mono ?_; rintro e w7 ⟨rfl, hst⟩; obtain ⟨hD7, hb7⟩ := hst; have hbq := ((But.refl _ w6).drew.trans hb7 (fun b _ e => e)).mono (fun b _ e => (Or.inl e : B b ∨ b = w.heap.size + 1 + 1)); have hR7 : w7.heap[w.heap.size + 1 + 1]? = some (.cells #[.int .i64 0, .slice none 0 0, .bool false, .int .i64 0, .bool false] 28 (0, 0)) := (hb7.block _ (Nat.lt_of_lt_of_le hs3 hs6) (fun h1 => absurd (HS.out _ (HSB.out _ h1)).1 (by omega))).trans HR6.out; obtain ⟨k0, k1, k2, k3, k4⟩ := cells5 hR7; have g0 := frozen_of_heap hR7 0; have g1 := frozen_of_heap hR7 1; have g2 := frozen_of_heap hR7 2; have g3 := frozen_of_heap hR7 3; have g4 := frozen_of_heap hR7 4)
          | (go_at_call 15; refine (HNU.out _).mono ?_; rintro e w' ⟨rfl, rfl⟩))
      try go_wp2
      obtain ⟨d0, d1, d2, d3, d4⟩ := cells5 (set5 hR7 (.int .i64 r1) (.slice A n c) (.bool s1) (.int .i64 a1) (.bool de1))
      have hbp := put5 w7 (w.heap.size + 1 + 1) (.int .i64 r1) (.slice A n c) (.bool s1) (.int .i64 a1) (.bool de1)
      obtain ⟨w8, hw8⟩ : ∃ w8, ((((w7.setCell ⟨w.heap.size + 1 + 1, 0, none⟩ (.int .i64 r1)).setCell ⟨w.heap.size + 1 + 1, 1, none⟩ (.slice A n c)).setCell ⟨w.heap.size + 1 + 1, 2, none⟩ (.bool s1)).setCell ⟨w.heap.size + 1 + 1, 3, none⟩ (.int .i64 a1)).setCell ⟨w.heap.size + 1 + 1, 4, none⟩ (.bool de1) = w8 := ⟨_, rfl⟩
      rw [hw8] at hbp d0 d1 d2 d3 d4 ⊢
      refine bodyPost_ret (v := .tuple #[.pointer (some ⟨p, 0, none⟩), .agg #[.int .i64 r1, .slice A n c, .bool s1, .int .i64 a1, .bool de1], .bool true]) (by simp [results, Try.results31, go_sem, d0, d1, d2, d3, d4]) rfl ⟨_, rfl, ?_⟩
      have hs7 := hb7.size
      have hs8 := hbp.size
      have hb67 : But B w6 w7 := (But.refl B w6).drew.trans hb7 (fun b _ e => e)
      have hd6 : w6.drew.heap.size = w6.heap.size := rfl
      have hb06 := HB3.out.trans (HB6.out.mono HB3.out.size)
      exact act_end A n c fs ((HF.out.less (fun b h1 h2 => h2.elim id (fun h3 => by omega))).keep hb06) HN.out HSB.out (fun b e => (HS.out b e).1) hb06 hb67 hbp (by omega) (by omega) (hD7.mono (fun b _ h1 => h1))
    | false =>
      have hact : actM ⟨st, af, de, ro⟩ (fs.map fun f => f.t) ⟨what, name, to_, XA, Xn, Xc, bytes, NN, false, false, Ap, np, cp, picks⟩ = ((stepM ⟨st, af, de, ro⟩ (fs.map fun f => f.t) ⟨what, name, to_, XA, Xn, Xc, bytes, NN, false, false, Ap, np, cp, picks⟩).1, (stepM ⟨st, af, de, ro⟩ (fs.map fun f => f.t) ⟨what, name, to_, XA, Xn, Xc, bytes, NN, false, false, Ap, np, cp, picks⟩).2.1) := by unfold actM; rw [if_neg (show ¬ (false = true) by decide), if_neg (show ¬ (false = true) by decide)]
      rw [hact]
      have hrd3 : Rds w3 (fun b => S b ∨ b = w.heap.size + 1 + 1) XA (bytes.map byteCell) := (hrd.rds hN (fun b h1 => by rcases h1 with h1 | h1; exact (HS.out b h1).2; omega)).but (But.of_all HB3.out (fun _ => False)) (fun _ e => e.elim)
      have hF3 : FsAt (fun b => S b ∨ b = w.heap.size + 1 + 1) w3 A fs := (HF.out.less (fun b h1 h2 => h2.elim id (fun h3 => by omega))).keep HB3.out
      have hus : (usedR fs : Int) ≤ ro := by rw [usedR_map]; exact HRM.out.2
      have hrs := refDo_any ⟨st, af, de, ro⟩ A n c fs ⟨what, name, to_, XA, Xn, Xc, bytes, NN, false, false, Ap, np, cp, picks⟩ w3 hF3 HN.out (by have := HN.out; omega) HFC.out.1 hus HRM.out.1 he hy hyl (fun b h1 => by rcases h1 with h1 | h1; have := (HS.out b h1).1; omega; omega) hrd3
      obtain ⟨r, hr⟩ : ∃ r, stepM ⟨st, af, de, ro⟩ (fs.map fun f => f.t) ⟨what, name, to_, XA, Xn, Xc, bytes, NN, false, false, Ap, np, cp, picks⟩ = r := ⟨_, rfl⟩
      have her : r.2.2 = 0 ∨ r.2.2 = 172 ∨ r.2.2 = 170 ∨ r.2.2 = 171 ∨ r.2.2 = 5 ∨ r.2.2 = 4 := by
        rcases stepM_cases ⟨st, af, de, ro⟩ (fs.map fun f => f.t) ⟨what, name, to_, XA, Xn, Xc, bytes, NN, false, false, Ap, np, cp, picks⟩ with ⟨e, h1, h2⟩ | ⟨L2, h1, _⟩
        · rw [← hr, h1]
          exact .inr (.inr h2)
        · rw [← hr, h1]
          unfold doneM
          split
          · exact .inr (.inl rfl)
          · exact .inl rfl
      rw [hr] at hrs ⊢
      have hsM := fun W (hb : Below w3.heap.size w3 W) => step_any ⟨what, name, to_, XA, Xn, Xc, bytes, NN, false, false, Ap, np, cp, picks⟩ N W (HD.out.keep hb) (by simpa using (by omega : fs.length ≤ 1000000)) hy hyl (by have := hb.size; omega)
        (fun V hV => hV.rd ((hrd.belowTo HB3.out hN).below (hb.mono (by omega))) (by have := hb.size; omega) (fun b h1 h2 => by have := (HS.out b (HSB.out b h2)).2; omega))
      rw [hr] at hsM
      obtain ⟨⟨s1, a1, de1, r1⟩, L2, er⟩ := r
      dsimp only at her hrs hsM ⊢
      have he0 : 0 ≤ er := by omega
      have he1 : er ≤ 100000 := by omega
      have hee : (er == er) = true := by simp
      have HSM := Lib.hid hsM
      have HNU := Lib.hid (fun W => num_any er W he0 he1)
      clear hact hsM hr her hrd3 hF3
      unfold refV ActV.stepV at hrs
      dsimp only at hrs
      go_enter Try.func31, Try.ntmps31
      go_upto_region 1 with fail
      rw [HW3.out]
      go_upto_region 8 with (go_at_call 60; (with_reducible refine hrs.mono ?_); clear hrs; rintro e w4 ⟨v, rfl, hdo⟩; obtain ⟨⟨A4, n4, c4, fs4, rfl, hF4, hn4, hm4⟩, hb4⟩ := hdo; obtain ⟨z0, z1, z2, z3, z4, z5, z6, z7⟩ := cells8 ((hb4.block _ (by omega)).trans HZ.out); obtain ⟨x0, x1, x2, x3, x4⟩ := cells5 ((hb4.block _ (by omega)).trans HX.out); unfold refV; dsimp only)
      unfold ActV.stepV at HSM
      dsimp only at HSM
      obtain ⟨w6, hw6⟩ : ∃ w6, w4.alloc (.cells #[.int .i64 r1, .slice A4 n4 c4, .bool s1, .int .i64 a1, .bool de1] 28) = w6 := ⟨_, rfl⟩
      have hb46 : Below w4.heap.size w4 w6 := by rw [← hw6]; exact (Below.refl _ w4).alloc (Nat.le_refl _) _
      have hb6 : Below w3.heap.size w3 w6 := hb4.trans (hb46.mono hb4.size)
      have ho6 : w6.heap[w4.heap.size]? = some (.cells #[.int .i64 r1, .slice A4 n4 c4, .bool s1, .int .i64 a1, .bool de1] 28 (0, 0)) := by rw [← hw6]; exact World.alloc_heap_new w4 _
      have hs4 := hb4.size
      have hs6 := hb6.size
      have hl6 : w4.heap.size < w6.heap.size := (Array.getElem?_eq_some_iff.1 ho6).1
      rw [hw6]
      have hZ6 := (hb6.block _ (by omega)).trans HZ.out
      have HR6 := Lib.hid ((hb6.block _ hs3).trans HR.out)
      have HZ6 := Lib.hid hZ6
      have HO6 := Lib.hid ho6
      have HB6 := Lib.hid hb6
      have HF6 := Lib.hid (hF4.keep hb46)
      have HM4 := Lib.hid hm4
      have HN4 := Lib.hid hn4
      clear z0 z1 z2 z3 z4 z5 z6 z7 x0 x1 x2 x3 x4 hb6 ho6 hw6 hb4 hZ6 hF4 hm4 hn4 hb46
      have hS6 : ∀ W, But (fun b => B b ∨ b = w.heap.size + 1 + 1) w6 W → W.cell? ⟨w.heap.size + 1, 0, none⟩ = some (.int .i64 what) ∧ W.cell? ⟨w.heap.size + 1, 1, none⟩ = some (.string name) ∧ W.cell? ⟨w.heap.size + 1, 2, none⟩ = some (.string to_) ∧ W.cell? ⟨w.heap.size + 1, 3, none⟩ = some (.slice XA Xn Xc) ∧ W.cell? ⟨w.heap.size + 1, 4, none⟩ = some (.int .i64 NN) ∧ W.cell? ⟨w4.heap.size, 0, none⟩ = some (.int .i64 r1) ∧ W.cell? ⟨w4.heap.size, 1, none⟩ = some (.slice A4 n4 c4) ∧ W.cell? ⟨w4.heap.size, 2, none⟩ = some (.bool s1) ∧ W.cell? ⟨w4.heap.size, 3, none⟩ = some (.int .i64 a1) ∧ W.cell? ⟨w4.heap.size, 4, none⟩ = some (.bool de1) ∧ But (fun b => B b ∨ b = w.heap.size + 1 + 1) w6 W := fun W hb => by
        have nB : ∀ b, w.heap.size ≤ b → b ≠ w.heap.size + 1 + 1 → ¬ (B b ∨ b = w.heap.size + 1 + 1) := fun b h1 h2 h3 => by
          rcases h3 with h3 | h3
          · have := (HS.out b (HSB.out b h3)).1; omega
          · omega
        obtain ⟨a, b, c, d, e⟩ := cells5 (hb.box HO6.out (nB _ (by omega) (by omega)))
        obtain ⟨f0, f1, f2, f3, f4, _⟩ := cells8 (hb.box HZ6.out (nB _ (by omega) (by omega)))
        exact ⟨f0, f1, f2, f3, f4, a, b, c, d, e, hb⟩
      have HS6 := Lib.hid hS6
      clear hS6
      go_region_held (fun W => W.cell? ⟨w.heap.size + 1, 0, none⟩ = some (.int .i64 what) ∧ W.cell? ⟨w.heap.size + 1, 1, none⟩ = some (.string name) ∧ W.cell? ⟨w.heap.size + 1, 2, none⟩ = some (.string to_) ∧ W.cell? ⟨w.heap.size + 1, 3, none⟩ = some (.slice XA Xn Xc) ∧ W.cell? ⟨w.heap.size + 1, 4, none⟩ = some (.int .i64 NN) ∧ W.cell? ⟨w4.heap.size, 0, none⟩ = some (.int .i64 r1) ∧ W.cell? ⟨w4.heap.size, 1, none⟩ = some (.slice A4 n4 c4) ∧ W.cell? ⟨w4.heap.size, 2, none⟩ = some (.bool s1) ∧ W.cell? ⟨w4.heap.size, 3, none⟩ = some (.int .i64 a1) ∧ W.cell? ⟨w4.heap.size, 4, none⟩ = some (.bool de1) ∧ But (fun b => B b ∨ b = w.heap.size + 1 + 1) w6 W)
        (first | assumption | (refine HS6.out _ ?_; first | exact (But.refl _ w6).drew | assumption | exact ((((((by assumption : But (fun b => B b ∨ b = w.heap.size + 1 + 1) w6 _).set ⟨w.heap.size + 1 + 1, 0, none⟩ _ (.inl (.inr rfl))).set ⟨w.heap.size + 1 + 1, 1, none⟩ _ (.inl (.inr rfl))).set ⟨w.heap.size + 1 + 1, 2, none⟩ _ (.inl (.inr rfl))).set ⟨w.heap.size + 1 + 1, 3, none⟩ _ (.inl (.inr rfl))).set ⟨w.heap.size + 1 + 1, 4, none⟩ _ (.inl (.inr rfl)))))
        (first
          | (go_at_call 33; refine (HSM.out _ (HB6.out.trans ((Below.refl _ w6).drew.mono HB6.out.size))).mono ?_; rintro e w7 ⟨rfl, hst⟩; obtain ⟨hD7, hb7⟩ := hst; have hbq := ((But.refl _ w6).drew.trans hb7 (fun b _ e => e)).mono (fun b _ e => (Or.inl e : B b ∨ b = w.heap.size + 1 + 1)); have hR7 : w7.heap[w.heap.size + 1 + 1]? = some (.cells #[.int .i64 0, .slice none 0 0, .bool false, .int .i64 0, .bool false] 28 (0, 0)) := (hb7.block _ (Nat.lt_of_lt_of_le hs3 hs6) (fun h1 => absurd (HS.out _ (HSB.out _ h1)).1 (by omega))).trans HR6.out; obtain ⟨k0, k1, k2, k3, k4⟩ := cells5 hR7; have g0 := frozen_of_heap hR7 0; have g1 := frozen_of_heap hR7 1; have g2 := frozen_of_heap hR7 2; have g3 := frozen_of_heap hR7 3; have g4 := frozen_of_heap hR7 4)
          | (go_at_call 15; refine (HNU.out _).mono ?_; rintro e w' ⟨rfl, rfl⟩))
      try go_wp2
      obtain ⟨d0, d1, d2, d3, d4⟩ := cells5 (set5 hR7 (.int .i64 r1) (.slice A4 n4 c4) (.bool s1) (.int .i64 a1) (.bool de1))
      have hbp := put5 w7 (w.heap.size + 1 + 1) (.int .i64 r1) (.slice A4 n4 c4) (.bool s1) (.int .i64 a1) (.bool de1)
      obtain ⟨w8, hw8⟩ : ∃ w8, ((((w7.setCell ⟨w.heap.size + 1 + 1, 0, none⟩ (.int .i64 r1)).setCell ⟨w.heap.size + 1 + 1, 1, none⟩ (.slice A4 n4 c4)).setCell ⟨w.heap.size + 1 + 1, 2, none⟩ (.bool s1)).setCell ⟨w.heap.size + 1 + 1, 3, none⟩ (.int .i64 a1)).setCell ⟨w.heap.size + 1 + 1, 4, none⟩ (.bool de1) = w8 := ⟨_, rfl⟩
      rw [hw8] at hbp d0 d1 d2 d3 d4 ⊢
      refine bodyPost_ret (v := .tuple #[.pointer (some ⟨p, 0, none⟩), .agg #[.int .i64 r1, .slice A4 n4 c4, .bool s1, .int .i64 a1, .bool de1], .bool true]) (by simp [results, Try.results31, go_sem, d0, d1, d2, d3, d4]) rfl ⟨_, rfl, ?_⟩
      have hs7 := hb7.size
      have hs8 := hbp.size
      have hb67 : But B w6 w7 := (But.refl B w6).drew.trans hb7 (fun b _ e => e)
      have hd6 : w6.drew.heap.size = w6.heap.size := rfl
      have hb06 := HB3.out.trans (HB6.out.mono HB3.out.size)
      have hD8 : Dk (fun b => B b ∨ w6.heap.size ≤ b) w7 p ⟨s1, a1, de1, r1⟩ (fs4.map fun f => f.t) := by rw [HM4.out]; exact hD7.mono (fun b _ h1 => h1)
      have hend := act_end A4 n4 c4 fs4 HF6.out HN4.out HSB.out (fun b e => (HS.out b e).1) hb06 hb67 hbp (by omega) (by omega) hD8
      rw [HM4.out] at hend
      exact hend

/-- both disks stand alike, away from the blocks of X -/
structure Sm.Pair (X : Nat → Prop) (n0 m : Nat) (W : World) (p : Nat) (s : DSt) (L : List (List (BitVec 8) × List (BitVec 8) × Nat)) (A : Option Addr) (n : Nat) (fs : List FileR) : Prop where
  at_ : ∃ B, Dk B W p s L ∧ FsAt (fun b => B b ∨ X b) W A fs ∧ ∀ b, B b → n0 ≤ b ∧ b < W.heap.size ∧ ¬ X b
  len : fs.length = n
  map : fs.map (fun f => f.t) = L
  ok : EndOK s
  few : L.length ≤ m
section
variable {X : Nat → Prop} {n0 m : Nat} {W W' : World} {p : Nat} {s : DSt} {L : List (List (BitVec 8) × List (BitVec 8) × Nat)} {A : Option Addr} {n : Nat} {fs : List FileR}
theorem Sm.Pair.keep (h : Pair X n0 m W p s L A n fs) (hb : Below W.heap.size W W') : Pair X n0 m W' p s L A n fs := by
  obtain ⟨B, h1, h2, h3⟩ := h.at_
  exact ⟨⟨B, h1.keep hb, h2.keep hb, fun b e => ⟨(h3 b e).1, Nat.lt_of_lt_of_le (h3 b e).2.1 hb.size, (h3 b e).2.2⟩⟩, h.len, h.map, h.ok, h.few⟩
theorem Sm.Pair.put (h : Pair X n0 m W p s L A n fs) {R : Nat} (hR : X R) (hb : But (fun b => b = R) W W') : Pair X n0 m W' p s L A n fs := by
  obtain ⟨B, h1, h2, h3⟩ := h.at_
  exact ⟨⟨B, h1.but hb (fun b e e2 => (h3 b e2).2.2 (e ▸ hR)), h2.but hb (fun b e => .inr (e ▸ hR)), fun b e => ⟨(h3 b e).1, Nat.lt_of_lt_of_le (h3 b e).2.1 hb.size, (h3 b e).2.2⟩⟩, h.len, h.map, h.ok, h.few⟩
theorem Sm.Pair.mono {X' : Nat → Prop} {m' : Nat} (h : Pair X n0 m W p s L A n fs) (hX : ∀ b, X' b → X b) (hm : m ≤ m') : Pair X' n0 m' W p s L A n fs := by
  obtain ⟨B, h1, h2, h3⟩ := h.at_
  exact ⟨⟨B, h1, h2.less (fun b _ e => e.imp id (hX b)), fun b e => ⟨(h3 b e).1, (h3 b e).2.1, fun e2 => (h3 b e).2.2 (hX b e2)⟩⟩, h.len, h.map, h.ok, Nat.le_trans h.few hm⟩
theorem Sm.Pair.n_le (h : Pair X n0 m W p s L A n fs) : n ≤ m := by
  have h1 := h.few
  rw [← h.map, List.length_map, h.len] at h1
  exact h1
theorem Sm.Pair.used (h : Pair X n0 m W p s L A n fs) : usedR fs ≤ 1000000000 := by
  obtain ⟨B, h1, _, _⟩ := h.at_
  have := h1.roomy
  rw [usedR_map, h.map]
  omega
theorem Sm.actM_ok {y : ActV} (he : EndOK s) (hN : y.N ≤ 9223372036854775807) : EndOK (actM s L y).1 ∧ (actM s L y).2.length ≤ L.length + 1 := by
  unfold actM
  split
  · exact ⟨⟨fun _ => rfl, fun e => absurd e (show ¬ (false = true) by decide), Int.le_refl _, (show (0 : Int) ≤ 9223372036854775807 by decide)⟩, by rw [crM_len]; exact Nat.le_succ _⟩
  · split
    · unfold stoM
      split
      · exact ⟨he, Nat.le_succ _⟩
      · split
        · exact ⟨he, Nat.le_succ _⟩
        · exact ⟨⟨fun e => absurd e (show ¬ (true = false) by decide), fun e => absurd e (show ¬ (false = true) by decide), (show (0 : Int) ≤ y.N by omega), hN⟩, Nat.le_succ _⟩
    · rcases stepM_cases s L y with ⟨e, h1, _⟩ | ⟨L2, h1, h2⟩
      · rw [h1]
        exact ⟨he, Nat.le_succ _⟩
      · rw [h1]
        unfold doneM
        split
        · exact ⟨he.next, Nat.le_succ _⟩
        · exact ⟨he.next, h2⟩
/-- a call by both keeps them alike -/
theorem Sm.pair_act (c : Nat) (y : ActV) (h : Pair X n0 m W p s L A n fs) (hm : m ≤ 100000) (hX : ∀ b, X b → n0 ≤ b ∧ b < W.heap.size) (hn0 : n0 ≤ W.heap.size) (hy : smallA y = true)
    (hyl : y.bytes.length = y.n) (hbd : y.N ≤ 9223372036854775807) (hrd : Rd W n0 y.A y.bytes) (hpl : y.picks.length = y.np) (hpr : y.np ≤ y.cp ∧ y.cp ≤ 9223372036854775807) (hprd : Rds W (fun _ => False) y.Ap (y.picks.map fun k => .int .i64 k)) :
    Calls Try.prog 31 #[.pointer (some ⟨p, 0, none⟩), refV s A n c, .agg y.cells.toArray] W fun e w' => ∃ q s' L' A' n' c' fs', e = .returned (.tuple #[.pointer (some ⟨q, 0, none⟩), refV s' A' n' c', .bool true]) ∧ Pair X n0 (m + 1) w' q s' L' A' n' fs' ∧ But (fun b => n0 ≤ b ∧ ¬ X b) W w' := by
  obtain ⟨B, h1, h2, h3⟩ := h.at_
  refine (act_any (S := fun b => B b ∨ X b) A n c fs y n0 W h1 h2 h.len h.map (by have := h.few; omega) (fun b e => .inl e) (fun b e => ?_) hn0 h.ok hy hyl hbd hrd hpl hpr hprd).mono ?_
  · rcases e with e | e
    · have := h3 b e; omega
    · have := hX b e; omega
  · rintro e w' ⟨v, rfl, ⟨q, A', n', c', fs', B', rfl, _, hD, hF, hn', hm', hB'⟩, hbut⟩
    have hok := actM_ok (L := L) h.ok hbd
    refine ⟨q, _, _, A', n', c', fs', rfl, ⟨⟨B', hD, hF.less (fun b _ e => ?_), fun b e => ?_⟩, hn', hm', hok.1, by have := h.few; omega⟩, hbut.mono (fun b _ e => ⟨(h3 b e).1, (h3 b e).2.2⟩)⟩
    · rcases e with e | e
      · exact .inr e
      · exact .inl (.inr e)
    · have h4 := hB' b e
      refine ⟨?_, h4.2, fun e2 => ?_⟩
      · rcases h4.1 with h5 | h5
        · exact (h3 b h5).1
        · omega
      · rcases h4.1 with h5 | h5
        · exact (h3 b h5).2.2 e2
        · have := hX b e2; omega
theorem Sm.pair_is (c : Nat) (h : Pair X n0 m W p s L A n fs) (hm : m ≤ 100000) {V : World} (hb : Below W.heap.size W V) :
    Calls Try.prog 29 #[.pointer (some ⟨p, 0, none⟩), refV s A n c] V fun e w' => e = .returned (.bool true) ∧ Below V.heap.size V w' := by
  have h' := h.keep hb
  obtain ⟨B, h1, h2, h3⟩ := h'.at_
  exact is_any s s A n c fs V h1 h2 h'.len (by have := h.n_le; omega) h'.map h'.used rfl
end
/-- how the loop stands -/
structure Sm.PlI (w : World) (n0 b9 k p : Nat) (W : World) : Prop where
  st : ∃ s L A n c fs, Pair (fun b => b = n0 ∨ b = b9) n0 k W p s L A n fs ∧ W.heap[b9]? = some (.cells #[.int .i64 s.room, .slice A n c, .bool s.stops, .int .i64 s.after, .bool s.dead] 28 (0, 0))
  res : W.heap[n0]? = some (.cells #[.int .i64 0, .slice none 0 0, .bool false, .int .i64 0, .bool false] 28 (0, 0))
  b : Below n0 w W
set_option maxRecDepth 100000 in
set_option maxHeartbeats 4000000 in
theorem Sm.played_any (r : Int) (h0 : 0 < r) (h1 : r ≤ 16777216) (A : Option Addr) (n c : Nat) (xs : List ActV) (w : World) (hn : xs.length = n) (hc : n ≤ c) (_hc2 : c ≤ 9223372036854775807) (hR : RdActs w A xs) (hcame : ∀ x ∈ xs, x.came w) (hsm : ∀ x ∈ xs, smallA x = true) (hn40 : n ≤ 1000) :
    Calls Try.prog 11 #[.int .i64 r, .slice A n c] w fun e w' => ∃ p s L A' n' c' fs, e = .returned (.tuple #[.pointer (some ⟨p, 0, none⟩), refV s A' n' c', .bool true]) ∧ Pair (fun _ => False) w.heap.size n w' p s L A' n' fs ∧ Below w.heap.size w w' := by
  obtain ⟨n0, hn0⟩ : ∃ n0, w.heap.size = n0 := ⟨_, rfl⟩
  rw [hn0]
  obtain ⟨w1, hw1⟩ : ∃ w1, w.alloc (.cells #[.int .i64 0, .slice none 0 0, .bool false, .int .i64 0, .bool false] 28) = w1 := ⟨_, rfl⟩
  have hb1 : Below n0 w w1 := by rw [← hw1, ← hn0]; exact (Below.refl _ w).alloc (Nat.le_refl _) _
  have hr1 : w1.heap[n0]? = some (.cells #[.int .i64 0, .slice none 0 0, .bool false, .int .i64 0, .bool false] 28 (0, 0)) := by rw [← hw1, ← hn0]; exact World.alloc_heap_new w _
  have hnew := new_M r w1 h0 h1
  have HR := Lib.hid hR
  have HN := Lib.hid hn
  have HC := Lib.hid hcame
  have HSM := Lib.hid hsm
  have HN0 := Lib.hid hn0
  have HB1 := Lib.hid hb1
  have HR1 := Lib.hid hr1
  have HW1 := Lib.hid hw1
  have hlt1 := (Array.getElem?_eq_some_iff.1 hr1).1
  clear hR hn hcame hsm hn0 hb1 hr1 hw1
  go_enter Try.func11, Try.ntmps11
  go_upto_region 1 with fail
  rw [HW1.out, HN0.out]
  go_upto_region 2 with (go_at_call 30; (with_reducible refine hnew.mono ?_); clear hnew; rintro e w2 ⟨rfl, hD, hb2⟩)
  have HD2 := Lib.hid hD
  have HB2 := Lib.hid hb2
  have hs2 := hb2.size
  have hrn := refNew_any r w2
  rw [if_neg (by omega)] at hrn
  unfold refV at hrn
  dsimp only at hrn
  clear hD hb2
  go_upto_region 3 with (go_at_call 35; (with_reducible refine hrn.mono ?_); clear hrn; rintro e w3 ⟨rfl, hb3⟩)
  obtain ⟨b9, hb9⟩ : ∃ b9, w3.heap.size = b9 := ⟨_, rfl⟩
  obtain ⟨w4, hw4⟩ : ∃ w4, w3.alloc (.cells #[.int .i64 r, .slice none 0 0, .bool false, .int .i64 0, .bool false] 28) = w4 := ⟨_, rfl⟩
  have hb4 : Below b9 w3 w4 := by rw [← hw4, ← hb9]; exact (Below.refl _ w3).alloc (Nat.le_refl _) _
  have hr9 : w4.heap[b9]? = some (.cells #[.int .i64 r, .slice none 0 0, .bool false, .int .i64 0, .bool false] 28 (0, 0)) := by rw [← hw4, ← hb9]; exact World.alloc_heap_new w3 _
  have hs3 := hb3.size
  have hs4 := hb4.size
  rw [hw4, hb9]
  have h24 : Below w2.heap.size w2 w4 := hb3.trans (hb4.mono (by omega))
  have h14 : Below w1.heap.size w1 w4 := HB2.out.trans (h24.mono hs2)
  have hlt9 := (Array.getElem?_eq_some_iff.1 hr9).1
  have hI0 : PlI w n0 b9 0 (w1.heap.size + 1) w4 := by
    refine ⟨⟨_, [], none, 0, 0, [], ⟨⟨_, HD2.out.tight.keep h24, ⟨fun e => absurd e (Nat.lt_irrefl 0), fun f hf => (List.not_mem_nil hf).elim⟩, fun b e => ⟨by omega, by omega, fun e2 => by rcases e2 with e2 | e2 <;> omega⟩⟩, rfl, rfl, ⟨fun _ => rfl, fun e => absurd e (show ¬ (false = true) by decide), Int.le_refl _, (show (0 : Int) ≤ 9223372036854775807 by decide)⟩, Nat.le_refl _⟩, hr9⟩, (h14.block _ hlt1).trans HR1.out, HB1.out.trans (h14.mono (by omega))⟩
  have HI0 := Lib.hid hI0
  have h9n : n0 < b9 := by omega
  clear hI0 h24 h14 hr9 hb4 hw4 hb3 hb9 hs2 hs3 hs4 hlt9 hlt1
  have hnn : n0 ≠ b9 := by omega
  go_wp2_with (go_at_call 15; (with_reducible refine (num_any _ _ (by decide) (by decide)).mono ?_); rintro e w' ⟨rfl, rfl⟩)
  go_loopw [7, 11, 12] (fun v7 v11 v12 wr => ∃ k p : Nat, k ≤ n ∧ v7 = .pointer (some ⟨p, 0, none⟩) ∧ v11 = .bool true ∧ v12 = .int .i64 (k : Int) ∧ Hid (PlI w n0 b9 k p wr)) (fun _ _ v12 _ => n - (RowKit.intOf v12).toNat)
  case atStart => exact ⟨0, w1.heap.size + 1, Nat.zero_le _, rfl, rfl, rfl, HI0⟩
  case round =>
    obtain ⟨wo, rfl⟩ : ∃ wo : World, wo = wr := ⟨_, rfl⟩
    obtain ⟨k, p, hk, rfl, rfl, rfl, HI⟩ := hrel
    clear HI0
    obtain ⟨⟨s, L, A2, n2, c2, fs, hP, hbox⟩, hres, hbw⟩ := HI.out
    obtain ⟨st, af, de, ro⟩ := s
    dsimp only at hbox
    have hlt9 := (Array.getElem?_eq_some_iff.1 hbox).1
    have hlt0 := (Array.getElem?_eq_some_iff.1 hres).1
    have HP := Lib.hid hP
    have HBX := Lib.hid hbox
    have HRS := Lib.hid hres
    have HBW := Lib.hid hbw
    obtain ⟨x0, x1, x2, x3, x4⟩ := cells5 hbox
    have hkI : (k : Int) ≤ 1000 := by omega
    clear HI hP hbox hres hbw
    by_cases hlt : k < n
    · have hkx : k < xs.length := by rw [HN.out]; exact hlt
      have hbw0 : Below w.heap.size w wo := by rw [HN0.out]; exact HBW.out
      obtain ⟨X, hX⟩ : ∃ X, xs[k] = X := ⟨_, rfl⟩
      have hXm : X ∈ xs := by rw [← hX]; exact List.getElem_mem hkx
      obtain ⟨b, off, rfl, hb, hcl⟩ := HR.out (by omega)
      have hcl1 := hcl k X (by rw [List.getElem?_eq_getElem hkx, hX])
      have hbn : b < n0 := by rw [← HN0.out]; exact hb
      have HCL : Hid (∀ W, But (fun b => n0 ≤ b) wo W → ∀ i v, X.cells[i]? = some v → W.cell? ⟨b, off + k * 8 + i, none⟩ = some v) := Lib.hid (fun W hW i v hi => (((HBW.out.trans (hW.to_below (by omega) (fun _ e => e))).cell (p := ⟨b, off + k * 8 + i, none⟩) hbn).trans (hcl1 i v hi)))
      have hcX := HC.out X hXm
      have hrdX : Rd wo n0 X.A X.bytes := by
        have h2 := hcX.rd
        rw [HN0.out] at h2
        exact h2.belowTo HBW.out (Nat.le_refl _)
      have hact := fun W (hb : Below wo.heap.size wo W) => pair_act (W := W) c2 X (HP.out.keep hb) (by omega) (fun b e => by have := hb.size; rcases e with e | e <;> omega) (by have := hb.size; omega) (HSM.out X hXm) hcX.len hcX.bd.2 (hrdX.belowTo hb (by omega)) hcX.plen hcX.proom
        ((hcX.prd.but (But.of_all hbw0 (fun _ => False)) (fun _ e => e)).but (But.of_all hb (fun _ => False)) (fun _ e => e))
      obtain ⟨what, name, to_, XA, Xn, Xc, bytes, NN, stop, crash, Ap, np, cp, picks⟩ := X
      unfold refV ActV.cells at hact
      dsimp only at hact
      have HACT := Lib.hid hact
      clear hact hcl hcl1 hcX hX hXm hrdX hbw0 hb
      go_upto_region 7 with fail
      have hn9 : n0 ≤ b9 := by omega
      have hkn : (k : Int) < (n : Int) := by omega
      have hS0 : But (fun b => n0 ≤ b) wo wo.drew := (But.refl _ wo).drew
      have hlo : Below wo.heap.size wo wo.drew := (Below.refl _ wo).drew
      refine wp_region_held_drew (S := fun wx => But (fun b => n0 ≤ b) wo wx) rfl hS0 (fun hHeld => ?_)
      simp only [List.size_toArray, List.length_cons, List.length_nil, Nat.reduceAdd]
      obtain ⟨V0, hV0⟩ : ∃ V, wo.drew = V := ⟨_, rfl⟩
      have hz0 : wo.drew.heap.size = wo.heap.size := rfl
      rw [hV0] at hHeld hS0 hlo hz0 ⊢
      clear hV0
      refine wpAnyH_take (i := 0) (v := .pointer (some ⟨p, 0, none⟩)) rfl (by kernel_rfl) (by kernel_rfl) (by kernel_rfl) (fun _ _ _ h => h) (Or.inl ⟨by rfl, ?_⟩) (by assumption) ?_
      · intro wx hs1; go_simp
      (try simp only [Act.put, List.getElem_toArray, List.getElem_cons_zero, List.setIfInBounds_toArray, List.set_cons_zero, List.set_cons_succ])
      refine wpAnyH_take (i := 2) (v := .slice (some ⟨b, off, none⟩) n c) rfl (by kernel_rfl) (by kernel_rfl) (by kernel_rfl) (fun _ _ _ h => h) (Or.inl ⟨by rfl, ?_⟩) (by assumption) ?_
      · intro wx hs1; go_simp
      (try simp only [Act.put, List.getElem_toArray, List.getElem_cons_succ, List.getElem_cons_zero, List.setIfInBounds_toArray, List.set_cons_zero, List.set_cons_succ])
      refine wpAnyH_take (i := 3) (v := .int .i64 (k : Int)) rfl (by kernel_rfl) (by kernel_rfl) (by kernel_rfl) (fun _ _ _ h => h) (Or.inl ⟨by rfl, ?_⟩) (by assumption) ?_
      · intro wx hs1; go_simp
      (try simp only [Act.put, List.getElem_toArray, List.getElem_cons_succ, List.getElem_cons_zero, List.setIfInBounds_toArray, List.set_cons_zero, List.set_cons_succ])
      refine wpAnyH_take (i := 4) (v := .pointer (some ⟨b, off + k * 8, none⟩)) rfl (by kernel_rfl) (by kernel_rfl) (by kernel_rfl) (fun _ _ _ h => h) (Or.inl ⟨by rfl, ?_⟩) (by assumption) ?_
      · intro wx hs1; go_simp
      (try simp only [Act.put, List.getElem_toArray, List.getElem_cons_succ, List.getElem_cons_zero, List.setIfInBounds_toArray, List.set_cons_zero, List.set_cons_succ])
      refine wpAnyH_take (i := 5) (v := .agg #[.int .i64 what, .string name, .string to_, .slice XA Xn Xc, .int .i64 NN, .bool stop, .bool crash, .slice Ap np cp]) rfl (by kernel_rfl) (by kernel_rfl) (by kernel_rfl) (fun _ _ _ h => h) (Or.inl ⟨by rfl, ?_⟩) (by assumption) ?_
      · intro wx hs1
        have c0 : wx.cell? ⟨b, off + k * 8, none⟩ = some (.int .i64 what) := HCL.out wx hs1 0 _ rfl
        have c1 := HCL.out wx hs1 1 _ rfl
        have c2 := HCL.out wx hs1 2 _ rfl
        have c3 := HCL.out wx hs1 3 _ rfl
        have c4 := HCL.out wx hs1 4 _ rfl
        have c5 := HCL.out wx hs1 5 _ rfl
        have c6 := HCL.out wx hs1 6 _ rfl
        have c7 := HCL.out wx hs1 7 _ rfl
        go_simp
      (try simp only [Act.put, List.getElem_toArray, List.getElem_cons_succ, List.getElem_cons_zero, List.setIfInBounds_toArray, List.set_cons_zero, List.set_cons_succ])
      obtain ⟨x0, x1, x2, x3, x4⟩ := cells5 ((hlo.block _ hlt9).trans HBX.out)
      refine wpAnyH_ready (rs := [1]) (by kernel_rfl) (by simp) (AllReadyH.cons rfl (fun K hK => ?_) AllReadyH.nil)
      go_simp
      refine hK.out _ _ hHeld (fun _ => ?_)
      clear hK K
      (try simp only [Act.put, List.getElem_toArray, List.getElem_cons_succ, List.getElem_cons_zero, List.setIfInBounds_toArray, List.set_cons_zero, List.set_cons_succ])
      refine wpAnyH_ready (rs := [6]) (by kernel_rfl) (by simp) (AllReadyH.cons rfl (fun K hK => ?_) AllReadyH.nil)
      go_simp
      go_at_call 31
      (with_reducible refine (HACT.out _ hlo).mono ?_)
      rintro e w7 ⟨q, ⟨s2, a2, de2, r2⟩, L7, A7, n7, c7, fs7, rfl, hP7, hb7⟩
      dsimp only
      have hbq : But (fun b => n0 ≤ b) wo w7 := hS0.trans hb7 (fun b _ e => e.1)
      refine hK.out _ _ hbq (fun _ => ?_)
      clear hK K
      (try simp only [Act.put, List.getElem_toArray, List.getElem_cons_succ, List.getElem_cons_zero, List.setIfInBounds_toArray, List.set_cons_zero, List.set_cons_succ])
      refine wpAnyH_take (i := 7) (v := .tuple #[.pointer (some ⟨q, 0, none⟩), .agg #[.int .i64 r2, .slice A7 n7 c7, .bool s2, .int .i64 a2, .bool de2], .bool true]) rfl (by kernel_rfl) (by kernel_rfl) (by kernel_rfl) (fun _ _ _ h => h) (Or.inl ⟨by rfl, ?_⟩) (by assumption) ?_
      · intro wx hs1; go_simp
      (try simp only [Act.put, List.getElem_toArray, List.getElem_cons_succ, List.getElem_cons_zero, List.setIfInBounds_toArray, List.set_cons_zero, List.set_cons_succ])
      refine wpAnyH_take (i := 8) (v := .pointer (some ⟨q, 0, none⟩)) rfl (by kernel_rfl) (by kernel_rfl) (by kernel_rfl) (fun _ _ _ h => h) (Or.inl ⟨by rfl, ?_⟩) (by assumption) ?_
      · intro wx hs1; go_simp
      (try simp only [Act.put, List.getElem_toArray, List.getElem_cons_succ, List.getElem_cons_zero, List.setIfInBounds_toArray, List.set_cons_zero, List.set_cons_succ])
      refine wpAnyH_take (i := 9) (v := .agg #[.int .i64 r2, .slice A7 n7 c7, .bool s2, .int .i64 a2, .bool de2]) rfl (by kernel_rfl) (by kernel_rfl) (by kernel_rfl) (fun _ _ _ h => h) (Or.inl ⟨by rfl, ?_⟩) (by assumption) ?_
      · intro wx hs1; go_simp
      (try simp only [Act.put, List.getElem_toArray, List.getElem_cons_succ, List.getElem_cons_zero, List.setIfInBounds_toArray, List.set_cons_zero, List.set_cons_succ])
      refine wpAnyH_take (i := 10) (v := .bool true) rfl (by kernel_rfl) (by kernel_rfl) (by kernel_rfl) (fun _ _ _ h => h) (Or.inl ⟨by rfl, ?_⟩) (by assumption) ?_
      · intro wx hs1; go_simp
      (try simp only [Act.put, List.getElem_toArray, List.getElem_cons_succ, List.getElem_cons_zero, List.setIfInBounds_toArray, List.set_cons_zero, List.set_cons_succ])
      refine wpAnyH_take (i := 11) (v := .pointer (some ⟨q, 0, none⟩)) rfl (by kernel_rfl) (by kernel_rfl) (by kernel_rfl) (fun _ _ _ h => h) (Or.inl ⟨by rfl, ?_⟩) (by assumption) ?_
      · intro wx hs1; go_simp
      (try simp only [Act.put, List.getElem_toArray, List.getElem_cons_succ, List.getElem_cons_zero, List.setIfInBounds_toArray, List.set_cons_zero, List.set_cons_succ])
      have hR7 := (hb7.block b9 (by omega) (fun e => e.2 (.inr rfl))).trans ((hlo.block _ hlt9).trans HBX.out)
      have hS7 := (hb7.block n0 (by omega) (fun e => e.2 (.inl rfl))).trans ((hlo.block _ hlt0).trans HRS.out)
      obtain ⟨k0, k1, k2, k3, k4⟩ := cells5 hR7
      have g0 := frozen_of_heap hR7 0
      have g1 := frozen_of_heap hR7 1
      have g2 := frozen_of_heap hR7 2
      have g3 := frozen_of_heap hR7 3
      have g4 := frozen_of_heap hR7 4
      have h8 := set5 hR7 (.int .i64 r2) (.slice A7 n7 c7) (.bool s2) (.int .i64 a2) (.bool de2)
      have hbp := put5 w7 b9 (.int .i64 r2) (.slice A7 n7 c7) (.bool s2) (.int .i64 a2) (.bool de2)
      refine wpAnyH_ready (rs := [12]) (by kernel_rfl) (by simp) (AllReadyH.cons rfl (fun K hK => ?_) AllReadyH.nil)
      go_simp
      obtain ⟨w8, hw8⟩ : ∃ w8, ((((w7.setCell ⟨b9, 0, none⟩ (.int .i64 r2)).setCell ⟨b9, 1, none⟩ (.slice A7 n7 c7)).setCell ⟨b9, 2, none⟩ (.bool s2)).setCell ⟨b9, 3, none⟩ (.int .i64 a2)).setCell ⟨b9, 4, none⟩ (.bool de2) = w8 := ⟨_, rfl⟩
      rw [hw8] at h8 hbp ⊢
      clear hw8
      have hbq8 : But (fun b => n0 ≤ b) wo w8 := hbq.trans hbp (fun b _ e => by omega)
      refine hK.out _ _ hbq8 (fun _ => ?_)
      clear hK K
      (try simp only [Act.put, List.getElem_toArray, List.getElem_cons_succ, List.getElem_cons_zero, List.setIfInBounds_toArray, List.set_cons_zero, List.set_cons_succ])
      refine wpAnyH_take (i := 13) (v := .bool true) rfl (by kernel_rfl) (by kernel_rfl) (by kernel_rfl) (fun _ _ _ h => h) (Or.inl ⟨by rfl, ?_⟩) (by assumption) ?_
      · intro wx hs1; go_simp
      (try simp only [Act.put, List.getElem_toArray, List.getElem_cons_succ, List.getElem_cons_zero, List.setIfInBounds_toArray, List.set_cons_zero, List.set_cons_succ])
      refine wpAnyH_done (by kernel_rfl) ?_ _
      have hP8 := hP7.put (.inr rfl) hbp
      have his := pair_is c7 hP8 (by omega) (Below.refl _ w8)
      unfold refV at his
      dsimp only at his
      have hS8 := hbp.box hS7 hnn
      have HP8 := Lib.hid hP8
      have HS8 := Lib.hid hS8
      have H8 := Lib.hid h8
      have HBQ8 := Lib.hid hbq8
      obtain ⟨x0, x1, x2, x3, x4⟩ := cells5 h8
      clear hP8 hS8 h8 hbq8 hbp hR7 hS7 k0 k1 k2 k3 k4 g0 g1 g2 g3 g4 hbq hb7 hP7 hHeld hS0 hlo
      go_wp2_with (go_at_call 29; (with_reducible refine his.mono ?_); rintro e wA ⟨rfl, hbA⟩)
      go_roundw
      case rel =>
        have hs8 := (HBQ8.out).size
        refine ⟨k + 1, q, by omega, rfl, rfl, by go_num, Lib.hid ⟨⟨_, L7, A7, n7, c7, fs7, HP8.out.keep hbA, (hbA.block _ (Array.getElem?_eq_some_iff.1 H8.out).1).trans H8.out⟩, (hbA.block _ (Array.getElem?_eq_some_iff.1 HS8.out).1).trans HS8.out, ?_⟩⟩
        exact (HBW.out.trans ((HBQ8.out).to_below (by omega) (fun _ e => e))).trans (hbA.mono (by omega))
      case measure => simp [RowKit.intOf]; omega
    · obtain rfl : k = n := by omega
      have his := fun W (hb : Below wo.heap.size wo W) => pair_is c2 HP.out (by omega) hb
      unfold refV at his
      dsimp only at his
      have HIS := Lib.hid his
      clear his
      have hS6 : ∀ W, But (fun b => b = n0) wo W → W.cell? ⟨b9, 0, none⟩ = some (.int .i64 ro) ∧ W.cell? ⟨b9, 1, none⟩ = some (.slice A2 n2 c2) ∧ W.cell? ⟨b9, 2, none⟩ = some (.bool st) ∧ W.cell? ⟨b9, 3, none⟩ = some (.int .i64 af) ∧ W.cell? ⟨b9, 4, none⟩ = some (.bool de) ∧ But (fun b => b = n0) wo W := fun W hW => by
        obtain ⟨a, b, c, d, e⟩ := cells5 (hW.box HBX.out (fun e => hnn e.symm))
        exact ⟨a, b, c, d, e, hW⟩
      have HS6 := Lib.hid hS6
      clear hS6 x0 x1 x2 x3 x4
      go_upto_region 9 with fail
      have hS0 : But (fun b => b = n0) wo wo.drew := (But.refl _ wo).drew
      have hlo : Below wo.heap.size wo wo.drew := (Below.refl _ wo).drew
      refine wp_region_held_drew (S := fun wx => But (fun b => b = n0) wo wx) rfl hS0 (fun hHeld => ?_)
      simp only [List.size_toArray, List.length_cons, List.length_nil, Nat.reduceAdd]
      obtain ⟨V0, hV0⟩ : ∃ V, wo.drew = V := ⟨_, rfl⟩
      have hz0 : wo.drew.heap.size = wo.heap.size := rfl
      rw [hV0] at hHeld hS0 hlo hz0 ⊢
      clear hV0
      refine wpAnyH_take (i := 0) (v := .pointer (some ⟨p, 0, none⟩)) rfl (by kernel_rfl) (by kernel_rfl) (by kernel_rfl) (fun _ _ _ h => h) (Or.inl ⟨by rfl, ?_⟩) (by assumption) ?_
      · intro wx hs1; go_simp
      (try simp only [Act.put, List.getElem_toArray, List.getElem_cons_zero, List.setIfInBounds_toArray, List.set_cons_zero, List.set_cons_succ])
      refine wpAnyH_take (i := 1) (v := .agg #[.int .i64 ro, .slice A2 n2 c2, .bool st, .int .i64 af, .bool de]) rfl (by kernel_rfl) (by kernel_rfl) (by kernel_rfl) (fun _ _ _ h => h) (Or.inl ⟨by rfl, ?_⟩) (by assumption) ?_
      · intro wx hs1; obtain ⟨x0, x1, x2, x3, x4, _⟩ := HS6.out wx hs1; go_simp
      (try simp only [Act.put, List.getElem_toArray, List.getElem_cons_succ, List.getElem_cons_zero, List.setIfInBounds_toArray, List.set_cons_zero, List.set_cons_succ])
      refine wpAnyH_take (i := 2) (v := .bool true) rfl (by kernel_rfl) (by kernel_rfl) (by kernel_rfl) (fun _ _ _ h => h) (Or.inl ⟨by rfl, ?_⟩) (by assumption) ?_
      · intro wx hs1; go_simp
      (try simp only [Act.put, List.getElem_toArray, List.getElem_cons_succ, List.getElem_cons_zero, List.setIfInBounds_toArray, List.set_cons_zero, List.set_cons_succ])
      refine wpAnyH_take (i := 3) (v := .bool true) rfl (by kernel_rfl) (by kernel_rfl) (by kernel_rfl) (fun _ _ _ h => h) (Or.inl ⟨by rfl, ?_⟩) (by assumption) ?_
      · intro wx hs1; go_simp
      (try simp only [Act.put, List.getElem_toArray, List.getElem_cons_succ, List.getElem_cons_zero, List.setIfInBounds_toArray, List.set_cons_zero, List.set_cons_succ])
      refine wpAnyH_take (i := 4) (v := .int .i64 0) rfl (by kernel_rfl) (by kernel_rfl) (by kernel_rfl) (fun _ _ _ h => h) (Or.inl ⟨by rfl, ?_⟩) (by assumption) ?_
      · intro wx hs1; go_simp
      (try simp only [Act.put, List.getElem_toArray, List.getElem_cons_succ, List.getElem_cons_zero, List.setIfInBounds_toArray, List.set_cons_zero, List.set_cons_succ])
      refine wpAnyH_take (i := 5) (v := .bool false) rfl (by kernel_rfl) (by kernel_rfl) (by kernel_rfl) (fun _ _ _ h => h) (Or.inl ⟨by rfl, ?_⟩) (by assumption) ?_
      · intro wx hs1; go_simp
      (try simp only [Act.put, List.getElem_toArray, List.getElem_cons_succ, List.getElem_cons_zero, List.setIfInBounds_toArray, List.set_cons_zero, List.set_cons_succ])
      refine wpAnyH_take (i := 6) (v := .bool false) rfl (by kernel_rfl) (by kernel_rfl) (by kernel_rfl) (fun _ _ _ h => h) (Or.inl ⟨by rfl, ?_⟩) (by assumption) ?_
      · intro wx hs1; go_simp
      (try simp only [Act.put, List.getElem_toArray, List.getElem_cons_succ, List.getElem_cons_zero, List.setIfInBounds_toArray, List.set_cons_zero, List.set_cons_succ])
      refine wpAnyH_take (i := 7) (v := .pointer (some ⟨p, 0, none⟩)) rfl (by kernel_rfl) (by kernel_rfl) (by kernel_rfl) (fun _ _ _ h => h) (Or.inl ⟨by rfl, ?_⟩) (by assumption) ?_
      · intro wx hs1; go_simp
      (try simp only [Act.put, List.getElem_toArray, List.getElem_cons_succ, List.getElem_cons_zero, List.setIfInBounds_toArray, List.set_cons_zero, List.set_cons_succ])
      refine wpAnyH_take (i := 8) (v := .agg #[.int .i64 ro, .slice A2 n2 c2, .bool st, .int .i64 af, .bool de]) rfl (by kernel_rfl) (by kernel_rfl) (by kernel_rfl) (fun _ _ _ h => h) (Or.inl ⟨by rfl, ?_⟩) (by assumption) ?_
      · intro wx hs1; obtain ⟨x0, x1, x2, x3, x4, _⟩ := HS6.out wx hs1; go_simp
      (try simp only [Act.put, List.getElem_toArray, List.getElem_cons_succ, List.getElem_cons_zero, List.setIfInBounds_toArray, List.set_cons_zero, List.set_cons_succ])
      refine wpAnyH_ready (rs := [9]) (by kernel_rfl) (by simp) (AllReadyH.cons rfl (fun K hK => ?_) AllReadyH.nil)
      go_simp
      go_at_call 29
      (with_reducible refine (HIS.out _ hlo).mono ?_)
      rintro e w7 ⟨rfl, hb7⟩
      have hb07 : Below wo.heap.size wo w7 := hlo.trans (hb7.mono (by omega))
      refine hK.out _ _ (But.of_all hb07 _) (fun hHeld7 => ?_)
      clear hK K
      (try simp only [Act.put, List.getElem_toArray, List.getElem_cons_succ, List.getElem_cons_zero, List.setIfInBounds_toArray, List.set_cons_zero, List.set_cons_succ])
      refine wpAnyH_take (i := 10) (v := .bool true) rfl (by kernel_rfl) (by kernel_rfl) (by kernel_rfl) (fun _ _ _ h => h) (Or.inl ⟨by rfl, ?_⟩) (by assumption) ?_
      · intro wx hs1; go_simp
      (try simp only [Act.put, List.getElem_toArray, List.getElem_cons_succ, List.getElem_cons_zero, List.setIfInBounds_toArray, List.set_cons_zero, List.set_cons_succ])
      refine wpAnyH_take (i := 11) (v := .bool true) rfl (by kernel_rfl) (by kernel_rfl) (by kernel_rfl) (fun _ _ _ h => h) (Or.inl ⟨by rfl, ?_⟩) (by assumption) ?_
      · intro wx hs1; go_simp
      (try simp only [Act.put, List.getElem_toArray, List.getElem_cons_succ, List.getElem_cons_zero, List.setIfInBounds_toArray, List.set_cons_zero, List.set_cons_succ])
      refine wpAnyH_take (i := 12) (v := .pointer (some ⟨p, 0, none⟩)) rfl (by kernel_rfl) (by kernel_rfl) (by kernel_rfl) (fun _ _ _ h => h) (Or.inl ⟨by rfl, ?_⟩) (by assumption) ?_
      · intro wx hs1; go_simp
      (try simp only [Act.put, List.getElem_toArray, List.getElem_cons_succ, List.getElem_cons_zero, List.setIfInBounds_toArray, List.set_cons_zero, List.set_cons_succ])
      have hR7 := (hb07.block n0 hlt0).trans HRS.out
      obtain ⟨k0, k1, k2, k3, k4⟩ := cells5 hR7
      have g0 := frozen_of_heap hR7 0
      have g1 := frozen_of_heap hR7 1
      have g2 := frozen_of_heap hR7 2
      have g3 := frozen_of_heap hR7 3
      have g4 := frozen_of_heap hR7 4
      have h8 := set5 hR7 (.int .i64 ro) (.slice A2 n2 c2) (.bool st) (.int .i64 af) (.bool de)
      have hbp := put5 w7 n0 (.int .i64 ro) (.slice A2 n2 c2) (.bool st) (.int .i64 af) (.bool de)
      refine wpAnyH_ready (rs := [13]) (by kernel_rfl) (by simp) (AllReadyH.cons rfl (fun K hK => ?_) AllReadyH.nil)
      go_simp
      obtain ⟨w8, hw8⟩ : ∃ w8, ((((w7.setCell ⟨n0, 0, none⟩ (.int .i64 ro)).setCell ⟨n0, 1, none⟩ (.slice A2 n2 c2)).setCell ⟨n0, 2, none⟩ (.bool st)).setCell ⟨n0, 3, none⟩ (.int .i64 af)).setCell ⟨n0, 4, none⟩ (.bool de) = w8 := ⟨_, rfl⟩
      rw [hw8] at h8 hbp ⊢
      clear hw8
      have hbq8 : But (fun b => b = n0) wo w8 := (But.of_all hb07 _).trans hbp (fun b _ e => e)
      refine hK.out _ _ hbq8 (fun _ => ?_)
      clear hK K
      (try simp only [Act.put, List.getElem_toArray, List.getElem_cons_succ, List.getElem_cons_zero, List.setIfInBounds_toArray, List.set_cons_zero, List.set_cons_succ])
      refine wpAnyH_take (i := 14) (v := .bool true) rfl (by kernel_rfl) (by kernel_rfl) (by kernel_rfl) (fun _ _ _ h => h) (Or.inl ⟨by rfl, ?_⟩) (by assumption) ?_
      · intro wx hs1; go_simp
      (try simp only [Act.put, List.getElem_toArray, List.getElem_cons_succ, List.getElem_cons_zero, List.setIfInBounds_toArray, List.set_cons_zero, List.set_cons_succ])
      refine wpAnyH_done (by kernel_rfl) ?_ _
      obtain ⟨d0, d1, d2, d3, d4⟩ := cells5 h8
      go_wp2
      refine bodyPost_ret (v := .tuple #[.pointer (some ⟨p, 0, none⟩), .agg #[.int .i64 ro, .slice A2 n2 c2, .bool st, .int .i64 af, .bool de], .bool true]) (by simp [results, Try.results11, go_sem, d0, d1, d2, d3, d4]) rfl ?_
      exact ⟨p, ⟨st, af, de, ro⟩, L, A2, n2, c2, fs, rfl, ((HP.out.keep hb07).put (.inl rfl) hbp).mono (fun _ e => e.elim) (Nat.le_refl _), (HBW.out.trans (hb07.mono (by omega))).trans (hbp.to_below (by have := hb07.size; omega) (fun b e => by omega))⟩
end Go.Proofs
