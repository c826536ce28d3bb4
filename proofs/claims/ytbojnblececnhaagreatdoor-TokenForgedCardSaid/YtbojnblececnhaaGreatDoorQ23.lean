/-
  The contracts of the closures that take is handed.
  The contracts of the closure that reads a text.
  What a closure that take is handed turns, and what take makes of it.
  The contracts of a reader's calls: Read, Left, Number, Text, Truth, End, at every reader, none too.
  The contracts of a reader's calls, at every reader, none too.
-/
import Derived.RegionDies
import Derived.Deep.RegionHeld3
import Derived.Deep.DrawnRows
import Derived.Deep.RegionHeldLaw
import Derived.Test.YtbojnblececnhaaGreatDoorQ22
namespace Go.Proofs
open Go.RowKit Go.Shelf Sm
theorem Sm.Moved.but {B : Nat} {w w' : World} (h : Moved B w w') : But (fun b => b = B) w w' := by
  rcases h with rfl | ⟨u, rfl⟩
  · exact But.refl _ _
  · exact (But.refl _ _).set _ _ (.inl rfl)
theorem Sm.Moved.heap {B : Nat} {w w' : World} (h : Moved B w w') {v x y : Value} {t : TypeId} (hb : w.heap[B]? = some (.cells #[v, x, y] t (0, 0))) : ∃ u, w'.heap[B]? = some (.cells #[u, x, y] t (0, 0)) := by
  rcases h with rfl | ⟨u, rfl⟩
  · exact ⟨v, hb⟩
  · exact ⟨u, heap_setCells hb⟩
theorem Sm.cap_le {m : Nat} {most : Int} (h : m ≤ top) : (m : Int) ≤ cap most ↔ (m : Int) ≤ most := by
  unfold cap top at *
  split <;> omega
theorem Sm.cap_hi (most : Int) : cap most ≤ 4611686018427387904 := by
  unfold cap; split <;> omega
theorem Sm.cap_lo {most : Int} (h : 0 ≤ most) : 0 ≤ cap most := by
  unfold cap; split <;> omega
/-- what lies ready for a closure: the reader's variable, its greatest number, its answer's variable -/
structure Sm.Ready (w : World) (B R M V : Nat) (most : Int) (x : Value) : Prop where
  r : w.cell? ⟨R, 0, none⟩ = some (.pointer (some ⟨B, 0, none⟩))
  m : w.cell? ⟨M, 0, none⟩ = some (.int .i64 most)
  v : w.cell? ⟨V, 0, none⟩ = some x
  vf : w.frozen? ⟨V, 0, none⟩ = false
  rB : R ≠ B
  mB : M ≠ B
  vB : V ≠ B
theorem Sm.Moved.cell {B : Nat} {w w' : World} (h : Moved B w w') {p : Addr} (hp : p.block ≠ B) : w'.cell? p = w.cell? p := by
  rcases h with rfl | ⟨u, rfl⟩
  · rfl
  · exact World.cell?_setCell_other w _ p u (fun e => hp (by rw [← e]))
theorem Sm.Moved.frozen {B : Nat} {w w' : World} (h : Moved B w w') {p : Addr} : w'.frozen? p = w.frozen? p := by
  rcases h with rfl | ⟨u, rfl⟩
  · rfl
  · rw [World.frozen?_setCell]
theorem Sm.number_post {l : List (BitVec 8)} {most : Int} {B n c m k : Nat} {e : Ending} {w' : World} (h : NumPost l (cap most) B n c e w') (hg : getN l = .num m k) (hm : (m : Int) ≤ most) : e = .returned (.int .i64 (m : Int)) ∧ ∃ A', RestAt w' B A' (n - k) (c - k) (l.drop k) := by
  unfold NumPost at h
  rw [hg] at h
  simp only at h
  rwa [if_pos ((cap_le (getN_form hg).1).2 hm)] at h
/-- the bytes begin with no number up to that one -/
def Sm.NoNum (l : List (BitVec 8)) (most : Int) : Prop := ∀ m k, getN l = .num m k → ¬ (m : Int) ≤ most
theorem Sm.number_bad {l : List (BitVec 8)} {most : Int} {B n c : Nat} {e : Ending} {w' : World} (h : NumPost l (cap most) B n c e w') (hb : NoNum l most) : ∃ T, (T = 0x91 ∨ T = 0xa0) ∧ e = .panicked [{ v := .iface T (.agg #[]), recovered := false }] := by
  unfold NumPost at h
  split at h
  · rename_i m k hg
    rw [if_neg (fun hc => hb m k hg ((cap_le (getN_form hg).1).1 hc))] at h
    exact ⟨0x91, .inl rfl, h⟩
  · exact ⟨0xa0, .inr rfl, h⟩
  · exact ⟨0x91, .inl rfl, h⟩
theorem Sm.RestAt.drew {w : World} {B n c : Nat} {A : Option Addr} {l : List (BitVec 8)} (h : RestAt w B A n c l) : RestAt w.drew B A n c l := { cell := h.cell, frozen := h.frozen, len := h.len, room := h.room, none_ := h.none_, rd := h.rd }
set_option maxRecDepth 100000 in
set_option maxHeartbeats 4000000 in
theorem Sm.dnum_ok {w : World} {B n c R M V m k : Nat} {A : Option Addr} {l : List (BitVec 8)} {most : Int} {x : Value} (h : RestAt w B A n c l) (hr : Ready w B R M V most x) (h0 : 0 ≤ most) (hg : getN l = .num m k) (hm : (m : Int) ≤ most) :
    Calls Tryz.prog 81 #[.pointer (some ⟨R, 0, none⟩), .pointer (some ⟨M, 0, none⟩), .pointer (some ⟨V, 0, none⟩)] w fun e w' => (∃ v, e = .returned v) ∧ ∃ w1, Moved B w.drew w1 ∧ (∃ A', RestAt w1 B A' (n - k) (c - k) (l.drop k)) ∧ w' = w1.setCell ⟨V, 0, none⟩ (.int .i64 (m : Int)) := by
  have hct := (number_any h.drew (cap most) (cap_lo h0) (cap_hi most)).mono fun e w' ⟨hp, hmv⟩ => And.intro (number_post hp hg hm) (And.intro hmv (And.intro (hmv.cell (p := ⟨V, 0, none⟩) hr.vB) (hmv.frozen (p := ⟨V, 0, none⟩))))
  obtain ⟨r1, r2, r3, r4, r5, r6, r7⟩ := hr
  have r3' : w.drew.cell? ⟨V, 0, none⟩ = some x := r3
  have r4' : w.drew.frozen? ⟨V, 0, none⟩ = false := r4
  go_enter Tryz.func81, Tryz.ntmps81
  go_region_with (first
    | (go_at_call 83; (with_reducible refine (bound_ok most _ h0).mono ?_); rintro e w1 ⟨rfl, rfl⟩)
    | (go_at_call 82; (with_reducible refine hct.mono ?_); rintro e w2 ⟨⟨rfl, A2, hr2⟩, hm2, hv2, hf2⟩; rw [r3'] at hv2; rw [r4'] at hf2))
  all_goals (go_end0; exact ⟨⟨_, rfl⟩, w2, hm2, ⟨A2, hr2⟩, rfl⟩)
set_option maxRecDepth 100000 in
set_option maxHeartbeats 4000000 in
theorem Sm.dnum_bad {w : World} {B n c R M V : Nat} {A : Option Addr} {l : List (BitVec 8)} {most : Int} {x : Value} (h : RestAt w B A n c l) (hr : Ready w B R M V most x) (h0 : 0 ≤ most) (hb : NoNum l most) :
    Calls Tryz.prog 81 #[.pointer (some ⟨R, 0, none⟩), .pointer (some ⟨M, 0, none⟩), .pointer (some ⟨V, 0, none⟩)] w fun e w' => (∃ T, (T = 0x91 ∨ T = 0xa0) ∧ e = .panicked [{ v := .iface T (.agg #[]), recovered := false }]) ∧ Moved B w.drew w' := by
  have hct := (number_any h.drew (cap most) (cap_lo h0) (cap_hi most)).mono fun e w' ⟨hp, hmv⟩ => And.intro (number_bad hp hb) hmv
  obtain ⟨r1, r2, r3, r4, r5, r6, r7⟩ := hr
  go_enter Tryz.func81, Tryz.ntmps81
  go_region_dies
  all_goals (go_at_call 83; (with_reducible refine (bound_ok most _ h0).mono ?_); rintro e w1 ⟨rfl, rfl⟩; rename_i hK; refine hK _ _ ?_; clear hK)
  all_goals (repeat (first
    | (refine wpAny_ready (rs := [0]) (by decide +kernel) (by simp) (AllReady.cons rfl (fun K hK => ?_) AllReady.nil); go_simp; refine hK _ _ ?_; clear hK K)
    | (refine wpAny_ready (rs := [1]) (by decide +kernel) (by simp) (AllReady.cons rfl (fun K hK => ?_) AllReady.nil); go_simp; refine hK _ _ ?_; clear hK K)
    | (refine wpAny_ready (rs := [2]) (by decide +kernel) (by simp) (AllReady.cons rfl (fun K hK => ?_) AllReady.nil); go_simp; refine hK _ _ ?_; clear hK K)))
  all_goals (refine wpAny_ready (rs := [5]) (by decide +kernel) (by simp) (AllReady.cons rfl (fun K hK => ?_) AllReady.nil); go_simp)
  all_goals (go_at_call 82; (with_reducible refine hct.mono ?_); rintro e w2 ⟨⟨T, hT, rfl⟩, hm2⟩; rcases hT with rfl | rfl; exact ⟨rfl, .inl rfl, hm2⟩; exact ⟨rfl, .inr rfl, hm2⟩)
set_option maxRecDepth 100000 in
set_option maxHeartbeats 4000000 in
theorem Sm.dnum_arg {w : World} {B R M V : Nat} {most : Int} {x : Value} (hr : Ready w B R M V most x) (h0 : most < 0) :
    Calls Tryz.prog 81 #[.pointer (some ⟨R, 0, none⟩), .pointer (some ⟨M, 0, none⟩), .pointer (some ⟨V, 0, none⟩)] w fun e w' => e = .panicked [pArg] ∧ w' = w.drew := by
  obtain ⟨r1, r2, r3, r4, r5, r6, r7⟩ := hr
  go_enter Tryz.func81, Tryz.ntmps81
  go_region_dies
  all_goals (go_at_call 83; (with_reducible refine (bound_neg most _ h0).mono ?_); rintro e w1 ⟨rfl, rfl⟩; exact ⟨rfl, rfl, rfl⟩)
end Go.Proofs
namespace Go.Proofs
open Go.RowKit Go.Shelf Sm
end Go.Proofs
namespace Go.Proofs
open Go.RowKit Go.Shelf Sm
/-- a reader without an error at block B, with these bytes -/
def Sm.RdAt (w : World) (B : Nat) (l : List (BitVec 8)) : Prop := ∃ A n c, w.heap[B]? = some (.cells #[.slice A n c, .int .i64 0, .bool true] 0x83 (0, 0)) ∧ RestAt w B A n c l
/-- a reader whose bytes are of no more use -/
def Sm.RdTorn (w : World) (B : Nat) : Prop := ∃ u, w.heap[B]? = some (.cells #[u, .int .i64 0, .bool true] 0x83 (0, 0))
def Sm.BV (B V : Nat) : Nat → Prop := fun b => b = B ∨ b = V
structure Sm.DeedOk (w w' : World) (B V : Nat) (l : List (BitVec 8)) (y : Value) : Prop where
  rd : RdAt w' B l
  but : But (BV B V) w w'
  cell : w'.cell? ⟨V, 0, none⟩ = some y
  frozen : w'.frozen? ⟨V, 0, none⟩ = false
namespace Sm
theorem RestAt.set {w : World} {B n c : Nat} {A : Option Addr} {l : List (BitVec 8)} (h : RestAt w B A n c l) {V i : Nat} (hV : B < V) (u : Value) : RestAt (w.setCell ⟨V, i, none⟩ u) B A n c l :=
  { cell := (World.cell?_setCell_other w ⟨V, i, none⟩ ⟨B, 0, none⟩ u (fun e => by injection e with e1; omega)).trans h.cell, frozen := by rw [World.frozen?_setCell]; exact h.frozen, len := h.len, room := h.room, none_ := h.none_, rd := h.rd.setCell (by simp; omega) u }
theorem RestAt.but {S : Nat → Prop} {w w' : World} {B n c : Nat} {A : Option Addr} {l : List (BitVec 8)} (h : RestAt w B A n c l) (hb : But S w w') (hB : B < w.heap.size) (hn : ∀ b, b ≤ B → ¬ S b) : RestAt w' B A n c l :=
  { cell := (hb.cell (p := ⟨B, 0, none⟩) hB (hn B (Nat.le_refl _))).trans h.cell, frozen := (hb.frozen (p := ⟨B, 0, none⟩) hB (hn B (Nat.le_refl _))).trans h.frozen, len := h.len, room := h.room, none_ := h.none_, rd := hb.rd h.rd (by omega) (fun b hb => hn b (by omega)) }
theorem RdAt.lt {w : World} {B : Nat} {l : List (BitVec 8)} (h : RdAt w B l) : B < w.heap.size := by
  obtain ⟨A, n, c, h1, _⟩ := h
  exact (Array.getElem?_eq_some_iff.1 h1).1
theorem RdAt.but {S : Nat → Prop} {w w' : World} {B : Nat} {l : List (BitVec 8)} (h : RdAt w B l) (hb : But S w w') (hn : ∀ b, b ≤ B → ¬ S b) : RdAt w' B l := by
  have hB := h.lt
  obtain ⟨A, n, c, h1, h2⟩ := h
  exact ⟨A, n, c, hb.box h1 (hn B (Nat.le_refl _)), h2.but hb hB hn⟩
theorem RdTorn.but {S : Nat → Prop} {w w' : World} {B : Nat} (h : RdTorn w B) (hb : But S w w') (hn : ¬ S B) : RdTorn w' B := by
  obtain ⟨u, h1⟩ := h
  exact ⟨u, hb.box h1 hn⟩
/-- a move within the reader, and a store into the answer's variable -/
theorem RdAt.moved {w w1 : World} {B : Nat} {v : Value} (h : w.heap[B]? = some (.cells #[v, .int .i64 0, .bool true] 0x83 (0, 0))) (hm : Moved B w w1) {A : Option Addr} {n c : Nat} {l : List (BitVec 8)} (hr : RestAt w1 B A n c l) : RdAt w1 B l := by
  obtain ⟨u, hu⟩ := hm.heap h
  refine ⟨A, n, c, ?_, hr⟩
  have := hr.cell
  simp [World.cell?, hu] at this
  rw [hu, this]
theorem DeedOk.of {w w1 : World} {B V : Nat} {v y x : Value} (h : w.heap[B]? = some (.cells #[v, .int .i64 0, .bool true] 0x83 (0, 0))) (hV : B < V) (hc : w.cell? ⟨V, 0, none⟩ = some x) (hf : w.frozen? ⟨V, 0, none⟩ = false) (hm : Moved B w w1) {A : Option Addr} {n c : Nat} {l : List (BitVec 8)} (hr : RestAt w1 B A n c l) : DeedOk w (w1.setCell ⟨V, 0, none⟩ y) B V l y := by
  have h1 := RdAt.moved h hm hr
  have hc1 := (hm.cell (p := ⟨V, 0, none⟩) (by simp; omega)).trans hc
  refine ⟨?_, (hm.but.mono fun b _ e => Or.inl e).set _ _ (.inl (.inr rfl)), World.cell?_setCell_same _ _ _ hc1, ?_⟩
  · obtain ⟨A', n', c', h2, h3⟩ := h1
    exact ⟨A', n', c', (Below.heap_setCell w1 ⟨V, 0, none⟩ y B (by simp; omega)).trans h2, h3.set hV y⟩
  · rw [World.frozen?_setCell]; exact (hm.frozen (p := ⟨V, 0, none⟩)).trans hf
end Sm
section
variable {w : World} {B V D : Nat} {lb : Array Value}
/-- the world in which take calls -/
def Sm.tookW (w : World) (B : Nat) : World := (w.alloc (.cells #[.pointer (some ⟨B, 0, none⟩)] 0x61)).alloc (.cells #[.int .i64 0] 0x28)
theorem Sm.tookW_but (w : World) (B : Nat) (S : Nat → Prop) : But S w (tookW w B) := ((But.refl S w).alloc _).alloc _
theorem Sm.tookW_size (w : World) (B : Nat) : (tookW w B).heap.size = w.heap.size + 1 + 1 := by simp [tookW]
theorem Sm.tookW_r (w : World) (B : Nat) : (tookW w B).cell? ⟨w.heap.size, 0, none⟩ = some (.pointer (some ⟨B, 0, none⟩)) := by
  unfold tookW
  rw [World.cell?_alloc_lt _ _ _ (by simp)]
  simp [World.cell?_alloc_new]
theorem Sm.tookW_e (w : World) (B : Nat) : (tookW w B).cell? ⟨w.heap.size + 1, 0, none⟩ = some (.int .i64 0) := by
  unfold tookW
  simp
theorem Sm.tookW_f (w : World) (B : Nat) (k : Nat) (hk : k = w.heap.size ∨ k = w.heap.size + 1) : (tookW w B).frozen? ⟨k, 0, none⟩ = false := by
  unfold tookW
  rcases hk with rfl | rfl
  · simp [go_sem]
  · simp [go_sem]
theorem Sm.took_ok {l l' : List (BitVec 8)} {y : Value} (eg : ∀ args w, (callFunc D args).run Tryz.prog w = .ok (.enter D args) w) (h : RdAt w B l) (hV : V < w.heap.size)
    (hd : Calls Tryz.prog D lb (tookW w B) fun e w' => (∃ v, e = .returned v) ∧ DeedOk (tookW w B) w' B V l' y) :
    Calls Tryz.prog 80 #[.pointer (some ⟨B, 0, none⟩), .func (.func D) #[] lb] w fun e w' => e = .returned (.int .i64 0) ∧ DeedOk w w' B V l' y := by
  have hB := h.lt
  obtain ⟨A, n, c, h1, h2⟩ := h
  refine (take_ok D lb eg B n c A w (fun w' => DeedOk (tookW w B) w' B V l' y) h1 (hd.mono ?_)).mono ?_
  · rintro e w' ⟨hv, hk⟩
    refine ⟨hv, hk, (hk.but.cell (p := ⟨w.heap.size + 1, 0, none⟩) (by rw [tookW_size]; simp) ?_).trans (tookW_e w B), (hk.but.frozen (p := ⟨w.heap.size + 1, 0, none⟩) (by rw [tookW_size]; simp) ?_).trans (tookW_f w B _ (.inr rfl))⟩
    · rintro (e | e) <;> simp at e <;> omega
    · rintro (e | e) <;> simp at e <;> omega
  · rintro e w' ⟨rfl, w2, hk, rfl⟩
    have hb := (tookW_but w B (BV B V)).trans hk.but fun _ _ e => e
    refine ⟨rfl, ?_, hb.set _ _ (.inr (by simp)), ?_, ?_⟩
    · obtain ⟨A', n', c', h3, h4⟩ := hk.rd
      exact ⟨A', n', c', (Below.heap_setCell w2 ⟨w.heap.size + 1, 0, none⟩ _ B (by simp; omega)).trans h3, h4.set (by omega) _⟩
    · exact (World.cell?_setCell_other w2 ⟨w.heap.size + 1, 0, none⟩ ⟨V, 0, none⟩ _ (fun e => by injection e with e1; omega)).trans hk.cell
    · rw [World.frozen?_setCell]; exact hk.frozen
theorem Sm.took_arg {l : List (BitVec 8)} (eg : ∀ args w, (callFunc D args).run Tryz.prog w = .ok (.enter D args) w) (h : RdAt w B l)
    (hd : Calls Tryz.prog D lb (tookW w B) fun e w' => e = .panicked [pArg] ∧ w' = (tookW w B).drew) :
    Calls Tryz.prog 80 #[.pointer (some ⟨B, 0, none⟩), .func (.func D) #[] lb] w fun e w' => e = .returned (.int .i64 2) ∧ Below w.heap.size w w' := by
  obtain ⟨A, n, c, h1, h2⟩ := h
  refine (take_arg D lb eg B n c A w (fun w' => w' = (tookW w B).drew) h1 (hd.mono ?_)).mono ?_
  · rintro e w' ⟨hv, rfl⟩
    exact ⟨hv, rfl, tookW_e w B, tookW_f w B _ (.inr rfl)⟩
  · rintro e w' ⟨rfl, w2, rfl, rfl⟩
    exact ⟨rfl, (((tookW_but w B (fun b => w.heap.size ≤ b)).drew).set _ _ (.inr (by simp))).to_below (Nat.le_refl _) (fun _ e => e)⟩
/-- a reader with an error -/
def Sm.RdBad (w : World) (B : Nat) : Prop := ∃ u, w.heap[B]? = some (.cells #[u, .int .i64 120, .bool true] 0x83 (0, 0))
theorem Sm.took_bad {l : List (BitVec 8)} (eg : ∀ args w, (callFunc D args).run Tryz.prog w = .ok (.enter D args) w) (h : RdAt w B l)
    (hd : Calls Tryz.prog D lb (tookW w B) fun e w' => (∃ T, (T = 0x91 ∨ T = 0xa0) ∧ e = .panicked [{ v := .iface T (.agg #[]), recovered := false }]) ∧ RdTorn w' B ∧ But (fun b => b = B) (tookW w B) w') :
    Calls Tryz.prog 80 #[.pointer (some ⟨B, 0, none⟩), .func (.func D) #[] lb] w fun e w' => e = .returned (.int .i64 120) ∧ RdBad w' B ∧ But (fun b => b = B) w w' := by
  have hB := h.lt
  obtain ⟨A, n, c, h1, h2⟩ := h
  refine (take_bad D lb eg B n c A w (fun w' => RdTorn w' B ∧ But (fun b => b = B) (tookW w B) w') h1 (hd.mono ?_)).mono ?_
  · rintro e w' ⟨hv, ⟨u, hu⟩, hk⟩
    refine ⟨hv, ⟨⟨u, hu⟩, hk⟩, (hk.cell (p := ⟨w.heap.size + 1, 0, none⟩) (by rw [tookW_size]; simp) (by simp; omega)).trans (tookW_e w B), (hk.frozen (p := ⟨w.heap.size + 1, 0, none⟩) (by rw [tookW_size]; simp) (by simp; omega)).trans (tookW_f w B _ (.inr rfl)), (hk.cell (p := ⟨w.heap.size, 0, none⟩) (by rw [tookW_size]; simp; omega) (by simp; omega)).trans (tookW_r w B), ?_, ?_⟩
    · simp [World.cell?, hu]
    · simp [World.frozen?, hu]
  · rintro e w' ⟨rfl, w2, ⟨⟨u, hu⟩, hk⟩, rfl⟩
    have hb := (tookW_but w B (fun b => b = B)).trans hk fun _ _ e => e
    refine ⟨rfl, ⟨u, ?_⟩, (hb.set _ _ (.inl rfl)).set _ _ (.inr (by simp))⟩
    exact (Below.heap_setCell _ ⟨w.heap.size + 1, 0, none⟩ _ B (by simp; omega)).trans (heap_setCells hu)
end
end Go.Proofs
namespace Go.Proofs
open Go.RowKit Go.Shelf Sm
/-- a reader: its bytes, its error -/
def Sm.Rdr (w : World) (B : Nat) (l : List (BitVec 8)) (e : Int) : Prop := (e = 0 ∧ RdAt w B l) ∨ (e = 120 ∧ l = [] ∧ RdBad w B)
/-- a number that is asked for: the reader's bytes and error then, the number, the error told -/
def Sm.numS (l : List (BitVec 8)) (e : Int) (most : Int) : List (BitVec 8) × Int × Int × Int :=
  if e ≠ 0 then (l, e, 0, e) else if most < 0 then (l, 0, 0, 2) else match getN l with
    | .num m k => if (m : Int) ≤ most then (l.drop k, 0, m, 0) else ([], 120, 0, 120)
    | _ => ([], 120, 0, 120)
def Sm.textS (l : List (BitVec 8)) (e : Int) (most : Int) : List (BitVec 8) × Int × List (BitVec 8) × Int :=
  if e ≠ 0 then (l, e, [], e) else if most < 0 then (l, 0, [], 2) else match getN l with
    | .num m k => if (m : Int) ≤ most ∧ m ≤ l.length - k then ((l.drop k).drop m, 0, (l.drop k).take m, 0) else ([], 120, [], 120)
    | _ => ([], 120, [], 120)
def Sm.truthS (l : List (BitVec 8)) (e : Int) : List (BitVec 8) × Int × Bool × Int :=
  if e ≠ 0 then (l, e, false, e) else match getN l with
    | .num m k => if (m : Int) ≤ 1 then (l.drop k, 0, decide (m = 1), 0) else ([], 120, false, 120)
    | _ => ([], 120, false, 120)
def Sm.endZ (l : List (BitVec 8)) (e : Int) : List (BitVec 8) × Int × Int :=
  if e ≠ 0 then (l, e, e) else if l = [] then (l, 0, 0) else ([], 120, 120)
namespace Sm
theorem Rdr.lt {w : World} {B : Nat} {l : List (BitVec 8)} {e : Int} (h : Rdr w B l e) : B < w.heap.size := by
  rcases h with ⟨_, h⟩ | ⟨_, _, u, h⟩
  · exact h.lt
  · exact (Array.getElem?_eq_some_iff.1 h).1
theorem Rdr.but {S : Nat → Prop} {w w' : World} {B : Nat} {l : List (BitVec 8)} {e : Int} (h : Rdr w B l e) (hb : But S w w') (hn : ∀ b, b ≤ B → ¬ S b) : Rdr w' B l e := by
  rcases h with ⟨h0, h⟩ | ⟨h0, h1, u, h⟩
  · exact .inl ⟨h0, h.but hb hn⟩
  · exact .inr ⟨h0, h1, u, hb.box h (hn B (Nat.le_refl _))⟩
theorem Rdr.below {w w' : World} {B : Nat} {l : List (BitVec 8)} {e : Int} (h : Rdr w B l e) (hb : Below w.heap.size w w') : Rdr w' B l e := h.but (But.of_all hb (fun _ => False)) (fun _ _ => id)
theorem NoNum.of {l : List (BitVec 8)} {most : Int} (h : ∀ m k, getN l = .num m k → ¬ (m : Int) ≤ most) : NoNum l most := h
/-- the ways of a number -/
theorem num_ways (l : List (BitVec 8)) (most : Int) : (∃ m k, getN l = .num m k ∧ (m : Int) ≤ most) ∨ NoNum l most := by
  by_cases h : ∃ m k, getN l = .num m k ∧ (m : Int) ≤ most
  · exact .inl h
  · exact .inr fun m k h1 h2 => h ⟨m, k, h1, h2⟩
theorem numS_bad {l : List (BitVec 8)} {most : Int} (h0 : ¬ most < 0) (h : NoNum l most) : numS l 0 most = ([], 120, 0, 120) := by
  unfold numS
  rw [if_neg (by simp), if_neg h0]
  split
  · rename_i m k hg
    rw [if_neg (h m k hg)]
  · rfl
theorem numS_ok {l : List (BitVec 8)} {most : Int} {m k : Nat} (h0 : ¬ most < 0) (hg : getN l = .num m k) (hm : (m : Int) ≤ most) : numS l 0 most = (l.drop k, 0, (m : Int), 0) := by
  unfold numS
  rw [if_neg (by simp), if_neg h0, hg]
  simp only
  rw [if_pos hm]
theorem textS_bad {l : List (BitVec 8)} {most : Int} (h0 : ¬ most < 0) (h : NoNum l most) : textS l 0 most = ([], 120, [], 120) := by
  unfold textS
  rw [if_neg (by simp), if_neg h0]
  split
  · rename_i m k hg
    rw [if_neg (fun hc => h m k hg hc.1)]
  · rfl
theorem textS_long {l : List (BitVec 8)} {most : Int} {m k : Nat} (h0 : ¬ most < 0) (hg : getN l = .num m k) (hl : l.length - k < m) : textS l 0 most = ([], 120, [], 120) := by
  unfold textS
  rw [if_neg (by simp), if_neg h0, hg]
  simp only
  rw [if_neg (by omega)]
theorem textS_ok {l : List (BitVec 8)} {most : Int} {m k : Nat} (h0 : ¬ most < 0) (hg : getN l = .num m k) (hm : (m : Int) ≤ most) (hl : m ≤ l.length - k) : textS l 0 most = ((l.drop k).drop m, 0, (l.drop k).take m, 0) := by
  unfold textS
  rw [if_neg (by simp), if_neg h0, hg]
  simp only
  rw [if_pos ⟨hm, hl⟩]
theorem truthS_bad {l : List (BitVec 8)} (h : NoNum l 1) : truthS l 0 = ([], 120, false, 120) := by
  unfold truthS
  rw [if_neg (by simp)]
  split
  · rename_i m k hg
    rw [if_neg (h m k hg)]
  · rfl
theorem truthS_ok {l : List (BitVec 8)} {m k : Nat} (hg : getN l = .num m k) (hm : (m : Int) ≤ 1) : truthS l 0 = (l.drop k, 0, decide (m = 1), 0) := by
  unfold truthS
  rw [if_neg (by simp), hg]
  simp only
  rw [if_pos hm]
end Sm
theorem Sm.enters81 : ∀ args w, (callFunc 81 args).run Tryz.prog w = .ok (.enter 81 args) w := enters_of Tryz.func81 (by kernel_rfl) rfl
/-- the world in which Number and Text call take -/
def Sm.askW (w : World) (B : Nat) (most : Int) (T U : TypeId) (z : Value) : World := ((w.alloc (.cells #[.pointer (some ⟨B, 0, none⟩)] 0x61)).alloc (.cells #[.int .i64 most] T)).alloc (.cells #[z] U)
section
variable {w : World} {B : Nat} {most : Int} {T U : TypeId} {z : Value} {l : List (BitVec 8)}
theorem Sm.askW_size : (askW w B most T U z).heap.size = w.heap.size + 1 + 1 + 1 := by simp [askW]
theorem Sm.askW_below : Below w.heap.size w (askW w B most T U z) := (((Below.refl _ w).alloc (Nat.le_refl _) _).alloc (by simp) _).alloc (by simp; omega) _
theorem Sm.askW_r : (askW w B most T U z).cell? ⟨w.heap.size, 0, none⟩ = some (.pointer (some ⟨B, 0, none⟩)) := by
  unfold askW
  rw [World.cell?_alloc_lt _ _ _ (by simp; omega), World.cell?_alloc_lt _ _ _ (by simp)]
  simp [World.cell?_alloc_new]
theorem Sm.askW_m : (askW w B most T U z).cell? ⟨w.heap.size + 1, 0, none⟩ = some (.int .i64 most) := by
  unfold askW
  rw [World.cell?_alloc_lt _ _ _ (by simp)]
  simp
theorem Sm.askW_v : (askW w B most T U z).cell? ⟨w.heap.size + 1 + 1, 0, none⟩ = some z := by
  have h := World.cell?_alloc_new (w := (w.alloc (.cells #[.pointer (some ⟨B, 0, none⟩)] 0x61)).alloc (.cells #[.int .i64 most] T)) #[z] U 0
  rw [World.size_alloc, World.size_alloc] at h
  exact h
theorem Sm.askW_f : (askW w B most T U z).frozen? ⟨w.heap.size + 1 + 1, 0, none⟩ = false := by
  unfold askW
  simp [go_sem]
/-- what lies ready, where take calls -/
theorem Sm.ready_ask (hB : B < w.heap.size) : Ready (tookW (askW w B most T U z) B) B w.heap.size (w.heap.size + 1) (w.heap.size + 1 + 1) most z := by
  have hb := tookW_but (askW w B most T U z) B (fun _ => False)
  have hs := @askW_size w B most T U z
  refine { r := ?_, m := ?_, v := ?_, vf := ?_, rB := by omega, mB := by omega, vB := by omega }
  · exact (hb.cell (p := ⟨w.heap.size, 0, none⟩) (by rw [hs]; simp; omega) id).trans askW_r
  · exact (hb.cell (p := ⟨w.heap.size + 1, 0, none⟩) (by rw [hs]; simp) id).trans askW_m
  · exact (hb.cell (p := ⟨w.heap.size + 1 + 1, 0, none⟩) (by rw [hs]; simp) id).trans askW_v
  · exact (hb.frozen (p := ⟨w.heap.size + 1 + 1, 0, none⟩) (by rw [hs]; simp) id).trans askW_f
theorem Sm.rdAt_took (h : RdAt w B l) : RdAt (tookW w B) B l := h.but (tookW_but w B (fun _ => False)) (fun _ _ => id)
theorem Sm.rdAt_below {w' : World} (h : RdAt w B l) (hb : Below w.heap.size w w') : RdAt w' B l := h.but (But.of_all hb (fun _ => False)) (fun _ _ => id)
end
set_option maxRecDepth 100000 in
set_option maxHeartbeats 4000000 in
/-- take, handed the closure that reads a number -/
theorem Sm.tnum_ok {w : World} {B m k : Nat} {l : List (BitVec 8)} {most : Int} (h : RdAt w B l) (h0 : 0 ≤ most) (hg : getN l = .num m k) (hm : (m : Int) ≤ most) :
    Calls Tryz.prog 80 #[.pointer (some ⟨B, 0, none⟩), .func (.func 81) #[] #[.pointer (some ⟨w.heap.size, 0, none⟩), .pointer (some ⟨w.heap.size + 1, 0, none⟩), .pointer (some ⟨w.heap.size + 1 + 1, 0, none⟩)]] (askW w B most 2 2 (.int .i64 0)) fun e w' =>
      e = .returned (.int .i64 0) ∧ DeedOk (askW w B most 2 2 (.int .i64 0)) w' B (w.heap.size + 1 + 1) (l.drop k) (.int .i64 (m : Int)) := by
  have hB := h.lt
  have ha := rdAt_below h (@askW_below w B most 2 2 (.int .i64 0))
  obtain ⟨A, n, c, h1, h2⟩ := rdAt_took ha
  have hr := @ready_ask w B most 2 2 (.int .i64 0) hB
  refine took_ok enters81 ha (by rw [askW_size]; omega) ((dnum_ok h2 hr h0 hg hm).mono ?_)
  rintro e w' ⟨hv, w1, hm1, ⟨A', hr1⟩, rfl⟩
  have hd1 : (tookW (askW w B most 2 2 (.int .i64 0)) B).drew.heap[B]? = some (.cells #[.slice A n c, .int .i64 0, .bool true] 0x83 (0, 0)) := h1
  have hk := DeedOk.of (y := .int .i64 (m : Int)) hd1 (V := w.heap.size + 1 + 1) (by omega) (x := .int .i64 0) hr.v hr.vf hm1 hr1
  exact ⟨hv, hk.rd, (But.refl _ _).drew.trans hk.but (fun _ _ e => e), hk.cell, hk.frozen⟩
set_option maxRecDepth 100000 in
set_option maxHeartbeats 4000000 in
theorem Sm.tnum_bad {w : World} {B : Nat} {l : List (BitVec 8)} {most : Int} (h : RdAt w B l) (h0 : 0 ≤ most) (hb : NoNum l most) :
    Calls Tryz.prog 80 #[.pointer (some ⟨B, 0, none⟩), .func (.func 81) #[] #[.pointer (some ⟨w.heap.size, 0, none⟩), .pointer (some ⟨w.heap.size + 1, 0, none⟩), .pointer (some ⟨w.heap.size + 1 + 1, 0, none⟩)]] (askW w B most 2 2 (.int .i64 0)) fun e w' =>
      e = .returned (.int .i64 120) ∧ RdBad w' B ∧ But (fun b => b = B) (askW w B most 2 2 (.int .i64 0)) w' := by
  have hB := h.lt
  have ha := rdAt_below h (@askW_below w B most 2 2 (.int .i64 0))
  obtain ⟨A, n, c, h1, h2⟩ := rdAt_took ha
  have hr := @ready_ask w B most 2 2 (.int .i64 0) hB
  refine took_bad enters81 ha ((dnum_bad h2 hr h0 hb).mono ?_)
  rintro e w' ⟨hv, hm1⟩
  have hd1 : (tookW (askW w B most 2 2 (.int .i64 0)) B).drew.heap[B]? = some (.cells #[.slice A n c, .int .i64 0, .bool true] 0x83 (0, 0)) := h1
  exact ⟨hv, hm1.heap hd1, (But.refl _ _).drew.trans hm1.but (fun _ _ e => e)⟩
set_option maxRecDepth 100000 in
set_option maxHeartbeats 4000000 in
theorem Sm.tnum_arg {w : World} {B : Nat} {l : List (BitVec 8)} {most : Int} (h : RdAt w B l) (h0 : most < 0) :
    Calls Tryz.prog 80 #[.pointer (some ⟨B, 0, none⟩), .func (.func 81) #[] #[.pointer (some ⟨w.heap.size, 0, none⟩), .pointer (some ⟨w.heap.size + 1, 0, none⟩), .pointer (some ⟨w.heap.size + 1 + 1, 0, none⟩)]] (askW w B most 2 2 (.int .i64 0)) fun e w' =>
      e = .returned (.int .i64 2) ∧ Below (askW w B most 2 2 (.int .i64 0)).heap.size (askW w B most 2 2 (.int .i64 0)) w' := by
  have hB := h.lt
  have ha := rdAt_below h (@askW_below w B most 2 2 (.int .i64 0))
  have hr := @ready_ask w B most 2 2 (.int .i64 0) hB
  exact took_arg enters81 ha (dnum_arg hr h0)
set_option maxRecDepth 100000 in
set_option maxHeartbeats 4000000 in
/-- Number, by what take answers -/
theorem Sm.Number_by {w : World} {B : Nat} {most : Int} {v : Value} (n : Int) (no : Int) (Q : World → Prop)
    (ht : Calls Tryz.prog 80 #[v, .func (.func 81) #[] #[.pointer (some ⟨w.heap.size, 0, none⟩), .pointer (some ⟨w.heap.size + 1, 0, none⟩), .pointer (some ⟨w.heap.size + 1 + 1, 0, none⟩)]] (((w.alloc (.cells #[v] 0x61)).alloc (.cells #[.int .i64 most] 2)).alloc (.cells #[.int .i64 0] 2)) fun e w' =>
      e = .returned (.int .i64 no) ∧ Q w' ∧ w'.cell? ⟨w.heap.size + 1 + 1, 0, none⟩ = some (.int .i64 n) ∧ w'.frozen? ⟨w.heap.size + 1 + 1, 0, none⟩ = false)
    (hp : v = .pointer none ∨ v = .pointer (some ⟨B, 0, none⟩)) :
    Calls Tryz.prog 61 #[v, .int .i64 most] w fun e w' => e = .returned (.tuple #[.int .i64 n, .int .i64 no]) ∧ ∃ w2, Q w2 ∧ w' = w2.setCell ⟨w.heap.size + 1 + 1, 0, none⟩ (.int .i64 n) := by
  have hmf : ∀ (fn : Fn) (first cap : Array Value) (w : World), (Instr.makeFunc fn first cap).run Tryz.prog w = .ok (.func fn first cap) w := fun _ _ _ _ => rfl
  rcases hp with rfl | rfl
  · go_enter Tryz.func61, Tryz.ntmps61
    go_wp2_with (go_at_call 80; (with_reducible refine ht.mono ?_); rintro e w2 ⟨rfl, hQ, hc, hf⟩)
    have hs := World.cell?_setCell_same w2 ⟨w.heap.size + 1 + 1, 0, none⟩ (.int .i64 n) hc
    exact bodyPost_ret (v := .tuple #[.int .i64 n, .int .i64 no]) (by simp [results, Tryz.results61, go_sem, hs]) rfl ⟨rfl, w2, hQ, rfl⟩
  · go_enter Tryz.func61, Tryz.ntmps61
    go_wp2_with (go_at_call 80; (with_reducible refine ht.mono ?_); rintro e w2 ⟨rfl, hQ, hc, hf⟩)
    have hs := World.cell?_setCell_same w2 ⟨w.heap.size + 1 + 1, 0, none⟩ (.int .i64 n) hc
    exact bodyPost_ret (v := .tuple #[.int .i64 n, .int .i64 no]) (by simp [results, Tryz.results61, go_sem, hs]) rfl ⟨rfl, w2, hQ, rfl⟩
end Go.Proofs
namespace Go.Proofs
open Go.RowKit Go.Shelf Sm
theorem Sm.DeedOk.fin {w W w2 : World} {B V : Nat} {l : List (BitVec 8)} {y : Value} (hb : Below w.heap.size w W) (hV : w.heap.size ≤ V) (hB : B < w.heap.size) (h : DeedOk W w2 B V l y) (u : Value) : Rdr (w2.setCell ⟨V, 0, none⟩ u) B l 0 ∧ But (fun b => b = B) w (w2.setCell ⟨V, 0, none⟩ u) := by
  have h1 : But (fun b => b = B) w w2 := (But.of_all hb (fun b => b = B)).trans h.but fun b hb' e => by
    rcases e with e | e
    · exact e
    · omega
  refine ⟨.inl ⟨rfl, h.rd.but ((But.refl (fun b => b = V) w2).set ⟨V, 0, none⟩ u (.inl rfl)) (fun b hb' => by omega)⟩, h1.set _ _ (.inr hV)⟩
theorem Sm.RdBad.fin {w W w2 : World} {B V : Nat} (hb : Below w.heap.size w W) (hV : w.heap.size ≤ V) (hB : B < w.heap.size) (h : RdBad w2 B) (hbut : But (fun b => b = B) W w2) (u : Value) : Rdr (w2.setCell ⟨V, 0, none⟩ u) B [] 120 ∧ But (fun b => b = B) w (w2.setCell ⟨V, 0, none⟩ u) := by
  have h1 : But (fun b => b = B) w w2 := (But.of_all hb (fun b => b = B)).trans hbut fun b hb' e => e
  obtain ⟨x, hx⟩ := h
  exact ⟨.inr ⟨rfl, rfl, x, (Below.heap_setCell w2 ⟨V, 0, none⟩ u B (by simp; omega)).trans hx⟩, h1.set _ _ (.inr hV)⟩
theorem Sm.Rdr.same {w W w2 : World} {B V : Nat} {l : List (BitVec 8)} {e : Int} (h : Rdr w B l e) (hb : Below w.heap.size w W) (hV : w.heap.size ≤ V) (hbut : Below W.heap.size W w2) (u : Value) : Rdr (w2.setCell ⟨V, 0, none⟩ u) B l e ∧ But (fun b => b = B) w (w2.setCell ⟨V, 0, none⟩ u) := by
  have h1 : Below w.heap.size w (w2.setCell ⟨V, 0, none⟩ u) := (hb.trans (hbut.mono hb.size)).setCell (p := ⟨V, 0, none⟩) hV u
  exact ⟨h.below h1, But.of_all h1 _⟩
set_option maxRecDepth 100000 in
set_option maxHeartbeats 4000000 in
theorem Sm.Number_any {w : World} {B : Nat} {l : List (BitVec 8)} {e : Int} (h : Rdr w B l e) (most : Int) :
    Calls Tryz.prog 61 #[.pointer (some ⟨B, 0, none⟩), .int .i64 most] w fun x w' => x = .returned (.tuple #[.int .i64 (numS l e most).2.2.1, .int .i64 (numS l e most).2.2.2]) ∧ Rdr w' B (numS l e most).1 (numS l e most).2.1 ∧ But (fun b => b = B) w w' := by
  have hB := h.lt
  have hb := @askW_below w B most 2 2 (.int .i64 0)
  have hv := @askW_v w B most 2 2 (.int .i64 0)
  have hf := @askW_f w B most 2 2 (.int .i64 0)
  have hs := @askW_size w B most 2 2 (.int .i64 0)
  rcases h with ⟨rfl, h⟩ | ⟨rfl, rfl, h⟩
  · by_cases h0 : most < 0
    · have e1 : numS l 0 most = (l, 0, 0, 2) := by unfold numS; rw [if_neg (by simp), if_pos h0]
      rw [e1]
      refine (Number_by (B := B) 0 2 (fun w2 => Below (askW w B most 2 2 (.int .i64 0)).heap.size (askW w B most 2 2 (.int .i64 0)) w2) ((tnum_arg h h0).mono ?_) (.inr rfl)).mono ?_
      · rintro x w2 ⟨rfl, hk⟩
        exact ⟨rfl, hk, (hk.cell (p := ⟨w.heap.size + 1 + 1, 0, none⟩) (by rw [hs]; simp)).trans hv, (hk.frozen (p := ⟨w.heap.size + 1 + 1, 0, none⟩) (by rw [hs]; simp)).trans hf⟩
      · rintro x w' ⟨rfl, w2, hk, rfl⟩
        exact ⟨rfl, Rdr.same (.inl ⟨rfl, h⟩) hb (by omega) hk _⟩
    · rcases num_ways l most with ⟨m, k, hg, hm⟩ | hbad
      · rw [numS_ok h0 hg hm]
        refine (Number_by (B := B) m 0 (fun w2 => DeedOk (askW w B most 2 2 (.int .i64 0)) w2 B (w.heap.size + 1 + 1) (l.drop k) (.int .i64 (m : Int))) ((tnum_ok h (by omega) hg hm).mono ?_) (.inr rfl)).mono ?_
        · rintro x w2 ⟨rfl, hk⟩
          exact ⟨rfl, hk, hk.cell, hk.frozen⟩
        · rintro x w' ⟨rfl, w2, hk, rfl⟩
          exact ⟨rfl, hk.fin hb (by omega) hB _⟩
      · rw [numS_bad h0 hbad]
        refine (Number_by (B := B) 0 120 (fun w2 => RdBad w2 B ∧ But (fun b => b = B) (askW w B most 2 2 (.int .i64 0)) w2) ((tnum_bad h (by omega) hbad).mono ?_) (.inr rfl)).mono ?_
        · rintro x w2 ⟨rfl, hk1, hk⟩
          exact ⟨rfl, ⟨hk1, hk⟩, (hk.cell (p := ⟨w.heap.size + 1 + 1, 0, none⟩) (by rw [hs]; simp) (by simp; omega)).trans hv, (hk.frozen (p := ⟨w.heap.size + 1 + 1, 0, none⟩) (by rw [hs]; simp) (by simp; omega)).trans hf⟩
        · rintro x w' ⟨rfl, w2, ⟨hk1, hk⟩, rfl⟩
          exact ⟨rfl, hk1.fin hb (by omega) hB hk _⟩
  · have e1 : numS [] 120 most = ([], 120, 0, 120) := by unfold numS; rw [if_pos (by omega)]
    rw [e1]
    have ha : RdBad (askW w B most 2 2 (.int .i64 0)) B := by
      obtain ⟨u, hu⟩ := h
      exact ⟨u, (hb.block B hB).trans hu⟩
    obtain ⟨u, hu⟩ := ha
    refine (Number_by (B := B) 0 120 (fun w2 => Below (askW w B most 2 2 (.int .i64 0)).heap.size (askW w B most 2 2 (.int .i64 0)) w2) ((take_fault B u 120 (by omega) _ hu _).mono ?_) (.inr rfl)).mono ?_
    · rintro x w2 ⟨rfl, hk⟩
      exact ⟨rfl, hk, (hk.cell (p := ⟨w.heap.size + 1 + 1, 0, none⟩) (by rw [hs]; simp)).trans hv, (hk.frozen (p := ⟨w.heap.size + 1 + 1, 0, none⟩) (by rw [hs]; simp)).trans hf⟩
    · rintro x w' ⟨rfl, w2, hk, rfl⟩
      exact ⟨rfl, Rdr.same (.inr ⟨rfl, rfl, h⟩) hb (by omega) hk _⟩
theorem Sm.strB_nil : strB [] = ⟨#[]⟩ := rfl
set_option maxRecDepth 100000 in
set_option maxHeartbeats 2000000 in
theorem Sm.Left_any {w : World} {B : Nat} {l : List (BitVec 8)} {e : Int} (h : Rdr w B l e) : Calls Tryz.prog 62 #[.pointer (some ⟨B, 0, none⟩)] w fun x w' => x = .returned (.int .i64 (l.length : Int)) ∧ w = w' := by
  rcases h with ⟨rfl, A, n, c, h1, h2⟩ | ⟨rfl, rfl, u, h1⟩
  · have hc := h2.cell
    have c1 : w.cell? ⟨B, 1, none⟩ = some (.int .i64 0) := by simp [World.cell?, h1]
    have hl := h2.len
    subst hl
    go_enter Tryz.func62, Tryz.ntmps62
    go_wp2
    go_ret
    exact ⟨rfl, rfl⟩
  · have c1 : w.cell? ⟨B, 1, none⟩ = some (.int .i64 120) := by simp [World.cell?, h1]
    go_enter Tryz.func62, Tryz.ntmps62
    go_wp2
    go_ret
    exact ⟨rfl, rfl⟩
end Go.Proofs
