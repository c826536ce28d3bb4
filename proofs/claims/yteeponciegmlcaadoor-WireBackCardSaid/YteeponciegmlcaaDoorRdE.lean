/-
  What a closure that take is handed turns, and what take makes of it.
-/
import Derived.Test.YteeponciegmlcaaDoorRdD
namespace Go.Proofs
open Go.RowKit Go.Shelf Sm
/-- a reader without an error at block B, with these bytes -/
def Sm.RdAt (w : World) (B : Nat) (l : List (BitVec 8)) : Prop := ∃ A n c, w.heap[B]? = some (.cells #[.slice A n c, .int .i64 0, .bool true] 59 (0, 0)) ∧ RestAt w B A n c l
/-- a reader whose bytes are of no more use -/
def Sm.RdTorn (w : World) (B : Nat) : Prop := ∃ u, w.heap[B]? = some (.cells #[u, .int .i64 0, .bool true] 59 (0, 0))
def Sm.BV (B V : Nat) : Nat → Prop := fun b => b = B ∨ b = V
structure Sm.DeedOk (w w' : World) (B V : Nat) (l : List (BitVec 8)) (y : Value) : Prop where
  rd : RdAt w' B l
  but : But (BV B V) w w'
  cell : w'.cell? ⟨V, 0, none⟩ = some y
  frozen : w'.frozen? ⟨V, 0, none⟩ = false
namespace Sm
theorem RestAt.set {w : World} {B n c : Nat} {A : Option Addr} {l : List (BitVec 8)} (h : RestAt w B A n c l) {V i : Nat} (hV : B < V) (u : Value) : RestAt (w.setCell ⟨V, i, none⟩ u) B A n c l :=
  { cell := (World.cell?_setCell_other w ⟨V, i, none⟩ ⟨B, 0, none⟩ u (fun e => by injection e with e1; omega)).trans h.cell, frozen := by rw [World.frozen?_setCell]; exact h.frozen, len := h.len, room := h.room, none_ := h.none_, rd := h.rd.setCell (by simp; omega) u }
theorem RestAt.but {S : Nat → Prop} {w w' : World} {B n c : Nat} {A : Option Addr} {l : List (BitVec 8)} (h : RestAt w B A n c l) (hb : But S w w') (hB : B < w.heap.size) (hn : ∀ b, b ≤ B → ¬ S b) : RestAt w' B A n c l :=
  { cell := (hb.cell (p := ⟨B, 0, none⟩) hB (hn B (Nat.le_refl _))).trans h.cell, frozen := (hb.frozen (p := ⟨B, 0, none⟩) hB (hn B (Nat.le_refl _))).trans h.frozen, len := h.len, room := h.room, none_ := h.none_, rd := hb.rd h.rd (by omega) (fun b hb => hn b (by omega)) }
theorem RdAt.lt {w : World} {B : Nat} {l : List (BitVec 8)} (h : RdAt w B l) : B < w.heap.size := by
  obtain ⟨A, n, c, h1, _⟩ := h
  exact (Array.getElem?_eq_some_iff.1 h1).1
theorem RdAt.but {S : Nat → Prop} {w w' : World} {B : Nat} {l : List (BitVec 8)} (h : RdAt w B l) (hb : But S w w') (hn : ∀ b, b ≤ B → ¬ S b) : RdAt w' B l := by
  have hB := h.lt
  obtain ⟨A, n, c, h1, h2⟩ := h
  exact ⟨A, n, c, hb.box h1 (hn B (Nat.le_refl _)), h2.but hb hB hn⟩
theorem RdTorn.but {S : Nat → Prop} {w w' : World} {B : Nat} (h : RdTorn w B) (hb : But S w w') (hn : ¬ S B) : RdTorn w' B := by
  obtain ⟨u, h1⟩ := h
  exact ⟨u, hb.box h1 hn⟩
/-- a move within the reader, and a store into the answer's variable -/
theorem RdAt.moved {w w1 : World} {B : Nat} {v : Value} (h : w.heap[B]? = some (.cells #[v, .int .i64 0, .bool true] 59 (0, 0))) (hm : Moved B w w1) {A : Option Addr} {n c : Nat} {l : List (BitVec 8)} (hr : RestAt w1 B A n c l) : RdAt w1 B l := by
  obtain ⟨u, hu⟩ := hm.heap h
  refine ⟨A, n, c, ?_, hr⟩
  have := hr.cell
  simp [World.cell?, hu] at this
  rw [hu, this]
theorem DeedOk.of {w w1 : World} {B V : Nat} {v y x : Value} (h : w.heap[B]? = some (.cells #[v, .int .i64 0, .bool true] 59 (0, 0))) (hV : B < V) (hc : w.cell? ⟨V, 0, none⟩ = some x) (hf : w.frozen? ⟨V, 0, none⟩ = false) (hm : Moved B w w1) {A : Option Addr} {n c : Nat} {l : List (BitVec 8)} (hr : RestAt w1 B A n c l) : DeedOk w (w1.setCell ⟨V, 0, none⟩ y) B V l y := by
  have h1 := RdAt.moved h hm hr
  have hc1 := (hm.cell (p := ⟨V, 0, none⟩) (by simp; omega)).trans hc
  refine ⟨?_, (hm.but.mono fun b _ e => Or.inl e).set _ _ (.inl (.inr rfl)), World.cell?_setCell_same _ _ _ hc1, ?_⟩
  · obtain ⟨A', n', c', h2, h3⟩ := h1
    exact ⟨A', n', c', (Below.heap_setCell w1 ⟨V, 0, none⟩ y B (by simp; omega)).trans h2, h3.set hV y⟩
  · rw [World.frozen?_setCell]; exact (hm.frozen (p := ⟨V, 0, none⟩)).trans hf
end Sm
section
variable {w : World} {B V D : Nat} {lb : Array Value}
/-- the world in which take calls -/
def Sm.tookW (w : World) (B : Nat) : World := (w.alloc (.cells #[.pointer (some ⟨B, 0, none⟩)] 42)).alloc (.cells #[.int .i64 0] 34)
theorem Sm.tookW_but (w : World) (B : Nat) (S : Nat → Prop) : But S w (tookW w B) := ((But.refl S w).alloc _).alloc _
theorem Sm.tookW_size (w : World) (B : Nat) : (tookW w B).heap.size = w.heap.size + 1 + 1 := by simp [tookW]
theorem Sm.tookW_r (w : World) (B : Nat) : (tookW w B).cell? ⟨w.heap.size, 0, none⟩ = some (.pointer (some ⟨B, 0, none⟩)) := by
  unfold tookW
  rw [World.cell?_alloc_lt _ _ _ (by simp)]
  simp [World.cell?_alloc_new]
theorem Sm.tookW_e (w : World) (B : Nat) : (tookW w B).cell? ⟨w.heap.size + 1, 0, none⟩ = some (.int .i64 0) := by
  unfold tookW
  simp
theorem Sm.tookW_f (w : World) (B : Nat) (k : Nat) (hk : k = w.heap.size ∨ k = w.heap.size + 1) : (tookW w B).frozen? ⟨k, 0, none⟩ = false := by
  unfold tookW
  rcases hk with rfl | rfl
  · simp [go_sem]
  · simp [go_sem]
theorem Sm.took_ok {l l' : List (BitVec 8)} {y : Value} (eg : ∀ args w, (callFunc D args).run Tryd.prog w = .ok (.enter D args) w) (h : RdAt w B l) (hV : V < w.heap.size)
    (hd : Calls Tryd.prog D lb (tookW w B) fun e w' => (∃ v, e = .returned v) ∧ DeedOk (tookW w B) w' B V l' y) :
    Calls Tryd.prog 44 #[.pointer (some ⟨B, 0, none⟩), .func (.func D) #[] lb] w fun e w' => e = .returned (.int .i64 0) ∧ DeedOk w w' B V l' y := by
  have hB := h.lt
  obtain ⟨A, n, c, h1, h2⟩ := h
  refine (take_ok D lb eg B n c A w (fun w' => DeedOk (tookW w B) w' B V l' y) h1 (hd.mono ?_)).mono ?_
  · rintro e w' ⟨hv, hk⟩
    refine ⟨hv, hk, (hk.but.cell (p := ⟨w.heap.size + 1, 0, none⟩) (by rw [tookW_size]; simp) ?_).trans (tookW_e w B), (hk.but.frozen (p := ⟨w.heap.size + 1, 0, none⟩) (by rw [tookW_size]; simp) ?_).trans (tookW_f w B _ (.inr rfl))⟩
    · rintro (e | e) <;> simp at e <;> omega
    · rintro (e | e) <;> simp at e <;> omega
  · rintro e w' ⟨rfl, w2, hk, rfl⟩
    have hb := (tookW_but w B (BV B V)).trans hk.but fun _ _ e => e
    refine ⟨rfl, ?_, hb.set _ _ (.inr (by simp)), ?_, ?_⟩
    · obtain ⟨A', n', c', h3, h4⟩ := hk.rd
      exact ⟨A', n', c', (Below.heap_setCell w2 ⟨w.heap.size + 1, 0, none⟩ _ B (by simp; omega)).trans h3, h4.set (by omega) _⟩
    · exact (World.cell?_setCell_other w2 ⟨w.heap.size + 1, 0, none⟩ ⟨V, 0, none⟩ _ (fun e => by injection e with e1; omega)).trans hk.cell
    · rw [World.frozen?_setCell]; exact hk.frozen
theorem Sm.took_arg {l : List (BitVec 8)} (eg : ∀ args w, (callFunc D args).run Tryd.prog w = .ok (.enter D args) w) (h : RdAt w B l)
    (hd : Calls Tryd.prog D lb (tookW w B) fun e w' => e = .panicked [pArg] ∧ w' = (tookW w B).drew) :
    Calls Tryd.prog 44 #[.pointer (some ⟨B, 0, none⟩), .func (.func D) #[] lb] w fun e w' => e = .returned (.int .i64 2) ∧ Below w.heap.size w w' := by
  obtain ⟨A, n, c, h1, h2⟩ := h
  refine (take_arg D lb eg B n c A w (fun w' => w' = (tookW w B).drew) h1 (hd.mono ?_)).mono ?_
  · rintro e w' ⟨hv, rfl⟩
    exact ⟨hv, rfl, tookW_e w B, tookW_f w B _ (.inr rfl)⟩
  · rintro e w' ⟨rfl, w2, rfl, rfl⟩
    exact ⟨rfl, (((tookW_but w B (fun b => w.heap.size ≤ b)).drew).set _ _ (.inr (by simp))).to_below (Nat.le_refl _) (fun _ e => e)⟩
/-- a reader with an error -/
def Sm.RdBad (w : World) (B : Nat) : Prop := ∃ u, w.heap[B]? = some (.cells #[u, .int .i64 120, .bool true] 59 (0, 0))
theorem Sm.took_bad {l : List (BitVec 8)} (eg : ∀ args w, (callFunc D args).run Tryd.prog w = .ok (.enter D args) w) (h : RdAt w B l)
    (hd : Calls Tryd.prog D lb (tookW w B) fun e w' => (∃ T, (T = 115 ∨ T = 116) ∧ e = .panicked [{ v := .iface T (.agg #[]), recovered := false }]) ∧ RdTorn w' B ∧ But (fun b => b = B) (tookW w B) w') :
    Calls Tryd.prog 44 #[.pointer (some ⟨B, 0, none⟩), .func (.func D) #[] lb] w fun e w' => e = .returned (.int .i64 120) ∧ RdBad w' B ∧ But (fun b => b = B) w w' := by
  have hB := h.lt
  obtain ⟨A, n, c, h1, h2⟩ := h
  refine (take_bad D lb eg B n c A w (fun w' => RdTorn w' B ∧ But (fun b => b = B) (tookW w B) w') h1 (hd.mono ?_)).mono ?_
  · rintro e w' ⟨hv, ⟨u, hu⟩, hk⟩
    refine ⟨hv, ⟨⟨u, hu⟩, hk⟩, (hk.cell (p := ⟨w.heap.size + 1, 0, none⟩) (by rw [tookW_size]; simp) (by simp; omega)).trans (tookW_e w B), (hk.frozen (p := ⟨w.heap.size + 1, 0, none⟩) (by rw [tookW_size]; simp) (by simp; omega)).trans (tookW_f w B _ (.inr rfl)), (hk.cell (p := ⟨w.heap.size, 0, none⟩) (by rw [tookW_size]; simp; omega) (by simp; omega)).trans (tookW_r w B), ?_, ?_⟩
    · simp [World.cell?, hu]
    · simp [World.frozen?, hu]
  · rintro e w' ⟨rfl, w2, ⟨⟨u, hu⟩, hk⟩, rfl⟩
    have hb := (tookW_but w B (fun b => b = B)).trans hk fun _ _ e => e
    refine ⟨rfl, ⟨u, ?_⟩, (hb.set _ _ (.inl rfl)).set _ _ (.inr (by simp))⟩
    exact (Below.heap_setCell _ ⟨w.heap.size + 1, 0, none⟩ _ B (by simp; omega)).trans (heap_setCells hu)
end
