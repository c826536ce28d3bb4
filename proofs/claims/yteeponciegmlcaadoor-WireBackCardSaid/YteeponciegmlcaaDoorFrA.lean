/-
  The contract of first: what stands ahead in a stream, at every readable bytes.
-/
import Derived.Test.YteeponciegmlcaaDoorRdI
namespace Go.Proofs
open Go.RowKit Go.Shelf Sm
/-- the first frame of bytes: the bytes, how many, the error -/
def Sm.splitS (l : List (BitVec 8)) : List (BitVec 8) × Nat × Int :=
  match getN l with
  | .bad => ([], 0, 121)
  | .cut => ([], 0, 0)
  | .num m k => if 4100 < m ∨ m < 4 then ([], 0, 121) else if l.length - k < m then ([], 0, 0) else
      if openOk ((l.drop k).take m) then (openL ((l.drop k).take m), k + m, 0) else ([], 0, 110)
theorem Sm.ta68_wrong (w : World) : (Instr.typeAssert (Value.iface 115 (Value.agg #[])) 20 116 true).run Tryd.prog w = .ok (.tuple #[.agg #[], .bool false]) w := by kernel_rfl
theorem Sm.ta68_cut (w : World) : (Instr.typeAssert (Value.iface 116 (Value.agg #[])) 20 116 true).run Tryd.prog w = .ok (.tuple #[.agg #[], .bool true]) w := by kernel_rfl
/-- three cells of a block are written -/
def Sm.set3 (w : World) (P : Nat) (a b c : Value) : World := ((w.setCell ⟨P, 0, none⟩ a).setCell ⟨P, 1, none⟩ b).setCell ⟨P, 2, none⟩ c
set_option maxRecDepth 100000 in
set_option maxHeartbeats 4000000 in
theorem Sm.catchF_idle (P : Nat) (w : World) :
    CallsD Tryd.prog 68 #[.pointer (some ⟨P, 0, none⟩)] .returning w fun e u' w' => (∃ v, e = .returned v) ∧ u' = .returning ∧ w' = w := by
  refine callsD_of_wpS Tryd.func68 rfl fun c₀ cs hu => ?_
  simp only [Tryd.ntmps68, List.size_toArray, List.length_cons, List.length_nil, Nat.reduceAdd, Nat.reduceSub, Array.replicate_succ, Array.replicate_zero, List.push_toArray, List.append_toArray, List.nil_append, List.cons_append]
  apply wpS_seq
  apply wpS_region
  simp [wpOpsS, go_sem, recoverD, hu, Exit.thenS]
  refine wpS_of_wp ?_
  go_wp2
  refine ⟨rfl, .returning, by cases c₀; simp_all, .tuple #[], by simp [results, Tryd.results68, go_sem], ⟨_, rfl⟩, rfl, rfl⟩
set_option maxRecDepth 100000 in
set_option maxHeartbeats 4000000 in
theorem Sm.catchF_cut (P : Nat) (w : World) (x y z : Value) (h : w.heap[P]? = some (.cells #[x, y, z] 105 (0, 0))) (older : List PanicEntry) :
    CallsD Tryd.prog 68 #[.pointer (some ⟨P, 0, none⟩)] (.panicking ({ v := .iface 116 (.agg #[]), recovered := false } :: older)) w fun e u' w' => (∃ v, e = .returned v) ∧ u' = .panicking ({ v := .iface 116 (.agg #[]), recovered := true } :: older) ∧ w' = set3 w P (.slice none 0 0) (.int .i64 0) (.int .i64 0) := by
  have hta := ta68_cut
  have c0 := cell_of_heap h 0
  have c1 := cell_of_heap h 1
  have c2 := cell_of_heap h 2
  have f0 := frozen_of_heap h 0
  have f1 := frozen_of_heap h 1
  have f2 := frozen_of_heap h 2
  simp only [List.getElem?_toArray, List.getElem?_cons_zero, List.getElem?_cons_succ] at c0 c1 c2
  refine callsD_of_wpS Tryd.func68 rfl fun c₀ cs hu => ?_
  simp only [Tryd.ntmps68, List.size_toArray, List.length_cons, List.length_nil, Nat.reduceAdd, Nat.reduceSub, Array.replicate_succ, Array.replicate_zero, List.push_toArray, List.append_toArray, List.nil_append, List.cons_append]
  apply wpS_seq
  apply wpS_region
  simp [wpOpsS, go_sem, recoverD, hu, Exit.thenS]
  refine wpS_of_wp ?_
  go_wp2
  exact ⟨rfl, _, rfl, .tuple #[], by simp [results, Tryd.results68, go_sem], ⟨_, rfl⟩, rfl, rfl⟩
set_option maxRecDepth 100000 in
set_option maxHeartbeats 4000000 in
theorem Sm.catchF_wrong (P : Nat) (w : World) (x y z : Value) (h : w.heap[P]? = some (.cells #[x, y, z] 105 (0, 0))) (older : List PanicEntry) :
    CallsD Tryd.prog 68 #[.pointer (some ⟨P, 0, none⟩)] (.panicking ({ v := .iface 115 (.agg #[]), recovered := false } :: older)) w fun e u' w' => (∃ v, e = .returned v) ∧ u' = .panicking ({ v := .iface 115 (.agg #[]), recovered := true } :: older) ∧ w' = set3 w P (.slice none 0 0) (.int .i64 0) (.int .i64 121) := by
  have hta := ta68_wrong
  have c0 := cell_of_heap h 0
  have c1 := cell_of_heap h 1
  have c2 := cell_of_heap h 2
  have f0 := frozen_of_heap h 0
  have f1 := frozen_of_heap h 1
  have f2 := frozen_of_heap h 2
  simp only [List.getElem?_toArray, List.getElem?_cons_zero, List.getElem?_cons_succ] at c0 c1 c2
  refine callsD_of_wpS Tryd.func68 rfl fun c₀ cs hu => ?_
  simp only [Tryd.ntmps68, List.size_toArray, List.length_cons, List.length_nil, Nat.reduceAdd, Nat.reduceSub, Array.replicate_succ, Array.replicate_zero, List.push_toArray, List.append_toArray, List.nil_append, List.cons_append]
  apply wpS_seq
  apply wpS_region
  simp [wpOpsS, go_sem, recoverD, hu, Exit.thenS]
  refine wpS_of_wp ?_
  go_wp2
  exact ⟨rfl, _, rfl, .tuple #[], by simp [results, Tryd.results68, go_sem], ⟨_, rfl⟩, rfl, rfl⟩
theorem Sm.set3_heap {w : World} {P : Nat} {x y z a b c : Value} {t : TypeId} (h : w.heap[P]? = some (.cells #[x, y, z] t (0, 0))) : (set3 w P a b c).heap[P]? = some (.cells #[a, b, c] t (0, 0)) := by
  have h1 := heap_setCells (i := 0) (u := a) h
  have h2 := heap_setCells (i := 1) (u := b) h1
  have h3 := heap_setCells (i := 2) (u := c) h2
  exact h3
theorem Sm.set3_but {w : World} {P : Nat} {a b c : Value} {S : Nat → Prop} {w0 : World} (h : But S w0 w) (hP : S P ∨ w0.heap.size ≤ P) : But S w0 (set3 w P a b c) := ((h.set ⟨P, 0, none⟩ a hP).set ⟨P, 1, none⟩ b hP).set ⟨P, 2, none⟩ c hP
/-- what first answers -/
def Sm.pieceV (v : Value) (size : Nat) (fault : Int) : Value := .agg #[v, .int .i64 (size : Int), .int .i64 fault]
def Sm.FirstPost (w : World) (l : List (BitVec 8)) (e : Ending) (w' : World) : Prop :=
  (∃ v, e = .returned (pieceV v (splitS l).2.1 (splitS l).2.2) ∧ w'.ownsRow w.heap.size 5 1 v (splitS l).1.length ((splitS l).1.map byteCell)) ∧ Below w.heap.size w w'
/-- the worlds of first, as it begins -/
def Sm.firstW (w : World) (A : Option Addr) (n c : Nat) : World := (w.alloc (.cells #[.slice none 0 0, .int .i64 0, .int .i64 0] 105)).alloc (.cells #[.slice A n c] 57)
theorem Sm.firstW_p (w : World) (A : Option Addr) (n c : Nat) : (firstW w A n c).heap[w.heap.size]? = some (.cells #[.slice none 0 0, .int .i64 0, .int .i64 0] 105 (0, 0)) := by
  unfold firstW
  rw [Below.heap_alloc _ _ _ (by simp)]
  exact World.alloc_heap_new w _
theorem Sm.firstW_r (w : World) (A : Option Addr) (n c : Nat) : (firstW w A n c).heap[w.heap.size + 1]? = some (.cells #[.slice A n c] 57 (0, 0)) := by
  have := World.alloc_heap_new (w.alloc (.cells #[.slice none 0 0, .int .i64 0, .int .i64 0] 105)) (.cells #[.slice A n c] 57)
  rwa [World.size_alloc] at this
theorem Sm.firstW_but (w : World) (A : Option Addr) (n c : Nat) (S : Nat → Prop) : But S w (firstW w A n c) := ((But.refl S w).alloc _).alloc _
theorem Sm.firstW_size (w : World) (A : Option Addr) (n c : Nat) : (firstW w A n c).heap.size = w.heap.size + 1 + 1 := by simp [firstW]
theorem Sm.firstW_rest {l : List (BitVec 8)} {n c : Nat} {A : Option Addr} {w : World} (hn : l.length = n) (hc : n ≤ c) (hA : A = none → c = 0) (hr : Rd w w.heap.size A l) : RestAt (firstW w A n c) (w.heap.size + 1) A n c l :=
  { cell := cell_of_heap (firstW_r w A n c) 0, frozen := frozen_of_heap (firstW_r w A n c) 0, len := hn, room := hc, none_ := hA, rd := ((firstW_but w A n c (fun _ => False)).rd hr (Nat.le_refl _) (fun _ _ => id)).more (by omega) }
set_option maxRecDepth 100000 in
set_option maxHeartbeats 8000000 in
theorem Sm.first_leave {w w2 : World} {l : List (BitVec 8)} {tmps : Array Value} {v : Value} {sz : Nat} {f : Int} (hP : w2.heap[w.heap.size]? = some (.cells #[v, .int .i64 (sz : Int), .int .i64 f] 105 (0, 0))) (hb : Below w.heap.size w w2) (hs : (splitS l).2 = (sz, f)) (ho : w2.ownsRow w.heap.size 5 1 v (splitS l).1.length ((splitS l).1.map byteCell)) (ht2 : tmps[2]?.getD undef = .pointer (some ⟨w.heap.size, 0, none⟩) := by rfl) :
    bodyPostD Tryd.prog Tryd.f60 (FirstPost w l) Exit.ret { tmps := tmps, defers := [{ target := .fn (.func 68) #[.pointer (some ⟨w.heap.size, 0, none⟩)], args := #[] }] } w2 := by
  have c0 := cell_of_heap hP 0
  have c1 := cell_of_heap hP 1
  have c2 := cell_of_heap hP 2
  simp only [List.getElem?_toArray, List.getElem?_cons_zero, List.getElem?_cons_succ] at c0 c1 c2
  refine leaves_cons (f := 68) (args := #[.pointer (some ⟨w.heap.size, 0, none⟩)]) (by simp) (by simp [go_sem]) ?_
  refine (catchF_idle w.heap.size _).mono ?_
  rintro e u' w'' ⟨⟨x, rfl⟩, rfl, rfl⟩
  exact (show ∃ r, (results Tryd.f60 tmps).run Tryd.prog _ = .ok r _ ∧ FirstPost w l (.returned r) _ from ⟨pieceV v sz f, by simp [results, Tryd.results60, go_sem, c0, c1, c2, pieceV, ht2], ⟨v, by rw [hs], ho⟩, hb⟩)
set_option maxRecDepth 100000 in
set_option maxHeartbeats 8000000 in
theorem Sm.first_wrong {w w2 : World} {l : List (BitVec 8)} {tmps : Array Value} {x y z : Value} (hP : w2.heap[w.heap.size]? = some (.cells #[x, y, z] 105 (0, 0))) (hb : Below w.heap.size w w2) (hs : splitS l = ([], 0, 121)) (ht2 : tmps[2]?.getD undef = .pointer (some ⟨w.heap.size, 0, none⟩) := by rfl) :
    bodyPostD Tryd.prog Tryd.f60 (FirstPost w l) (Exit.panic [pWrong]) { tmps := tmps, defers := [{ target := .fn (.func 68) #[.pointer (some ⟨w.heap.size, 0, none⟩)], args := #[] }] } w2 := by
  have hP2 := set3_heap (a := .slice none 0 0) (b := .int .i64 0) (c := .int .i64 121) hP
  have c0 := cell_of_heap hP2 0
  have c1 := cell_of_heap hP2 1
  have c2 := cell_of_heap hP2 2
  simp only [List.getElem?_toArray, List.getElem?_cons_zero, List.getElem?_cons_succ] at c0 c1 c2
  refine leaves_cons (f := 68) (args := #[.pointer (some ⟨w.heap.size, 0, none⟩)]) (by simp) (by simp [go_sem]) ?_
  refine (catchF_wrong w.heap.size _ _ _ _ hP []).mono ?_
  rintro e u' w'' ⟨⟨x, rfl⟩, rfl, rfl⟩
  exact (show ∃ r, (results Tryd.f60 tmps).run Tryd.prog _ = .ok r _ ∧ FirstPost w l (.returned r) _ from ⟨pieceV (.slice none 0 0) 0 121, by simp [results, Tryd.results60, go_sem, c0, c1, c2, pieceV, ht2], ⟨.slice none 0 0, by rw [hs], by rw [hs]; exact World.ownsRow_nil _ _ _ _⟩, ((hb.setCell (p := ⟨w.heap.size, 0, none⟩) (Nat.le_refl _) _).setCell (p := ⟨w.heap.size, 1, none⟩) (Nat.le_refl _) _).setCell (p := ⟨w.heap.size, 2, none⟩) (Nat.le_refl _) _⟩)
set_option maxRecDepth 100000 in
set_option maxHeartbeats 8000000 in
theorem Sm.first_cut {w w2 : World} {l : List (BitVec 8)} {tmps : Array Value} {x y z : Value} (hP : w2.heap[w.heap.size]? = some (.cells #[x, y, z] 105 (0, 0))) (hb : Below w.heap.size w w2) (hs : splitS l = ([], 0, 0)) (ht2 : tmps[2]?.getD undef = .pointer (some ⟨w.heap.size, 0, none⟩) := by rfl) :
    bodyPostD Tryd.prog Tryd.f60 (FirstPost w l) (Exit.panic [pCut]) { tmps := tmps, defers := [{ target := .fn (.func 68) #[.pointer (some ⟨w.heap.size, 0, none⟩)], args := #[] }] } w2 := by
  have hP2 := set3_heap (a := .slice none 0 0) (b := .int .i64 0) (c := .int .i64 0) hP
  have c0 := cell_of_heap hP2 0
  have c1 := cell_of_heap hP2 1
  have c2 := cell_of_heap hP2 2
  simp only [List.getElem?_toArray, List.getElem?_cons_zero, List.getElem?_cons_succ] at c0 c1 c2
  refine leaves_cons (f := 68) (args := #[.pointer (some ⟨w.heap.size, 0, none⟩)]) (by simp) (by simp [go_sem]) ?_
  refine (catchF_cut w.heap.size _ _ _ _ hP []).mono ?_
  rintro e u' w'' ⟨⟨x, rfl⟩, rfl, rfl⟩
  exact (show ∃ r, (results Tryd.f60 tmps).run Tryd.prog _ = .ok r _ ∧ FirstPost w l (.returned r) _ from ⟨pieceV (.slice none 0 0) 0 0, by simp [results, Tryd.results60, go_sem, c0, c1, c2, pieceV, ht2], ⟨.slice none 0 0, by rw [hs], by rw [hs]; exact World.ownsRow_nil _ _ _ _⟩, ((hb.setCell (p := ⟨w.heap.size, 0, none⟩) (Nat.le_refl _) _).setCell (p := ⟨w.heap.size, 1, none⟩) (Nat.le_refl _) _).setCell (p := ⟨w.heap.size, 2, none⟩) (Nat.le_refl _) _⟩)
/-- a move within what is left turns no more -/
theorem Sm.first_moved {w w2 : World} {A : Option Addr} {n c : Nat} (h : Moved (w.heap.size + 1) (firstW w A n c) w2) : w2.heap[w.heap.size]? = some (.cells #[.slice none 0 0, .int .i64 0, .int .i64 0] 105 (0, 0)) ∧ Below w.heap.size w w2 :=
  ⟨h.but.box (firstW_p w A n c) (by omega), ((firstW_but w A n c (fun b => b = w.heap.size + 1)).trans h.but fun _ _ e => e).to_below (Nat.le_refl _) (fun b e => by omega)⟩
theorem Sm.hmf : ∀ (fn : Fn) (first cap : Array Value) (w : World), (Instr.makeFunc fn first cap).run Tryd.prog w = .ok (.func fn first cap) w := fun _ _ _ _ => rfl
set_option maxRecDepth 100000 in
set_option maxHeartbeats 8000000 in
theorem Sm.first_bad (l : List (BitVec 8)) (n c : Nat) (A : Option Addr) (w : World) (hn : l.length = n) (hc : n ≤ c) (hA : A = none → c = 0) (hr : Rd w w.heap.size A l) (hg : (getN l = .bad ∨ (∃ m k, getN l = .num m k ∧ ¬ (m : Int) ≤ 4100))) :
    Calls Tryd.prog 60 #[.slice A n c] w (FirstPost w l) := by
  have hsp : splitS l = ([], 0, 121) := by
    unfold splitS
    rcases hg with hg | ⟨m, k, hg, hm⟩
    · rw [hg]
    · rw [hg]
      simp only
      rw [if_pos (.inl (by omega))]
  have hmf := Sm.hmf
  have hct := (number_any (firstW_rest hn hc hA hr) 4100 (by omega) (by omega)).mono (R' := fun e w' => e = .panicked [pWrong] ∧ Moved (w.heap.size + 1) _ w') fun e w' ⟨hp, hmv⟩ => ⟨by
    unfold NumPost at hp
    rcases hg with hg | ⟨m, k, hg, hm⟩
    · rw [hg] at hp; exact hp
    · rw [hg] at hp
      simp only at hp
      rwa [if_neg hm] at hp, hmv⟩
  unfold firstW at hct
  go_enter_defers Tryd.func60, Tryd.ntmps60
  go_wp2_with (go_at_call 46; (with_reducible refine hct.mono ?_); rintro e w2 ⟨rfl, hm2⟩)
  obtain ⟨hP, hb⟩ := first_moved hm2
  exact first_wrong hP hb hsp
set_option maxRecDepth 100000 in
set_option maxHeartbeats 8000000 in
theorem Sm.first_cutN (l : List (BitVec 8)) (n c : Nat) (A : Option Addr) (w : World) (hn : l.length = n) (hc : n ≤ c) (hA : A = none → c = 0) (hr : Rd w w.heap.size A l) (hg : getN l = .cut) :
    Calls Tryd.prog 60 #[.slice A n c] w (FirstPost w l) := by
  have hsp : splitS l = ([], 0, 0) := by
    unfold splitS
    rw [hg]
  have hmf := Sm.hmf
  have hct := (number_any (firstW_rest hn hc hA hr) 4100 (by omega) (by omega)).mono (R' := fun e w' => e = .panicked [pCut] ∧ Moved (w.heap.size + 1) _ w') fun e w' ⟨hp, hmv⟩ => ⟨by
    unfold NumPost at hp
    rw [hg] at hp; exact hp, hmv⟩
  unfold firstW at hct
  go_enter_defers Tryd.func60, Tryd.ntmps60
  go_wp2_with (go_at_call 46; (with_reducible refine hct.mono ?_); rintro e w2 ⟨rfl, hm2⟩)
  obtain ⟨hP, hb⟩ := first_moved hm2
  exact first_cut hP hb hsp
set_option maxRecDepth 100000 in
set_option maxHeartbeats 8000000 in
theorem Sm.first_small (l : List (BitVec 8)) (n c : Nat) (A : Option Addr) (w : World) (hn : l.length = n) (hc : n ≤ c) (hA : A = none → c = 0) (hr : Rd w w.heap.size A l) {m k : Nat} (hg : getN l = .num m k) (hm : (m : Int) ≤ 4100) (h4 : m < 4) :
    Calls Tryd.prog 60 #[.slice A n c] w (FirstPost w l) := by
  have hsp : splitS l = ([], 0, 121) := by
    unfold splitS
    rw [hg]
    simp only
    rw [if_pos (.inr h4)]
  have hmf := Sm.hmf
  have hct := (number_any (firstW_rest hn hc hA hr) 4100 (by omega) (by omega)).mono (R' := fun e w' => (e = .returned (.int .i64 (m : Int)) ∧ ∃ A', RestAt w' (w.heap.size + 1) A' (n - k) (c - k) (l.drop k)) ∧ Moved (w.heap.size + 1) _ w') fun e w' ⟨hp, hmv⟩ => ⟨by
    unfold NumPost at hp
    rw [hg] at hp
    simp only at hp
    rwa [if_pos hm] at hp, hmv⟩
  unfold firstW at hct
  go_enter_defers Tryd.func60, Tryd.ntmps60
  go_wp2_with (go_at_call 46; (with_reducible refine hct.mono ?_); rintro e w2 ⟨⟨rfl, A2, hr2⟩, hm2⟩)
  obtain ⟨hP, hb⟩ := first_moved hm2
  exact first_wrong hP hb hsp
set_option maxRecDepth 100000 in
set_option maxHeartbeats 8000000 in
theorem Sm.first_short (l : List (BitVec 8)) (n c : Nat) (A : Option Addr) (w : World) (hn : l.length = n) (hc : n ≤ c) (hA : A = none → c = 0) (hr : Rd w w.heap.size A l) {m k : Nat} (hg : getN l = .num m k) (hm : (m : Int) ≤ 4100) (h4 : ¬ m < 4) (hl : n - k < m) :
    Calls Tryd.prog 60 #[.slice A n c] w (FirstPost w l) := by
  have hsp : splitS l = ([], 0, 0) := by
    unfold splitS
    rw [hg]
    simp only
    rw [if_neg (by omega), if_pos (by omega)]
  have hmf := Sm.hmf
  have hct := (number_any (firstW_rest hn hc hA hr) 4100 (by omega) (by omega)).mono (R' := fun e w' => (e = .returned (.int .i64 (m : Int)) ∧ ∃ A', RestAt w' (w.heap.size + 1) A' (n - k) (c - k) (l.drop k)) ∧ Moved (w.heap.size + 1) _ w') fun e w' ⟨hp, hmv⟩ => ⟨by
    unfold NumPost at hp
    rw [hg] at hp
    simp only at hp
    rwa [if_pos hm] at hp, hmv⟩
  unfold firstW at hct
  go_enter_defers Tryd.func60, Tryd.ntmps60
  go_wp2_with (go_at_call 46; (with_reducible refine hct.mono ?_); rintro e w2 ⟨⟨rfl, A2, hr2⟩, hm2⟩)
  have hnc := next_cut w2 (w.heap.size + 1) (n - k) (c - k) (m : Int) A2 hr2.cell (by omega)
  refine hnc.mono ?_
  rintro e w3 ⟨rfl, rfl⟩
  obtain ⟨hP, hb⟩ := first_moved hm2
  exact first_cut hP hb hsp
set_option maxRecDepth 100000 in
set_option maxHeartbeats 8000000 in
theorem Sm.first_frame (l : List (BitVec 8)) (n c : Nat) (A : Option Addr) (w : World) (hn : l.length = n) (hc : n ≤ c) (hA : A = none → c = 0) (hr : Rd w w.heap.size A l) (ht : Tab w) (hbig : n ≤ 1000000) {m k : Nat} (hg : getN l = .num m k) (hm : (m : Int) ≤ 4100) (h4 : ¬ m < 4) (hl : m ≤ n - k) :
    Calls Tryd.prog 60 #[.slice A n c] w (FirstPost w l) := by
  have hkn : k ≤ n := by rw [← hn]; exact (getN_form hg).2.2.2
  have hsl : ((l.drop k).take m).length = m := by rw [List.length_take, List.length_drop]; omega
  have hmf := Sm.hmf
  have hct := (number_any (firstW_rest hn hc hA hr) 4100 (by omega) (by omega)).mono (R' := fun e w' => (e = .returned (.int .i64 (m : Int)) ∧ ∃ A', RestAt w' (w.heap.size + 1) A' (n - k) (c - k) (l.drop k)) ∧ Moved (w.heap.size + 1) _ w') fun e w' ⟨hp, hmv⟩ => ⟨by
    unfold NumPost at hp
    rw [hg] at hp
    simp only at hp
    rwa [if_pos hm] at hp, hmv⟩
  unfold firstW at hct
  go_enter_defers Tryd.func60, Tryd.ntmps60
  go_wp2_with (go_at_call 46; (with_reducible refine hct.mono ?_); rintro e w2 ⟨⟨rfl, A2, hr2⟩, hm2⟩)
  obtain ⟨hP, hb⟩ := first_moved hm2
  have hnx := next_any hr2 m hl
  refine hnx.mono ?_
  rintro e w3 ⟨rfl, hrd3, hm3, A3, hr3⟩
  have hb3 : Below w.heap.size w w3 := hb.trans (hm3.but.to_below (n := w.heap.size) hb.size (fun b e => by omega))
  have hP3 := hm3.but.box hP (by omega)
  have hs3 : w.heap.size + 1 < w3.heap.size := by
    have h1 := hm2.but.size
    have h2 := hm3.but.size
    simp at h1
    omega
  have hcr := hr3.cell
  have hop := Open_gen ((l.drop k).take m) m (c - k) A2 w3 hsl (by omega) (by omega) (hrd3.more (by omega)) (ht.below hb3)
  have hPs : w.heap.size < w3.heap.size := by omega
  have h0 := hm2.but.size
  have hmain : ∀ (f : Int), openE ((l.drop k).take m) = f → (f = 0 ∨ f = 110) → Calls Tryd.prog 69 #[.slice A2 m (c - k)] w3 fun e w4 => ∃ A4 q4 c4, e = .returned (.tuple #[.slice A4 q4 c4, .int .i64 f]) ∧ w4.ownsRow w3.heap.size 5 1 (.slice A4 q4 c4) (openL ((l.drop k).take m)).length ((openL ((l.drop k).take m)).map byteCell) ∧ Below w.heap.size w w4 ∧
      w4.cell? ⟨w.heap.size + 1, 0, none⟩ = some (.slice A3 (n - k - m) (c - k - m)) ∧ w4.heap[w.heap.size]? = some (.cells #[.slice none 0 0, .int .i64 0, .int .i64 0] 105 (0, 0)) ∧
      w4.cell? ⟨w.heap.size, 0, none⟩ = some (.slice none 0 0) ∧ w4.cell? ⟨w.heap.size, 1, none⟩ = some (.int .i64 0) ∧ w4.cell? ⟨w.heap.size, 2, none⟩ = some (.int .i64 0) ∧
      w4.frozen? ⟨w.heap.size, 0, none⟩ = false ∧ w4.frozen? ⟨w.heap.size, 1, none⟩ = false ∧ w4.frozen? ⟨w.heap.size, 2, none⟩ = false := fun f hf _ => by
    refine hop.mono ?_
    rintro e w4 ⟨v4, rfl, hown4, hb4⟩
    obtain ⟨A4, c4, rfl⟩ := own_slice hown4
    have hP4 := (hb4.block _ hPs).trans hP3
    exact ⟨A4, _, c4, by rw [hf], hown4, hb3.trans (hb4.mono hb3.size), (hb4.cell (p := ⟨w.heap.size + 1, 0, none⟩) hs3).trans hcr, hP4, cell_of_heap hP4 0, cell_of_heap hP4 1, cell_of_heap hP4 2, frozen_of_heap hP4 0, frozen_of_heap hP4 1, frozen_of_heap hP4 2⟩
  by_cases ho : openOk ((l.drop k).take m)
  · have he : openE ((l.drop k).take m) = 0 := by unfold openE; rw [if_pos ho]
    have hcc := hmain 0 he (.inl rfl)
    have hsp : splitS l = (openL ((l.drop k).take m), k + m, 0) := by
      unfold splitS
      rw [hg]
      simp only
      rw [if_neg (by omega), if_neg (by omega), if_pos ho]
    clear hmain hop hct hnx
    go_wp2_with (go_at_call 69; (with_reducible refine hcc.mono ?_); rintro e w4 ⟨A4, q4, c4, rfl, hown4, hb4, hcr4, hP4, p0, p1, p2, f0, f1, f2⟩)
    have hz := set3_heap (a := .slice A4 q4 c4) (b := .int .i64 ((k + m : Nat) : Int)) (c := .int .i64 0) hP4
    have hsub : ((n : Int) - ((n - k - m : Nat) : Int)) = ((k + m : Nat) : Int) := by omega
    rw [hsub]
    exact first_leave hz (((hb4.setCell (p := ⟨w.heap.size, 0, none⟩) (Nat.le_refl _) _).setCell (p := ⟨w.heap.size, 1, none⟩) (Nat.le_refl _) _).setCell (p := ⟨w.heap.size, 2, none⟩) (Nat.le_refl _) _) (by rw [hsp]) (by
      rw [hsp]
      exact own_base (ownsRow_setCell_below (ownsRow_setCell_below (ownsRow_setCell_below hown4 (by simp; omega) _) (by simp; omega) _) (by simp; omega) _) (by omega))
  · have he : openE ((l.drop k).take m) = 110 := by unfold openE; rw [if_neg ho]
    have hcc := hmain 110 he (.inr rfl)
    have hsp : splitS l = ([], 0, 110) := by
      unfold splitS
      rw [hg]
      simp only
      rw [if_neg (by omega), if_neg (by omega), if_neg ho]
    clear hmain hop hct hnx
    go_wp2_with (go_at_call 69; (with_reducible refine hcc.mono ?_); rintro e w4 ⟨A4, q4, c4, rfl, hown4, hb4, hcr4, hP4, p0, p1, p2, f0, f1, f2⟩)
    have hz := set3_heap (a := .slice none 0 0) (b := .int .i64 0) (c := .int .i64 110) hP4
    exact first_leave hz (((hb4.setCell (p := ⟨w.heap.size, 0, none⟩) (Nat.le_refl _) _).setCell (p := ⟨w.heap.size, 1, none⟩) (Nat.le_refl _) _).setCell (p := ⟨w.heap.size, 2, none⟩) (Nat.le_refl _) _) (by rw [hsp]) (by
      rw [hsp]
      exact World.ownsRow_nil _ _ _ _)
theorem Sm.first_any (l : List (BitVec 8)) (n c : Nat) (A : Option Addr) (w : World) (hn : l.length = n) (hc : n ≤ c) (hA : A = none → c = 0) (hr : Rd w w.heap.size A l) (ht : Tab w) (hbig : n ≤ 1000000) :
    Calls Tryd.prog 60 #[.slice A n c] w (FirstPost w l) := by
  rcases hg : getN l with _ | _ | ⟨m, k⟩
  · exact first_cutN l n c A w hn hc hA hr hg
  · exact first_bad l n c A w hn hc hA hr (.inl hg)
  · by_cases hm : (m : Int) ≤ 4100
    · by_cases h4 : m < 4
      · exact first_small l n c A w hn hc hA hr hg hm h4
      · by_cases hl : n - k < m
        · exact first_short l n c A w hn hc hA hr hg hm h4 hl
        · exact first_frame l n c A w hn hc hA hr ht hbig hg hm h4 (by omega)
    · exact first_bad l n c A w hn hc hA hr (.inr ⟨m, k, hg, hm⟩)
/-- what Split answers -/
def Sm.SplitPost (w : World) (l : List (BitVec 8)) (e : Ending) (w' : World) : Prop :=
  (∃ v, e = .returned (.tuple #[v, .int .i64 ((splitS l).2.1 : Int), .int .i64 (splitS l).2.2]) ∧ w'.ownsRow w.heap.size 5 1 v (splitS l).1.length ((splitS l).1.map byteCell)) ∧ Below w.heap.size w w'
set_option maxRecDepth 100000 in
set_option maxHeartbeats 4000000 in
theorem Sm.Split_any (l : List (BitVec 8)) (n c : Nat) (A : Option Addr) (w : World) (hn : l.length = n) (hc : n ≤ c) (hA : A = none → c = 0) (hr : Rd w w.heap.size A l) (ht : Tab w) (hbig : n ≤ 1000000) :
    Calls Tryd.prog 30 #[.slice A n c] w (SplitPost w l) := by
  have hct := first_any l n c A w hn hc hA hr ht hbig
  unfold FirstPost pieceV at hct
  unfold SplitPost
  go_enter Tryd.func30, Tryd.ntmps30
  go_wp2_with (go_at_call 60; (with_reducible refine hct.mono ?_); rintro e w2 ⟨⟨v2, rfl, hown2⟩, hb2⟩; obtain ⟨A2, c2, rfl⟩ := own_slice hown2)
  go_quiet (fail)
  go_wp2_with fail
  refine bodyPost_ret (v := .tuple #[.slice A2 (splitS l).1.length c2, .int .i64 ((splitS l).2.1 : Int), .int .i64 (splitS l).2.2]) (by simp [results, Tryd.results30, go_sem]) rfl ⟨⟨_, rfl, ?_⟩, ?_⟩
  · exact (show World.ownsRow _ _ _ _ _ _ _ from World.ownsRow.alloc hown2 (.cells #[.slice A2 (splitS l).1.length c2, .int .i64 ((splitS l).2.1 : Int), .int .i64 (splitS l).2.2] 105))
  · have h1 := hb2.alloc hb2.size (.cells #[.slice A2 (splitS l).1.length c2, .int .i64 ((splitS l).2.1 : Int), .int .i64 (splitS l).2.2] 105)
    exact ⟨h1.os, h1.tape, h1.output, h1.size, h1.block⟩
