/-
  The contracts of bound and end, and of what the deferred closure of take does.
-/
import Derived.RecoverIn
import Derived.Test.YteeponciegmlcaaDoorRdA
namespace Go.Proofs
open Go.RowKit Go.Shelf Sm
def Sm.cap (most : Int) : Int := if most ≤ 4611686018427387904 then most else 4611686018427387904
set_option maxHeartbeats 400000 in
theorem Sm.bound_neg (most : Int) (w : World) (h : most < 0) : Calls Tryd.prog 47 #[.int .i64 most] w fun e w' => e = .panicked [pArg] ∧ w = w' := by
  go_enter Tryd.func47, Tryd.ntmps47
  go_wp2
  exact ⟨rfl, rfl, rfl⟩
set_option maxHeartbeats 400000 in
theorem Sm.bound_ok (most : Int) (w : World) (h : 0 ≤ most) : Calls Tryd.prog 47 #[.int .i64 most] w fun e w' => e = .returned (.int .i64 (cap most)) ∧ w = w' := by
  by_cases h2 : most ≤ 4611686018427387904
  · go_enter Tryd.func47, Tryd.ntmps47
    go_wp2
    go_ret
    unfold cap
    rw [if_pos h2]
    exact ⟨rfl, rfl⟩
  · go_enter Tryd.func47, Tryd.ntmps47
    go_wp2
    go_ret
    unfold cap
    rw [if_neg (by omega)]
    exact ⟨rfl, rfl⟩
set_option maxHeartbeats 400000 in
theorem Sm.end_ok {w : World} {B c : Nat} {A : Option Addr} {l : List (BitVec 8)} (h : RestAt w B A 0 c l) : Calls Tryd.prog 58 #[.pointer (some ⟨B, 0, none⟩)] w fun e w' => (∃ v, e = .returned v) ∧ w = w' := by
  have hc := h.cell
  go_enter Tryd.func58, Tryd.ntmps58
  go_wp2
  go_end0
  exact ⟨⟨_, rfl⟩, rfl⟩
set_option maxHeartbeats 400000 in
theorem Sm.end_left {w : World} {B n c : Nat} {A : Option Addr} {l : List (BitVec 8)} (h : RestAt w B A n c l) (hn : ¬ n = 0) : Calls Tryd.prog 58 #[.pointer (some ⟨B, 0, none⟩)] w fun e w' => e = .panicked [pWrong] ∧ w = w' := by
  have hc := h.cell
  go_enter Tryd.func58, Tryd.ntmps58
  go_wp2
  exact ⟨rfl, rfl, rfl⟩
theorem Sm.ta_errno (w : World) : (Instr.typeAssert (Value.iface 34 (Value.int IntKind.i64 2)) 20 34 true).run Tryd.prog w = .ok (.tuple #[.int .i64 2, .bool true]) w := by kernel_rfl
theorem Sm.ta_wrong (w : World) : (Instr.typeAssert (Value.iface 115 (Value.agg #[])) 20 34 true).run Tryd.prog w = .ok (.tuple #[.int .i64 0, .bool false]) w := by kernel_rfl
theorem Sm.ta_cut (w : World) : (Instr.typeAssert (Value.iface 116 (Value.agg #[])) 20 34 true).run Tryd.prog w = .ok (.tuple #[.int .i64 0, .bool false]) w := by kernel_rfl
set_option maxRecDepth 100000 in
set_option maxHeartbeats 4000000 in
theorem Sm.catch_idle (p q : Addr) (w : World) :
    CallsD Tryd.prog 65 #[.pointer (some p), .pointer (some q)] .returning w fun e u' w' => (∃ v, e = .returned v) ∧ u' = .returning ∧ w' = w := by
  refine callsD_of_wpS Tryd.func65 rfl fun c₀ cs hu => ?_
  simp only [Tryd.ntmps65, List.size_toArray, List.length_cons, List.length_nil, Nat.reduceAdd, Nat.reduceSub, Array.replicate_succ, Array.replicate_zero, List.push_toArray, List.append_toArray, List.nil_append, List.cons_append]
  apply wpS_seq
  apply wpS_region
  simp [wpOpsS, go_sem, recoverD, hu, Exit.thenS]
  refine wpS_of_wp ?_
  go_wp2
  refine ⟨rfl, .returning, by cases c₀; simp_all, .tuple #[], by simp [results, Tryd.results65, go_sem], ⟨_, rfl⟩, rfl, rfl⟩
set_option maxRecDepth 100000 in
set_option maxHeartbeats 4000000 in
theorem Sm.catch_errno (p q : Addr) (w : World) (v : Value) (hp : w.cell? p = some v) (hz : w.frozen? p = false) (older : List PanicEntry) :
    CallsD Tryd.prog 65 #[.pointer (some p), .pointer (some q)] (.panicking (pArg :: older)) w fun e u' w' => (∃ v, e = .returned v) ∧ u' = .panicking ({ pArg with recovered := true } :: older) ∧ w' = w.setCell p (.int .i64 2) := by
  have hta := ta_errno
  refine callsD_of_wpS Tryd.func65 rfl fun c₀ cs hu => ?_
  unfold pArg at hu
  simp only [Tryd.ntmps65, List.size_toArray, List.length_cons, List.length_nil, Nat.reduceAdd, Nat.reduceSub, Array.replicate_succ, Array.replicate_zero, List.push_toArray, List.append_toArray, List.nil_append, List.cons_append]
  apply wpS_seq
  apply wpS_region
  simp [wpOpsS, go_sem, recoverD, hu, Exit.thenS]
  refine wpS_of_wp ?_
  go_wp2
  exact ⟨rfl, _, rfl, .tuple #[], by simp [results, Tryd.results65, go_sem], ⟨_, rfl⟩, rfl, rfl⟩
set_option maxRecDepth 100000 in
set_option maxHeartbeats 4000000 in
theorem Sm.catch_wire (p q : Addr) (B : Nat) (w : World) (T : TypeId) (hT : T = 115 ∨ T = 116) (x : Value) (y : Int) (hp : w.cell? p = some x) (hz : w.frozen? p = false) (hq : w.cell? q = some (.pointer (some ⟨B, 0, none⟩)))
    (hB : w.cell? ⟨B, 1, none⟩ = some (.int .i64 y)) (hBz : w.frozen? ⟨B, 1, none⟩ = false) (hne : q ≠ ⟨B, 1, none⟩) (older : List PanicEntry) :
    CallsD Tryd.prog 65 #[.pointer (some p), .pointer (some q)] (.panicking ({ v := .iface T (.agg #[]), recovered := false } :: older)) w fun e u' w' => (∃ v, e = .returned v) ∧ u' = .panicking ({ v := .iface T (.agg #[]), recovered := true } :: older) ∧ w' = (w.setCell ⟨B, 1, none⟩ (.int .i64 120)).setCell p (.int .i64 120) := by
  have hta := ta_wrong
  have htb := ta_cut
  have hq2 : (w.setCell ⟨B, 1, none⟩ (.int .i64 120)).cell? q = some (.pointer (some ⟨B, 0, none⟩)) := (World.cell?_setCell_other w ⟨B, 1, none⟩ q _ hne.symm).trans hq
  have hB2 := World.cell?_setCell_same w ⟨B, 1, none⟩ (.int .i64 120) hB
  have hz2 : (w.setCell ⟨B, 1, none⟩ (.int .i64 120)).frozen? p = false := by rw [World.frozen?_setCell]; exact hz
  obtain ⟨x2, hp2⟩ : ∃ x2, (w.setCell ⟨B, 1, none⟩ (.int .i64 120)).cell? p = some x2 := by
    by_cases e : p = ⟨B, 1, none⟩
    · subst e; exact ⟨_, hB2⟩
    · exact ⟨x, (World.cell?_setCell_other w ⟨B, 1, none⟩ p _ (fun h => e h.symm)).trans hp⟩
  rcases hT with rfl | rfl
  · refine callsD_of_wpS Tryd.func65 rfl fun c₀ cs hu => ?_
    simp only [Tryd.ntmps65, List.size_toArray, List.length_cons, List.length_nil, Nat.reduceAdd, Nat.reduceSub, Array.replicate_succ, Array.replicate_zero, List.push_toArray, List.append_toArray, List.nil_append, List.cons_append]
    apply wpS_seq
    apply wpS_region
    simp [wpOpsS, go_sem, recoverD, hu, Exit.thenS]
    refine wpS_of_wp ?_
    go_wp2
    exact ⟨rfl, _, rfl, .tuple #[], by simp [results, Tryd.results65, go_sem], ⟨_, rfl⟩, rfl, rfl⟩
  · refine callsD_of_wpS Tryd.func65 rfl fun c₀ cs hu => ?_
    simp only [Tryd.ntmps65, List.size_toArray, List.length_cons, List.length_nil, Nat.reduceAdd, Nat.reduceSub, Array.replicate_succ, Array.replicate_zero, List.push_toArray, List.append_toArray, List.nil_append, List.cons_append]
    apply wpS_seq
    apply wpS_region
    simp [wpOpsS, go_sem, recoverD, hu, Exit.thenS]
    refine wpS_of_wp ?_
    go_wp2
    exact ⟨rfl, _, rfl, .tuple #[], by simp [results, Tryd.results65, go_sem], ⟨_, rfl⟩, rfl, rfl⟩
set_option maxRecDepth 100000 in
set_option maxHeartbeats 4000000 in
theorem Sm.take_ok (D : Nat) (lb : Array Value) (eg : ∀ args w, (callFunc D args).run Tryd.prog w = .ok (.enter D args) w) (B n c : Nat) (A : Option Addr) (w : World) (R : World → Prop) (h : w.heap[B]? = some (.cells #[.slice A n c, .int .i64 0, .bool true] 59 (0, 0)))
    (hd : Calls Tryd.prog D lb ((w.alloc (.cells #[.pointer (some ⟨B, 0, none⟩)] 42)).alloc (.cells #[.int .i64 0] 34)) fun e w' => (∃ v, e = .returned v) ∧ R w' ∧ w'.cell? ⟨w.heap.size + 1, 0, none⟩ = some (.int .i64 0) ∧ w'.frozen? ⟨w.heap.size + 1, 0, none⟩ = false) :
    Calls Tryd.prog 44 #[.pointer (some ⟨B, 0, none⟩), .func (.func D) #[] lb] w fun e w' => e = .returned (.int .i64 0) ∧ ∃ w2, R w2 ∧ w2.setCell ⟨w.heap.size + 1, 0, none⟩ (.int .i64 0) = w' := by
  have hB := (Array.getElem?_eq_some_iff.1 h).1
  have c1 : w.cell? ⟨B, 1, none⟩ = some (.int .i64 0) := by simp [World.cell?, h]
  have c2 : w.cell? ⟨B, 2, none⟩ = some (.bool true) := by simp [World.cell?, h]
  have hmf : ∀ (fn : Fn) (first cap : Array Value) (w : World), (Instr.makeFunc fn first cap).run Tryd.prog w = .ok (.func fn first cap) w := fun _ _ _ _ => rfl
  go_enter_defers Tryd.func44, Tryd.ntmps44
  go_wp2_with fail
  refine hd.mono ?_
  rintro e w2 ⟨⟨v, rfl⟩, hR, hc, hf⟩
  go_wp2
  refine leaves_cons (f := 65) (args := #[.pointer (some ⟨w.heap.size + 1, 0, none⟩), .pointer (some ⟨w.heap.size, 0, none⟩)]) (by simp) (by simp [go_sem]) ?_
  refine (catch_idle ⟨w.heap.size + 1, 0, none⟩ ⟨w.heap.size, 0, none⟩ _).mono ?_
  rintro e u' w'' ⟨⟨v, rfl⟩, rfl, rfl⟩
  have hs := World.cell?_setCell_same w2 ⟨w.heap.size + 1, 0, none⟩ (.int .i64 0) hc
  simp [Leaves, settle, results, Tryd.results44, go_sem, hs]
  exact ⟨w2, hR, rfl⟩
set_option maxRecDepth 100000 in
set_option maxHeartbeats 4000000 in
theorem Sm.take_arg (D : Nat) (lb : Array Value) (eg : ∀ args w, (callFunc D args).run Tryd.prog w = .ok (.enter D args) w) (B n c : Nat) (A : Option Addr) (w : World) (R : World → Prop) (h : w.heap[B]? = some (.cells #[.slice A n c, .int .i64 0, .bool true] 59 (0, 0)))
    (hd : Calls Tryd.prog D lb ((w.alloc (.cells #[.pointer (some ⟨B, 0, none⟩)] 42)).alloc (.cells #[.int .i64 0] 34)) fun e w' => e = .panicked [pArg] ∧ R w' ∧ w'.cell? ⟨w.heap.size + 1, 0, none⟩ = some (.int .i64 0) ∧ w'.frozen? ⟨w.heap.size + 1, 0, none⟩ = false) :
    Calls Tryd.prog 44 #[.pointer (some ⟨B, 0, none⟩), .func (.func D) #[] lb] w fun e w' => e = .returned (.int .i64 2) ∧ ∃ w2, R w2 ∧ w2.setCell ⟨w.heap.size + 1, 0, none⟩ (.int .i64 2) = w' := by
  have hB := (Array.getElem?_eq_some_iff.1 h).1
  have c1 : w.cell? ⟨B, 1, none⟩ = some (.int .i64 0) := by simp [World.cell?, h]
  have c2 : w.cell? ⟨B, 2, none⟩ = some (.bool true) := by simp [World.cell?, h]
  have hmf : ∀ (fn : Fn) (first cap : Array Value) (w : World), (Instr.makeFunc fn first cap).run Tryd.prog w = .ok (.func fn first cap) w := fun _ _ _ _ => rfl
  go_enter_defers Tryd.func44, Tryd.ntmps44
  go_wp2_with fail
  refine hd.mono ?_
  rintro e w2 ⟨rfl, hR, hc, hf⟩
  simp only
  refine leaves_cons (f := 65) (args := #[.pointer (some ⟨w.heap.size + 1, 0, none⟩), .pointer (some ⟨w.heap.size, 0, none⟩)]) (by simp) (by simp [go_sem]) ?_
  refine (catch_errno ⟨w.heap.size + 1, 0, none⟩ ⟨w.heap.size, 0, none⟩ _ _ hc hf []).mono ?_
  rintro e u' w'' ⟨⟨v, rfl⟩, rfl, rfl⟩
  have hs := World.cell?_setCell_same w2 ⟨w.heap.size + 1, 0, none⟩ (.int .i64 2) hc
  simp [Leaves, settle, results, Tryd.results44, go_sem, hs]
  exact ⟨w2, hR, rfl⟩
set_option maxRecDepth 100000 in
set_option maxHeartbeats 4000000 in
theorem Sm.take_bad (D : Nat) (lb : Array Value) (eg : ∀ args w, (callFunc D args).run Tryd.prog w = .ok (.enter D args) w) (B n c : Nat) (A : Option Addr) (w : World) (R : World → Prop) (h : w.heap[B]? = some (.cells #[.slice A n c, .int .i64 0, .bool true] 59 (0, 0)))
    (hd : Calls Tryd.prog D lb ((w.alloc (.cells #[.pointer (some ⟨B, 0, none⟩)] 42)).alloc (.cells #[.int .i64 0] 34)) fun e w' => (∃ T, (T = 115 ∨ T = 116) ∧ e = .panicked [{ v := .iface T (.agg #[]), recovered := false }]) ∧ R w' ∧ w'.cell? ⟨w.heap.size + 1, 0, none⟩ = some (.int .i64 0) ∧ w'.frozen? ⟨w.heap.size + 1, 0, none⟩ = false ∧ w'.cell? ⟨w.heap.size, 0, none⟩ = some (.pointer (some ⟨B, 0, none⟩)) ∧ w'.cell? ⟨B, 1, none⟩ = some (.int .i64 0) ∧ w'.frozen? ⟨B, 1, none⟩ = false) :
    Calls Tryd.prog 44 #[.pointer (some ⟨B, 0, none⟩), .func (.func D) #[] lb] w fun e w' => e = .returned (.int .i64 120) ∧ ∃ w2, R w2 ∧ (w2.setCell ⟨B, 1, none⟩ (.int .i64 120)).setCell ⟨w.heap.size + 1, 0, none⟩ (.int .i64 120) = w' := by
  have hB := (Array.getElem?_eq_some_iff.1 h).1
  have c1 : w.cell? ⟨B, 1, none⟩ = some (.int .i64 0) := by simp [World.cell?, h]
  have c2 : w.cell? ⟨B, 2, none⟩ = some (.bool true) := by simp [World.cell?, h]
  have hmf : ∀ (fn : Fn) (first cap : Array Value) (w : World), (Instr.makeFunc fn first cap).run Tryd.prog w = .ok (.func fn first cap) w := fun _ _ _ _ => rfl
  go_enter_defers Tryd.func44, Tryd.ntmps44
  go_wp2_with fail
  refine hd.mono ?_
  rintro e w2 ⟨⟨T, hT, rfl⟩, hR, hc, hf, hq, hb, hbf⟩
  simp only
  refine leaves_cons (f := 65) (args := #[.pointer (some ⟨w.heap.size + 1, 0, none⟩), .pointer (some ⟨w.heap.size, 0, none⟩)]) (by simp) (by simp [go_sem]) ?_
  refine (catch_wire ⟨w.heap.size + 1, 0, none⟩ ⟨w.heap.size, 0, none⟩ B _ T hT _ _ hc hf hq hb hbf (by intro e; injection e with e1 e2; omega) []).mono ?_
  rintro e u' w'' ⟨⟨v, rfl⟩, rfl, rfl⟩
  have hs := World.cell?_setCell_same (w2.setCell ⟨B, 1, none⟩ (.int .i64 120)) ⟨w.heap.size + 1, 0, none⟩ (.int .i64 120) ((World.cell?_setCell_other w2 ⟨B, 1, none⟩ ⟨w.heap.size + 1, 0, none⟩ _ (by intro e; injection e with e1 e2; omega)).trans hc)
  simp [Leaves, settle, results, Tryd.results44, go_sem, hs]
  exact ⟨w2, hR, rfl⟩
set_option maxRecDepth 100000 in
set_option maxHeartbeats 4000000 in
theorem Sm.take_fault (B : Nat) (v : Value) (f : Int) (hf : ¬ f = 0) (w : World) (h : w.heap[B]? = some (.cells #[v, .int .i64 f, .bool true] 59 (0, 0))) (u : Value) :
    Calls Tryd.prog 44 #[.pointer (some ⟨B, 0, none⟩), u] w fun e w' => e = .returned (.int .i64 f) ∧ Below w.heap.size w w' := by
  have hB := (Array.getElem?_eq_some_iff.1 h).1
  have c1 : w.cell? ⟨B, 1, none⟩ = some (.int .i64 f) := by simp [World.cell?, h]
  have c2 : w.cell? ⟨B, 2, none⟩ = some (.bool true) := by simp [World.cell?, h]
  go_enter_defers Tryd.func44, Tryd.ntmps44
  go_wp2
  simp [bodyPostD, Leaves, results, Tryd.results44, go_sem]
  exact ((Below.refl _ w).alloc (Nat.le_refl _) _).alloc (by simp) _
/-- no reader: nil, or one that Read did not make -/
def Sm.NoRd (w : World) (v : Value) : Prop := v = .pointer none ∨ ∃ B, v = .pointer (some ⟨B, 0, none⟩) ∧ B < w.heap.size ∧ w.cell? ⟨B, 1, none⟩ = some (.int .i64 0) ∧ w.cell? ⟨B, 0, none⟩ = some (.slice none 0 0) ∧ w.cell? ⟨B, 2, none⟩ = some (.bool false)
set_option maxRecDepth 100000 in
set_option maxHeartbeats 4000000 in
theorem Sm.take_no (v : Value) (w : World) (h : NoRd w v) (u : Value) :
    Calls Tryd.prog 44 #[v, u] w fun e w' => e = .returned (.int .i64 1) ∧ Below w.heap.size w w' := by
  rcases h with rfl | ⟨B, rfl, hB, h1, h0, h2⟩
  · go_enter_defers Tryd.func44, Tryd.ntmps44
    go_wp2
    simp [bodyPostD, Leaves, results, Tryd.results44, go_sem]
    exact ((Below.refl _ w).alloc (Nat.le_refl _) _).alloc (by simp) _
  · go_enter_defers Tryd.func44, Tryd.ntmps44
    go_wp2
    simp [bodyPostD, Leaves, results, Tryd.results44, go_sem]
    exact ((Below.refl _ w).alloc (Nat.le_refl _) _).alloc (by simp) _
