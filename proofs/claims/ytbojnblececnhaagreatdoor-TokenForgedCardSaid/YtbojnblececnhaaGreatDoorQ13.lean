/-
  The law of a loop over a function, of one variable. Conditions: what the theorem names.
  A region that draws its order, within a round of a range over a function: the plain walk over all orders serves. Conditions: what the theorems name.
  The contracts of token's small calls: must, tried and what it recovers, a text's own memory.
  Bits of lists of numbers, groups of them, bytes that are spelled by signs of five bits. No condition.
  Texts that spell bytes by signs of five bits: what is spelled, and what is unspelled. No condition.
-/
import Derived.Test.YtbojnblececnhaaGreatDoorQ02
import Derived.Deep.RegionHeldLaw
import Derived.Sort.QuietThIn
import Derived.RangeFuncNested
import Derived.RangeFuncCalls
import Derived.Test.YtbojnblececnhaaGreatDoorQ00
import Derived.WalkLawsBesides
import Derived.RecoverIn
import Derived.Test.YtbojnblececnhaaGreatDoorQ12
namespace Go.Proofs
open Go Go.RowKit Sm
/-- **the law of a loop of one variable that is not boxed** -/
theorem Sm.wpIn_range1 {P : Program} {g : Operand} {ps : Array Tmp} {assign body : Code} {Q : Exit → Act → World → Prop} {a : Act} {w : World} {n : Nat} {gf : Nat} {lb : Array Value}
    (hg : a.eval g = .func (.func gf) #[] lb) (eg : ∀ args w, (callFunc gf args).run P w = .ok (.enter gf args) w)
    {X : Nat → Prop} {H : Nat → Nat → Array Value → World → Prop} {row : Array Value → Nat → Prop} {Go S Sp : Nat → Prop} (hseq : SeqX P gf lb X H row Go S Sp w)
    (hX : ∀ b, X b → b < w.heap.size) (hH : ∀ k args W W', H (w.heap.size + 2) k args W → But (fun b => b < w.heap.size + 2) W W' → H (w.heap.size + 2) k args W')
    (hrow : ∀ k args W b, H (w.heap.size + 2) k args W → row args b → w.heap.size + 2 ≤ b) (p1 q1 : Nat) (hps : ps = #[p1]) (hargs : ∀ k args W, H (w.heap.size + 2) k args W → ∃ x, args = #[x])
    (I : Nat → World → Prop) (Ix : Code → Nat → World → Prop) (hI : LowJ w.heap.size I) (hIx : ∀ c, LowJ w.heap.size (Ix c)) (h0 : I 0 w)
    (hassign : ∀ (l : Nat) (x : Value) (W : World) (K : Act → World → Prop), K { tmps := (a.tmps.setIfInBounds p1 x).setIfInBounds q1 x, defers := [] } W →
      assign.wpIn (Fence.wide.inRound l) (n - 1 - 1) P (Exit.then K (fun _ _ _ => False)) { tmps := a.tmps.setIfInBounds p1 x, defers := [] } W)
    (hbody : ∀ (l k : Nat) (x : Value) (W : World), w.heap.size + 2 ≤ W.heap.size → I k W → H (w.heap.size + 2) k #[x] W → body.wpIn (Fence.wide.inRound l) (n - 1 - 1) P (postX Go X row #[x] I Ix k W) { tmps := (a.tmps.setIfInBounds p1 x).setIfInBounds q1 x, defers := [] } W)
    (hdone : ∀ (k : Nat) (W : World), S k → I k W → W.heap[w.heap.size]? = some (.deferred (some [])) → Q .normal { a with defers := { target := .collected w.heap.size, args := #[] } :: a.defers } W)
    (hstop : ∀ (c : Code) (k : Nat) (W : World), Sp k → Ix c k W → W.heap[w.heap.size]? = some (.deferred (some [])) → c.wpIn Fence.wide n P Q { a with defers := { target := .collected w.heap.size, args := #[] } :: a.defers } W) :
    (Code.rangeFunc g ps assign body).wpIn Fence.wide n P Q a w := by
  subst hps
  refine wpIn_range hg eg hseq hX hH hrow (fun k args W h => by obtain ⟨x, rfl⟩ := hargs k args W h; rfl) I Ix hI hIx h0
    (fun args a' _ => ∀ x, args = #[x] → a' = { tmps := (a.tmps.setIfInBounds p1 x).setIfInBounds q1 x, defers := [] }) (fun _ _ _ _ h _ => h) ?_ ?_ hdone hstop
  · intro l k args W K _ _ hh hK
    obtain ⟨x, rfl⟩ := hargs k args W hh
    have := hassign l x W K (hK _ _ (Below.refl _ _) (fun x' e => by simp at e; obtain rfl := e; rfl))
    simpa using this
  · intro l k args a' W hs hi hh hax
    obtain ⟨x, rfl⟩ := hargs k args W hh
    rw [hax x rfl]
    exact hbody l k x W hs hi hh
end Go.Proofs
namespace Go
/-- what is shown with more kept is shown with less -/
theorem wpAnyH_mono {P : Program} {md : Region.Mode} {ops : Array Oper} {Q : Exit → Act → World → Prop} {S S' : World → Prop} (hS : ∀ w, S' w → S w) : ∀ (fuel : Nat) (listed : Array Bool) (a : Act) (w : World), wpAnyH P md ops Q S' fuel listed a w → wpAnyH P md ops Q S fuel listed a w
  | 0, _, _, _, h => h
  | fuel + 1, _, _, _, h => ⟨h.1, fun i hi => wpOp_mono (fun a' w' h' => ⟨hS w' h'.1, wpAnyH_mono hS fuel _ a' w' h'.2⟩) (h.2 i hi)⟩
end Go
namespace Go.Proofs
open Go Go.RowKit Sm
section
variable {n : Nat} {P : Program} {ops : Array Oper} {md : Region.Mode}
def Sm.plainOps (ops : Array Oper) : Bool := ops.all fun o => match o.op with
  | .defer _ => false
  | _ => true
theorem Sm.plainOps_spec {ops : Array Oper} (h : plainOps ops = true) {i : Nat} {o : Oper} (ho : ops[i]? = some o) : ∀ c, o.op ≠ .defer c := by
  intro c e
  unfold plainOps at h
  rw [Array.all_eq_true] at h
  obtain ⟨hi, rfl⟩ := Array.getElem?_eq_some_iff.1 ho
  have := h i hi
  rw [e] at this
  simp at this
theorem Sm.wpIn_of_wpR {o : Oper} {a : Act} {K : Act → World → Prop} {Q : Exit → Act → World → Prop} {w : World} {l : Nat} (hnd : ∀ c, o.op ≠ .defer c) (hh : o.wp P a w K Q) : o.wpIn (Fence.wide.inRound l) n P a w K Q := by
  unfold Oper.wp at hh
  unfold Oper.wpIn
  refine ⟨fun _ _ => trivial, ?_⟩
  rw [Oper.semAt_eq _ _ _ hnd]
  generalize (execOp a.eval o).run P w = r at *
  cases r with
  | ok x w' =>
    cases x <;> simp only [Oper.upon] at hh <;> simp only [Oper.uponIn]
    case value u => exact hh
    case skip => exact hh
    case defer d => exact hh
    case enter f args =>
      refine ⟨(fun h => by cases h), CallsIn.inRound l (callsIn_wide.2 ?_)⟩
      exact hh
    case row row args => exact ⟨(fun h => by cases h), fun c cs _ => let ⟨v, w2, r, s⟩ := hh c cs; ⟨v, w2, r, stepsIn_wide.2 s⟩⟩
  | halt x w' =>
    cases x <;> simp only [Oper.upon] at hh
    case panic u => exact hh
theorem Sm.wpOpIn_of_wpR {i : Nat} {a : Act} {K K' : Act → World → Prop} {Q : Exit → Act → World → Prop} {w : World} {l : Nat} (hpl : plainOps ops = true) (hout : ¬ LetsOut Q) (hK : ∀ a w, K a w → K' a w) (hh : wpOp P ops Q i K a w) : wpOpIn (Fence.wide.inRound l) n P ops Q i K' a w := by
  unfold wpOp at hh
  unfold wpOpIn
  split
  · rename_i ho; simp only [ho] at hh; exact hK _ _ hh
  · rename_i o ho
    simp only [ho] at hh
    split
    · rename_i hw
      simp only [hw, if_true] at hh
      rcases hh with hh | hh
      · exact Oper.wpIn_mono hK (wpIn_of_wpR (plainOps_spec hpl ho) hh)
      · exact absurd hh.2 hout
    · rename_i hw
      simp only [hw] at hh
      exact ⟨fun _ _ => trivial, hK _ _ hh⟩
theorem Sm.wpAnyIn_of_anyR {Q : Exit → Act → World → Prop} {l : Nat} (hpl : plainOps ops = true) (hout : ¬ LetsOut Q) : ∀ (fuel : Nat) (listed : Array Bool) (a : Act) (w : World), wpAny P md ops Q fuel listed a w → wpAnyIn (Fence.wide.inRound l) n P md ops Q fuel listed a w
  | 0, _, _, _, h => h
  | fuel + 1, _, _, _, h => ⟨h.1, fun i hi => wpOpIn_of_wpR hpl hout (fun a' w' h' => wpAnyIn_of_anyR hpl hout fuel _ a' w' h') (h.2 i hi)⟩
/-- **the beginning** -/
theorem Sm.wpIn_round_held {id : Nat} {Q : Exit → Act → World → Prop} {a : Act} {w : World} {l : Nat} {S : World → Prop} (hm : P.follows .mixedOrders = true) (hpl : plainOps ops = true) (hout : ¬ LetsOut Q) (hS : S w.drew)
    (h : S w.drew → wpAnyH P .any ops Q S ops.size (Array.replicate ops.size false) a w.drew) : (Code.region id ops true).wpIn (Fence.wide.inRound l) n P Q a w :=
  wpIn_region_any hm (wpAnyIn_of_anyR hpl hout _ _ _ _ (wpAny_of_held _ _ _ _ (h hS)))
end
end Go.Proofs
namespace Go.Proofs
open Go.RowKit Go.Shelf Sm
/-- the panic that bears an error -/
def Sm.pE (why : Int) : PanicEntry := { v := .iface 0x28 (.int .i64 why), recovered := false }
set_option maxRecDepth 100000 in
set_option maxHeartbeats 1000000 in
theorem Sm.must_yes (why : Int) (g c : Nat) (w : World) (h : w.cell? ⟨g, 0, none⟩ = some (.bool true)) :
    Calls Tryz.prog 31 #[.int .i64 why, .slice (some ⟨g, 0, none⟩) 1 c] w fun e w' => (∃ v, e = .returned v) ∧ w = w' := by
  go_enter Tryz.func31, Tryz.ntmps31
  go_wp2
  go_loop [8] (fun i => ∃ k : Nat, k ≤ 1 ∧ i = .int .i64 k) (fun i => 1 - (intOf i).toNat)
  case atStart => exact ⟨0, by omega, rfl⟩
  case round =>
    obtain ⟨k, hk, rfl⟩ := hrel
    by_cases hlt : k < 1
    · obtain rfl : k = 0 := by omega
      go_wp2
      go_round
      case rel => exact ⟨1, by omega, by go_num⟩
      case measure => simp [intOf]
    · go_wp2
      go_end0
      exact ⟨⟨_, rfl⟩, rfl⟩
set_option maxRecDepth 100000 in
set_option maxHeartbeats 1000000 in
theorem Sm.must_no (why : Int) (g c : Nat) (w : World) (h : w.cell? ⟨g, 0, none⟩ = some (.bool false)) :
    Calls Tryz.prog 31 #[.int .i64 why, .slice (some ⟨g, 0, none⟩) 1 c] w fun e w' => e = .panicked [pE why] ∧ w = w' := by
  go_enter Tryz.func31, Tryz.ntmps31
  go_wp2
  go_loop [8] (fun i => i = .int .i64 0) (fun _ => 0)
  case atStart => rfl
  case round =>
    obtain rfl := hrel
    go_wp2
    exact ⟨rfl, rfl, rfl⟩
set_option maxRecDepth 100000 in
set_option maxHeartbeats 1000000 in
theorem Sm.must_two (why : Int) (g c : Nat) (w : World) (h : w.cell? ⟨g, 0, none⟩ = some (.bool true)) (h1 : w.cell? ⟨g, 1, none⟩ = some (.bool true)) :
    Calls Tryz.prog 31 #[.int .i64 why, .slice (some ⟨g, 0, none⟩) 2 c] w fun e w' => (∃ v, e = .returned v) ∧ w = w' := by
  go_enter Tryz.func31, Tryz.ntmps31
  go_wp2
  go_loop [8] (fun i => ∃ k : Nat, k ≤ 2 ∧ i = .int .i64 k) (fun i => 2 - (intOf i).toNat)
  case atStart => exact ⟨0, by omega, rfl⟩
  case round =>
    obtain ⟨k, hk, rfl⟩ := hrel
    by_cases hlt : k < 2
    · have hc : w.cell? ⟨g, k, none⟩ = some (.bool true) := by
        obtain rfl | rfl : k = 0 ∨ k = 1 := by omega
        · exact h
        · exact h1
      clear h h1
      go_wp2
      go_round
      case rel => exact ⟨k + 1, by omega, by go_num⟩
      case measure => simp [intOf]; omega
    · go_wp2
      go_end0
      exact ⟨⟨_, rfl⟩, rfl⟩
set_option maxRecDepth 100000 in
set_option maxHeartbeats 1000000 in
theorem Sm.must_two0 (why : Int) (g c : Nat) (w : World) (h : w.cell? ⟨g, 0, none⟩ = some (.bool false)) :
    Calls Tryz.prog 31 #[.int .i64 why, .slice (some ⟨g, 0, none⟩) 2 c] w fun e w' => e = .panicked [pE why] ∧ w = w' := by
  go_enter Tryz.func31, Tryz.ntmps31
  go_wp2
  go_loop [8] (fun i => i = .int .i64 0) (fun _ => 0)
  case atStart => rfl
  case round =>
    obtain rfl := hrel
    go_wp2
    exact ⟨rfl, rfl, rfl⟩
set_option maxRecDepth 100000 in
set_option maxHeartbeats 1000000 in
theorem Sm.must_two1 (why : Int) (g c : Nat) (w : World) (h : w.cell? ⟨g, 0, none⟩ = some (.bool true)) (h1 : w.cell? ⟨g, 1, none⟩ = some (.bool false)) :
    Calls Tryz.prog 31 #[.int .i64 why, .slice (some ⟨g, 0, none⟩) 2 c] w fun e w' => e = .panicked [pE why] ∧ w = w' := by
  go_enter Tryz.func31, Tryz.ntmps31
  go_wp2
  go_loop [8] (fun i => ∃ k : Nat, k ≤ 1 ∧ i = .int .i64 k) (fun i => 1 - (intOf i).toNat)
  case atStart => exact ⟨0, by omega, rfl⟩
  case round =>
    obtain ⟨k, hk, rfl⟩ := hrel
    by_cases hlt : k < 1
    · obtain rfl : k = 0 := by omega
      go_wp2
      go_round
      case rel => exact ⟨1, by omega, by go_num⟩
      case measure => simp [intOf]
    · obtain rfl : k = 1 := by omega
      go_wp2
      exact ⟨rfl, rfl, rfl⟩
theorem Sm.ta_errno (why : Int) (w : World) : (Instr.typeAssert (Value.iface 0x28 (Value.int IntKind.i64 why)) 20 0x28 true).run Tryz.prog w = .ok (.tuple #[.int .i64 why, .bool true]) w := by kernel_rfl
theorem Sm.ta_none (w : World) : (Instr.typeAssert Value.nilIface 20 0x28 true).run Tryz.prog w = .ok (.tuple #[.int .i64 0, .bool false]) w := by kernel_rfl
set_option maxRecDepth 100000 in
set_option maxHeartbeats 4000000 in
theorem Sm.caught_idle (p : Addr) (w : World) :
    CallsD Tryz.prog 51 #[.pointer (some p)] .returning w fun e u' w' => (∃ v, e = .returned v) ∧ u' = .returning ∧ w' = w := by
  have hta := ta_none
  refine callsD_of_wpS Tryz.func51 rfl fun c₀ cs hu => ?_
  simp only [Tryz.ntmps51, List.size_toArray, List.length_cons, List.length_nil, Nat.reduceAdd, Nat.reduceSub, Array.replicate_succ, Array.replicate_zero, List.push_toArray, List.append_toArray, List.nil_append, List.cons_append]
  apply wpS_seq
  apply wpS_region
  simp [wpOpsS, go_sem, recoverD, hu, Exit.thenS, hta]
  refine wpS_of_wp ?_
  go_wp2
  refine ⟨rfl, .returning, by cases c₀; simp_all, .tuple #[], by simp [results, Tryz.results51, go_sem], ⟨_, rfl⟩, rfl, rfl⟩
set_option maxRecDepth 100000 in
set_option maxHeartbeats 4000000 in
theorem Sm.caught_errno (p : Addr) (why : Int) (w : World) (v : Value) (hp : w.cell? p = some v) (hz : w.frozen? p = false) (older : List PanicEntry) :
    CallsD Tryz.prog 51 #[.pointer (some p)] (.panicking (pE why :: older)) w fun e u' w' => (∃ v, e = .returned v) ∧ u' = .panicking ({ pE why with recovered := true } :: older) ∧ w' = w.setCell p (.int .i64 why) := by
  have hta := ta_errno why
  refine callsD_of_wpS Tryz.func51 rfl fun c₀ cs hu => ?_
  unfold pE at hu
  simp only [Tryz.ntmps51, List.size_toArray, List.length_cons, List.length_nil, Nat.reduceAdd, Nat.reduceSub, Array.replicate_succ, Array.replicate_zero, List.push_toArray, List.append_toArray, List.nil_append, List.cons_append]
  apply wpS_seq
  apply wpS_region
  simp [wpOpsS, go_sem, recoverD, hu, Exit.thenS, hta]
  refine wpS_of_wp ?_
  go_wp2
  exact ⟨rfl, _, rfl, .tuple #[], by simp [results, Tryz.results51, go_sem], ⟨_, rfl⟩, rfl, rfl⟩
set_option maxRecDepth 100000 in
set_option maxHeartbeats 4000000 in
/-- a deed that does not give up -/
theorem Sm.tried_ok (D : Nat) (lb : Array Value) (eg : ∀ args w, (callFunc D args).run Tryz.prog w = .ok (.enter D args) w) (w : World) (R : World → Prop)
    (hd : Calls Tryz.prog D lb (w.alloc (.cells #[.int .i64 0] 0x28)) fun e w' => (∃ v, e = .returned v) ∧ R w' ∧ w'.cell? ⟨w.heap.size, 0, none⟩ = some (.int .i64 0) ∧ w'.frozen? ⟨w.heap.size, 0, none⟩ = false) :
    Calls Tryz.prog 29 #[.func (.func D) #[] lb] w fun e w' => e = .returned (.int .i64 0) ∧ ∃ w2, R w2 ∧ w2.setCell ⟨w.heap.size, 0, none⟩ (.int .i64 0) = w' := by
  have hmf : ∀ (fn : Fn) (first cap : Array Value) (w : World), (Instr.makeFunc fn first cap).run Tryz.prog w = .ok (.func fn first cap) w := fun _ _ _ _ => rfl
  go_enter_defers Tryz.func29, Tryz.ntmps29
  go_wp2_with fail
  refine hd.mono ?_
  rintro e w2 ⟨⟨v, rfl⟩, hR, hc, hf⟩
  go_wp2
  refine leaves_cons (f := 51) (args := #[.pointer (some ⟨w.heap.size, 0, none⟩)]) (by simp) (by simp [go_sem]) ?_
  refine (caught_idle ⟨w.heap.size, 0, none⟩ _).mono ?_
  rintro e u' w'' ⟨⟨v, rfl⟩, rfl, rfl⟩
  have hs := World.cell?_setCell_same w2 ⟨w.heap.size, 0, none⟩ (.int .i64 0) hc
  simp [Leaves, settle, results, Tryz.results29, go_sem, hs]
  exact ⟨w2, hR, rfl⟩
set_option maxRecDepth 100000 in
set_option maxHeartbeats 4000000 in
/-- a deed that gives up in an error -/
theorem Sm.tried_no (D : Nat) (lb : Array Value) (eg : ∀ args w, (callFunc D args).run Tryz.prog w = .ok (.enter D args) w) (w : World) (why : Int) (R : World → Prop)
    (hd : Calls Tryz.prog D lb (w.alloc (.cells #[.int .i64 0] 0x28)) fun e w' => e = .panicked [pE why] ∧ R w' ∧ w'.cell? ⟨w.heap.size, 0, none⟩ = some (.int .i64 0) ∧ w'.frozen? ⟨w.heap.size, 0, none⟩ = false) :
    Calls Tryz.prog 29 #[.func (.func D) #[] lb] w fun e w' => e = .returned (.int .i64 why) ∧ ∃ w2, R w2 ∧ w2.setCell ⟨w.heap.size, 0, none⟩ (.int .i64 why) = w' := by
  have hmf : ∀ (fn : Fn) (first cap : Array Value) (w : World), (Instr.makeFunc fn first cap).run Tryz.prog w = .ok (.func fn first cap) w := fun _ _ _ _ => rfl
  go_enter_defers Tryz.func29, Tryz.ntmps29
  go_wp2_with fail
  refine hd.mono ?_
  rintro e w2 ⟨rfl, hR, hc, hf⟩
  simp only
  refine leaves_cons (f := 51) (args := #[.pointer (some ⟨w.heap.size, 0, none⟩)]) (by simp) (by simp [go_sem]) ?_
  refine (caught_errno ⟨w.heap.size, 0, none⟩ why _ _ hc hf []).mono ?_
  rintro e u' w'' ⟨⟨v, rfl⟩, rfl, rfl⟩
  have hs := World.cell?_setCell_same w2 ⟨w.heap.size, 0, none⟩ (.int .i64 why) hc
  simp [Leaves, settle, results, Tryz.results29, go_sem, hs]
  exact ⟨w2, hR, rfl⟩
theorem Sm.Clone_any (s : ByteArray) (w : World) (h : s.size ≤ 281474976710656) : Calls Tryz.prog 66 #[.string s] w fun e w' => e = .returned (.string s) ∧ Below w.heap.size w w' := by
  go_enter Tryz.func66, Tryz.ntmps66
  go_wp2_with (go_at_call 86; (with_reducible refine (Tryz.stringslite_Clone s _ h).mono ?_); rintro e w1 ⟨rfl, hb⟩)
  go_ret
  exact ⟨rfl, hb⟩
end Go.Proofs
namespace Go.Proofs
/-- bit i of numbers of w bits each, the highest ahead; 0 beyond -/
def Sm.bitW (w : Nat) (xs : List Nat) (i : Nat) : Nat := (xs.getD (i / w) 0 / 2 ^ (w - 1 - i % w)) % 2
/-- the number of the n bits from place a on -/
def Sm.valW (w : Nat) (xs : List Nat) (a : Nat) : Nat → Nat
  | 0 => 0
  | n + 1 => 2 * valW w xs a n + bitW w xs (a + n)
theorem Sm.bitW_lt (w : Nat) (xs : List Nat) (i : Nat) : bitW w xs i < 2 := Nat.mod_lt _ (by decide)
theorem Sm.valW_lt (w : Nat) (xs : List Nat) (a n : Nat) : valW w xs a n < 2 ^ n := by
  induction n with
  | zero => simp [valW]
  | succ n ih => have := bitW_lt w xs (a + n); rw [valW, Nat.pow_succ]; omega
theorem Sm.valW_add (w : Nat) (xs : List Nat) (a n m : Nat) : valW w xs a (n + m) = valW w xs a n * 2 ^ m + valW w xs (a + n) m := by
  induction m with
  | zero => simp [valW]
  | succ m ih =>
    rw [← Nat.add_assoc, valW, ih, valW, Nat.pow_succ, Nat.add_assoc a n m, Nat.mul_add, ← Nat.mul_assoc (valW w xs a n), Nat.mul_comm 2 (valW w xs a n * 2 ^ m), Nat.add_assoc]
theorem Sm.valW_div (w : Nat) (xs : List Nat) (a n m : Nat) : valW w xs a (n + m) / 2 ^ m = valW w xs a n := by
  have h := valW_lt w xs (a + n) m
  rw [valW_add, Nat.mul_comm, Nat.mul_add_div (Nat.pos_of_ne_zero (by simp)), Nat.div_eq_of_lt h, Nat.add_zero]
theorem Sm.valW_mod (w : Nat) (xs : List Nat) (a n m : Nat) : valW w xs a (n + m) % 2 ^ m = valW w xs (a + n) m := by
  have h := valW_lt w xs (a + n) m
  rw [valW_add, Nat.mul_comm, Nat.mul_add_mod, Nat.mod_eq_of_lt h]
theorem Sm.valW_congr {w w' : Nat} {xs xs' : List Nat} {a a' n : Nat} (h : ∀ i, i < n → bitW w xs (a + i) = bitW w' xs' (a' + i)) : valW w xs a n = valW w' xs' a' n := by
  induction n with
  | zero => rfl
  | succ n ih => rw [valW, valW, ih (fun i hi => h i (by omega)), h n (by omega)]
theorem Sm.bitW_beyond {w : Nat} {xs : List Nat} {i : Nat} (hw : 0 < w) (h : w * xs.length ≤ i) : bitW w xs i = 0 := by
  have : xs.length ≤ i / w := (Nat.le_div_iff_mul_le hw).2 (by rw [Nat.mul_comm]; exact h)
  unfold bitW
  rw [List.getD_eq_getElem?_getD, List.getElem?_eq_none this]
  simp
theorem Sm.valW_beyond {w : Nat} {xs : List Nat} {a n : Nat} (hw : 0 < w) (h : w * xs.length ≤ a) : valW w xs a n = 0 := by
  induction n with
  | zero => rfl
  | succ n ih => rw [valW, ih, bitW_beyond hw (by omega)]
/-- the bits of one number -/
theorem Sm.bits_of (x w : Nat) (hx : x < 2 ^ w) : ∀ n, n ≤ w → ∀ v : Nat → Nat, (∀ m, v (m + 1) = 2 * v m + (x / 2 ^ (w - 1 - m)) % 2) → v 0 = 0 → v n = x / 2 ^ (w - n) := by
  intro n
  induction n with
  | zero => intro _ v _ h0; rw [h0, Nat.sub_zero, Nat.div_eq_of_lt hx]
  | succ n ih =>
    intro hn v hs h0
    rw [hs, ih (by omega) v hs h0]
    have e : w - n = (w - 1 - n) + 1 := by omega
    have e2 : w - (n + 1) = w - 1 - n := by omega
    rw [e, e2, Nat.pow_succ, ← Nat.div_div_eq_div_mul]
    omega
theorem Sm.valW_item {w : Nat} {xs : List Nat} {k : Nat} (hw : 0 < w) (hx : xs.getD k 0 < 2 ^ w) : valW w xs (w * k) w = xs.getD k 0 := by
  have h : ∀ n, n ≤ w → valW w xs (w * k) n = xs.getD k 0 / 2 ^ (w - n) := by
    intro n
    induction n with
    | zero => intro _; rw [valW, Nat.sub_zero, Nat.div_eq_of_lt hx]
    | succ n ih =>
      intro hn
      have e : (w * k + n) / w = k := by rw [Nat.mul_add_div hw, Nat.div_eq_of_lt (by omega), Nat.add_zero]
      have e1 : (w * k + n) % w = n := by rw [Nat.mul_add_mod, Nat.mod_eq_of_lt (by omega)]
      rw [valW, ih (by omega)]
      unfold bitW
      rw [e, e1]
      have e3 : w - n = (w - 1 - n) + 1 := by omega
      have e2 : w - (n + 1) = w - 1 - n := by omega
      rw [e3, e2, Nat.pow_succ, ← Nat.div_div_eq_div_mul]
      omega
  rw [h w (Nat.le_refl _), Nat.sub_self, Nat.pow_zero, Nat.div_one]
theorem Sm.bit_of_val (w : Nat) (xs : List Nat) (a n i : Nat) (h : i < n) : bitW w xs (a + i) = valW w xs a n / 2 ^ (n - 1 - i) % 2 := by
  have e : n = (i + 1) + (n - 1 - i) := by omega
  have h1 := valW_div w xs a (i + 1) (n - 1 - i)
  rw [← e] at h1
  rw [h1, valW]
  have := bitW_lt w xs (a + i)
  omega
/-- how many groups of s bits there are -/
def Sm.cntW (w s n : Nat) : Nat := (w * n + (s - 1)) / s
/-- bytes as numbers -/
def Sm.nat8 (b : List (BitVec 8)) : List Nat := b.map BitVec.toNat
theorem Sm.nat8_length (b : List (BitVec 8)) : (nat8 b).length = b.length := List.length_map ..
theorem Sm.nat8_lt (b : List (BitVec 8)) (k : Nat) : (nat8 b).getD k 0 < 2 ^ 8 := by
  unfold nat8
  rw [List.getD_eq_getElem?_getD, List.getElem?_map]
  cases b[k]? with
  | none => simp
  | some x => exact x.isLt
/-- the groups of five bits of bytes -/
def Sm.fiveS (b : List (BitVec 8)) : List Nat := (List.range (cntW 8 5 b.length)).map fun j => valW 8 (nat8 b) (5 * j) 5
theorem Sm.fiveS_length (b : List (BitVec 8)) : (fiveS b).length = cntW 8 5 b.length := by unfold fiveS; simp
theorem Sm.fiveS_lt (b : List (BitVec 8)) : ∀ x ∈ fiveS b, x < 32 := by
  intro x hx
  unfold fiveS at hx
  obtain ⟨j, _, rfl⟩ := List.mem_map.1 hx
  exact valW_lt _ _ _ 5
/-- the bytes of groups of five bits, as many as are whole -/
def Sm.byteS (xs : List Nat) : List (BitVec 8) := (List.range (5 * xs.length / 8)).map fun j => BitVec.ofNat 8 (valW 5 xs (8 * j) 8)
/-- are the bits that are left over none but noughts, and fewer than five? -/
def Sm.restS (xs : List Nat) : Bool := decide (5 * xs.length % 8 < 5) && decide (valW 5 xs (8 * (5 * xs.length / 8)) (5 * xs.length % 8) = 0)
theorem Sm.byteS_length (xs : List Nat) : (byteS xs).length = 5 * xs.length / 8 := by unfold byteS; simp
theorem Sm.nat8_byteS (xs : List Nat) (k : Nat) (hk : k < 5 * xs.length / 8) : (nat8 (byteS xs)).getD k 0 = valW 5 xs (8 * k) 8 := by
  unfold nat8 byteS
  have h := valW_lt 5 xs (8 * k) 8
  rw [List.getD_eq_getElem?_getD, List.getElem?_map, List.getElem?_map, List.getElem?_range hk]
  simp only [Option.map_some, Option.getD_some, BitVec.toNat_ofNat]
  exact Nat.mod_eq_of_lt h
theorem Sm.bit_byteS (xs : List Nat) (i : Nat) (hi : i < 8 * (5 * xs.length / 8)) : bitW 8 (nat8 (byteS xs)) i = bitW 5 xs i := by
  have h1 : i / 8 < 5 * xs.length / 8 := by omega
  have h2 := nat8_byteS xs (i / 8) h1
  have h3 := bit_of_val 5 xs (8 * (i / 8)) 8 (i % 8) (by omega)
  have e : 8 * (i / 8) + i % 8 = i := by omega
  rw [e] at h3
  rw [h3]
  unfold bitW
  rw [h2]
theorem Sm.bit_fiveS (b : List (BitVec 8)) (i : Nat) : bitW 5 (fiveS b) i = bitW 8 (nat8 b) i := by
  by_cases hi : i / 5 < cntW 8 5 b.length
  · have h3 := bit_of_val 8 (nat8 b) (5 * (i / 5)) 5 (i % 5) (by omega)
    have e : 5 * (i / 5) + i % 5 = i := by omega
    rw [e] at h3
    rw [h3]
    unfold bitW fiveS
    rw [List.getD_eq_getElem?_getD, List.getElem?_map, List.getElem?_range hi]
    rfl
  · have h4 : 8 * b.length ≤ i := by unfold cntW at hi; omega
    rw [bitW_beyond (xs := fiveS b) (by decide) (by rw [fiveS_length]; omega), bitW_beyond (by decide) (by rw [nat8_length]; exact h4)]
theorem Sm.nat8_inj {a b : List (BitVec 8)} (h : nat8 a = nat8 b) : a = b := List.map_inj_right (fun _ _ e => BitVec.eq_of_toNat_eq e) |>.1 h
/-- what is spelled is unspelled so -/
theorem Sm.byteS_fiveS (b : List (BitVec 8)) : byteS (fiveS b) = b ∧ restS (fiveS b) = true := by
  have hl : 5 * (fiveS b).length / 8 = b.length := by rw [fiveS_length]; unfold cntW; omega
  constructor
  · apply nat8_inj
    apply List.ext_getElem
    · rw [nat8_length, nat8_length, byteS_length, hl]
    · intro k h1 h2
      rw [nat8_length] at h1 h2
      have h3 := nat8_byteS (fiveS b) k (by rw [hl]; exact h2)
      have h4 : valW 5 (fiveS b) (8 * k) 8 = valW 8 (nat8 b) (8 * k) 8 := valW_congr (fun i _ => bit_fiveS b _)
      have h5 := valW_item (w := 8) (xs := nat8 b) (k := k) (by decide) (nat8_lt b k)
      rw [h4, h5] at h3
      rw [List.getD_eq_getElem?_getD, List.getD_eq_getElem?_getD] at h3
      rw [List.getElem?_eq_getElem (by rw [nat8_length]; exact h1), List.getElem?_eq_getElem (by rw [nat8_length]; exact h2)] at h3
      exact h3
  · unfold restS
    have h1 : 5 * (fiveS b).length % 8 < 5 := by
      have h3 : (fiveS b).length = (8 * b.length + 4) / 5 := by rw [fiveS_length]; rfl
      omega
    have h2 : valW 5 (fiveS b) (8 * (5 * (fiveS b).length / 8)) (5 * (fiveS b).length % 8) = 0 := by
      rw [valW_congr (w' := 8) (xs' := nat8 b) (a' := 8 * (5 * (fiveS b).length / 8)) (fun i _ => bit_fiveS b _)]
      exact valW_beyond (by decide) (by rw [nat8_length, hl]; exact Nat.le_refl _)
    rw [decide_eq_true h1, decide_eq_true h2]
    rfl
/-- what is unspelled is spelled so -/
theorem Sm.fiveS_byteS (xs : List Nat) (hx : ∀ x ∈ xs, x < 32) : fiveS (byteS xs) = xs ↔ restS xs = true := by
  have hg : ∀ k, xs.getD k 0 < 2 ^ 5 := fun k => by
    rw [List.getD_eq_getElem?_getD]
    cases h : xs[k]? with
    | none => simp
    | some x => exact hx x (List.mem_of_getElem? h)
  constructor
  · intro h
    have hl : (fiveS (byteS xs)).length = xs.length := by rw [h]
    rw [fiveS_length, byteS_length] at hl
    unfold cntW at hl
    have h1 : 5 * xs.length % 8 < 5 := by omega
    have h2 : valW 5 xs (8 * (5 * xs.length / 8)) (5 * xs.length % 8) = 0 := by
      have h3 : valW 5 xs (8 * (5 * xs.length / 8)) (5 * xs.length % 8) = valW 8 (nat8 (byteS xs)) (8 * (5 * xs.length / 8)) (5 * xs.length % 8) := by
        refine valW_congr fun i _ => ?_
        have := bit_fiveS (byteS xs) (8 * (5 * xs.length / 8) + i)
        rw [h] at this
        exact this
      rw [h3]
      exact valW_beyond (by decide) (by rw [nat8_length, byteS_length]; exact Nat.le_refl _)
    unfold restS
    rw [decide_eq_true h1, decide_eq_true h2]
    rfl
  · intro h
    unfold restS at h
    rw [Bool.and_eq_true, decide_eq_true_eq, decide_eq_true_eq] at h
    obtain ⟨h1, h2⟩ := h
    have hb : ∀ i, bitW 8 (nat8 (byteS xs)) i = bitW 5 xs i := fun i => by
      by_cases hi : i < 8 * (5 * xs.length / 8)
      · exact bit_byteS xs i hi
      · rw [bitW_beyond (by decide) (by rw [nat8_length, byteS_length]; omega)]
        by_cases h5 : i < 5 * xs.length
        · have h3 := bit_of_val 5 xs (8 * (5 * xs.length / 8)) (5 * xs.length % 8) (i - 8 * (5 * xs.length / 8)) (by omega)
          have e : 8 * (5 * xs.length / 8) + (i - 8 * (5 * xs.length / 8)) = i := by omega
          rw [e, h2] at h3
          simp only [Nat.zero_div, Nat.zero_mod] at h3
          exact h3.symm
        · rw [bitW_beyond (by decide) (by omega)]
    apply List.ext_getElem
    · rw [fiveS_length, byteS_length]; unfold cntW; omega
    · intro k hk1 hk2
      have h3 : valW 8 (nat8 (byteS xs)) (5 * k) 5 = valW 5 xs (5 * k) 5 := valW_congr (fun i _ => hb _)
      have h4 := valW_item (w := 5) (xs := xs) (k := k) (by decide) (hg k)
      have h5 : (fiveS (byteS xs))[k]'hk1 = valW 8 (nat8 (byteS xs)) (5 * k) 5 := by simp [fiveS]
      rw [h5, h3, h4, List.getD_eq_getElem?_getD, List.getElem?_eq_getElem hk2]
      rfl
end Go.Proofs
namespace Go.Proofs
open Sm
/-- the sign of a number below 32 -/
def Sm.sgn (k : Nat) : BitVec 8 := if k < 26 then BitVec.ofNat 8 (97 + k) else BitVec.ofNat 8 (24 + k)
/-- the number of a sign -/
def Sm.sgnN (c : BitVec 8) : Option Nat := if 97 ≤ c.toNat ∧ c.toNat ≤ 122 then some (c.toNat - 97) else if 50 ≤ c.toNat ∧ c.toNat ≤ 55 then some (c.toNat - 24) else none
theorem Sm.sgnN_sgn {k : Nat} (h : k < 32) : sgnN (sgn k) = some k := by
  have : ∀ k, k < 32 → sgnN (sgn k) = some k := by decide +kernel
  exact this k h
theorem Sm.sgn_of {c : BitVec 8} {k : Nat} (h : sgnN c = some k) : k < 32 ∧ sgn k = c := by
  unfold sgnN at h
  split at h
  · cases h
    refine ⟨by omega, ?_⟩
    unfold sgn
    apply BitVec.eq_of_toNat_eq
    rw [if_pos (by omega), BitVec.toNat_ofNat]
    omega
  · split at h
    · cases h
      refine ⟨by omega, ?_⟩
      unfold sgn
      apply BitVec.eq_of_toNat_eq
      rw [if_neg (by omega), BitVec.toNat_ofNat]
      omega
    · cases h
/-- the numbers of a text's signs -/
def Sm.fivesOf : List (BitVec 8) → Option (List Nat)
  | [] => some []
  | c :: r => match sgnN c with
    | some k => match fivesOf r with
      | some xs => some (k :: xs)
      | none => none
    | none => none
theorem Sm.fivesOf_some {s : List (BitVec 8)} {xs : List Nat} (h : fivesOf s = some xs) : xs.map sgn = s ∧ ∀ x ∈ xs, x < 32 := by
  induction s generalizing xs with
  | nil => cases h; simp
  | cons c r ih =>
    simp only [fivesOf] at h
    cases h1 : sgnN c with
    | none => rw [h1] at h; cases h
    | some k =>
      rw [h1] at h
      cases h2 : fivesOf r with
      | none => rw [h2] at h; cases h
      | some ys =>
        rw [h2] at h
        cases h
        obtain ⟨h3, h4⟩ := ih h2
        obtain ⟨h5, h6⟩ := sgn_of h1
        refine ⟨by rw [List.map_cons, h3, h6], fun x hx => ?_⟩
        rcases List.mem_cons.1 hx with rfl | hx
        · exact h5
        · exact h4 x hx
theorem Sm.fivesOf_map {xs : List Nat} (h : ∀ x ∈ xs, x < 32) : fivesOf (xs.map sgn) = some xs := by
  induction xs with
  | nil => rfl
  | cons x r ih =>
    simp only [List.map_cons, fivesOf, sgnN_sgn (h x (by simp)), ih (fun y hy => h y (by simp [hy]))]
theorem Sm.fivesOf_none {s : List (BitVec 8)} (k : Nat) (c : BitVec 8) (hc : s[k]? = some c) (h : sgnN c = none) : fivesOf s = none := by
  induction s generalizing k with
  | nil => simp at hc
  | cons d r ih =>
    cases k with
    | zero =>
      simp at hc
      subst hc
      simp only [fivesOf, h]
    | succ k =>
      simp at hc
      have := ih k hc
      simp only [fivesOf, this]
      cases sgnN d <;> rfl
theorem Sm.fivesOf_append (s t : List (BitVec 8)) (xs ys : List Nat) (h1 : fivesOf s = some xs) (h2 : fivesOf t = some ys) : fivesOf (s ++ t) = some (xs ++ ys) := by
  obtain ⟨e1, a1⟩ := fivesOf_some h1
  obtain ⟨e2, a2⟩ := fivesOf_some h2
  rw [← e1, ← e2, ← List.map_append]
  exact fivesOf_map (fun x hx => by
    rcases List.mem_append.1 hx with hx | hx
    · exact a1 x hx
    · exact a2 x hx)
/-- bytes spelled -/
def Sm.spellS (b : List (BitVec 8)) : List (BitVec 8) := (fiveS b).map sgn
theorem Sm.spellS_length (b : List (BitVec 8)) : (spellS b).length = cntW 8 5 b.length := by unfold spellS; rw [List.length_map, fiveS_length]
/-- the bytes of a text -/
def Sm.unspellS (s : List (BitVec 8)) : Option (List (BitVec 8)) := match fivesOf s with
  | some xs => if restS xs = true then some (byteS xs) else none
  | none => none
theorem Sm.unspell_spell (b : List (BitVec 8)) : unspellS (spellS b) = some b := by
  unfold unspellS spellS
  rw [fivesOf_map (fiveS_lt b)]
  obtain ⟨h1, h2⟩ := byteS_fiveS b
  simp only [h2, if_true, h1]
theorem Sm.spell_unspell {s b : List (BitVec 8)} (h : unspellS s = some b) : spellS b = s := by
  unfold unspellS at h
  cases h1 : fivesOf s with
  | none => rw [h1] at h; cases h
  | some xs =>
    rw [h1] at h
    obtain ⟨h2, h3⟩ := fivesOf_some h1
    simp only at h
    split at h
    · rename_i h4
      cases h
      unfold spellS
      rw [(fiveS_byteS xs h3).2 h4, h2]
    · cases h
theorem Sm.unspell_none {s : List (BitVec 8)} {xs : List Nat} (h : fivesOf s = some xs) (hr : restS xs = false) : spellS (byteS xs) ≠ s ∧ unspellS s = none := by
  obtain ⟨h2, h3⟩ := fivesOf_some h
  constructor
  · intro e
    have h4 : fivesOf (spellS (byteS xs)) = fivesOf s := by rw [e]
    unfold spellS at h4
    rw [fivesOf_map (fiveS_lt _), h] at h4
    have := (fiveS_byteS xs h3).1 (Option.some.inj h4)
    rw [hr] at this
    cases this
  · unfold unspellS
    rw [h]
    simp [hr]
theorem Sm.fivesOf_length {s : List (BitVec 8)} {xs : List Nat} (h : fivesOf s = some xs) : xs.length = s.length := by
  have := (fivesOf_some h).1
  rw [← this, List.length_map]
end Go.Proofs
