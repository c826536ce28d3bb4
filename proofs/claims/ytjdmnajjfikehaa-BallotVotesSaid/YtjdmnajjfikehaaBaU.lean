/-
  The walk of BallotVotes. Conditions: as the theorem names them.
-/
import Derived.Deep.Upon
import Derived.Deep.LoopGhost
import Derived.LoopN
import Derived.Test.YtjdmnajjfikehaaApp
import Derived.Test.YtjdmnajjfikehaaBaT
namespace Go.Proofs
open Go Go.RowKit Sm Go.Lib
attribute [local go_sem] Oper.semAt_some
/-- votes of none: what no call made -/
def Sm.NoV (w W : World) (bv x12 : Nat) (vn : Value) : Prop := vn = .pointer none ∨ ∃ bz, vn = .pointer (some ⟨bz, 0, none⟩) ∧ W.heap[bz]? = some (.cells #[.int .i64 0, .bool false, .bool false, .bool false, .bool false, .bool false, .bool false, .bool false, .bool false, .bool false] 54 (0, 0)) ∧ bz ≠ bv ∧ bz ≠ x12 ∧ w.heap.size + 1 < bz
theorem Sm.NoV.vp {w W : World} {bv x12 : Nat} {vn : Value} (h : NoV w W bv x12 vn) : VP W vn 0 (fun _ => false) := by
  rcases h with rfl | ⟨bz, rfl, h, _⟩
  · exact .inl ⟨rfl, rfl, rfl⟩
  · exact .inr ⟨bz, rfl, h⟩
/-- what stands while votes are held against the document's -/
structure Sm.VoS (w W : World) (bv x12 : Nat) (vn : Value) (c many : Int) (f g : Nat → Bool) : Prop where
  mn : W.heap[w.heap.size]? = some (.cells #[.int .i64 many] 3 (0, 0))
  rs : W.heap[w.heap.size + 1]? = some (.cells #[.bool false] 4 (0, 0))
  v : W.heap[bv]? = some (.cells #[.int .i64 c, .bool (f 0), .bool (f 1), .bool (f 2), .bool (f 3), .bool (f 4), .bool (f 5), .bool (f 6), .bool (f 7), .bool (f 8)] 54 (0, 0))
  x : W.heap[x12]? = some (.cells #[.int .i64 c, .bool (g 0), .bool (g 1), .bool (g 2), .bool (g 3), .bool (g 4), .bool (g 5), .bool (g 6), .bool (g 7), .bool (g 8)] 65 (0, 0))
  z : NoV w W bv x12 vn
  ne : w.heap.size + 1 < bv ∧ w.heap.size + 1 < x12 ∧ bv ≠ x12
  l : Below w.heap.size w W
theorem Sm.VoS.but {w W W2 : World} {bv x12 : Nat} {vn : Value} {c many : Int} {f g : Nat → Bool} {S : Nat → Prop} (h : VoS w W bv x12 vn c many f g) (hb : But S W W2) (hS : ∀ q, S q → W.heap.size ≤ q) : VoS w W2 bv x12 vn c many f g := by
  have hk : ∀ {b : Nat} {o : Obj}, W.heap[b]? = some o → W2.heap[b]? = some o := fun {b o} h1 => hb.box h1 (fun e => by have := hS b e; have := (Array.getElem?_eq_some_iff.1 h1).1; omega)
  exact ⟨hk h.mn, hk h.rs, hk h.v, hk h.x, h.z.imp id (fun ⟨bz, e, h1, r⟩ => ⟨bz, e, hk h1, r⟩), h.ne, h.l.trans (hb.to_below h.l.size (fun q e => Nat.le_trans h.l.size (hS q e)))⟩
theorem Sm.VoS.keep {w W W2 : World} {bv x12 : Nat} {vn : Value} {c many : Int} {f g : Nat → Bool} (h : VoS w W bv x12 vn c many f g) (hb : Below W.heap.size W W2) : VoS w W2 bv x12 vn c many f g :=
  h.but (But.of_below hb) (fun _ e => e)
theorem Sm.VoS.addV {w W W2 : World} {bv x12 : Nat} {vn : Value} {c many : Int} {f g f2 : Nat → Bool} (h : VoS w W bv x12 vn c many f g) (hb : But (fun q => q = bv) W W2) (hv : W2.heap[bv]? = some (.cells #[.int .i64 c, .bool (f2 0), .bool (f2 1), .bool (f2 2), .bool (f2 3), .bool (f2 4), .bool (f2 5), .bool (f2 6), .bool (f2 7), .bool (f2 8)] 54 (0, 0))) : VoS w W2 bv x12 vn c many f2 g :=
  ⟨hb.box h.mn (by have := h.ne; omega), hb.box h.rs (by have := h.ne; omega), hv, hb.box h.x (by have := h.ne; omega), h.z.imp id (fun ⟨bz, e, h1, r1, r2⟩ => ⟨bz, e, hb.box h1 r1, r1, r2⟩), h.ne, h.l.trans (hb.to_below h.l.size (fun q e => by have := h.ne; omega))⟩
theorem Sm.VoS.putX {w W W2 : World} {bv x12 : Nat} {vn : Value} {c many : Int} {f g g2 : Nat → Bool} (h : VoS w W bv x12 vn c many f g) (hb : But (fun q => q = x12) W W2) (hv : W2.heap[x12]? = some (.cells #[.int .i64 c, .bool (g2 0), .bool (g2 1), .bool (g2 2), .bool (g2 3), .bool (g2 4), .bool (g2 5), .bool (g2 6), .bool (g2 7), .bool (g2 8)] 65 (0, 0))) : VoS w W2 bv x12 vn c many f g2 :=
  ⟨hb.box h.mn (by have := h.ne; omega), hb.box h.rs (by have := h.ne; omega), hb.box h.v (by have := h.ne; omega), hv, h.z.imp id (fun ⟨bz, e, h1, r1, r2, r3⟩ => ⟨bz, e, hb.box h1 r2, r1, r2, r3⟩), h.ne, h.l.trans (hb.to_below h.l.size (fun q e => by have := h.ne; omega))⟩
theorem Sm.putB {W : World} {b : Nat} {v : Bool} (h : W.heap[b]? = some (.cells #[.bool v] 4 (0, 0))) (u : Bool) : (W.setCell ⟨b, 0, none⟩ (.bool u)).cell? ⟨b, 0, none⟩ = some (.bool u) := by
  have := cell_of_heap (heap_setCells (i := 0) (u := .bool u) h) 0
  simpa using this
/-- an end behind loops over functions, of a result that lies in a cell and was just stored -/
theorem Sm.endV {n : Nat} {P : Program} {fn : Func} {w W : World} {tmps : Array Value} {b D : Nat} {v : Bool}
    (hr : ∀ W', W'.cell? ⟨b, 0, none⟩ = some (.bool true) → (results fn tmps).run P W' = .ok (.bool true) W') {df : List Deferred} (hd : df = [{ target := .collected D, args := #[] }])
    (h2 : W.heap[b]? = some (.cells #[.bool v] 4 (0, 0))) (hD : W.heap[D]? = some (.deferred (some []))) (hl : Below w.heap.size w W) (hb : w.heap.size ≤ b) (hDw : w.heap.size ≤ D) :
    bodyPostM Fence.wide n P fn (fun e w' => e = .returned (.bool true) ∧ Below w.heap.size w w') .ret { tmps := tmps, defers := df } (W.setCell ⟨b, 0, none⟩ (.bool true)) := by
  have hne : D ≠ b := fun e => by rw [e, h2] at hD; cases hD
  have hD2 : (W.setCell ⟨b, 0, none⟩ (.bool true)).heap[D]? = some (.deferred (some [])) := (heap_setOther hne).trans hD
  have hc := putB h2 true
  refine retM1 (D := D) (v := .bool true) hd hD2 (hr _ ?_) ⟨rfl, ?_⟩
  · have : ((W.setCell ⟨b, 0, none⟩ (.bool true)).putObj D (.deferred none)).heap[b]? = (W.setCell ⟨b, 0, none⟩ (.bool true)).heap[b]? := World.putObj_heap_other (fun e => hne e.symm)
    exact (World.cell?_of_block this).trans hc
  · exact But.below (hl.setCell (p := ⟨b, 0, none⟩) hb _) (put_but _ _ _) (fun q e => by omega)
theorem Sm.has_ad {c x : Int} {f : Nat → Bool} (hc : chB c = true) (hf : ∀ q : Nat, f q = true → (q : Int) < c) : hasB (adF c x f) x = (adE c x == 0) := by
  have h9 : 3 ≤ c ∧ c ≤ 9 := by rcases chB_iff.1 hc with e | e | e | e <;> omega
  unfold adF adE
  cases hr : rpB c x with
  | true =>
    unfold rpB at hr
    rw [Bool.and_eq_true, decide_eq_true_eq, decide_eq_true_eq] at hr
    rw [if_pos rfl, if_pos rfl]
    exact (hasB_iff _ x).2 ⟨x.toNat, by omega, by unfold setF; rw [if_pos rfl], by omega⟩
  | false =>
    rw [if_neg (by decide), if_neg (by decide)]
    rw [show ((2 : Int) == 0) = false from rfl, Bool.eq_false_iff]
    intro e
    obtain ⟨q, hq, hfq, hqx⟩ := (hasB_iff f x).1 e
    have := hf q hfq
    have h2 : rpB c x = true := by
      unfold rpB
      rw [Bool.and_eq_true, decide_eq_true_eq, decide_eq_true_eq]
      omega
    rw [h2] at hr
    cases hr
/-- the places among the first n -/
def Sm.plsF (f : Nat → Bool) : Nat → List Int
  | 0 => []
  | n + 1 => plsF f n ++ (if f n = true then [(n : Int)] else [])
theorem Sm.plsF_length (f : Nat → Bool) (n : Nat) : (plsF f n).length = cntF f n := by
  induction n with
  | zero => rfl
  | succ n ih =>
    show (plsF f n ++ (if f n = true then [(n : Int)] else [])).length = cntF f n + (if f n = true then 1 else 0)
    rw [List.length_append, ih]
    cases f n <;> rfl
theorem Sm.plsF_get (f : Nat → Bool) {p n : Nat} (h : p < n) (hf : f p = true) : (plsF f n)[cntF f p]? = some (p : Int) := by
  induction n with
  | zero => omega
  | succ n ih =>
    show (plsF f n ++ (if f n = true then [(n : Int)] else []))[cntF f p]? = _
    by_cases e : p = n
    · subst e
      rw [List.getElem?_append_right (by rw [plsF_length]; exact Nat.le_refl _), plsF_length, Nat.sub_self, if_pos hf]
      rfl
    · have h2 := ih (by omega)
      rw [List.getElem?_append_left (List.getElem?_eq_some_iff.1 h2).1]
      exact h2
/-- the places so far, in a slice behind a box -/
structure Sm.VoP (w W : World) (bv x12 x19 D0 : Nat) (vn : Value) (c many : Int) (f : Nat → Bool) (p : Nat) (A : Option Addr) (cap : Nat) : Prop where
  s : VoS w W bv x12 vn c many f f
  b : W.heap[x19]? = some (.cells #[.slice A (cntF f p) cap] 45 (0, 0))
  o : W.ownsRow (x19 + 1) 3 1 (.slice A (cntF f p) cap) (cntF f p) ((plsF f p).map fun k => .int .i64 k)
  d : W.heap[D0]? = some (.deferred (some []))
  n : bv < x19 ∧ x12 < x19 ∧ D0 < x19 ∧ w.heap.size + 1 < x19
  z : ∀ bz, vn = .pointer (some ⟨bz, 0, none⟩) → bz < x19
theorem Sm.VoP.but {w W W2 : World} {bv x12 x19 D0 : Nat} {vn : Value} {c many : Int} {f : Nat → Bool} {p : Nat} {A : Option Addr} {cap : Nat} (h : VoP w W bv x12 x19 D0 vn c many f p A cap) (hb : Below W.heap.size W W2) : VoP w W2 bv x12 x19 D0 vn c many f p A cap :=
  ⟨h.s.keep hb, (hb.block _ (Array.getElem?_eq_some_iff.1 h.b).1).trans h.b, own_below h.o hb, (hb.block _ (Array.getElem?_eq_some_iff.1 h.d).1).trans h.d, h.n, h.z⟩
theorem Sm.info3 : ∃ i : TypeInfo, Try.prog.info? 3 = some i ∧ i.zero = some (.int .i64 0) ∧ i.size = 1 ∧ i.bytes = 8 := ⟨_, rfl, rfl, rfl, rfl⟩
theorem Sm.own_but {w w' : World} {base : Nat} {e : TypeId} {size n : Nat} {v : Value} {xs : List Value} {S : Nat → Prop} (h : w.ownsRow base e size v n xs) (hb : But S w w') (hS : ∀ g, base ≤ g → ¬ S g) : w'.ownsRow base e size v n xs := by
  refine ⟨h.1, h.2.imp id ?_⟩
  rintro ⟨g, cap, cur, h1, h2, h3, r⟩
  exact ⟨g, cap, cur, h1, h2, hb.box h3 (hS g h2), r⟩
theorem Sm.own_ge {w : World} {base : Nat} {e : TypeId} {size n : Nat} {v : Value} {xs : List Value} (h : w.ownsRow base e size v n xs) (b : Nat) (hv : v.ownBlock = some b) : base ≤ b := by
  rcases h.2 with ⟨rfl, _⟩ | ⟨g, cap, cur, rfl, h2, _⟩
  · cases hv
  · have : g = b := Option.some.inj hv
    omega
theorem Sm.VoS.far {w W W2 : World} {bv x12 x19 : Nat} {vn : Value} {c many : Int} {f g : Nat → Bool} {S : Nat → Prop} (h : VoS w W bv x12 vn c many f g) (hb : But S W W2) (hS : ∀ q, S q → x19 ≤ q) (n : bv < x19 ∧ x12 < x19 ∧ w.heap.size + 1 < x19) (z : ∀ bz, vn = .pointer (some ⟨bz, 0, none⟩) → bz < x19) : VoS w W2 bv x12 vn c many f g := by
  have hk : ∀ {b : Nat} {o : Obj}, b < x19 → W.heap[b]? = some o → W2.heap[b]? = some o := fun {b o} h0 h1 => hb.box h1 (fun e => by have := hS b e; omega)
  exact ⟨hk (by omega) h.mn, hk (by omega) h.rs, hk (by omega) h.v, hk (by omega) h.x, h.z.imp id (fun ⟨bz, e, h1, r⟩ => ⟨bz, e, hk (z bz e) h1, r⟩), h.ne, h.l.trans (hb.to_below h.l.size (fun q e => by have := hS q e; omega))⟩
theorem Sm.VoP.far {w W W2 : World} {bv x12 x19 D0 : Nat} {vn : Value} {c many : Int} {f : Nat → Bool} {p : Nat} {A : Option Addr} {cap : Nat} {S : Nat → Prop} (h : VoP w W bv x12 x19 D0 vn c many f p A cap) (hb : But S W W2) (hS : ∀ q, S q → W.heap.size ≤ q) : VoP w W2 bv x12 x19 D0 vn c many f p A cap :=
  h.but (hb.to_below (Nat.le_refl _) hS)
theorem Sm.VoP.push {w W W4 : World} {bv x12 x19 D0 : Nat} {vn : Value} {c many : Int} {f : Nat → Bool} {p : Nat} {A : Option Addr} {cap : Nat} {o : Obj} {g cap2 n : Nat} (h : VoP w W bv x12 x19 D0 vn c many f p A cap) (hn : cntF f p = n) (hc : cntF f (p + 1) = n + 1) (hp : plsF f (p + 1) = plsF f p ++ [(p : Int)])
    (hown : W4.ownsRow (x19 + 1) 3 1 (.slice (some ⟨g, 0, none⟩) (n + 1) cap2) (n + 1) ((plsF f p).map (fun k => Value.int .i64 k) ++ [.int .i64 (p : Int)])) (hgr : (W.alloc o).grownBy W4 (Value.slice A n cap).ownBlock) :
    VoP w (W4.setCell ⟨x19, 0, none⟩ (.slice (some ⟨g, 0, none⟩) (n + 1) cap2)) bv x12 x19 D0 vn c many f (p + 1) (some ⟨g, 0, none⟩) cap2 := by
  have h0 : Below W.heap.size W (W.alloc o) := (Below.refl _ _).alloc (Nat.le_refl _) _
  have h1 := h.but h0
  have hge : ∀ q, (Value.slice A n cap).ownBlock = some q → x19 + 1 ≤ q := fun q e => own_ge h.o q (by rw [hn]; exact e)
  have hb4 := But.grown hgr
  have hs4 := h1.s.far (x19 := x19) hb4 (fun q e => by have := hge q e; omega) ⟨h1.n.1, h1.n.2.1, h1.n.2.2.2⟩ h1.z
  have hbx := hb4.box h1.b (fun e => by have := hge _ e; omega)
  have hd4 := hb4.box h1.d (fun e => by have := hge _ e; have := h1.n; omega)
  have hb5 := but_set x19 0 W4 (.slice (some ⟨g, 0, none⟩) (n + 1) cap2)
  refine ⟨hs4.far (x19 := x19) hb5 (fun q e => by have e2 : q = x19 := e; omega) ⟨h1.n.1, h1.n.2.1, h1.n.2.2.2⟩ h1.z, ?_, ?_, hb5.box hd4 (fun e => by have := h1.n; have e2 : D0 = x19 := e; omega), h1.n, h1.z⟩
  · rw [hc]
    exact heap_setCells (i := 0) (u := .slice (some ⟨g, 0, none⟩) (n + 1) cap2) hbx
  · rw [hc, hp, List.map_append]
    exact own_but hown hb5 (fun q e e2 => by have e3 : q = x19 := e2; omega)
theorem Sm.VoP.box4 {w W W4 : World} {bv x12 x19 D0 : Nat} {vn : Value} {c many : Int} {f : Nat → Bool} {p : Nat} {A : Option Addr} {cap n : Nat} {o : Obj} (h : VoP w W bv x12 x19 D0 vn c many f p A cap) (hn : cntF f p = n) (hgr : (W.alloc o).grownBy W4 (Value.slice A n cap).ownBlock) :
    W4.heap[x19]? = some (.cells #[.slice A n cap] 45 (0, 0)) := by
  have h0 : Below W.heap.size W (W.alloc o) := (Below.refl _ _).alloc (Nat.le_refl _) _
  have h1 := (h.but h0).b
  rw [hn] at h1
  exact (But.grown hgr).box h1 (fun e => by have := own_ge h.o x19 (by rw [hn]; exact e); omega)
def Sm.unmark : List Nat → World → World
  | [], w => w
  | D :: Ds, w => unmark Ds (w.putObj D (.deferred none))
theorem Sm.unmark_but (L : Nat) : ∀ (Ds : List Nat) (w : World), (∀ D ∈ Ds, L ≤ D) → But (fun b => L ≤ b) w (unmark Ds w)
  | [], w, _ => But.refl _ _
  | D :: Ds, w, h => ((put_but w D (.deferred none)).mono fun b _ e => by subst e; exact h _ (List.mem_cons_self ..)).trans (unmark_but L Ds _ fun D hD => h D (List.mem_cons_of_mem _ hD)) fun _ _ e => e
theorem Sm.retMs {n : Nat} {P : Program} {fn : Func} {R : Ending → World → Prop} {tmps : Array Value} {v : Value} : ∀ (Ds : List Nat) (w : World), Ds.Nodup → (∀ D ∈ Ds, w.heap[D]? = some (.deferred (some []))) →
    (results fn tmps).run P (unmark Ds w) = .ok v (unmark Ds w) → R (.returned v) (unmark Ds w) → LeavesInM Fence.wide n P fn tmps R (Ds.map markOf) .returning w
  | [], w, _, _, hr, hR => ⟨v, hr, hR⟩
  | D :: Ds, w, hn, hD, hr, hR => by
    obtain ⟨h1, h2⟩ := List.nodup_cons.1 hn
    exact ⟨by simp, .inl ⟨_, _, rfl, run_takeDeferred (hD D (List.mem_cons_self ..)), retMs Ds _ h2 (fun E hE => (World.putObj_heap_other (by intro e; subst e; exact h1 hE)).trans (hD E (List.mem_cons_of_mem _ hE))) hr hR⟩⟩
theorem Sm.endV3 {n : Nat} {P : Program} {fn : Func} {w W : World} {tmps : Array Value} {b D2 D1 D0 : Nat} {v : Bool}
    (hr : ∀ W', W'.cell? ⟨b, 0, none⟩ = some (.bool true) → (results fn tmps).run P W' = .ok (.bool true) W') {df : List Deferred} (hd : df = [markOf D2, markOf D1, markOf D0]) (hne : D0 < D1 ∧ D1 < D2)
    (h2 : W.heap[b]? = some (.cells #[.bool v] 4 (0, 0))) (hD2 : W.heap[D2]? = some (.deferred (some []))) (hD1 : W.heap[D1]? = some (.deferred (some []))) (hD0 : W.heap[D0]? = some (.deferred (some [])))
    (hl : Below w.heap.size w W) (hb : w.heap.size ≤ b) (hDw : w.heap.size ≤ D0) (hbD : b < D0) :
    bodyPostM Fence.wide n P fn (fun e w' => e = .returned (.bool true) ∧ Below w.heap.size w w') .ret { tmps := tmps, defers := df } (W.setCell ⟨b, 0, none⟩ (.bool true)) := by
  have hs : ∀ D, b < D → W.heap[D]? = some (.deferred (some [])) → (W.setCell ⟨b, 0, none⟩ (.bool true)).heap[D]? = some (.deferred (some [])) := fun D h1 h => (heap_setOther (by omega)).trans h
  have hc := putB h2 true
  have hub := unmark_but D0 [D2, D1, D0] (W.setCell ⟨b, 0, none⟩ (.bool true)) (fun D hD => by simp at hD; omega)
  have hlb := (Array.getElem?_eq_some_iff.1 h2).1
  show LeavesInM Fence.wide n P fn tmps _ df .returning _
  rw [hd]
  refine retMs [D2, D1, D0] _ (by simp; omega) (fun D hD => ?_) (hr _ ?_) ⟨rfl, ?_⟩
  · simp only [List.mem_cons, List.mem_nil_iff, or_false] at hD
    rcases hD with rfl | rfl | rfl
    · exact hs _ (by omega) hD2
    · exact hs _ (by omega) hD1
    · exact hs _ (by omega) hD0
  · exact (hub.cell (p := ⟨b, 0, none⟩) (by simpa using hlb) (by show ¬ D0 ≤ b; omega)).trans hc
  · exact But.below (hl.setCell (p := ⟨b, 0, none⟩) hb _) hub (fun q e => by have e2 : D0 ≤ q := e; omega)
/-- what stands while a place's iterator is gone over twice -/
structure Sm.VoL (w W : World) (bv x19 D0 bs : Nat) (vn : Value) (c many : Int) (f fv : Nat → Bool) (A : Option Addr) (cap : Nat) : Prop where
  mn : W.heap[w.heap.size]? = some (.cells #[.int .i64 many] 3 (0, 0))
  rs : W.heap[w.heap.size + 1]? = some (.cells #[.bool false] 4 (0, 0))
  v : W.heap[bv]? = some (.cells #[.int .i64 c, .bool (fv 0), .bool (fv 1), .bool (fv 2), .bool (fv 3), .bool (fv 4), .bool (fv 5), .bool (fv 6), .bool (fv 7), .bool (fv 8)] 54 (0, 0))
  z : VP W vn 0 (fun _ => false)
  b : W.heap[x19]? = some (.cells #[.slice A (cntF f 9) cap] 45 (0, 0))
  o : W.ownsRow (x19 + 1) 3 1 (.slice A (cntF f 9) cap) (cntF f 9) ((plsF f 9).map fun k => .int .i64 k)
  sq : W.heap[bs]? = some (.cells #[.bool (f 0), .bool (f 1), .bool (f 2), .bool (f 3), .bool (f 4), .bool (f 5), .bool (f 6), .bool (f 7), .bool (f 8)] 52 (0, 0))
  d : W.heap[D0]? = some (.deferred (some []))
  l : Below w.heap.size w W
theorem Sm.VoL.on {w W W2 : World} {bv x19 D0 bs : Nat} {vn : Value} {c many : Int} {f fv : Nat → Bool} {A : Option Addr} {cap : Nat} (h : VoL w W bv x19 D0 bs vn c many f fv A cap) (hb : Below W.heap.size W W2) : VoL w W2 bv x19 D0 bs vn c many f fv A cap := by
  have hk : ∀ {b : Nat} {o : Obj}, W.heap[b]? = some o → W2.heap[b]? = some o := fun {b o} h1 => (hb.block _ (Array.getElem?_eq_some_iff.1 h1).1).trans h1
  exact ⟨hk h.mn, hk h.rs, hk h.v, h.z.keep hb, hk h.b, own_below h.o hb, hk h.sq, hk h.d, h.l.trans (hb.mono h.l.size)⟩
theorem Sm.VoP.last {w W W2 : World} {bv x12 x19 D0 bs : Nat} {vn : Value} {c many : Int} {f fv : Nat → Bool} {A : Option Addr} {cap : Nat} (h : VoP w W bv x12 x19 D0 vn c many f 9 A cap) (hs : W.heap[bs]? = some (.cells #[.bool (f 0), .bool (f 1), .bool (f 2), .bool (f 3), .bool (f 4), .bool (f 5), .bool (f 6), .bool (f 7), .bool (f 8)] 52 (0, 0))) (hbs : bv ≠ bs)
    (hb : But (fun q => q = bv) W W2) (hv : W2.heap[bv]? = some (.cells #[.int .i64 c, .bool (fv 0), .bool (fv 1), .bool (fv 2), .bool (fv 3), .bool (fv 4), .bool (fv 5), .bool (fv 6), .bool (fv 7), .bool (fv 8)] 54 (0, 0))) : VoL w W2 bv x19 D0 bs vn c many f fv A cap := by
  have hn := h.s.ne
  have hdn : D0 ≠ bv := fun e => by
    have h1 := h.d
    rw [e, h.s.v] at h1
    cases h1
  exact ⟨hb.box h.s.mn (by omega), hb.box h.s.rs (by omega), hv, NoV.vp (w := w) (bv := bv) (x12 := x12) (show NoV w W2 bv x12 vn from h.s.z.imp id (fun ⟨bz, e, h1, r1, r2⟩ => ⟨bz, e, hb.box h1 r1, r1, r2⟩)),
    hb.box h.b (by have := h.n; omega), own_but h.o hb (fun q e e2 => by have e3 : q = bv := e2; have := h.n; omega), hb.box hs (fun e => hbs e.symm), hb.box h.d hdn, h.s.l.trans (hb.to_below h.s.l.size (fun q e => by have e2 : q = bv := e; omega))⟩
set_option maxRecDepth 100000 in
set_option maxHeartbeats 8000000 in
theorem Sm.votes_law (c : Int) (A1 : Option Addr) (n1 c1 : Nat) (l1 : List Int) (many : Int) (w : World)
    (e1 : l1.length = n1) (_g1 : n1 ≤ c1) (_m1 : c1 ≤ 9223372036854775807) (rd1 : Rds w (fun _ => False) A1 (l1.map fun k => .int .i64 k)) :
    Calls Try.prog 6 #[.int .i64 c, .slice A1 n1 c1, .int .i64 many] w fun e w' => e = .returned (.bool true) ∧ Below w.heap.size w w' := by
  have hw := fun W => works_any W
  have hR : ∀ W, Calls Try.prog 31 #[.int .i64 c] W fun e w' => e = .returned (.bool (chB c)) ∧ W = w' := fun W => Right_any c W
  have hn : ∀ (x : Int) W, Calls Try.prog 13 #[.int .i64 x] W fun e w' => e = .returned (.int .i64 x) ∧ W = w' := fun x W => num_any x W
  have HR1 := Lib.hid (RowI.of rd1)
  have HE1 := Lib.hid e1
  have q1 : ((w.alloc (.cells #[.int .i64 many] 3)).alloc (.cells #[.bool false] 4)).heap[w.heap.size]? = some (.cells #[.int .i64 many] 3 (0, 0)) := (Below.heap_alloc _ _ _ (by simp)).trans (World.alloc_heap_new w _)
  have q2 : ((w.alloc (.cells #[.int .i64 many] 3)).alloc (.cells #[.bool false] 4)).heap[w.heap.size + 1]? = some (.cells #[.bool false] 4 (0, 0)) := by
    have := World.alloc_heap_new (w.alloc (.cells #[.int .i64 many] 3)) (.cells #[.bool false] 4); rwa [World.size_alloc] at this
  have hbA : Below w.heap.size w ((w.alloc (.cells #[.int .i64 many] 3)).alloc (.cells #[.bool false] 4)) := ((Below.refl _ w).alloc (Nat.le_refl _) _).alloc (by simp) _
  have hsA : ((w.alloc (.cells #[.int .i64 many] 3)).alloc (.cells #[.bool false] 4)).heap.size = w.heap.size + 2 := by simp
  obtain ⟨wA, hwA⟩ : ∃ v, (w.alloc (.cells #[.int .i64 many] 3)).alloc (.cells #[.bool false] 4) = v := ⟨_, rfl⟩
  rw [hwA] at q1 q2 hbA hsA
  refine (callsIn_wide (n := 3)).1 (callsIn_of_wp_marks Try.func6 rfl trivial ?_ rfl)
  refine wpIn_wide.2 ?_
  simp only [Try.ntmps6, List.size_toArray, List.length_cons, List.length_nil, Nat.reduceAdd, Nat.reduceSub, Array.replicate_succ, Array.replicate_zero, List.push_toArray, List.append_toArray, List.nil_append, List.cons_append]
  clear rd1 e1
  by_cases h30 : 30 < n1
  · have Q2 := Lib.hid q2
    have hl2 := (Array.getElem?_eq_some_iff.1 q2).1
    clear q1 hsA
    go_wp2_with (go_at_call 15; (with_reducible refine (hw _).mono ?_); rintro e w1 ⟨rfl, hb⟩; have h2 := (hb.block _ hl2).trans Q2.out; have f2 := frozen_of_heap h2 0; have k2 := cell_of_heap h2 0; simp only [List.getElem?_toArray, List.getElem?_cons_zero] at k2; have H2 := Lib.hid h2; clear h2)
    have z := putB H2.out true
    refine retM (v := .bool true) (by simp [results, Try.results6, go_sem, z]) rfl ⟨rfl, ?_⟩
    exact (hbA.trans (hb.mono hbA.size)).setCell (p := ⟨w.heap.size + 1, 0, none⟩) (by simp) _
  have hi30 : (n1 : Int) ≤ 30 := by omega
  have Q := Lib.hid (And.intro q1 q2)
  have HBA := Lib.hid hbA
  have HSA := Lib.hid hsA
  have hNew : ∀ W, Calls Try.prog 23 #[.int .i64 c] W fun e w' => ∃ (v : Value) (x : Int), e = .returned (.tuple #[v, .int .i64 x]) ∧ Hid ((chB c = false ∧ v = .pointer none ∧ x = 2) ∨ (chB c = true ∧ x = 0 ∧ ∃ b, v = .pointer (some ⟨b, 0, none⟩) ∧ W.heap.size ≤ b ∧ w'.heap[b]? = some (.cells #[.int .i64 c, .bool false, .bool false, .bool false, .bool false, .bool false, .bool false, .bool false, .bool false, .bool false] 54 (0, 0)))) ∧ Below W.heap.size W w' := fun W => by
    cases hc : chB c with
    | false =>
      refine (New_no c W hc).mono ?_
      rintro e w' ⟨rfl, hb⟩
      exact ⟨_, _, rfl, Lib.hid (.inl ⟨rfl, rfl, rfl⟩), hb⟩
    | true =>
      refine (New_yes c W hc).mono ?_
      rintro e w' ⟨b, rfl, h1, h2, hb⟩
      exact ⟨_, _, rfl, Lib.hid (.inr ⟨rfl, rfl, b, rfl, h1, h2⟩), hb⟩
  clear q1 q2 hbA hsA
  go_upto_if 37 with (go_at_call 23; refine (hNew _).mono ?_; clear hNew; rintro e w1 ⟨vv, ee, rfl, HV, hb1⟩; have HB1 := Lib.hid hb1; clear hb1)
  obtain ⟨od, hod⟩ : ∃ od, ((n1 : Int) % 2 == 1) = od := ⟨_, rfl⟩
  rw [hod]
  clear hod
  have hlA := HBA.out.size
  have hl1 := HB1.out.size
  go_cut [9] from 37 to 39 (fun s9 wx => Hid ((s9 = .pointer none ∨ ∃ bz, s9 = .pointer (some ⟨bz, 0, none⟩) ∧ wx.heap[bz]? = some (.cells #[.int .i64 0, .bool false, .bool false, .bool false, .bool false, .bool false, .bool false, .bool false, .bool false, .bool false] 54 (0, 0)) ∧ w1.heap.size ≤ bz) ∧ Below w1.heap.size w1 wx))
  case first =>
    cases od with
    | true =>
      go_wp2
      go_meet
      exact Lib.hid ⟨.inr ⟨_, rfl, World.alloc_heap_new w1 _, Nat.le_refl _⟩, (Below.refl _ _).alloc (Nat.le_refl _) _⟩
    | false =>
      go_wp2
      go_meet
      exact Lib.hid ⟨.inl rfl, Below.refl _ _⟩
  case rest =>
    have HZ := hcut
    clear hcut
    obtain ⟨vn, hvn⟩ : ∃ vn, vn = u9 := ⟨_, rfl⟩
    subst hvn
    have hvp : ∀ W, Below wc.heap.size wc W → VP W vn 0 (fun _ => false) := fun W hb => by
      rcases HZ.out.1 with e | ⟨bz, e, h, _⟩
      · exact .inl ⟨e, rfl, rfl⟩
      · exact .inr ⟨bz, e, (hb.block _ (Array.getElem?_eq_some_iff.1 h).1).trans h⟩
    have hAn := Add_nil vn 0 (fun _ => false) wc (hvp wc (Below.refl _ _))
    have HPn : Hid (∀ W, Below wc.heap.size wc W → Calls Try.prog 25 #[vn] W fun e w' => ∃ b, e = .returned (.func (.func 50) #[] #[.pointer (some ⟨b, 0, none⟩)]) ∧ W.heap.size ≤ b ∧ w'.heap[b]? = some (.cells #[.bool false, .bool false, .bool false, .bool false, .bool false, .bool false, .bool false, .bool false, .bool false] 52 (0, 0)) ∧ Below W.heap.size W w') := Lib.hid fun W hb => Places_any vn 0 (fun _ => false) W (hvp W hb)
    have hfn : ∀ (b : Nat) (wx : World), (binOp .eql 58 (.func (.func 50) #[] #[.pointer (some ⟨b, 0, none⟩)]) .nilFunc).run Try.prog wx = .ok (.bool false) wx := fun _ _ => by kernel_rfl
    have HVP := Lib.hid hvp
    clear hvp
    go_wp2_with (first
      | (go_at_call 24; (with_reducible refine hAn.mono ?_); clear hAn; rintro e w3 ⟨rfl, hb3⟩; have HB3 := Lib.hid hb3; have hp1 := HPn.out w3 hb3; clear hb3)
      | (go_at_call 25; (with_reducible refine hp1.mono ?_); clear hp1; rintro e w4 ⟨b4, rfl, _, _, hb4⟩; have HB4 := Lib.hid (HB3.out.trans (hb4.mono HB3.out.size)); have hp2 := HPn.out w4 HB4.out; clear hb4)
      | (go_at_call 25; (with_reducible refine hp2.mono ?_); clear hp2; rintro e w5 ⟨b5, rfl, hbz5, hbc5, hb5⟩; have HB5 := Lib.hid (HB4.out.trans (hb5.mono HB4.out.size)); clear hb5))
    rename_i K hK
    clear hfn HPn
    refine (wpIn_wide (n := 3)).1 ?_
    refine wpIn_range1 (gf := 50) (lb := #[.pointer (some ⟨b5, 0, none⟩)]) rfl (enters_of Try.func50 (by kernel_rfl) rfl)
      (places_seq (f := fun _ => false) w5 hbc5 (fun _ => False)) (fun q e => e.elim) ?hH ?hrow 50 50 rfl ?hargs
      (fun _ W => Below w5.heap.size w5 W) (fun _ _ _ => False) ?hI (fun _ _ _ _ h _ => h)
      (Below.refl _ _) ?assign ?body ?done (fun _ _ _ _ h _ => h.elim)
    case hH => exact fun k args W W' hh _ => hh
    case hrow => exact fun k args W b _ e => e.elim
    case hargs =>
      rintro k args W ⟨p, _, hf, _⟩
      cases hf
    case hI => exact fun k W W' h hb => h.trans hb
    case assign =>
      intro l0 y W K2 hK2
      simp only [List.setIfInBounds_toArray, List.set_cons_zero, List.set_cons_succ] at hK2 ⊢
      gi_wp2
      exact hK2
    case body =>
      rintro l0 k y W hsz hi ⟨q, _, hf, _⟩
      cases hf
    case done =>
      rintro k W _ hi hD
      show K _ _
      refine hK _ _ ?_
      clear hK
      have HBW : Hid (Below wc.heap.size wc W) := Lib.hid (HB5.out.trans (hi.mono HB5.out.size))
      have HD0 := Lib.hid (And.intro hD (Nat.le_trans HB5.out.size (Nat.le_refl _)))
      clear hD hi hbc5 hbz5 HB3 HB4
      have hn1 := hn 1
      have hHas := fun V hb => (show Calls Try.prog 26 #[vn, .int .i64 0] V fun e w' => e = .returned (.bool false) ∧ Below V.heap.size V w' by
        have h := Has_any vn 0 (fun _ => false) 0 V (HVP.out V hb)
        rw [show hasB (fun _ => false) 0 = false by decide] at h
        exact h)
      have hMn := fun V hb => (show Calls Try.prog 27 #[vn] V fun e w' => e = .returned (.int .i64 0) ∧ Below V.heap.size V w' from Many_any vn 0 (fun _ => false) V (HVP.out V hb))
      have hWn := fun V hb => (show Calls Try.prog 28 #[vn] V fun e w' => e = .returned (.bool false) ∧ Below V.heap.size V w' from Won_any vn 0 (fun _ => false) V (HVP.out V hb))
      have hCn := fun V hb => Copy_no vn (fun _ => false) V (HVP.out V hb)
      have hSn := fun V hb => (show Calls Try.prog 30 #[vn, .pointer none] V fun e w' => e = .returned (.bool true) ∧ Below V.heap.size V w' from Same_any vn (.pointer none) 0 0 (fun _ => false) (fun _ => false) V (HVP.out V hb) (.inl ⟨rfl, rfl, rfl⟩))
      have HHas := Lib.hid hHas
      have HMn := Lib.hid hMn
      have HWn := Lib.hid hWn
      have HCn := Lib.hid hCn
      have HSn := Lib.hid hSn
      have hh := HHas.out W HBW.out
      clear hHas hMn hWn hCn hSn
      go_upto_region 14 with (first
        | (go_at_call 13; (with_reducible refine (hn1 _).mono ?_); rintro e w' ⟨rfl, rfl⟩)
        | (go_at_call 26; (with_reducible refine hh.mono ?_); clear hh; rintro e v1 ⟨rfl, hb1⟩; have HV1 := Lib.hid hb1; have hm := HMn.out v1 (HBW.out.trans (hb1.mono HBW.out.size)); clear hb1)
        | (go_at_call 27; (with_reducible refine hm.mono ?_); clear hm; rintro e v2 ⟨rfl, hb2⟩; have HV2 := Lib.hid (HV1.out.trans (hb2.mono HV1.out.size)); have hwn := HWn.out v2 (HBW.out.trans (HV2.out.mono HBW.out.size)); clear hb2)
        | (go_at_call 28; (with_reducible refine hwn.mono ?_); clear hwn; rintro e v3 ⟨rfl, hb3⟩; have HV3 := Lib.hid (HV2.out.trans (hb3.mono HV2.out.size)); have hcn := HCn.out v3 (HBW.out.trans (HV3.out.mono HBW.out.size)); clear hb3)
        | (go_at_call 29; (with_reducible refine hcn.mono ?_); clear hcn; rintro e v4 ⟨rfl, hb4⟩; have HV4 := Lib.hid (HV3.out.trans (hb4.mono HV3.out.size)); have hsn := HSn.out v4 (HBW.out.trans (HV4.out.mono HBW.out.size)); clear hb4)
        | (go_at_call 30; (with_reducible refine hsn.mono ?_); clear hsn; rintro e v5 ⟨rfl, hb5⟩; have HV5 := Lib.hid (HV4.out.trans (hb5.mono HV4.out.size)); clear hb5))
      have HT : Hid (Below wA.heap.size wA v5) := Lib.hid (HB1.out.trans ((HZ.out.2.trans ((HBW.out.trans (HV5.out.mono HBW.out.size)).mono HZ.out.2.size)).mono HB1.out.size))
      have HWD : Hid (v5.heap[w5.heap.size]? = some (.deferred (some [])) ∧ w.heap.size ≤ w5.heap.size) := Lib.hid ⟨(HV5.out.block _ (Array.getElem?_eq_some_iff.1 HD0.out.1).1).trans HD0.out.1, by have := HB1.out.size; have := HZ.out.2.size; have := HB5.out.size; have := HBA.out.size; omega⟩
      obtain ⟨D0, hD0⟩ : ∃ D, w5.heap.size = D := ⟨_, rfl⟩
      rw [hD0] at HWD
      have hQ1 := (HT.out.block _ (Array.getElem?_eq_some_iff.1 Q.out.1).1).trans Q.out.1
      have hQ2 := (HT.out.block _ (Array.getElem?_eq_some_iff.1 Q.out.2).1).trans Q.out.2
      have HQ := Lib.hid (And.intro hQ1 hQ2)
      have HL5 := Lib.hid (HBA.out.trans (HT.out.mono HBA.out.size))
      clear hQ1 hQ2 HHas HMn HWn HCn HSn HV1 HV2 HV3 HV4 HD0
      rcases HV.out with ⟨hc, rfl, rfl⟩ | ⟨hc, rfl, bv, rfl, hbv, hvv⟩
      · rw [hc] at hR
        have hn2 := hn 2
        have hl2 := (Array.getElem?_eq_some_iff.1 HQ.out.2).1
        clear hc
        go_wp2_with (first
          | (go_at_call 31; (with_reducible refine (hR _).mono ?_); rintro e w' ⟨rfl, rfl⟩)
          | (go_at_call 13; (with_reducible refine (hn2 _).mono ?_); rintro e w' ⟨rfl, rfl⟩)
          | (go_at_call 15; (with_reducible refine (hw _).mono ?_); rintro e v6 ⟨rfl, hb6⟩; have HV6 := Lib.hid hb6; have h2 := (hb6.block _ hl2).trans HQ.out.2; have f2 := frozen_of_heap h2 0; have k2 := cell_of_heap h2 0; simp only [List.getElem?_toArray, List.getElem?_cons_zero] at k2; have H2 := Lib.hid h2; clear h2 hb6))
        exact endV (b := w.heap.size + 1) (v := false) (fun W' h => by simp [results, Try.results6, go_sem, h]) rfl H2.out ((HV6.out.block _ (Array.getElem?_eq_some_iff.1 HWD.out.1).1).trans HWD.out.1) (HL5.out.trans (HV6.out.mono HL5.out.size)) (by omega) HWD.out.2
      have HC := Lib.hid hc
      rw [hc] at hR
      have HX : Hid (NoV w v5 bv v5.heap.size vn ∧ v5.heap[bv]? = some (.cells #[.int .i64 c, .bool false, .bool false, .bool false, .bool false, .bool false, .bool false, .bool false, .bool false, .bool false] 54 (0, 0)) ∧ w.heap.size + 1 < bv) := Lib.hid (by
        have h1 := (Array.getElem?_eq_some_iff.1 hvv).1
        have hz1 := HZ.out.2.size
        have hwc : Below wc.heap.size wc v5 := HBW.out.trans (HV5.out.mono HBW.out.size)
        refine ⟨?_, (hwc.block _ (by omega)).trans ((HZ.out.2.block _ h1).trans hvv), by have := HSA.out; omega⟩
        rcases HZ.out.1 with e | ⟨bz, e, h, hz⟩
        · exact .inl e
        · have h3 := (hwc.block _ (Array.getElem?_eq_some_iff.1 h).1).trans h
          have h4 := (Array.getElem?_eq_some_iff.1 h3).1
          exact .inr ⟨bz, e, h3, by omega, by omega, by have := HSA.out; omega⟩)
      have hn0 := hn 0
      clear hc hvv hbv HV HB1 HZ HBW HV5 HB5 HVP hlA hl1
      go_upto_region 17 with (go_at_call 31; (with_reducible refine (hR _).mono ?_); rintro e w' ⟨rfl, rfl⟩)
      obtain ⟨w7, hw7⟩ : ∃ v, v5.alloc (.cells #[.int .i64 c, .bool false, .bool false, .bool false, .bool false, .bool false, .bool false, .bool false, .bool false, .bool false] 65) = v := ⟨_, rfl⟩
      have hb7 : Below v5.heap.size v5 w7 := by rw [← hw7]; exact (Below.refl _ _).alloc (Nat.le_refl _) _
      have HM : Hid (VoS w w7 bv v5.heap.size vn c many (fun _ => false) (fun _ => false)) := Lib.hid (by
        have hk : ∀ {b : Nat} {o : Obj}, v5.heap[b]? = some o → w7.heap[b]? = some o := fun {b o} h => (hb7.block _ (Array.getElem?_eq_some_iff.1 h).1).trans h
        have h1 := (Array.getElem?_eq_some_iff.1 HX.out.2.1).1
        exact ⟨hk HQ.out.1, hk HQ.out.2, hk HX.out.2.1, by rw [← hw7]; exact World.alloc_heap_new _ _, HX.out.1.imp id (fun ⟨bz, e, h, r⟩ => ⟨bz, e, hk h, r⟩), ⟨HX.out.2.2, by have := HX.out.2.2; omega, by omega⟩, HL5.out.trans (hb7.mono HL5.out.size)⟩)
      have HWD7 : Hid (w7.heap[D0]? = some (.deferred (some [])) ∧ w.heap.size ≤ D0) := Lib.hid ⟨(hb7.block _ (Array.getElem?_eq_some_iff.1 HWD.out.1).1).trans HWD.out.1, HWD.out.2⟩
      obtain ⟨x12, hx12⟩ : ∃ x, v5.heap.size = x := ⟨_, rfl⟩
      rw [hx12] at HM
      rw [hw7, hx12]
      clear hw7 hb7 hx12 HQ HL5 HX HWD HT Q HBA HSA
      have hA := fun (f : Nat → Bool) (x : Int) (W : World) (hW : W.heap[bv]? = some (.cells #[.int .i64 c, .bool (f 0), .bool (f 1), .bool (f 2), .bool (f 3), .bool (f 4), .bool (f 5), .bool (f 6), .bool (f 7), .bool (f 8)] 54 (0, 0))) => Add_any bv c x f W hW HC.out
      have hrA := fun (x : Int) (f : Nat → Bool) (W : World) => rAdd_any c x f W HC.out
      have HA := Lib.hid hA
      clear hA
      go_upto_region 18 with fail
      go_loopw [13] (fun v13 wr => ∃ (i : Nat) (f : Nat → Bool), i ≤ n1 ∧ v13 = .int .i64 (i : Int) ∧ Hid (VoS w wr bv x12 vn c many f f ∧ (∀ q : Nat, f q = true → (q : Int) < c) ∧ wr.heap[D0]? = some (.deferred (some [])))) (fun v13 _ => n1 - (RowKit.intOf v13).toNat)
      case atStart => exact ⟨0, _, Nat.zero_le _, rfl, Lib.hid ⟨HM.out, (fun q h => by cases h), HWD7.out.1⟩⟩
      case round =>
        obtain ⟨wo, rfl⟩ : ∃ wo : World, wo = wr := ⟨_, rfl⟩
        obtain ⟨i, f, hi, rfl, HI⟩ := hrel
        clear HM
        by_cases hlt : i < n1
        · have hkx : i < l1.length := by rw [HE1.out]; exact hlt
          rcases HR1.out with e | ⟨g, off, rfl, hg, hcl⟩
          · rw [e] at hkx; simp at hkx
          have c0 := (HI.out.1.l.cell (p := ⟨g, off + i, none⟩) hg).trans (hcl i hkx)
          obtain ⟨x, hx⟩ : ∃ x, l1[i] = x := ⟨_, rfl⟩
          rw [hx] at c0
          have hgl := Nat.lt_of_lt_of_le hg HI.out.1.l.size
          have HSo : Hid (∀ W, Below wo.heap.size wo W → (W.cell? ⟨x12, 0, none⟩ = some (.int .i64 c) ∧ W.cell? ⟨x12, 1, none⟩ = some (.bool (f 0)) ∧ W.cell? ⟨x12, 2, none⟩ = some (.bool (f 1)) ∧ W.cell? ⟨x12, 3, none⟩ = some (.bool (f 2)) ∧ W.cell? ⟨x12, 4, none⟩ = some (.bool (f 3)) ∧ W.cell? ⟨x12, 5, none⟩ = some (.bool (f 4)) ∧ W.cell? ⟨x12, 6, none⟩ = some (.bool (f 5)) ∧ W.cell? ⟨x12, 7, none⟩ = some (.bool (f 6)) ∧ W.cell? ⟨x12, 8, none⟩ = some (.bool (f 7)) ∧ W.cell? ⟨x12, 9, none⟩ = some (.bool (f 8))) ∧ W.cell? ⟨g, off + i, none⟩ = some (.int .i64 x)) := Lib.hid fun W hb => ⟨cells10r (HI.out.1.keep hb).x, cell_keep hb hgl c0⟩
          have zo := HSo.out wo (Below.refl _ _)
          clear hcl hx
          go_upto_region 20 with fail
          go_cut [14, 15, 16] from 98 to 107 (fun s14 s15 s16 wx => ∃ x14 : Nat, s14 = .pointer (some ⟨x14, 0, none⟩) ∧ s15 = .bool (adB c x f) ∧ s16 = .int .i64 (adE c x) ∧ Hid (wx.heap[x14]? = some (.cells #[.int .i64 c, .bool ((adF c x f) 0), .bool ((adF c x f) 1), .bool ((adF c x f) 2), .bool ((adF c x f) 3), .bool ((adF c x f) 4), .bool ((adF c x f) 5), .bool ((adF c x f) 6), .bool ((adF c x f) 7), .bool ((adF c x f) 8)] 65 (0, 0)) ∧ Below wo.heap.size wo wx ∧ wo.heap.size ≤ x14))
          case first =>
            refine wp_alive ?_
            have hS0 : (fun W => (W.cell? ⟨x12, 0, none⟩ = some (.int .i64 c) ∧ W.cell? ⟨x12, 1, none⟩ = some (.bool (f 0)) ∧ W.cell? ⟨x12, 2, none⟩ = some (.bool (f 1)) ∧ W.cell? ⟨x12, 3, none⟩ = some (.bool (f 2)) ∧ W.cell? ⟨x12, 4, none⟩ = some (.bool (f 3)) ∧ W.cell? ⟨x12, 5, none⟩ = some (.bool (f 4)) ∧ W.cell? ⟨x12, 6, none⟩ = some (.bool (f 5)) ∧ W.cell? ⟨x12, 7, none⟩ = some (.bool (f 6)) ∧ W.cell? ⟨x12, 8, none⟩ = some (.bool (f 7)) ∧ W.cell? ⟨x12, 9, none⟩ = some (.bool (f 8))) ∧ W.cell? ⟨g, off + i, none⟩ = some (.int .i64 x)) wo.drew := zo
            refine wp_region_held_drew (S := fun W => (W.cell? ⟨x12, 0, none⟩ = some (.int .i64 c) ∧ W.cell? ⟨x12, 1, none⟩ = some (.bool (f 0)) ∧ W.cell? ⟨x12, 2, none⟩ = some (.bool (f 1)) ∧ W.cell? ⟨x12, 3, none⟩ = some (.bool (f 2)) ∧ W.cell? ⟨x12, 4, none⟩ = some (.bool (f 3)) ∧ W.cell? ⟨x12, 5, none⟩ = some (.bool (f 4)) ∧ W.cell? ⟨x12, 6, none⟩ = some (.bool (f 5)) ∧ W.cell? ⟨x12, 7, none⟩ = some (.bool (f 6)) ∧ W.cell? ⟨x12, 8, none⟩ = some (.bool (f 7)) ∧ W.cell? ⟨x12, 9, none⟩ = some (.bool (f 8))) ∧ W.cell? ⟨g, off + i, none⟩ = some (.int .i64 x)) rfl hS0 (fun hHeld => ?_)
            simp only [List.size_toArray, List.length_cons, List.length_nil, Nat.reduceAdd]
            have HB0 : Hid (Below wo.heap.size wo wo.drew) := Lib.hid (Below.refl _ _).drew
            obtain ⟨V0, hV0⟩ : ∃ V, wo.drew = V := ⟨_, rfl⟩
            rw [hV0] at hHeld hS0 HB0 ⊢
            clear hV0
            refine wpAnyH_take (i := 0) (v := .agg #[.int .i64 c, .bool (f 0), .bool (f 1), .bool (f 2), .bool (f 3), .bool (f 4), .bool (f 5), .bool (f 6), .bool (f 7), .bool (f 8)]) rfl (by kernel_rfl) (by kernel_rfl) (by kernel_rfl) (fun _ _ _ h => (h.1 _ rfl).elim) (Or.inl ⟨by rfl, ?_⟩) (by assumption) ?_
            · intro wx hs1; obtain ⟨⟨s0, s1, s2, s3, s4, s5, s6, s7, s8, s9⟩, t0⟩ := hs1; go_simp
            (try simp only [Act.put, List.getElem_toArray, List.getElem_cons_zero, List.setIfInBounds_toArray, List.set_cons_zero, List.set_cons_succ])
            refine wpAnyH_take (i := 1) (v := .slice (some ⟨g, off, none⟩) n1 c1) rfl (by kernel_rfl) (by kernel_rfl) (by kernel_rfl) (fun _ _ _ h => (h.1 _ rfl).elim) (Or.inl ⟨by rfl, ?_⟩) (by assumption) ?_
            · intro wx hs1; go_simp
            (try simp only [Act.put, List.getElem_toArray, List.getElem_cons_succ, List.getElem_cons_zero, List.setIfInBounds_toArray, List.set_cons_zero, List.set_cons_succ])
            refine wpAnyH_take (i := 2) (v := .int .i64 (i : Int)) rfl (by kernel_rfl) (by kernel_rfl) (by kernel_rfl) (fun _ _ _ h => (h.1 _ rfl).elim) (Or.inl ⟨by rfl, ?_⟩) (by assumption) ?_
            · intro wx hs1; go_simp
            (try simp only [Act.put, List.getElem_toArray, List.getElem_cons_succ, List.getElem_cons_zero, List.setIfInBounds_toArray, List.set_cons_zero, List.set_cons_succ])
            refine wpAnyH_take (i := 3) (v := .pointer (some ⟨g, off + i, none⟩)) rfl (by kernel_rfl) (by kernel_rfl) (by kernel_rfl) (fun _ _ _ h => (h.1 _ rfl).elim) (Or.inl ⟨by rfl, ?_⟩) (by assumption) ?_
            · intro wx hs1; go_simp
            (try simp only [Act.put, List.getElem_toArray, List.getElem_cons_succ, List.getElem_cons_zero, List.setIfInBounds_toArray, List.set_cons_zero, List.set_cons_succ])
            refine wpAnyH_take (i := 4) (v := .int .i64 x) rfl (by kernel_rfl) (by kernel_rfl) (by kernel_rfl) (fun _ _ _ h => (h.1 _ rfl).elim) (Or.inl ⟨by rfl, ?_⟩) (by assumption) ?_
            · intro wx hs1; obtain ⟨⟨s0, s1, s2, s3, s4, s5, s6, s7, s8, s9⟩, t0⟩ := hs1; go_simp
            (try simp only [Act.put, List.getElem_toArray, List.getElem_cons_succ, List.getElem_cons_zero, List.setIfInBounds_toArray, List.set_cons_zero, List.set_cons_succ])
            refine wpAnyH_ready (rs := [5, 10]) (by kernel_rfl) (by simp) (AllReadyH.cons rfl (fun K hK => ?_) (AllReadyH.cons rfl (fun K hK => ?_) AllReadyH.nil))
            · go_simp
              go_at_call 32
              (with_reducible refine (hrA _ _ _).mono ?_)
              rintro e w9 ⟨rfl, hb9⟩
              try dsimp only
              have hb9o : Below wo.heap.size wo w9 := HB0.out.trans (hb9.mono HB0.out.size)
              refine hK.out _ _ (HSo.out _ hb9o) (fun _ => ?_)
              clear hK K hb9
              (try simp only [Act.put, List.getElem_toArray, List.getElem_cons_succ, List.getElem_cons_zero, List.setIfInBounds_toArray, List.set_cons_zero, List.set_cons_succ])
              refine wpAnyH_take (i := 6) (v := .tuple #[.agg #[.int .i64 c, .bool ((adF c x f) 0), .bool ((adF c x f) 1), .bool ((adF c x f) 2), .bool ((adF c x f) 3), .bool ((adF c x f) 4), .bool ((adF c x f) 5), .bool ((adF c x f) 6), .bool ((adF c x f) 7), .bool ((adF c x f) 8)], .bool (adB c x f), .int .i64 (adE c x)]) rfl (by kernel_rfl) (by kernel_rfl) (by kernel_rfl) (fun _ _ _ h => (h.1 _ rfl).elim) (Or.inl ⟨by rfl, ?_⟩) (by assumption) ?_
              · intro wx hs1; go_simp
              (try simp only [Act.put, List.getElem_toArray, List.getElem_cons_succ, List.getElem_cons_zero, List.setIfInBounds_toArray, List.set_cons_zero, List.set_cons_succ])
              refine wpAnyH_take (i := 7) (v := .agg #[.int .i64 c, .bool ((adF c x f) 0), .bool ((adF c x f) 1), .bool ((adF c x f) 2), .bool ((adF c x f) 3), .bool ((adF c x f) 4), .bool ((adF c x f) 5), .bool ((adF c x f) 6), .bool ((adF c x f) 7), .bool ((adF c x f) 8)]) rfl (by kernel_rfl) (by kernel_rfl) (by kernel_rfl) (fun _ _ _ h => (h.1 _ rfl).elim) (Or.inl ⟨by rfl, ?_⟩) (by assumption) ?_
              · intro wx hs1; go_simp
              (try simp only [Act.put, List.getElem_toArray, List.getElem_cons_succ, List.getElem_cons_zero, List.setIfInBounds_toArray, List.set_cons_zero, List.set_cons_succ])
              refine wpAnyH_take (i := 8) (v := .bool (adB c x f)) rfl (by kernel_rfl) (by kernel_rfl) (by kernel_rfl) (fun _ _ _ h => (h.1 _ rfl).elim) (Or.inl ⟨by rfl, ?_⟩) (by assumption) ?_
              · intro wx hs1; go_simp
              (try simp only [Act.put, List.getElem_toArray, List.getElem_cons_succ, List.getElem_cons_zero, List.setIfInBounds_toArray, List.set_cons_zero, List.set_cons_succ])
              refine wpAnyH_take (i := 9) (v := .int .i64 (adE c x)) rfl (by kernel_rfl) (by kernel_rfl) (by kernel_rfl) (fun _ _ _ h => (h.1 _ rfl).elim) (Or.inl ⟨by rfl, ?_⟩) (by assumption) ?_
              · intro wx hs1; go_simp
              (try simp only [Act.put, List.getElem_toArray, List.getElem_cons_succ, List.getElem_cons_zero, List.setIfInBounds_toArray, List.set_cons_zero, List.set_cons_succ])
              refine wpAnyH_ready (rs := [10]) (by kernel_rfl) (by simp) (AllReadyH.cons rfl (fun K hK => ?_) AllReadyH.nil)
              go_simp
              have hb9a : Below wo.heap.size wo (w9.alloc (.cells #[.int .i64 0, .bool false, .bool false, .bool false, .bool false, .bool false, .bool false, .bool false, .bool false, .bool false] 65)) := hb9o.alloc hb9o.size _
              try dsimp only
              have hS := HSo.out _ hb9a
              refine hK.out _ _ hS (fun _ => ?_)
              clear hK K
              (try simp only [Act.put, List.getElem_toArray, List.getElem_cons_succ, List.getElem_cons_zero, List.setIfInBounds_toArray, List.set_cons_zero, List.set_cons_succ])
              obtain ⟨VB, hVB⟩ : ∃ v, w9.alloc (.cells #[.int .i64 0, .bool false, .bool false, .bool false, .bool false, .bool false, .bool false, .bool false, .bool false, .bool false] 65) = v := ⟨_, rfl⟩
              have hZA : VB.heap[w9.heap.size]? = some (.cells #[.int .i64 0, .bool false, .bool false, .bool false, .bool false, .bool false, .bool false, .bool false, .bool false, .bool false] 65 (0, 0)) := by rw [← hVB]; exact World.alloc_heap_new _ _
              rw [hVB] at hb9a ⊢
              clear hVB
              have hSB := HSo.out VB hb9a
              have HBW := Lib.hid hb9a
              obtain ⟨x14, hx14'⟩ : ∃ x, w9.heap.size = x := ⟨_, rfl⟩
              have hx14 : wo.heap.size ≤ x14 := by rw [← hx14']; exact hb9o.size
              rw [hx14'] at hZA ⊢
              clear hx14'
              have HZ := Lib.hid hZA
              have f0 := frozen_of_heap HZ.out 0
              have f1 := frozen_of_heap HZ.out 1
              have f2 := frozen_of_heap HZ.out 2
              have f3 := frozen_of_heap HZ.out 3
              have f4 := frozen_of_heap HZ.out 4
              have f5 := frozen_of_heap HZ.out 5
              have f6 := frozen_of_heap HZ.out 6
              have f7 := frozen_of_heap HZ.out 7
              have f8 := frozen_of_heap HZ.out 8
              have f9 := frozen_of_heap HZ.out 9
              obtain ⟨a0, a1, a2, a3, a4, a5, a6, a7, a8, a9⟩ := cells10r (f := fun _ => false) HZ.out
              have HPZ := Lib.hid (put10 HZ.out c (adF c x f))
              have HPB := Lib.hid (but10 VB x14 c (adF c x f))
              refine wpAnyH_ready (rs := [11]) (by kernel_rfl) (by simp) (AllReadyH.cons rfl (fun K hK => ?_) AllReadyH.nil)
              go_simp
              obtain ⟨w10, hw10⟩ : ∃ v, ((((((((((VB.setCell ⟨x14, 0, none⟩ (.int .i64 c)).setCell ⟨x14, 1, none⟩ (.bool ((adF c x f) 0))).setCell ⟨x14, 2, none⟩ (.bool ((adF c x f) 1))).setCell ⟨x14, 3, none⟩ (.bool ((adF c x f) 2))).setCell ⟨x14, 4, none⟩ (.bool ((adF c x f) 3))).setCell ⟨x14, 5, none⟩ (.bool ((adF c x f) 4))).setCell ⟨x14, 6, none⟩ (.bool ((adF c x f) 5))).setCell ⟨x14, 7, none⟩ (.bool ((adF c x f) 6))).setCell ⟨x14, 8, none⟩ (.bool ((adF c x f) 7))).setCell ⟨x14, 9, none⟩ (.bool ((adF c x f) 8))) = v := ⟨_, rfl⟩
              rw [hw10] at HPZ HPB ⊢
              clear hw10 f0 f1 f2 f3 f4 f5 f6 f7 f8 f9 a0 a1 a2 a3 a4 a5 a6 a7 a8 a9
              have hbo : But (fun q => q = x14) wo w10 := (But.of_all HBW.out _).trans HPB.out (fun _ _ e => e)
              have HB10 : Hid (Below wo.heap.size wo w10) := Lib.hid (hbo.to_below (Nat.le_refl _) (fun q e => by have e2 : q = x14 := e; omega))
              try dsimp only
              have hS := HSo.out w10 HB10.out
              refine hK.out _ _ hS (fun _ => ?_)
              clear hK K
              (try simp only [Act.put, List.getElem_toArray, List.getElem_cons_succ, List.getElem_cons_zero, List.setIfInBounds_toArray, List.set_cons_zero, List.set_cons_succ])
              refine wpAnyH_take (i := 12) (v := .bool (adB c x f)) rfl (by kernel_rfl) (by kernel_rfl) (by kernel_rfl) (fun _ _ _ h => (h.1 _ rfl).elim) (Or.inl ⟨by rfl, ?_⟩) (by assumption) ?_
              · intro wx hs1; go_simp
              (try simp only [Act.put, List.getElem_toArray, List.getElem_cons_succ, List.getElem_cons_zero, List.setIfInBounds_toArray, List.set_cons_zero, List.set_cons_succ])
              refine wpAnyH_take (i := 13) (v := .int .i64 (adE c x)) rfl (by kernel_rfl) (by kernel_rfl) (by kernel_rfl) (fun _ _ _ h => (h.1 _ rfl).elim) (Or.inl ⟨by rfl, ?_⟩) (by assumption) ?_
              · intro wx hs1; go_simp
              (try simp only [Act.put, List.getElem_toArray, List.getElem_cons_succ, List.getElem_cons_zero, List.setIfInBounds_toArray, List.set_cons_zero, List.set_cons_succ])
              refine wpAnyH_done (by kernel_rfl) ⟨(fun _ h => by cases h), ?_⟩ _
              go_wp2_with fail
              go_meet
              exact ⟨x14, rfl, rfl, rfl, Lib.hid ⟨HPZ.out, HB10.out, hx14⟩⟩
            · go_simp
              have hbA : Below wo.heap.size wo (V0.alloc (.cells #[.int .i64 0, .bool false, .bool false, .bool false, .bool false, .bool false, .bool false, .bool false, .bool false, .bool false] 65)) := HB0.out.alloc HB0.out.size _
              refine hK.out _ _ (HSo.out _ hbA) (fun _ => ?_)
              clear hK K
              (try simp only [Act.put, List.getElem_toArray, List.getElem_cons_succ, List.getElem_cons_zero, List.setIfInBounds_toArray, List.set_cons_zero, List.set_cons_succ])
              obtain ⟨VA, hVA⟩ : ∃ v, V0.alloc (.cells #[.int .i64 0, .bool false, .bool false, .bool false, .bool false, .bool false, .bool false, .bool false, .bool false, .bool false] 65) = v := ⟨_, rfl⟩
              have hZA : VA.heap[V0.heap.size]? = some (.cells #[.int .i64 0, .bool false, .bool false, .bool false, .bool false, .bool false, .bool false, .bool false, .bool false, .bool false] 65 (0, 0)) := by rw [← hVA]; exact World.alloc_heap_new _ _
              rw [hVA] at hbA ⊢
              clear hVA
              have hSA := HSo.out VA hbA
              obtain ⟨x14, hx14'⟩ : ∃ x, V0.heap.size = x := ⟨_, rfl⟩
              have hx14 : wo.heap.size ≤ x14 := by rw [← hx14']; exact HB0.out.size
              rw [hx14'] at hZA ⊢
              clear hx14'
              refine wpAnyH_ready (rs := [5]) (by kernel_rfl) (by simp) (AllReadyH.cons rfl (fun K hK => ?_) AllReadyH.nil)
              go_simp
              go_at_call 32
              (with_reducible refine (hrA _ _ _).mono ?_)
              rintro e w9 ⟨rfl, hb9⟩
              try dsimp only
              have HBW : Hid (Below wo.heap.size wo w9) := Lib.hid (hbA.trans (hb9.mono hbA.size)); have HZ := Lib.hid ((hb9.block _ (Array.getElem?_eq_some_iff.1 hZA).1).trans hZA); clear hb9; have hS := HSo.out w9 HBW.out
              refine hK.out _ _ hS (fun _ => ?_)
              clear hK K
              (try simp only [Act.put, List.getElem_toArray, List.getElem_cons_succ, List.getElem_cons_zero, List.setIfInBounds_toArray, List.set_cons_zero, List.set_cons_succ])
              refine wpAnyH_take (i := 6) (v := .tuple #[.agg #[.int .i64 c, .bool ((adF c x f) 0), .bool ((adF c x f) 1), .bool ((adF c x f) 2), .bool ((adF c x f) 3), .bool ((adF c x f) 4), .bool ((adF c x f) 5), .bool ((adF c x f) 6), .bool ((adF c x f) 7), .bool ((adF c x f) 8)], .bool (adB c x f), .int .i64 (adE c x)]) rfl (by kernel_rfl) (by kernel_rfl) (by kernel_rfl) (fun _ _ _ h => (h.1 _ rfl).elim) (Or.inl ⟨by rfl, ?_⟩) (by assumption) ?_
              · intro wx hs1; go_simp
              (try simp only [Act.put, List.getElem_toArray, List.getElem_cons_succ, List.getElem_cons_zero, List.setIfInBounds_toArray, List.set_cons_zero, List.set_cons_succ])
              refine wpAnyH_take (i := 7) (v := .agg #[.int .i64 c, .bool ((adF c x f) 0), .bool ((adF c x f) 1), .bool ((adF c x f) 2), .bool ((adF c x f) 3), .bool ((adF c x f) 4), .bool ((adF c x f) 5), .bool ((adF c x f) 6), .bool ((adF c x f) 7), .bool ((adF c x f) 8)]) rfl (by kernel_rfl) (by kernel_rfl) (by kernel_rfl) (fun _ _ _ h => (h.1 _ rfl).elim) (Or.inl ⟨by rfl, ?_⟩) (by assumption) ?_
              · intro wx hs1; go_simp
              (try simp only [Act.put, List.getElem_toArray, List.getElem_cons_succ, List.getElem_cons_zero, List.setIfInBounds_toArray, List.set_cons_zero, List.set_cons_succ])
              refine wpAnyH_take (i := 8) (v := .bool (adB c x f)) rfl (by kernel_rfl) (by kernel_rfl) (by kernel_rfl) (fun _ _ _ h => (h.1 _ rfl).elim) (Or.inl ⟨by rfl, ?_⟩) (by assumption) ?_
              · intro wx hs1; go_simp
              (try simp only [Act.put, List.getElem_toArray, List.getElem_cons_succ, List.getElem_cons_zero, List.setIfInBounds_toArray, List.set_cons_zero, List.set_cons_succ])
              refine wpAnyH_take (i := 9) (v := .int .i64 (adE c x)) rfl (by kernel_rfl) (by kernel_rfl) (by kernel_rfl) (fun _ _ _ h => (h.1 _ rfl).elim) (Or.inl ⟨by rfl, ?_⟩) (by assumption) ?_
              · intro wx hs1; go_simp
              (try simp only [Act.put, List.getElem_toArray, List.getElem_cons_succ, List.getElem_cons_zero, List.setIfInBounds_toArray, List.set_cons_zero, List.set_cons_succ])
              have f0 := frozen_of_heap HZ.out 0
              have f1 := frozen_of_heap HZ.out 1
              have f2 := frozen_of_heap HZ.out 2
              have f3 := frozen_of_heap HZ.out 3
              have f4 := frozen_of_heap HZ.out 4
              have f5 := frozen_of_heap HZ.out 5
              have f6 := frozen_of_heap HZ.out 6
              have f7 := frozen_of_heap HZ.out 7
              have f8 := frozen_of_heap HZ.out 8
              have f9 := frozen_of_heap HZ.out 9
              obtain ⟨a0, a1, a2, a3, a4, a5, a6, a7, a8, a9⟩ := cells10r (f := fun _ => false) HZ.out
              have HPZ := Lib.hid (put10 HZ.out c (adF c x f))
              have HPB := Lib.hid (but10 w9 x14 c (adF c x f))
              refine wpAnyH_ready (rs := [11]) (by kernel_rfl) (by simp) (AllReadyH.cons rfl (fun K hK => ?_) AllReadyH.nil)
              go_simp
              obtain ⟨w10, hw10⟩ : ∃ v, ((((((((((w9.setCell ⟨x14, 0, none⟩ (.int .i64 c)).setCell ⟨x14, 1, none⟩ (.bool ((adF c x f) 0))).setCell ⟨x14, 2, none⟩ (.bool ((adF c x f) 1))).setCell ⟨x14, 3, none⟩ (.bool ((adF c x f) 2))).setCell ⟨x14, 4, none⟩ (.bool ((adF c x f) 3))).setCell ⟨x14, 5, none⟩ (.bool ((adF c x f) 4))).setCell ⟨x14, 6, none⟩ (.bool ((adF c x f) 5))).setCell ⟨x14, 7, none⟩ (.bool ((adF c x f) 6))).setCell ⟨x14, 8, none⟩ (.bool ((adF c x f) 7))).setCell ⟨x14, 9, none⟩ (.bool ((adF c x f) 8))) = v := ⟨_, rfl⟩
              rw [hw10] at HPZ HPB ⊢
              clear hw10 f0 f1 f2 f3 f4 f5 f6 f7 f8 f9 a0 a1 a2 a3 a4 a5 a6 a7 a8 a9
              have hbo : But (fun q => q = x14) wo w10 := (But.of_all HBW.out _).trans HPB.out (fun _ _ e => e)
              have HB10 : Hid (Below wo.heap.size wo w10) := Lib.hid (hbo.to_below (Nat.le_refl _) (fun q e => by have e2 : q = x14 := e; omega))
              try dsimp only
              have hS := HSo.out w10 HB10.out
              refine hK.out _ _ hS (fun _ => ?_)
              clear hK K
              (try simp only [Act.put, List.getElem_toArray, List.getElem_cons_succ, List.getElem_cons_zero, List.setIfInBounds_toArray, List.set_cons_zero, List.set_cons_succ])
              refine wpAnyH_take (i := 12) (v := .bool (adB c x f)) rfl (by kernel_rfl) (by kernel_rfl) (by kernel_rfl) (fun _ _ _ h => (h.1 _ rfl).elim) (Or.inl ⟨by rfl, ?_⟩) (by assumption) ?_
              · intro wx hs1; go_simp
              (try simp only [Act.put, List.getElem_toArray, List.getElem_cons_succ, List.getElem_cons_zero, List.setIfInBounds_toArray, List.set_cons_zero, List.set_cons_succ])
              refine wpAnyH_take (i := 13) (v := .int .i64 (adE c x)) rfl (by kernel_rfl) (by kernel_rfl) (by kernel_rfl) (fun _ _ _ h => (h.1 _ rfl).elim) (Or.inl ⟨by rfl, ?_⟩) (by assumption) ?_
              · intro wx hs1; go_simp
              (try simp only [Act.put, List.getElem_toArray, List.getElem_cons_succ, List.getElem_cons_zero, List.setIfInBounds_toArray, List.set_cons_zero, List.set_cons_succ])
              refine wpAnyH_done (by kernel_rfl) ⟨(fun _ h => by cases h), ?_⟩ _
              go_wp2_with fail
              go_meet
              exact ⟨x14, rfl, rfl, rfl, Lib.hid ⟨HPZ.out, HB10.out, hx14⟩⟩
          case rest =>
            obtain ⟨x14, rfl, rfl, rfl, HN⟩ := hcut
            have HM0 : Hid (VoS w wc bv x12 vn c many f f) := Lib.hid (HI.out.1.keep HN.out.2.1)
            have HD1 : Hid (wc.heap[D0]? = some (.deferred (some []))) := Lib.hid ((HN.out.2.1.block _ (Array.getElem?_eq_some_iff.1 HI.out.2.2).1).trans HI.out.2.2)
            have c2 := (HSo.out wc HN.out.2.1).2
            have hgc := Nat.lt_of_lt_of_le hgl HN.out.2.1.size
            have had := HA.out f x wc HM0.out.v
            have hbv := (Array.getElem?_eq_some_iff.1 HI.out.1.v).1
            have hx12 := (Array.getElem?_eq_some_iff.1 HI.out.1.x).1
            have hgw : g ≠ bv ∧ g ≠ x12 := by have := HM0.out.ne; omega
            have hDne : D0 ≠ bv ∧ D0 ≠ x12 := ⟨(fun e => by have h1 := HM0.out.v; have h2 := HD1.out; rw [e, h1] at h2; cases h2), (fun e => by have h1 := HM0.out.x; have h2 := HD1.out; rw [e, h1] at h2; cases h2)⟩
            have hFC := adF_lt (p := x) HI.out.2.1
            obtain ⟨ff, hff⟩ : ∃ g, adF c x f = g := ⟨_, rfl⟩
            have hhas : hasB ff x = (adE c x == 0) := by
              rw [← hff]
              exact has_ad HC.out HI.out.2.1
            rw [hff] at HN hFC had
            have HFC := Lib.hid hFC
            clear zo HSo hFC
            go_upto_region 22 with (go_at_call 24; refine had.mono ?_; clear had; rintro e w11 ⟨rfl, hv11, hb11⟩; have HM1 := Lib.hid (HM0.out.addV hb11 hv11); have HX14 := Lib.hid (hb11.box HN.out.1 (by have := HN.out.2.2; omega)); have HC11 := Lib.hid ((hb11.cell (p := ⟨g, off + i, none⟩) hgc hgw.1).trans c2); have HD11 := Lib.hid (hb11.box HD1.out hDne.1); have hg11 := Nat.lt_of_lt_of_le hgc hb11.size; clear hv11 hb11)
            obtain ⟨a0, a1, a2, a3, a4, a5, a6, a7, a8, a9⟩ := cells10r HX14.out
            obtain ⟨k0, k1, k2, k3, k4, k5, k6, k7, k8, k9⟩ := cells10r HM1.out.x
            have hZ := put10x HM1.out.x c ff
            have hZB := but10 w11 x12 c ff
            have HZ := Lib.hid hZ
            have HZB := Lib.hid hZB
            clear hZ hZB
            have f0 := frozen_of_heap HM1.out.x 0
            have f1 := frozen_of_heap HM1.out.x 1
            have f2 := frozen_of_heap HM1.out.x 2
            have f3 := frozen_of_heap HM1.out.x 3
            have f4 := frozen_of_heap HM1.out.x 4
            have f5 := frozen_of_heap HM1.out.x 5
            have f6 := frozen_of_heap HM1.out.x 6
            have f7 := frozen_of_heap HM1.out.x 7
            have f8 := frozen_of_heap HM1.out.x 8
            have f9 := frozen_of_heap HM1.out.x 9
            go_upto_region 23 with fail
            obtain ⟨w12, hw12⟩ : ∃ v, ((((((((((w11.setCell ⟨x12, 0, none⟩ (.int .i64 c)).setCell ⟨x12, 1, none⟩ (.bool (ff 0))).setCell ⟨x12, 2, none⟩ (.bool (ff 1))).setCell ⟨x12, 3, none⟩ (.bool (ff 2))).setCell ⟨x12, 4, none⟩ (.bool (ff 3))).setCell ⟨x12, 5, none⟩ (.bool (ff 4))).setCell ⟨x12, 6, none⟩ (.bool (ff 5))).setCell ⟨x12, 7, none⟩ (.bool (ff 6))).setCell ⟨x12, 8, none⟩ (.bool (ff 7))).setCell ⟨x12, 9, none⟩ (.bool (ff 8))) = v := ⟨_, rfl⟩
            rw [hw12] at HZ HZB ⊢
            clear hw12 a0 a1 a2 a3 a4 a5 a6 a7 a8 a9 k0 k1 k2 k3 k4 k5 k6 k7 k8 k9 f0 f1 f2 f3 f4 f5 f6 f7 f8 f9
            have HM2 := Lib.hid (HM1.out.putX HZB.out HZ.out)
            have hc12 := (HZB.out.cell (p := ⟨g, off + i, none⟩) hg11 hgw.2).trans HC11.out
            have hg12 := Nat.lt_of_lt_of_le hg11 HZB.out.size
            have HD12 := Lib.hid (HZB.out.box HD11.out hDne.2)
            have HS2 : Hid (∀ W, Below w12.heap.size w12 W → (W.cell? ⟨x12, 0, none⟩ = some (.int .i64 c) ∧ W.cell? ⟨x12, 1, none⟩ = some (.bool (ff 0)) ∧ W.cell? ⟨x12, 2, none⟩ = some (.bool (ff 1)) ∧ W.cell? ⟨x12, 3, none⟩ = some (.bool (ff 2)) ∧ W.cell? ⟨x12, 4, none⟩ = some (.bool (ff 3)) ∧ W.cell? ⟨x12, 5, none⟩ = some (.bool (ff 4)) ∧ W.cell? ⟨x12, 6, none⟩ = some (.bool (ff 5)) ∧ W.cell? ⟨x12, 7, none⟩ = some (.bool (ff 6)) ∧ W.cell? ⟨x12, 8, none⟩ = some (.bool (ff 7)) ∧ W.cell? ⟨x12, 9, none⟩ = some (.bool (ff 8))) ∧ W.cell? ⟨g, off + i, none⟩ = some (.int .i64 x)) := Lib.hid fun W hb => ⟨cells10r (HM2.out.keep hb).x, cell_keep hb hg12 hc12⟩
            have z2 := HS2.out w12 (Below.refl _ _)
            have hvp := fun W (hb : Below w12.heap.size w12 W) => (show VP W (.pointer (some ⟨bv, 0, none⟩)) c ff from .inr ⟨bv, rfl, (HM2.out.keep hb).v⟩)
            have hMa := fun W hb => Many_any (.pointer (some ⟨bv, 0, none⟩)) c ff W (hvp W hb)
            have hWa := fun W hb => Won_any (.pointer (some ⟨bv, 0, none⟩)) c ff W (hvp W hb)
            have hHa := fun W hb => Has_any (.pointer (some ⟨bv, 0, none⟩)) c ff x W (hvp W hb)
            have hrM := fun W => rMany_any c ff W
            have hrW := fun W => rWon_any c ff W HC.out
            obtain ⟨yb, hyb⟩ : ∃ y, adB c x f = y := ⟨_, rfl⟩
            obtain ⟨ye, hye⟩ : ∃ y, adE c x = y := ⟨_, rfl⟩
            obtain ⟨ym, hym⟩ : ∃ y : Int, (cntF ff 9 : Int) = y := ⟨_, rfl⟩
            obtain ⟨yw, hyw⟩ : ∃ y, wonB c ff = y := ⟨_, rfl⟩
            rw [hhas] at hHa
            rw [hym] at hMa hrM
            rw [hyw] at hWa hrW
            rw [hye] at hHa ⊢
            rw [hyb]
            have HMa := Lib.hid hMa
            have HWa := Lib.hid hWa
            have HHa := Lib.hid hHa
            have j1 : (yb != yb) = false := by simp
            have j2 : (ye != ye) = false := by simp
            have j3 : (ym != ym) = false := by simp
            have j4 : (yw != yw) = false := by simp
            obtain ⟨yz, hyz⟩ : ∃ y, (ye == 0) = y := ⟨_, rfl⟩
            have j5 : (yz != yz) = false := by simp
            rw [hyz] at HHa
            have hny := hn ye
            clear hvp hMa hWa hHa hyb hym hyw hhas hff hye HM0 HM1 HX14 HC11 HD11 HZ HZB
            refine wp_alive ?_
            have hS0 : (fun W => (W.cell? ⟨x12, 0, none⟩ = some (.int .i64 c) ∧ W.cell? ⟨x12, 1, none⟩ = some (.bool (ff 0)) ∧ W.cell? ⟨x12, 2, none⟩ = some (.bool (ff 1)) ∧ W.cell? ⟨x12, 3, none⟩ = some (.bool (ff 2)) ∧ W.cell? ⟨x12, 4, none⟩ = some (.bool (ff 3)) ∧ W.cell? ⟨x12, 5, none⟩ = some (.bool (ff 4)) ∧ W.cell? ⟨x12, 6, none⟩ = some (.bool (ff 5)) ∧ W.cell? ⟨x12, 7, none⟩ = some (.bool (ff 6)) ∧ W.cell? ⟨x12, 8, none⟩ = some (.bool (ff 7)) ∧ W.cell? ⟨x12, 9, none⟩ = some (.bool (ff 8))) ∧ W.cell? ⟨g, off + i, none⟩ = some (.int .i64 x)) w12.drew := z2
            refine wp_region_held_drew (S := fun W => (W.cell? ⟨x12, 0, none⟩ = some (.int .i64 c) ∧ W.cell? ⟨x12, 1, none⟩ = some (.bool (ff 0)) ∧ W.cell? ⟨x12, 2, none⟩ = some (.bool (ff 1)) ∧ W.cell? ⟨x12, 3, none⟩ = some (.bool (ff 2)) ∧ W.cell? ⟨x12, 4, none⟩ = some (.bool (ff 3)) ∧ W.cell? ⟨x12, 5, none⟩ = some (.bool (ff 4)) ∧ W.cell? ⟨x12, 6, none⟩ = some (.bool (ff 5)) ∧ W.cell? ⟨x12, 7, none⟩ = some (.bool (ff 6)) ∧ W.cell? ⟨x12, 8, none⟩ = some (.bool (ff 7)) ∧ W.cell? ⟨x12, 9, none⟩ = some (.bool (ff 8))) ∧ W.cell? ⟨g, off + i, none⟩ = some (.int .i64 x)) rfl hS0 (fun hHeld => ?_)
            simp only [List.size_toArray, List.length_cons, List.length_nil, Nat.reduceAdd]
            have HB0 : Hid (Below w12.heap.size w12 w12.drew) := Lib.hid (Below.refl _ _).drew
            obtain ⟨V0, hV0⟩ : ∃ V, w12.drew = V := ⟨_, rfl⟩
            rw [hV0] at hHeld hS0 HB0 ⊢
            clear hV0
            refine wpAnyH_take (i := 0) (v := .bool yb) rfl (by kernel_rfl) (by kernel_rfl) (by kernel_rfl) (fun _ _ _ h => (h.1 _ rfl).elim) (Or.inl ⟨by rfl, ?_⟩) (by assumption) ?_
            · intro wx hs1; go_simp
            (try simp only [Act.put, List.getElem_toArray, List.getElem_cons_zero, List.setIfInBounds_toArray, List.set_cons_zero, List.set_cons_succ])
            refine wpAnyH_take (i := 1) (v := .bool yb) rfl (by kernel_rfl) (by kernel_rfl) (by kernel_rfl) (fun _ _ _ h => (h.1 _ rfl).elim) (Or.inl ⟨by rfl, ?_⟩) (by assumption) ?_
            · intro wx hs1; go_simp
            (try simp only [Act.put, List.getElem_toArray, List.getElem_cons_succ, List.getElem_cons_zero, List.setIfInBounds_toArray, List.set_cons_zero, List.set_cons_succ])
            refine wpAnyH_take (i := 2) (v := .bool false) rfl (by kernel_rfl) (by kernel_rfl) (by kernel_rfl) (fun _ _ _ h => (h.1 _ rfl).elim) (Or.inl ⟨by rfl, ?_⟩) (by assumption) ?_
            · intro wx hs1; go_simp
            (try simp only [Act.put, List.getElem_toArray, List.getElem_cons_succ, List.getElem_cons_zero, List.setIfInBounds_toArray, List.set_cons_zero, List.set_cons_succ])
            refine wpAnyH_take (i := 3) (v := .bool false) rfl (by kernel_rfl) (by kernel_rfl) (by kernel_rfl) (fun _ _ _ h => (h.1 _ rfl).elim) (Or.inl ⟨by rfl, ?_⟩) (by assumption) ?_
            · intro wx hs1; go_simp
            (try simp only [Act.put, List.getElem_toArray, List.getElem_cons_succ, List.getElem_cons_zero, List.setIfInBounds_toArray, List.set_cons_zero, List.set_cons_succ])
            refine wpAnyH_take (i := 4) (v := .int .i64 ye) rfl (by kernel_rfl) (by kernel_rfl) (by kernel_rfl) (fun _ _ _ h => (h.1 _ rfl).elim) (Or.inl ⟨by rfl, ?_⟩) (by assumption) ?_
            · intro wx hs1; go_simp
            (try simp only [Act.put, List.getElem_toArray, List.getElem_cons_succ, List.getElem_cons_zero, List.setIfInBounds_toArray, List.set_cons_zero, List.set_cons_succ])
            refine wpAnyH_take (i := 6) (v := .int .i64 ye) rfl (by kernel_rfl) (by kernel_rfl) (by kernel_rfl) (fun _ _ _ h => (h.1 _ rfl).elim) (Or.inl ⟨by rfl, ?_⟩) (by assumption) ?_
            · intro wx hs1; go_simp
            (try simp only [Act.put, List.getElem_toArray, List.getElem_cons_succ, List.getElem_cons_zero, List.setIfInBounds_toArray, List.set_cons_zero, List.set_cons_succ])
            refine wpAnyH_ready (rs := [5]) (by kernel_rfl) (by simp) (AllReadyH.cons rfl (fun K hK => ?_) AllReadyH.nil)
            go_simp
            go_at_call 13
            (with_reducible refine (hny _).mono ?_)
            rintro e w' ⟨rfl, rfl⟩
            try dsimp only
            have hS := hS0
            refine hK.out _ _ hS (fun _ => ?_)
            clear hK K
            (try simp only [Act.put, List.getElem_toArray, List.getElem_cons_succ, List.getElem_cons_zero, List.setIfInBounds_toArray, List.set_cons_zero, List.set_cons_succ])
            refine wpAnyH_take (i := 7) (v := .bool false) rfl (by kernel_rfl) (by kernel_rfl) (by kernel_rfl) (fun _ _ _ h => (h.1 _ rfl).elim) (Or.inl ⟨by rfl, ?_⟩) (by assumption) ?_
            · intro wx hs1; go_simp
            (try simp only [Act.put, List.getElem_toArray, List.getElem_cons_succ, List.getElem_cons_zero, List.setIfInBounds_toArray, List.set_cons_zero, List.set_cons_succ])
            refine wpAnyH_take (i := 8) (v := .bool false) rfl (by kernel_rfl) (by kernel_rfl) (by kernel_rfl) (fun _ _ _ h => (h.1 _ rfl).elim) (Or.inl ⟨by rfl, ?_⟩) (by assumption) ?_
            · intro wx hs1; go_simp
            (try simp only [Act.put, List.getElem_toArray, List.getElem_cons_succ, List.getElem_cons_zero, List.setIfInBounds_toArray, List.set_cons_zero, List.set_cons_succ])
            refine wpAnyH_take (i := 9) (v := .bool false) rfl (by kernel_rfl) (by kernel_rfl) (by kernel_rfl) (fun _ _ _ h => (h.1 _ rfl).elim) (Or.inl ⟨by rfl, ?_⟩) (by assumption) ?_
            · intro wx hs1; go_simp
            (try simp only [Act.put, List.getElem_toArray, List.getElem_cons_succ, List.getElem_cons_zero, List.setIfInBounds_toArray, List.set_cons_zero, List.set_cons_succ])
            refine wpAnyH_take (i := 10) (v := .pointer (some ⟨bv, 0, none⟩)) rfl (by kernel_rfl) (by kernel_rfl) (by kernel_rfl) (fun _ _ _ h => (h.1 _ rfl).elim) (Or.inl ⟨by rfl, ?_⟩) (by assumption) ?_
            · intro wx hs1; go_simp
            (try simp only [Act.put, List.getElem_toArray, List.getElem_cons_succ, List.getElem_cons_zero, List.setIfInBounds_toArray, List.set_cons_zero, List.set_cons_succ])
            refine wpAnyH_take (i := 12) (v := .agg #[.int .i64 c, .bool (ff 0), .bool (ff 1), .bool (ff 2), .bool (ff 3), .bool (ff 4), .bool (ff 5), .bool (ff 6), .bool (ff 7), .bool (ff 8)]) rfl (by kernel_rfl) (by kernel_rfl) (by kernel_rfl) (fun _ _ _ h => (h.1 _ rfl).elim) (Or.inl ⟨by rfl, ?_⟩) (by assumption) ?_
            · intro wx hs1; obtain ⟨⟨s0, s1, s2, s3, s4, s5, s6, s7, s8, s9⟩, t0⟩ := hs1; go_simp
            (try simp only [Act.put, List.getElem_toArray, List.getElem_cons_succ, List.getElem_cons_zero, List.setIfInBounds_toArray, List.set_cons_zero, List.set_cons_succ])
            refine wpAnyH_ready (rs := [11]) (by kernel_rfl) (by simp) (AllReadyH.cons rfl (fun K hK => ?_) AllReadyH.nil)
            go_simp
            go_at_call 27
            refine (HMa.out _ HB0.out).mono ?_
            rintro e vr1 ⟨rfl, hb⟩
            try dsimp only
            have HB1 : Hid (Below w12.heap.size w12 vr1) := Lib.hid (HB0.out.trans (hb.mono HB0.out.size)); clear hb; have hS := HS2.out _ HB1.out
            refine hK.out _ _ hS (fun _ => ?_)
            clear hK K
            (try simp only [Act.put, List.getElem_toArray, List.getElem_cons_succ, List.getElem_cons_zero, List.setIfInBounds_toArray, List.set_cons_zero, List.set_cons_succ])
            refine wpAnyH_ready (rs := [13]) (by kernel_rfl) (by simp) (AllReadyH.cons rfl (fun K hK => ?_) AllReadyH.nil)
            go_simp
            go_at_call 33
            (with_reducible refine (hrM _).mono ?_)
            rintro e vr2 ⟨rfl, hb⟩
            try dsimp only
            have HB2 : Hid (Below w12.heap.size w12 vr2) := Lib.hid (HB1.out.trans (hb.mono HB1.out.size)); clear hb; have hS := HS2.out _ HB2.out
            refine hK.out _ _ hS (fun _ => ?_)
            clear hK K
            (try simp only [Act.put, List.getElem_toArray, List.getElem_cons_succ, List.getElem_cons_zero, List.setIfInBounds_toArray, List.set_cons_zero, List.set_cons_succ])
            refine wpAnyH_take (i := 14) (v := .bool false) rfl (by kernel_rfl) (by kernel_rfl) (by kernel_rfl) (fun _ _ _ h => (h.1 _ rfl).elim) (Or.inl ⟨by rfl, ?_⟩) (by assumption) ?_
            · intro wx hs1; go_simp
            (try simp only [Act.put, List.getElem_toArray, List.getElem_cons_succ, List.getElem_cons_zero, List.setIfInBounds_toArray, List.set_cons_zero, List.set_cons_succ])
            refine wpAnyH_take (i := 15) (v := .bool false) rfl (by kernel_rfl) (by kernel_rfl) (by kernel_rfl) (fun _ _ _ h => (h.1 _ rfl).elim) (Or.inl ⟨by rfl, ?_⟩) (by assumption) ?_
            · intro wx hs1; go_simp
            (try simp only [Act.put, List.getElem_toArray, List.getElem_cons_succ, List.getElem_cons_zero, List.setIfInBounds_toArray, List.set_cons_zero, List.set_cons_succ])
            refine wpAnyH_take (i := 16) (v := .bool false) rfl (by kernel_rfl) (by kernel_rfl) (by kernel_rfl) (fun _ _ _ h => (h.1 _ rfl).elim) (Or.inl ⟨by rfl, ?_⟩) (by assumption) ?_
            · intro wx hs1; go_simp
            (try simp only [Act.put, List.getElem_toArray, List.getElem_cons_succ, List.getElem_cons_zero, List.setIfInBounds_toArray, List.set_cons_zero, List.set_cons_succ])
            refine wpAnyH_take (i := 17) (v := .pointer (some ⟨bv, 0, none⟩)) rfl (by kernel_rfl) (by kernel_rfl) (by kernel_rfl) (fun _ _ _ h => (h.1 _ rfl).elim) (Or.inl ⟨by rfl, ?_⟩) (by assumption) ?_
            · intro wx hs1; go_simp
            (try simp only [Act.put, List.getElem_toArray, List.getElem_cons_succ, List.getElem_cons_zero, List.setIfInBounds_toArray, List.set_cons_zero, List.set_cons_succ])
            refine wpAnyH_take (i := 19) (v := .agg #[.int .i64 c, .bool (ff 0), .bool (ff 1), .bool (ff 2), .bool (ff 3), .bool (ff 4), .bool (ff 5), .bool (ff 6), .bool (ff 7), .bool (ff 8)]) rfl (by kernel_rfl) (by kernel_rfl) (by kernel_rfl) (fun _ _ _ h => (h.1 _ rfl).elim) (Or.inl ⟨by rfl, ?_⟩) (by assumption) ?_
            · intro wx hs1; obtain ⟨⟨s0, s1, s2, s3, s4, s5, s6, s7, s8, s9⟩, t0⟩ := hs1; go_simp
            (try simp only [Act.put, List.getElem_toArray, List.getElem_cons_succ, List.getElem_cons_zero, List.setIfInBounds_toArray, List.set_cons_zero, List.set_cons_succ])
            refine wpAnyH_ready (rs := [18]) (by kernel_rfl) (by simp) (AllReadyH.cons rfl (fun K hK => ?_) AllReadyH.nil)
            go_simp
            go_at_call 28
            refine (HWa.out _ HB2.out).mono ?_
            rintro e vr3 ⟨rfl, hb⟩
            try dsimp only
            have HB3 : Hid (Below w12.heap.size w12 vr3) := Lib.hid (HB2.out.trans (hb.mono HB2.out.size)); clear hb; have hS := HS2.out _ HB3.out
            refine hK.out _ _ hS (fun _ => ?_)
            clear hK K
            (try simp only [Act.put, List.getElem_toArray, List.getElem_cons_succ, List.getElem_cons_zero, List.setIfInBounds_toArray, List.set_cons_zero, List.set_cons_succ])
            refine wpAnyH_ready (rs := [20]) (by kernel_rfl) (by simp) (AllReadyH.cons rfl (fun K hK => ?_) AllReadyH.nil)
            go_simp
            go_at_call 34
            (with_reducible refine (hrW _).mono ?_)
            rintro e vr4 ⟨rfl, hb⟩
            try dsimp only
            have HB4 : Hid (Below w12.heap.size w12 vr4) := Lib.hid (HB3.out.trans (hb.mono HB3.out.size)); clear hb; have hS := HS2.out _ HB4.out
            refine hK.out _ _ hS (fun _ => ?_)
            clear hK K
            (try simp only [Act.put, List.getElem_toArray, List.getElem_cons_succ, List.getElem_cons_zero, List.setIfInBounds_toArray, List.set_cons_zero, List.set_cons_succ])
            refine wpAnyH_take (i := 21) (v := .bool false) rfl (by kernel_rfl) (by kernel_rfl) (by kernel_rfl) (fun _ _ _ h => (h.1 _ rfl).elim) (Or.inl ⟨by rfl, ?_⟩) (by assumption) ?_
            · intro wx hs1; go_simp
            (try simp only [Act.put, List.getElem_toArray, List.getElem_cons_succ, List.getElem_cons_zero, List.setIfInBounds_toArray, List.set_cons_zero, List.set_cons_succ])
            refine wpAnyH_take (i := 22) (v := .bool false) rfl (by kernel_rfl) (by kernel_rfl) (by kernel_rfl) (fun _ _ _ h => (h.1 _ rfl).elim) (Or.inl ⟨by rfl, ?_⟩) (by assumption) ?_
            · intro wx hs1; go_simp
            (try simp only [Act.put, List.getElem_toArray, List.getElem_cons_succ, List.getElem_cons_zero, List.setIfInBounds_toArray, List.set_cons_zero, List.set_cons_succ])
            refine wpAnyH_take (i := 23) (v := .bool false) rfl (by kernel_rfl) (by kernel_rfl) (by kernel_rfl) (fun _ _ _ h => (h.1 _ rfl).elim) (Or.inl ⟨by rfl, ?_⟩) (by assumption) ?_
            · intro wx hs1; go_simp
            (try simp only [Act.put, List.getElem_toArray, List.getElem_cons_succ, List.getElem_cons_zero, List.setIfInBounds_toArray, List.set_cons_zero, List.set_cons_succ])
            refine wpAnyH_take (i := 24) (v := .pointer (some ⟨bv, 0, none⟩)) rfl (by kernel_rfl) (by kernel_rfl) (by kernel_rfl) (fun _ _ _ h => (h.1 _ rfl).elim) (Or.inl ⟨by rfl, ?_⟩) (by assumption) ?_
            · intro wx hs1; go_simp
            (try simp only [Act.put, List.getElem_toArray, List.getElem_cons_succ, List.getElem_cons_zero, List.setIfInBounds_toArray, List.set_cons_zero, List.set_cons_succ])
            refine wpAnyH_take (i := 25) (v := .slice (some ⟨g, off, none⟩) n1 c1) rfl (by kernel_rfl) (by kernel_rfl) (by kernel_rfl) (fun _ _ _ h => (h.1 _ rfl).elim) (Or.inl ⟨by rfl, ?_⟩) (by assumption) ?_
            · intro wx hs1; go_simp
            (try simp only [Act.put, List.getElem_toArray, List.getElem_cons_succ, List.getElem_cons_zero, List.setIfInBounds_toArray, List.set_cons_zero, List.set_cons_succ])
            refine wpAnyH_take (i := 26) (v := .int .i64 (i : Int)) rfl (by kernel_rfl) (by kernel_rfl) (by kernel_rfl) (fun _ _ _ h => (h.1 _ rfl).elim) (Or.inl ⟨by rfl, ?_⟩) (by assumption) ?_
            · intro wx hs1; go_simp
            (try simp only [Act.put, List.getElem_toArray, List.getElem_cons_succ, List.getElem_cons_zero, List.setIfInBounds_toArray, List.set_cons_zero, List.set_cons_succ])
            refine wpAnyH_take (i := 27) (v := .pointer (some ⟨g, off + i, none⟩)) rfl (by kernel_rfl) (by kernel_rfl) (by kernel_rfl) (fun _ _ _ h => (h.1 _ rfl).elim) (Or.inl ⟨by rfl, ?_⟩) (by assumption) ?_
            · intro wx hs1; go_simp
            (try simp only [Act.put, List.getElem_toArray, List.getElem_cons_succ, List.getElem_cons_zero, List.setIfInBounds_toArray, List.set_cons_zero, List.set_cons_succ])
            refine wpAnyH_take (i := 28) (v := .int .i64 x) rfl (by kernel_rfl) (by kernel_rfl) (by kernel_rfl) (fun _ _ _ h => (h.1 _ rfl).elim) (Or.inl ⟨by rfl, ?_⟩) (by assumption) ?_
            · intro wx hs1; obtain ⟨⟨s0, s1, s2, s3, s4, s5, s6, s7, s8, s9⟩, t0⟩ := hs1; go_simp
            (try simp only [Act.put, List.getElem_toArray, List.getElem_cons_succ, List.getElem_cons_zero, List.setIfInBounds_toArray, List.set_cons_zero, List.set_cons_succ])
            refine wpAnyH_take (i := 30) (v := .int .i64 ye) rfl (by kernel_rfl) (by kernel_rfl) (by kernel_rfl) (fun _ _ _ h => (h.1 _ rfl).elim) (Or.inl ⟨by rfl, ?_⟩) (by assumption) ?_
            · intro wx hs1; go_simp
            (try simp only [Act.put, List.getElem_toArray, List.getElem_cons_succ, List.getElem_cons_zero, List.setIfInBounds_toArray, List.set_cons_zero, List.set_cons_succ])
            refine wpAnyH_take (i := 31) (v := .bool yz) rfl (by kernel_rfl) (by kernel_rfl) (by kernel_rfl) (fun _ _ _ h => (h.1 _ rfl).elim) (Or.inl ⟨by rfl, ?_⟩) (by assumption) ?_
            · intro wx hs1; go_simp
            (try simp only [Act.put, List.getElem_toArray, List.getElem_cons_succ, List.getElem_cons_zero, List.setIfInBounds_toArray, List.set_cons_zero, List.set_cons_succ])
            refine wpAnyH_ready (rs := [29]) (by kernel_rfl) (by simp) (AllReadyH.cons rfl (fun K hK => ?_) AllReadyH.nil)
            go_simp
            go_at_call 26
            refine (HHa.out _ HB4.out).mono ?_
            rintro e vr6 ⟨rfl, hb⟩
            try dsimp only
            have HB6 : Hid (Below w12.heap.size w12 vr6) := Lib.hid (HB4.out.trans (hb.mono HB4.out.size)); clear hb; have hS := HS2.out _ HB6.out
            refine hK.out _ _ hS (fun _ => ?_)
            clear hK K
            (try simp only [Act.put, List.getElem_toArray, List.getElem_cons_succ, List.getElem_cons_zero, List.setIfInBounds_toArray, List.set_cons_zero, List.set_cons_succ])
            refine wpAnyH_take (i := 32) (v := .bool false) rfl (by kernel_rfl) (by kernel_rfl) (by kernel_rfl) (fun _ _ _ h => (h.1 _ rfl).elim) (Or.inl ⟨by rfl, ?_⟩) (by assumption) ?_
            · intro wx hs1; go_simp
            (try simp only [Act.put, List.getElem_toArray, List.getElem_cons_succ, List.getElem_cons_zero, List.setIfInBounds_toArray, List.set_cons_zero, List.set_cons_succ])
            refine wpAnyH_take (i := 33) (v := .bool false) rfl (by kernel_rfl) (by kernel_rfl) (by kernel_rfl) (fun _ _ _ h => (h.1 _ rfl).elim) (Or.inl ⟨by rfl, ?_⟩) (by assumption) ?_
            · intro wx hs1; go_simp
            (try simp only [Act.put, List.getElem_toArray, List.getElem_cons_succ, List.getElem_cons_zero, List.setIfInBounds_toArray, List.set_cons_zero, List.set_cons_succ])
            refine wpAnyH_done (by kernel_rfl) ⟨(fun _ h => by cases h), ?_⟩ _
            have HE : Hid (VoS w vr6 bv x12 vn c many ff ff ∧ (∀ q : Nat, ff q = true → (q : Int) < c) ∧ vr6.heap[D0]? = some (.deferred (some []))) := Lib.hid ⟨HM2.out.keep HB6.out, HFC.out, (HB6.out.block _ (Array.getElem?_eq_some_iff.1 HD12.out).1).trans HD12.out⟩
            go_wp2
            go_roundw
            case rel => exact ⟨i + 1, _, by omega, by go_num, HE⟩
            case measure => simp [RowKit.intOf]; omega
        · obtain rfl : i = n1 := by omega
          obtain ⟨i3, hi3, hz3, hs3, hy3⟩ := info3
          have hbv := (Array.getElem?_eq_some_iff.1 HI.out.1.v).1
          have hx12 := (Array.getElem?_eq_some_iff.1 HI.out.1.x).1
          have hD0 := (Array.getElem?_eq_some_iff.1 HI.out.2.2).1
          obtain ⟨wG, hwG⟩ : ∃ v, wo.alloc (.cells #[.slice none 0 0] 45) = v := ⟨_, rfl⟩
          have hbG : Below wo.heap.size wo wG := by rw [← hwG]; exact (Below.refl _ _).alloc (Nat.le_refl _) _
          have HP : Hid (VoP w wG bv x12 wo.heap.size D0 vn c many f 0 none 0) := Lib.hid ⟨HI.out.1.keep hbG, by rw [← hwG]; exact World.alloc_heap_new _ _, ⟨rfl, .inl ⟨rfl, rfl⟩⟩, (hbG.block _ hD0).trans HI.out.2.2, by have := HI.out.1.ne; omega, fun bz e => by rcases HI.out.1.z with e2 | ⟨bz2, e2, h2, _⟩; (rw [e2] at e; cases e); (have h3 := (Array.getElem?_eq_some_iff.1 h2).1; rw [e2] at e; simp at e; omega)⟩
          obtain ⟨x19, hx19⟩ : ∃ x, wo.heap.size = x := ⟨_, rfl⟩
          rw [hx19] at HP
          have HFC := Lib.hid HI.out.2.1
          have HWG := Lib.hid hwG
          have HX19 := Lib.hid hx19
          clear hbv hx12 hD0 hwG hbG hx19 HI hrA
          go_upto_region 26 with fail
          rw [HWG.out, HX19.out]
          clear HWG HX19
          go_upto_region 27 with fail
          go_loopw [20] (fun v20 wr => ∃ (p : Nat) (A : Option Addr) (cap : Nat), p ≤ 9 ∧ v20 = .int .i64 (p : Int) ∧ Hid (VoP w wr bv x12 x19 D0 vn c many f p A cap)) (fun v20 _ => 9 - (RowKit.intOf v20).toNat)
          case atStart => exact ⟨0, _, _, Nat.zero_le _, rfl, HP⟩
          case round =>
            obtain ⟨wq, rfl⟩ : ∃ wq : World, wq = wr := ⟨_, rfl⟩
            obtain ⟨p, A, cap, hp, rfl, HQ⟩ := hrel
            clear HP
            by_cases hlt9 : p < 9
            · have hlI : (p : Int) < 9 := by omega
              have HS3 : Hid (∀ W, Below wq.heap.size wq W → W.cell? ⟨x12, 1 + p, none⟩ = some (.bool (f p))) := Lib.hid fun W hb => (set65 (HQ.out.but hb).s.x p hlt9).1
              have zq := HS3.out wq (Below.refl _ _)
              have hHa := fun W (hb : Below wq.heap.size wq W) => (show Calls Try.prog 26 #[.pointer (some ⟨bv, 0, none⟩), .int .i64 (p : Int)] W fun e w' => e = .returned (.bool (f p)) ∧ Below W.heap.size W w' by
                have hh := Has_any (.pointer (some ⟨bv, 0, none⟩)) c f (p : Int) W (.inr ⟨bv, rfl, (HQ.out.but hb).s.v⟩)
                rw [show hasB f (p : Int) = f p by unfold hasB; simp; omega] at hh
                exact hh)
              have hcs : cntF f (p + 1) = cntF f p + (if f p = true then 1 else 0) := rfl
              have hps : plsF f (p + 1) = plsF f p ++ (if f p = true then [(p : Int)] else []) := rfl
              have hcl := cntF_le f p
              obtain ⟨yf, hyf⟩ : ∃ y, f p = y := ⟨_, rfl⟩
              rw [hyf] at hHa HS3 zq hcs hps
              have HHa := Lib.hid hHa
              have HCS := Lib.hid hcs
              have HPS := Lib.hid hps
              have hyy : (yf != yf) = false := by simp
              clear hyf hHa hcs hps
              go_upto_region 29 with fail
              refine wp_alive ?_
              have hS0 : (fun W => W.cell? ⟨x12, 1 + p, none⟩ = some (.bool yf)) wq.drew := zq
              refine wp_region_held_drew (S := fun W => W.cell? ⟨x12, 1 + p, none⟩ = some (.bool yf)) rfl hS0 (fun hHeld => ?_)
              simp only [List.size_toArray, List.length_cons, List.length_nil, Nat.reduceAdd]
              have HB0 : Hid (Below wq.heap.size wq wq.drew) := Lib.hid (Below.refl _ _).drew
              obtain ⟨V0, hV0⟩ : ∃ V, wq.drew = V := ⟨_, rfl⟩
              rw [hV0] at hHeld hS0 HB0 ⊢
              clear hV0
              refine wpAnyH_take (i := 0) (v := .pointer (some ⟨bv, 0, none⟩)) rfl (by kernel_rfl) (by kernel_rfl) (by kernel_rfl) (fun _ _ _ h => (h.1 _ rfl).elim) (Or.inl ⟨by rfl, ?_⟩) (by assumption) ?_
              · intro wx hs1; go_simp
              (try simp only [Act.put, List.getElem_toArray, List.getElem_cons_zero, List.setIfInBounds_toArray, List.set_cons_zero, List.set_cons_succ])
              refine wpAnyH_take (i := 1) (v := .int .i64 (p : Int)) rfl (by kernel_rfl) (by kernel_rfl) (by kernel_rfl) (fun _ _ _ h => (h.1 _ rfl).elim) (Or.inl ⟨by rfl, ?_⟩) (by assumption) ?_
              · intro wx hs1; go_simp
              (try simp only [Act.put, List.getElem_toArray, List.getElem_cons_succ, List.getElem_cons_zero, List.setIfInBounds_toArray, List.set_cons_zero, List.set_cons_succ])
              refine wpAnyH_take (i := 3) (v := .int .i64 (p : Int)) rfl (by kernel_rfl) (by kernel_rfl) (by kernel_rfl) (fun _ _ _ h => (h.1 _ rfl).elim) (Or.inl ⟨by rfl, ?_⟩) (by assumption) ?_
              · intro wx hs1; go_simp
              (try simp only [Act.put, List.getElem_toArray, List.getElem_cons_succ, List.getElem_cons_zero, List.setIfInBounds_toArray, List.set_cons_zero, List.set_cons_succ])
              refine wpAnyH_take (i := 4) (v := .pointer (some ⟨x12, 1, none⟩)) rfl (by kernel_rfl) (by kernel_rfl) (by kernel_rfl) (fun _ _ _ h => (h.1 _ rfl).elim) (Or.inl ⟨by rfl, ?_⟩) (by assumption) ?_
              · intro wx hs1; go_simp
              (try simp only [Act.put, List.getElem_toArray, List.getElem_cons_succ, List.getElem_cons_zero, List.setIfInBounds_toArray, List.set_cons_zero, List.set_cons_succ])
              refine wpAnyH_take (i := 5) (v := .pointer (some ⟨x12, 1 + p, none⟩)) rfl (by kernel_rfl) (by kernel_rfl) (by kernel_rfl) (fun _ _ _ h => (h.1 _ rfl).elim) (Or.inl ⟨by rfl, ?_⟩) (by assumption) ?_
              · intro wx hs1; go_simp
              (try simp only [Act.put, List.getElem_toArray, List.getElem_cons_succ, List.getElem_cons_zero, List.setIfInBounds_toArray, List.set_cons_zero, List.set_cons_succ])
              refine wpAnyH_take (i := 6) (v := .bool yf) rfl (by kernel_rfl) (by kernel_rfl) (by kernel_rfl) (fun _ _ _ h => (h.1 _ rfl).elim) (Or.inl ⟨by rfl, ?_⟩) (by assumption) ?_
              · intro wx hs1; go_simp
              (try simp only [Act.put, List.getElem_toArray, List.getElem_cons_succ, List.getElem_cons_zero, List.setIfInBounds_toArray, List.set_cons_zero, List.set_cons_succ])
              refine wpAnyH_ready (rs := [2]) (by kernel_rfl) (by simp) (AllReadyH.cons rfl (fun K hK => ?_) AllReadyH.nil)
              go_simp
              go_at_call 26
              refine (HHa.out _ HB0.out).mono ?_
              rintro e wr1 ⟨rfl, hb⟩
              try dsimp only
              have HB2 : Hid (Below wq.heap.size wq wr1) := Lib.hid (HB0.out.trans (hb.mono HB0.out.size)); clear hb; have hS := HS3.out _ HB2.out
              refine hK.out _ _ hS (fun _ => ?_)
              clear hK K
              (try simp only [Act.put, List.getElem_toArray, List.getElem_cons_succ, List.getElem_cons_zero, List.setIfInBounds_toArray, List.set_cons_zero, List.set_cons_succ])
              refine wpAnyH_take (i := 7) (v := .bool false) rfl (by kernel_rfl) (by kernel_rfl) (by kernel_rfl) (fun _ _ _ h => (h.1 _ rfl).elim) (Or.inl ⟨by rfl, ?_⟩) (by assumption) ?_
              · intro wx hs1; go_simp
              (try simp only [Act.put, List.getElem_toArray, List.getElem_cons_succ, List.getElem_cons_zero, List.setIfInBounds_toArray, List.set_cons_zero, List.set_cons_succ])
              refine wpAnyH_done (by kernel_rfl) ⟨(fun _ h => by cases h), ?_⟩ _
              have HQ2 := Lib.hid (HQ.out.but HB2.out)
              have k2 := HS3.out wr1 HB2.out
              cases yf with
              | false =>
                have HN : Hid (VoP w wr1 bv x12 x19 D0 vn c many f (p + 1) A cap) := Lib.hid (by
                  have h := HQ2.out
                  have e1 : cntF f (p + 1) = cntF f p := HCS.out
                  have e2 : plsF f (p + 1) = plsF f p := by rw [HPS.out]; exact List.append_nil _
                  exact ⟨h.s, by rw [e1]; exact h.b, by rw [e1, e2]; exact h.o, h.d, h.n, h.z⟩)
                clear HQ HQ2 HPS HCS
                go_wp2
                go_roundw
                case rel => exact ⟨p + 1, _, _, by omega, by go_num, HN⟩
                case measure => simp [RowKit.intOf]; omega
              | true =>
                have hbx := HQ2.out.b
                have k3 := cell_of_heap hbx 0
                have k4 := frozen_of_heap hbx 0
                simp only [List.getElem?_toArray, List.getElem?_cons_zero] at k3
                have hlx := (Array.getElem?_eq_some_iff.1 hbx).1
                obtain ⟨n, hn⟩ : ∃ n, cntF f p = n := ⟨_, rfl⟩
                rw [hn] at k3 hcl
                have HO : Hid (wr1.ownsRow (x19 + 1) 3 1 (.slice A n cap) n ((plsF f p).map fun k => .int .i64 k)) := Lib.hid (by rw [← hn]; exact HQ2.out.o)
                have HNN := Lib.hid hn
                clear hbx hn
                go_wp2_with (at_builtin; refine wpList_append_lies _ rfl (.tmp 168) (.tmp 170) 45 rfl (x19 + 1) 3 i3 _ 1 8 Try.underlying45 hi3 hz3 hs3 hy3 rfl (by decide) (.slice A n cap) n ((plsF f p).map fun k => .int .i64 k) rfl (HO.out.alloc _) ⟨wr1.heap.size, 0, none⟩ 1 1 [.int .i64 (p : Int)] rfl rfl (World.news_of_block (World.alloc_heap_new wr1 _)) (by simp [Value.oneCell']) (by omega) (by unfold maxLen; omega) (by omega) (by simp; omega) _ rfl ?_; intro g cap2 w4 hown hgr hat hlg; have h4 := HQ2.out.box4 HNN.out hgr; have f4 := frozen_of_heap h4 0; have c4 := cell_of_heap h4 0; simp only [List.getElem?_toArray, List.getElem?_cons_zero] at c4; have HPU := Lib.hid (HQ2.out.push HNN.out (by rw [HCS.out, HNN.out]; rfl) (by rw [HPS.out]; rfl) hown hgr); clear hown hgr hat h4)
                go_roundw
                case rel => exact ⟨p + 1, _, _, by omega, by go_num, HPU⟩
                case measure => simp [RowKit.intOf]; omega
            · obtain rfl : p = 9 := by omega
              have hPl := Places_any (.pointer (some ⟨bv, 0, none⟩)) c f wq (.inr ⟨bv, rfl, HQ.out.s.v⟩)
              have hlbv := (Array.getElem?_eq_some_iff.1 HQ.out.s.v).1
              obtain ⟨fv, hfv⟩ : ∃ g, adF c 0 f = g := ⟨_, rfl⟩
              have h9 := cntF_le f 9
              go_wp2_with (first
                | (go_at_call 25; (with_reducible refine hPl.mono ?_); clear hPl; rintro e u1 ⟨bs, rfl, hbsz, hbsc, hb1⟩; have HQ1 := Lib.hid (HQ.out.but hb1); have hbvs : bv ≠ bs := (by omega); have HBS := Lib.hid hbsc; have had := HA.out f 0 u1 HQ1.out.s.v; clear hb1 hbsc hbsz)
                | (go_at_call 24; refine had.mono ?_; clear had; rintro e u2 ⟨rfl, hv2, hb2⟩; rw [hfv] at hv2; have HL2 := Lib.hid (HQ1.out.last HBS.out hbvs hb2 hv2); clear hv2 hb2))
              obtain ⟨N, hN⟩ : ∃ N, cntF f 9 = N := ⟨_, rfl⟩
              have HN := Lib.hid hN
              have hbT : Below u2.heap.size u2 (u2.alloc (.cells #[.int .i64 0] 3)) := (Below.refl _ _).alloc (Nat.le_refl _) _
              obtain ⟨W0, hW0⟩ : ∃ v, u2.alloc (.cells #[.int .i64 0] 3) = v := ⟨_, rfl⟩
              have HS0 : Hid (VoL w W0 bv x19 D0 bs vn c many f fv A cap) := Lib.hid (by rw [← hW0]; exact HL2.out.on hbT)
              have HT0 : Hid (W0.heap[u2.heap.size]? = some (.cells #[.int .i64 0] 3 (0, 0))) := Lib.hid (by rw [← hW0]; exact World.alloc_heap_new _ _)
              obtain ⟨xt0, hxt0⟩ : ∃ x, u2.heap.size = x := ⟨_, rfl⟩
              have hlD0 : D0 < u2.heap.size := (Array.getElem?_eq_some_iff.1 HL2.out.d).1
              rw [hxt0] at HT0 hlD0
              have hDb : w.heap.size + 1 < D0 ∧ w.heap.size ≤ D0 := ⟨by
                have h1 := HWD7.out.2
                have h2 : D0 ≠ w.heap.size := fun e => by have h3 := HL2.out.d; rw [e, HL2.out.mn] at h3; cases h3
                have h4 : D0 ≠ w.heap.size + 1 := fun e => by have h3 := HL2.out.d; rw [e, HL2.out.rs] at h3; cases h3
                omega, HWD7.out.2⟩
              rw [hW0, hxt0]
              have hN9 : N ≤ 9 := by omega
              have hc00 : ¬ c = 0 := by have := chB_iff.1 HC.out; omega
              clear hW0 hbT HL2 hxt0 HQ HQ1 HBS hfv hlbv hN HA hR hn hi3 hz3 hs3 hy3 HFC HC h9
              refine wp_loop_rounds 3 ?_
              rw [rounds_succ]
              have kt0 := cell_of_heap HT0.out 0
              have kf0 := frozen_of_heap HT0.out 0
              simp only [List.getElem?_toArray, List.getElem?_cons_zero] at kt0
              have hlB0 : xt0 < W0.heap.size := (Array.getElem?_eq_some_iff.1 HT0.out).1
              obtain ⟨v0, hv0⟩ : ∃ v, W0.alloc (.cells #[.int .i64 0] 3) = v := ⟨_, rfl⟩
              have hsv0 : v0.heap.size = W0.heap.size + 1 := by rw [← hv0]; simp
              have hbv0 : Below W0.heap.size W0 v0 := by rw [← hv0]; exact (Below.refl _ _).alloc (Nat.le_refl _) _
              have hn0 : v0.heap[W0.heap.size]? = some (.cells #[.int .i64 0] 3 (0, 0)) := by rw [← hv0]; exact World.alloc_heap_new _ _
              have HBV0 := Lib.hid hbv0
              have HV0 := Lib.hid hv0
              have HN0 := Lib.hid hn0
              clear hv0 hbv0 hn0
              go_wp2
              rw [HV0.out]
              refine (wpIn_wide (n := 3)).1 ?_
              refine wpIn_range1b (gf := 50) (lb := #[.pointer (some ⟨bs, 0, none⟩)]) rfl (enters_of Try.func50 (by kernel_rfl) rfl)
                (places_seq (f := f) v0 (HS0.out.on HBV0.out).sq (fun q => q = W0.heap.size)) (fun q e => by omega) ?hH ?hrow 181 24 rfl ?hargs
                (fun q W => But (fun b => b = W0.heap.size) v0 W ∧ W.heap[W0.heap.size]? = some (.cells #[.int .i64 (q : Int)] 3 (0, 0)) ∧ q ≤ N ∧ (q = 0 ∨ (q : Int) < many))
                (fun q W => But (fun b => b = W0.heap.size) v0 W ∧ W.heap[W0.heap.size]? = some (.cells #[.int .i64 (q : Int)] 3 (0, 0)) ∧ q ≤ N ∧ 1 ≤ q ∧ many ≤ (q : Int) ∧ (q = 1 ∨ (q : Int) - 1 < many))
                8 ?hI ?hIx ⟨But.refl _ _, HN0.out, Nat.zero_le _, .inl rfl⟩ ?assign ?body _ (fun _ _ h => h) (fun _ _ h => h) ?rest
              case hH => exact fun k args W W' hh _ => hh
              case hrow => exact fun k args W b _ e => e.elim
              case hargs =>
                rintro k args W ⟨p, _, _, _, rfl⟩
                exact ⟨_, rfl⟩
              case hI =>
                rintro q X X' ⟨i1, i2, i3⟩ hb
                exact ⟨i1.trans (But.of_below hb) (fun b h1 h2 => by omega), (hb.block _ (by omega)).trans i2, i3⟩
              case hIx =>
                rintro q X X' ⟨i1, i2, i3⟩ hb
                exact ⟨i1.trans (But.of_below hb) (fun b h1 h2 => by omega), (hb.block _ (by omega)).trans i2, i3⟩
              case assign =>
                intro l0 y X K2 hK2
                simp only [List.setIfInBounds_toArray, List.set_cons_zero, List.set_cons_succ] at hK2 ⊢
                gi_wp2
                exact hK2
              case body =>
                rintro l0 q y X hsz ⟨i1, i2, i3, i4⟩ ⟨p, hp9, hfp, hq, e⟩
                simp only [Array.mk.injEq, List.cons.injEq, and_true] at e
                obtain rfl := e
                simp only [List.setIfInBounds_toArray, List.set_cons_zero, List.set_cons_succ]
                have hbW : Below W0.heap.size W0 X := HBV0.out.trans (i1.to_below (n := W0.heap.size) (by omega) (fun b e => by omega))
                have hSW := HS0.out.on hbW
                have hTW : X.heap[xt0]? = some (.cells #[.int .i64 0] 3 (0, 0)) := (hbW.block _ hlB0).trans HT0.out
                have hqn : q < N := by rw [← HN.out, hq]; exact cntF_lt f hp9 hfp
                have hown := hSW.o
                have hbx := hSW.b
                rw [HN.out] at hown hbx
                obtain ⟨g, cap2, eg, hgb, hgl⟩ := hown.form (by omega)
                injection eg with e1 e2 e3
                rw [e1] at hbx hown
                have c1 : X.cell? ⟨g, q, none⟩ = some (.int .i64 (p : Int)) := by
                  rw [hown.cellAt q (by omega), hq, List.getElem?_map, plsF_get f hp9 hfp]
                  rfl
                have k1 := cell_of_heap i2 0
                have k2 := frozen_of_heap i2 0
                have k3 := cell_of_heap hbx 0
                have k4 := cell_of_heap hTW 0
                have k5 := cell_of_heap hSW.mn 0
                simp only [List.getElem?_toArray, List.getElem?_cons_zero] at k1 k3 k4 k5
                have hq1 : (q : Int) < (N : Int) := by omega
                have hpp : ((p : Int) != (p : Int)) = false := by simp
                have hbq : But (fun b => b = W0.heap.size) X (X.setCell ⟨W0.heap.size, 0, none⟩ (.int .i64 ((q : Int) + 1))) := (But.refl _ _).set ⟨W0.heap.size, 0, none⟩ _ (.inl rfl)
                have hbx2 := heap_setCells (i := 0) (u := .int .i64 ((q : Int) + 1)) i2
                have HBQ : Hid (But (fun b => b = W0.heap.size ∨ rowD #[.int .i64 (p : Int)] b) X (X.setCell ⟨W0.heap.size, 0, none⟩ (.int .i64 ((q : Int) + 1)))) := Lib.hid (hbq.mono (fun b _ e => .inl e))
                have HBI : Hid (But (fun b => b = W0.heap.size) v0 (X.setCell ⟨W0.heap.size, 0, none⟩ (.int .i64 ((q : Int) + 1)))) := Lib.hid (i1.trans hbq (fun b _ e => e))
                have HBX : Hid ((X.setCell ⟨W0.heap.size, 0, none⟩ (.int .i64 ((q : Int) + 1))).heap[W0.heap.size]? = some (.cells #[.int .i64 ((q + 1 : Nat) : Int)] 3 (0, 0))) := Lib.hid (by rw [show ((q + 1 : Nat) : Int) = (q : Int) + 1 by omega]; exact hbx2)
                have HI4 := Lib.hid i4
                have HQN := Lib.hid hqn
                have hne1 : W0.heap.size ≠ xt0 := by omega
                have hqi : (q : Int) ≤ 9 := by omega
                clear hbq hbx2 hbx i1 i2 i4 hSW hTW hown hgb hgl e1 e2 e3 hbW hq hfp
                by_cases hmq : many ≤ (q : Int) + 1
                · gi_wp2
                  exact ⟨HBQ.out, rfl, HBI.out, HBX.out, HQN.out, by omega, by omega, by have := HI4.out; omega⟩
                · gi_wp2
                  exact ⟨trivial, HBQ.out, HBI.out, HBX.out, HQN.out, Or.inr (by omega)⟩
              case rest =>
                intro X hor hD
                obtain ⟨M, i1, i2, hM⟩ : ∃ M : Nat, But (fun b => b = W0.heap.size) v0 X ∧ X.heap[W0.heap.size]? = some (.cells #[.int .i64 (M : Int)] 3 (0, 0)) ∧ (M : Int) = min (N : Int) (max 1 many) := by
                  rcases hor with ⟨q, hS, i1, i2, i3, i4⟩ | ⟨q, hSp, i1, i2, i3, i5, i6, i7⟩
                  · exact ⟨q, i1, i2, by have := HN.out; have := i4; omega⟩
                  · exact ⟨q, i1, i2, by omega⟩
                have hMb : ((M : Int) != min (N : Int) (max 1 many)) = false := by simp [hM]
                clear hM
                have hbW : Below W0.heap.size W0 X := HBV0.out.trans (i1.to_below (n := W0.heap.size) (by omega) (fun b e => by omega))
                have hSW := HS0.out.on hbW
                have hTW : X.heap[xt0]? = some (.cells #[.int .i64 0] 3 (0, 0)) := (hbW.block _ hlB0).trans HT0.out
                have hbx := hSW.b
                rw [HN.out] at hbx
                have k1 := cell_of_heap i2 0
                have k3 := cell_of_heap hbx 0
                have k4 := cell_of_heap hTW 0
                have k5 := cell_of_heap hSW.mn 0
                simp only [List.getElem?_toArray, List.getElem?_cons_zero] at k1 k3 k4 k5
                obtain ⟨W1, hW1⟩ : ∃ Y, X.alloc (.cells #[.int .i64 1] 3) = Y := ⟨_, rfl⟩
                have hbY : Below X.heap.size X W1 := by rw [← hW1]; exact (Below.refl _ _).alloc (Nat.le_refl _) _
                have HS1 : Hid (VoL w W1 bv x19 D0 bs vn c many f fv A cap) := Lib.hid (hSW.on hbY)
                have HT1 : Hid (W1.heap[X.heap.size]? = some (.cells #[.int .i64 1] 3 (0, 0))) := Lib.hid (by rw [← hW1]; exact World.alloc_heap_new _ _)
                have HD1 : Hid (W1.heap[v0.heap.size]? = some (.deferred (some []))) := Lib.hid ((hbY.block _ (Array.getElem?_eq_some_iff.1 hD).1).trans hD)

                have HW1 := Lib.hid hW1
                have hlx0 : W0.heap.size < X.heap.size := (Array.getElem?_eq_some_iff.1 i2).1
                obtain ⟨xt1, hxt1⟩ : ∃ x, X.heap.size = x := ⟨_, rfl⟩
                have hlX1 : v0.heap.size < X.heap.size := (Array.getElem?_eq_some_iff.1 hD).1
                rw [hxt1] at HT1 hlX1 hlx0
                have HXT1 := Lib.hid hxt1
                clear hor hD i1 i2 hbW hSW hTW hbY hbx hW1 hxt1
                go_wp2
                rw [HW1.out, HXT1.out, rounds_succ]
                clear k1 k3 k4 k5 hMb HW1 HXT1
                have kt1 := cell_of_heap HT1.out 0
                have kf1 := frozen_of_heap HT1.out 0
                simp only [List.getElem?_toArray, List.getElem?_cons_zero] at kt1
                have hlB1 : xt1 < W1.heap.size := (Array.getElem?_eq_some_iff.1 HT1.out).1
                obtain ⟨v1, hv1⟩ : ∃ v, W1.alloc (.cells #[.int .i64 0] 3) = v := ⟨_, rfl⟩
                have hsv1 : v1.heap.size = W1.heap.size + 1 := by rw [← hv1]; simp
                have hbv1 : Below W1.heap.size W1 v1 := by rw [← hv1]; exact (Below.refl _ _).alloc (Nat.le_refl _) _
                have hn1 : v1.heap[W1.heap.size]? = some (.cells #[.int .i64 0] 3 (0, 0)) := by rw [← hv1]; exact World.alloc_heap_new _ _
                have HBV1 := Lib.hid hbv1
                have HV1 := Lib.hid hv1
                have HN1 := Lib.hid hn1
                clear hv1 hbv1 hn1
                go_wp2
                rw [HV1.out]
                refine (wpIn_wide (n := 3)).1 ?_
                refine wpIn_range1b (gf := 50) (lb := #[.pointer (some ⟨bs, 0, none⟩)]) rfl (enters_of Try.func50 (by kernel_rfl) rfl)
                  (places_seq (f := f) v1 (HS1.out.on HBV1.out).sq (fun q => q = W1.heap.size)) (fun q e => by omega) ?hH ?hrow 181 24 rfl ?hargs
                  (fun q W => But (fun b => b = W1.heap.size) v1 W ∧ W.heap[W1.heap.size]? = some (.cells #[.int .i64 (q : Int)] 3 (0, 0)) ∧ q ≤ N ∧ True)
                  (fun q W => But (fun b => b = W1.heap.size) v1 W ∧ W.heap[W1.heap.size]? = some (.cells #[.int .i64 (q : Int)] 3 (0, 0)) ∧ q ≤ N ∧ False)
                  8 ?hI ?hIx ⟨But.refl _ _, HN1.out, Nat.zero_le _, trivial⟩ ?assign ?body _ (fun _ _ h => h) (fun _ _ h => h) ?rest
                case hH => exact fun k args W W' hh _ => hh
                case hrow => exact fun k args W b _ e => e.elim
                case hargs =>
                  rintro k args W ⟨p, _, _, _, rfl⟩
                  exact ⟨_, rfl⟩
                case hI =>
                  rintro q X X' ⟨i1, i2, i3⟩ hb
                  exact ⟨i1.trans (But.of_below hb) (fun b h1 h2 => by omega), (hb.block _ (by omega)).trans i2, i3⟩
                case hIx =>
                  rintro q X X' ⟨i1, i2, i3⟩ hb
                  exact ⟨i1.trans (But.of_below hb) (fun b h1 h2 => by omega), (hb.block _ (by omega)).trans i2, i3⟩
                case assign =>
                  intro l0 y X K2 hK2
                  simp only [List.setIfInBounds_toArray, List.set_cons_zero, List.set_cons_succ] at hK2 ⊢
                  gi_wp2
                  exact hK2
                case body =>
                  rintro l0 q y X hsz ⟨i1, i2, i3, i4⟩ ⟨p, hp9, hfp, hq, e⟩
                  simp only [Array.mk.injEq, List.cons.injEq, and_true] at e
                  obtain rfl := e
                  simp only [List.setIfInBounds_toArray, List.set_cons_zero, List.set_cons_succ]
                  have hbW : Below W1.heap.size W1 X := HBV1.out.trans (i1.to_below (n := W1.heap.size) (by omega) (fun b e => by omega))
                  have hSW := HS1.out.on hbW
                  have hTW : X.heap[xt1]? = some (.cells #[.int .i64 1] 3 (0, 0)) := (hbW.block _ hlB1).trans HT1.out
                  have hqn : q < N := by rw [← HN.out, hq]; exact cntF_lt f hp9 hfp
                  have hown := hSW.o
                  have hbx := hSW.b
                  rw [HN.out] at hown hbx
                  obtain ⟨g, cap2, eg, hgb, hgl⟩ := hown.form (by omega)
                  injection eg with e1 e2 e3
                  rw [e1] at hbx hown
                  have c1 : X.cell? ⟨g, q, none⟩ = some (.int .i64 (p : Int)) := by
                    rw [hown.cellAt q (by omega), hq, List.getElem?_map, plsF_get f hp9 hfp]
                    rfl
                  have k1 := cell_of_heap i2 0
                  have k2 := frozen_of_heap i2 0
                  have k3 := cell_of_heap hbx 0
                  have k4 := cell_of_heap hTW 0
                  have k5 := cell_of_heap hSW.mn 0
                  simp only [List.getElem?_toArray, List.getElem?_cons_zero] at k1 k3 k4 k5
                  have hq1 : (q : Int) < (N : Int) := by omega
                  have hpp : ((p : Int) != (p : Int)) = false := by simp
                  have hbq : But (fun b => b = W1.heap.size) X (X.setCell ⟨W1.heap.size, 0, none⟩ (.int .i64 ((q : Int) + 1))) := (But.refl _ _).set ⟨W1.heap.size, 0, none⟩ _ (.inl rfl)
                  have hbx2 := heap_setCells (i := 0) (u := .int .i64 ((q : Int) + 1)) i2
                  have HBQ : Hid (But (fun b => b = W1.heap.size ∨ rowD #[.int .i64 (p : Int)] b) X (X.setCell ⟨W1.heap.size, 0, none⟩ (.int .i64 ((q : Int) + 1)))) := Lib.hid (hbq.mono (fun b _ e => .inl e))
                  have HBI : Hid (But (fun b => b = W1.heap.size) v1 (X.setCell ⟨W1.heap.size, 0, none⟩ (.int .i64 ((q : Int) + 1)))) := Lib.hid (i1.trans hbq (fun b _ e => e))
                  have HBX : Hid ((X.setCell ⟨W1.heap.size, 0, none⟩ (.int .i64 ((q : Int) + 1))).heap[W1.heap.size]? = some (.cells #[.int .i64 ((q + 1 : Nat) : Int)] 3 (0, 0))) := Lib.hid (by rw [show ((q + 1 : Nat) : Int) = (q : Int) + 1 by omega]; exact hbx2)
                  have HI4 := Lib.hid i4
                  have HQN := Lib.hid hqn
                  have hne1 : W1.heap.size ≠ xt1 := by omega
                  have hqi : (q : Int) ≤ 9 := by omega
                  clear hbq hbx2 hbx i1 i2 i4 hSW hTW hown hgb hgl e1 e2 e3 hbW hq hfp
                  gi_wp2
                  exact ⟨trivial, HBQ.out, HBI.out, HBX.out, HQN.out, trivial⟩
                case rest =>
                  intro X hor hD
                  obtain ⟨M, i1, i2, hM⟩ : ∃ M : Nat, But (fun b => b = W1.heap.size) v1 X ∧ X.heap[W1.heap.size]? = some (.cells #[.int .i64 (M : Int)] 3 (0, 0)) ∧ (M : Int) = (N : Int) := by
                    rcases hor with ⟨q, hS, i1, i2, i3, i4⟩ | ⟨q, hSp, i1, i2, i3, i4⟩
                    · exact ⟨q, i1, i2, by have := HN.out; omega⟩
                    · exact i4.elim
                  have hMb : ((M : Int) != (N : Int)) = false := by simp [hM]
                  clear hM
                  have hbW : Below W1.heap.size W1 X := HBV1.out.trans (i1.to_below (n := W1.heap.size) (by omega) (fun b e => by omega))
                  have hSW := HS1.out.on hbW
                  have hTW : X.heap[xt1]? = some (.cells #[.int .i64 1] 3 (0, 0)) := (hbW.block _ hlB1).trans HT1.out
                  have hbx := hSW.b
                  rw [HN.out] at hbx
                  have k1 := cell_of_heap i2 0
                  have k3 := cell_of_heap hbx 0
                  have k4 := cell_of_heap hTW 0
                  have k5 := cell_of_heap hSW.mn 0
                  simp only [List.getElem?_toArray, List.getElem?_cons_zero] at k1 k3 k4 k5
                  obtain ⟨W2, hW2⟩ : ∃ Y, X.alloc (.cells #[.int .i64 2] 3) = Y := ⟨_, rfl⟩
                  have hbY : Below X.heap.size X W2 := by rw [← hW2]; exact (Below.refl _ _).alloc (Nat.le_refl _) _
                  have HS2 : Hid (VoL w W2 bv x19 D0 bs vn c many f fv A cap) := Lib.hid (hSW.on hbY)
                  have HT2 : Hid (W2.heap[X.heap.size]? = some (.cells #[.int .i64 2] 3 (0, 0))) := Lib.hid (by rw [← hW2]; exact World.alloc_heap_new _ _)
                  have HD2 : Hid (W2.heap[v1.heap.size]? = some (.deferred (some []))) := Lib.hid ((hbY.block _ (Array.getElem?_eq_some_iff.1 hD).1).trans hD)
                  have HD1b : Hid (W2.heap[v0.heap.size]? = some (.deferred (some []))) := Lib.hid ((hbY.block _ (Array.getElem?_eq_some_iff.1 ((hbW.block _ (Array.getElem?_eq_some_iff.1 HD1.out).1).trans HD1.out)).1).trans ((hbW.block _ (Array.getElem?_eq_some_iff.1 HD1.out).1).trans HD1.out))
                  have HW2 := Lib.hid hW2
                  have hlx1 : W1.heap.size < X.heap.size := (Array.getElem?_eq_some_iff.1 i2).1
                  obtain ⟨xt2, hxt2⟩ : ∃ x, X.heap.size = x := ⟨_, rfl⟩
                  have hlX2 : v1.heap.size < X.heap.size := (Array.getElem?_eq_some_iff.1 hD).1
                  rw [hxt2] at HT2 hlX2 hlx1
                  have HXT2 := Lib.hid hxt2
                  clear hor hD i1 i2 hbW hSW hTW hbY hbx hW2 hxt2
                  go_wp2
                  rw [HW2.out, HXT2.out, rounds_succ]
                  clear k1 k3 k4 k5 hMb HW2 HXT2
                  have kt2 := cell_of_heap HT2.out 0
                  simp only [List.getElem?_toArray, List.getElem?_cons_zero] at kt2
                  have hn0 := hn0
                  have hs1 := fun V (hb : Below W2.heap.size W2 V) => (show Calls Try.prog 30 #[.pointer (some ⟨bv, 0, none⟩), vn] V fun e w' => e = .returned (.bool false) ∧ Below V.heap.size V w' by
                    have h := Same_any (.pointer (some ⟨bv, 0, none⟩)) vn c 0 fv (fun _ => false) V (.inr ⟨bv, rfl, (HS2.out.on hb).v⟩) (HS2.out.on hb).z
                    rw [decide_eq_false hc00, Bool.false_and] at h
                    exact h)
                  have hs2 := fun V (hb : Below W2.heap.size W2 V) => (show Calls Try.prog 30 #[vn, .pointer (some ⟨bv, 0, none⟩)] V fun e w' => e = .returned (.bool false) ∧ Below V.heap.size V w' by
                    have h := Same_any vn (.pointer (some ⟨bv, 0, none⟩)) 0 c (fun _ => false) fv V (HS2.out.on hb).z (.inr ⟨bv, rfl, (HS2.out.on hb).v⟩)
                    rw [decide_eq_false (fun e => hc00 e.symm), Bool.false_and] at h
                    exact h)
                  have ha1 := hs1 W2 (Below.refl _ _)
                  have HSB := Lib.hid hs2
                  clear hs1 hs2
                  go_wp2_with (first
                    | (go_at_call 13; (with_reducible refine (hn0 _).mono ?_); rintro e w' ⟨rfl, rfl⟩)
                    | (go_at_call 30; (with_reducible refine ha1.mono ?_); clear ha1; rintro e z1 ⟨rfl, hb1⟩; have HZ1 := Lib.hid hb1; have ha2 := HSB.out z1 hb1; clear hb1)
                    | (go_at_call 30; (with_reducible refine ha2.mono ?_); clear ha2; rintro e z2 ⟨rfl, hb2⟩; have HZ2 := Lib.hid (HZ1.out.trans (hb2.mono HZ1.out.size)); clear hb2)
                    | (go_at_call 15; (with_reducible refine (hw _).mono ?_); rintro e z3 ⟨rfl, hb3⟩; have HZ3 := Lib.hid (HZ2.out.trans (hb3.mono HZ2.out.size)); clear hb3; have hz := (HS2.out.on HZ3.out).rs; have f2 := frozen_of_heap hz 0; have k2 := cell_of_heap hz 0; simp only [List.getElem?_toArray, List.getElem?_cons_zero] at k2; have HRS := Lib.hid hz; clear hz))
                  have hd2 := HD2.out
                  rw [hsv1] at hd2
                  have hd1 := HD1b.out
                  rw [hsv0] at hd1
                  exact endV3 (b := w.heap.size + 1) (v := false) (D2 := W1.heap.size + 1) (D1 := W0.heap.size + 1) (D0 := D0) (fun W' h => by simp [results, Try.results6, go_sem, h]) rfl (by omega) HRS.out
                    ((HZ3.out.block _ (Array.getElem?_eq_some_iff.1 hd2).1).trans hd2) ((HZ3.out.block _ (Array.getElem?_eq_some_iff.1 hd1).1).trans hd1) (HS2.out.on HZ3.out).d (HS2.out.on HZ3.out).l (by omega) hDb.2 hDb.1
end Go.Proofs
