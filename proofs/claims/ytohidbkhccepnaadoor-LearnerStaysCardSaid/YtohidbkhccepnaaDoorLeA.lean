/-
  learner: ballots as a map's keys; what was heard, as a map; a learner in memory. Conditions: as each theorem names them.
-/
import Derived.DeepKeys4
import Derived.Maps.OwnIn
import Derived.Test.YtohidbkhccepnaaDoorMf
import Derived.Test.YtohidbkhccepnaaDoorBaD
namespace Go.Proofs
open Go Go.RowKit Sm Go.Lib Go.Maps Go.WideMaps
attribute [local go_sem] Oper.semAt_some
theorem Sm.laidOutL : laidOutB Tryd.prog = true := by kernel_rfl
theorem Sm.lawB : Keyed Tryd.prog 37 := Keyed.of_law (deep_law_laid laidOutL (m := 2) (by omega) (of_decide_eq_true (by kernel_rfl)) (by kernel_rfl) (by rw [Tryd.underlying37]))
/-- a ballot's value -/
def Sm.balV (r p : Int) : Value := .agg #[.int .i64 r, .int .i64 p]
noncomputable def Sm.balL (r p : Int) : Lit := (keyOf Tryd.prog 37 (balV r p)).getD (.bool false)
theorem Sm.wf64 {a : Int} (h : I64 a) : (Lit.int .i64 a).wf = true := by
  obtain ⟨h1, h2⟩ := h
  simp only [Lit.wf, Bool.and_eq_true, decide_eq_true_eq]
  exact ⟨by show (-9223372036854775808 : Int) ≤ a; exact h1, by show a ≤ (9223372036854775807 : Int); exact h2⟩
set_option maxRecDepth 100000 in
theorem Sm.bal_key {r p : Int} (ha : I64 r) (hb : I64 p) : keyOf Tryd.prog 37 (balV r p) = some (balL r p) := by
  have h : ∃ l, keyOf Tryd.prog 37 (balV r p) = some l := by
    unfold keyOf balV
    rw [Tryd.underlying37]
    have hk : Tryd.prog.keyType 37 = true := by kernel_rfl
    have hc : Tryd.prog.cellsOf 37 = 2 := by kernel_rfl
    have hf : (Value.agg #[.int .i64 r, .int .i64 p]).formed Tryd.prog 37 = true := by simp [Value.formed, Tryd.underlying37, hc]
    have hc2 : Tryd.prog.cellsOf 2 = 1 := by kernel_rfl
    have hc3 : Tryd.prog.cellsOf 3 = 1 := by kernel_rfl
    have h1 := wf64 ha
    have h2 := wf64 hb
    have hr : Tryd.prog.keyLits (Tryd.prog.types.size + 1) 37 [.int .i64 r, .int .i64 p] = some [.int .i64 r, .int .i64 p] := by
      generalize hq : Tryd.prog.types.size = q
      have hq1 : 0 < q := by
        rw [← hq]
        exact of_decide_eq_true (by kernel_rfl)
      have hq0 : ∃ r, q = r + 1 := ⟨q - 1, by omega⟩
      clear hq
      obtain ⟨d, rfl⟩ := hq0
      have e1 : Tryd.prog.keyLits (d + 1) 2 [.int .i64 r] = some [.int .i64 r] := by
        unfold Program.keyLits
        rw [Tryd.underlying2]
        simp [h1]
      have e2 : Tryd.prog.keyLits (d + 1) 3 [.int .i64 p] = some [.int .i64 p] := by
        unfold Program.keyLits
        rw [Tryd.underlying3]
        simp [h2]
      unfold Program.keyLits
      rw [Tryd.underlying37]
      simp [hc, hc2, hc3, e1, e2]
    simp only [hk, hf, Bool.and_self, if_true]
    exact ⟨_, congrArg (Option.map _) hr⟩
  obtain ⟨l, hl⟩ := h
  rw [hl]
  unfold balL
  rw [hl]
  rfl
theorem Sm.bal_ne {a b c d : Int} (ha : I64 a) (hb : I64 b) (hc : I64 c) (hd : I64 d) (h : ¬ (a = c ∧ b = d)) : balL a b ≠ balL c d := fun e => h (by
  have h1 := bal_key ha hb
  rw [e] at h1
  have h2 := lawB.inj h1 (bal_key hc hd)
  unfold balV at h2
  simpa using h2)
theorem Sm.balL_lit {a b : Int} (ha : I64 a) (hb : I64 b) : WideAt.IsKeyLit (balL a b) := by
  have h := bal_key ha hb
  generalize balL a b = l at h ⊢
  generalize balV a b = v at h
  exact lawB.key h
attribute [irreducible] Sm.balL
/-- an entry -/
structure Sm.EntM where
  k : Int
  m : Int
  n : Int
  t : ByteArray
def Sm.EntM.val (e : EntM) : Value := .agg #[.int .i64 e.k, .int .i64 e.m, .int .i64 e.n, .string e.t]
/-- an entry that a call may bear -/
def Sm.EntM.ok (e : EntM) : Prop := I64 e.k ∧ I64 e.m ∧ I64 e.n ∧ e.t.size ≤ 1000000
def Sm.sameE (a b : EntM) : Bool := decide (a.k = b.k ∧ a.m = b.m ∧ a.n = b.n ∧ a.t = b.t)
theorem Sm.sameE_eq {a b : EntM} (h : sameE a b = true) : a = b := by
  obtain ⟨h1, h2, h3, h4⟩ := of_decide_eq_true h
  cases a; cases b
  simp only at h1 h2 h3 h4
  rw [h1, h2, h3, h4]
theorem Sm.sameE_self (a : EntM) : sameE a a = true := decide_eq_true ⟨rfl, rfl, rfl, rfl⟩
/-- what was heard by a ballot -/
def Sm.hrdV (e : EntM) (f : Nat → Bool) : Value := .agg #[.int .i64 e.k, .int .i64 e.m, .int .i64 e.n, .string e.t, .bool (f 0), .bool (f 1), .bool (f 2), .bool (f 3), .bool (f 4), .bool (f 5), .bool (f 6), .bool (f 7), .bool (f 8)]
/-- by which ballots what was heard -/
abbrev Sm.HrdM := Int → Int → Option (EntM × (Nat → Bool))
structure Sm.HrdIs (M : DataW Value) (K : List (Int × Int)) (g : HrdM) : Prop where
  tidy : Tidy M
  isMap : IsMap M
  len : Maps.size M = K.length
  nodup : K.Nodup
  i64 : ∀ x ∈ K, I64 x.1 ∧ I64 x.2
  keys : ∀ a b, (a, b) ∈ K ↔ (g a b).isSome = true
  here : ∀ a b e f, g a b = some (e, f) → Maps.has M (balL a b) = true ∧ (∀ z, M.atKey (balL a b) z = .held (hrdV e f)) ∧ e.ok
  only : ∀ a b, I64 a → I64 b → g a b = none → Maps.has M (balL a b) = false
theorem Sm.HrdIs.nil : HrdIs (.map []) [] (fun _ _ => none) := ⟨by first | exact Tidy.nil | exact ⟨_, rfl, by simp, by simp⟩ | simp [Tidy], ⟨_, rfl⟩, rfl, List.nodup_nil, fun f hf => (by cases hf), fun a b => by simp, fun a b e f h => (by cases h), fun a b _ _ _ => rfl⟩
def Sm.putG (g : HrdM) (r p : Int) (x : EntM × (Nat → Bool)) : HrdM := fun a b => if a = r ∧ b = p then some x else g a b
theorem Sm.HrdIs.put {M : DataW Value} {K : List (Int × Int)} {g : HrdM} (h : HrdIs M K g) {r p : Int} (ha : I64 r) (hb : I64 p) (e : EntM) (f : Nat → Bool) (he : e.ok) : ∃ K', HrdIs (M.put (balL r p) (.held (hrdV e f))) K' (putG g r p (e, f)) ∧ K'.length ≤ K.length + 1 := by
  have hsz := size_put (k := balL r p) h.tidy (.held (hrdV e f))
  cases hg : g r p with
  | some x =>
    obtain ⟨e0, f0⟩ := x
    have hh := (h.here r p e0 f0 hg).1
    refine ⟨K, ⟨h.tidy.put (balL_lit ha hb) _, h.isMap.put _ _, ?_, h.nodup, h.i64, fun a b => ?_, fun a b e1 f1 h1 => ?_, fun a b i1 i2 h1 => ?_⟩, Nat.le_succ _⟩
    · rw [hh] at hsz
      simp only [if_true] at hsz
      rw [h.len] at hsz
      omega
    · unfold putG
      by_cases hc : a = r ∧ b = p
      · rw [if_pos hc, h.keys, hc.1, hc.2, hg]; simp
      · rw [if_neg hc]; exact h.keys a b
    · unfold putG at h1
      by_cases hc : a = r ∧ b = p
      · rw [if_pos hc] at h1
        injection h1 with h1
        injection h1 with h1 h2
        obtain ⟨rfl, rfl⟩ := hc
        rw [← h1, ← h2]
        exact ⟨has_put_same h.isMap (balL_lit ha hb) _, fun z => atKey_put_same h.isMap (balL_lit ha hb) _ _, he⟩
      · rw [if_neg hc] at h1
        have i := h.i64 (a, b) ((h.keys a b).2 (by rw [h1]; rfl))
        have hk := bal_ne i.1 i.2 ha hb hc
        have q := h.here a b e1 f1 h1
        exact ⟨by rw [has_put_other hk]; exact q.1, fun z => by rw [atKey_put_other hk]; exact q.2.1 z, q.2.2⟩
    · unfold putG at h1
      by_cases hc : a = r ∧ b = p
      · rw [if_pos hc] at h1; cases h1
      · rw [if_neg hc] at h1
        rw [has_put_other (bal_ne i1 i2 ha hb hc)]
        exact h.only a b i1 i2 h1
  | none =>
    have hh := h.only r p ha hb hg
    have hn : (r, p) ∉ K := fun e => by have := (h.keys r p).1 e; rw [hg] at this; cases this
    refine ⟨K ++ [(r, p)], ⟨h.tidy.put (balL_lit ha hb) _, h.isMap.put _ _, ?_, ?_, fun x hx => ?_, fun a b => ?_, fun a b e1 f1 h1 => ?_, fun a b i1 i2 h1 => ?_⟩, by simp⟩
    · rw [hh] at hsz
      simp only [Bool.false_eq_true, if_false] at hsz
      rw [h.len] at hsz
      rw [List.length_append, List.length_singleton]
      omega
    · rw [List.nodup_append]
      exact ⟨h.nodup, by simp, fun x hx y hy e => by
        rw [List.mem_singleton] at hy
        exact hn (hy ▸ e ▸ hx)⟩
    · rcases List.mem_append.1 hx with hx | hx
      · exact h.i64 x hx
      · rw [List.mem_singleton] at hx
        rw [hx]
        exact ⟨ha, hb⟩
    · rw [List.mem_append, List.mem_singleton, h.keys]
      unfold putG
      by_cases hc : a = r ∧ b = p
      · rw [if_pos hc]; simp [hc]
      · rw [if_neg hc]
        exact ⟨fun e => e.elim id (fun e => absurd (by simpa using e) hc), .inl⟩
    · unfold putG at h1
      by_cases hc : a = r ∧ b = p
      · rw [if_pos hc] at h1
        injection h1 with h1
        injection h1 with h1 h2
        obtain ⟨rfl, rfl⟩ := hc
        rw [← h1, ← h2]
        exact ⟨has_put_same h.isMap (balL_lit ha hb) _, fun z => atKey_put_same h.isMap (balL_lit ha hb) _ _, he⟩
      · rw [if_neg hc] at h1
        have i := h.i64 (a, b) ((h.keys a b).2 (by rw [h1]; rfl))
        have hk := bal_ne i.1 i.2 ha hb hc
        have q := h.here a b e1 f1 h1
        exact ⟨by rw [has_put_other hk]; exact q.1, fun z => by rw [atKey_put_other hk]; exact q.2.1 z, q.2.2⟩
    · unfold putG at h1
      by_cases hc : a = r ∧ b = p
      · rw [if_pos hc] at h1; cases h1
      · rw [if_neg hc] at h1
        rw [has_put_other (bal_ne i1 i2 ha hb hc)]
        exact h.only a b i1 i2 h1
theorem Sm.map_keep {P : Program} {k : TypeId} {R : Value → Option (DataW Value × List MemPlace)} {w w' : World} {b n : Nat} {D : DataW Value} (h : w.ownsMap P k R b n D) (e : w'.heap[b]? = w.heap[b]?) : w'.ownsMap P k R b n D := by
  obtain ⟨es, clock, hb, r⟩ := h
  exact ⟨es, clock, e.trans hb, r⟩
theorem Sm.map_tight {P : Program} {k : TypeId} {R : Value → Option (DataW Value × List MemPlace)} {w : World} {b n : Nat} {D : DataW Value} (h : w.ownsMap P k R b n D) : w.ownsMap P k R b (Maps.size D) D := by
  obtain ⟨es, clock, hb, F, _, rfl⟩ := h
  refine ⟨es, clock, hb, F, ?_, rfl⟩
  simp [Maps.size, length_sorted]
/-- no entry -/
def Sm.noE : EntM := ⟨0, 0, 0, ⟨#[]⟩⟩
def Sm.zHrd : Value := .agg #[.int .i64 0, .int .i64 0, .int .i64 0, .string ByteArray.empty, .bool false, .bool false, .bool false, .bool false, .bool false, .bool false, .bool false, .bool false, .bool false]
set_option maxRecDepth 100000 in
theorem Sm.zero58 (w : World) : (zeroValue 58).run Tryd.prog w = .ok zHrd w := by kernel_rfl
theorem Sm.held_inj {v u : Value} {ps : List MemPlace} (h : heldElem v = some (.held u, ps)) : v = u := by
  unfold heldElem at h
  simp only [Option.some.injEq, Prod.mk.injEq, DataW.held.injEq] at h
  exact h.1
theorem Sm.look_yes {w : World} {Mb n : Nat} {M : DataW Value} {K : List (Int × Int)} {g : HrdM} (h : w.ownsMap Tryd.prog 37 heldElem Mb n M) (hK : HrdIs M K g) {r p : Int} {e : EntM} {f : Nat → Bool} (hg : g r p = some (e, f)) (ha : I64 r) (hb : I64 p) :
    (Instr.lookup 48 (.map (some Mb)) (balV r p) true).run Tryd.prog w = .ok (.tuple #[hrdV e f, .bool true]) w := by
  obtain ⟨v, ps, hr, hv⟩ := h.look_ok lawB Tryd.underlying48 (zero58 w) (zd := .held zHrd) (zp := []) rfl (bal_key ha hb)
  have q := hK.here r p e f hg
  rw [q.2.1] at hv
  have hv := held_inj hv
  rw [q.1, hv] at hr
  exact hr
theorem Sm.look_none {w : World} {Mb n : Nat} {M : DataW Value} {K : List (Int × Int)} {g : HrdM} (h : w.ownsMap Tryd.prog 37 heldElem Mb n M) (hK : HrdIs M K g) {r p : Int} (hg : g r p = none) (ha : I64 r) (hb : I64 p) :
    (Instr.lookup 48 (.map (some Mb)) (balV r p) true).run Tryd.prog w = .ok (.tuple #[zHrd, .bool false]) w := by
  obtain ⟨v, ps, hr, hv⟩ := h.look_ok lawB Tryd.underlying48 (zero58 w) (zd := .held zHrd) (zp := []) rfl (bal_key ha hb)
  have q := hK.only r p ha hb hg
  rw [atKey_of_not_has q] at hv
  have hv := held_inj hv
  rw [q, hv] at hr
  exact hr
/-- what a learner knows -/
structure Sm.LSt where
  c : Int
  s : Int
  e : EntM
  kn : Bool
/-- a learner in memory: block p, what was heard in the map Mb -/
structure Sm.LAt (W : World) (p Mb : Nat) (s : LSt) (g : HrdM) (n : Nat) : Prop where
  blk : W.heap[p]? = some (.cells #[.int .i64 s.c, .int .i64 s.s, .int .i64 s.e.k, .int .i64 s.e.m, .int .i64 s.e.n, .string s.e.t, .bool s.kn, .map (some Mb)] 52 (0, 0))
  map : ∃ M K, W.ownsMap Tryd.prog 37 heldElem Mb K.length M ∧ HrdIs M K g ∧ K.length ≤ n
  ne : p ≠ Mb
  ch : chB s.c = true ∧ slB s.s = true
  ok : s.e.ok
theorem Sm.LAt.lt {W : World} {p Mb : Nat} {s : LSt} {g : HrdM} {n : Nat} (h : LAt W p Mb s g n) : p < W.heap.size ∧ Mb < W.heap.size := by
  obtain ⟨M, K, h1, _⟩ := h.map
  exact ⟨(Array.getElem?_eq_some_iff.1 h.blk).1, h1.lt⟩
theorem Sm.LAt.but {W W' : World} {p Mb : Nat} {s : LSt} {g : HrdM} {n : Nat} {S : Nat → Prop} (h : LAt W p Mb s g n) (hb : But S W W') (h1 : ¬ S p) (h2 : ¬ S Mb) : LAt W' p Mb s g n :=
  ⟨hb.box h.blk h1, by
    obtain ⟨M, K, q1, q2⟩ := h.map
    exact ⟨M, K, map_keep q1 (hb.block _ q1.lt h2), q2⟩, h.ne, h.ch, h.ok⟩
theorem Sm.LAt.keep {W W' : World} {p Mb : Nat} {s : LSt} {g : HrdM} {n : Nat} (h : LAt W p Mb s g n) (hb : Below W.heap.size W W') : LAt W' p Mb s g n :=
  h.but (But.of_all hb (fun _ => False)) (fun e => e) (fun e => e)
theorem Sm.eight {w : World} {p : Nat} {a b c d e f g h : Value} {t : TypeId} (hh : w.heap[p]? = some (.cells #[a, b, c, d, e, f, g, h] t (0, 0))) : (w.cell? ⟨p, 0, none⟩ = some a ∧ w.cell? ⟨p, 1, none⟩ = some b ∧ w.cell? ⟨p, 2, none⟩ = some c ∧ w.cell? ⟨p, 3, none⟩ = some d ∧ w.cell? ⟨p, 4, none⟩ = some e ∧ w.cell? ⟨p, 5, none⟩ = some f ∧ w.cell? ⟨p, 6, none⟩ = some g ∧ w.cell? ⟨p, 7, none⟩ = some h)
    ∧ (w.frozen? ⟨p, 0, none⟩ = false ∧ w.frozen? ⟨p, 1, none⟩ = false ∧ w.frozen? ⟨p, 2, none⟩ = false ∧ w.frozen? ⟨p, 3, none⟩ = false ∧ w.frozen? ⟨p, 4, none⟩ = false ∧ w.frozen? ⟨p, 5, none⟩ = false ∧ w.frozen? ⟨p, 6, none⟩ = false ∧ w.frozen? ⟨p, 7, none⟩ = false) :=
  ⟨⟨cell_of_heap hh 0, cell_of_heap hh 1, cell_of_heap hh 2, cell_of_heap hh 3, cell_of_heap hh 4, cell_of_heap hh 5, cell_of_heap hh 6, cell_of_heap hh 7⟩, frozen_of_heap hh 0, frozen_of_heap hh 1, frozen_of_heap hh 2, frozen_of_heap hh 3, frozen_of_heap hh 4, frozen_of_heap hh 5, frozen_of_heap hh 6, frozen_of_heap hh 7⟩
end Go.Proofs
