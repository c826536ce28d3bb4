/-
  The links that are down, as a map and as a list; a net in memory; there, within, isAnywhere, isLink, link, IsDown, Came. Conditions: as each theorem names them.
-/
import Derived.Maps.OwnSet
import Derived.Test.YtkipjlcbmiagcaaNtA
namespace Go.Proofs
open Go Go.RowKit Sm Go.Lib Go.Maps Go.WideMaps
attribute [local go_sem] Oper.semAt_some
/-- values as they are -/
def Sm.heldElem (v : Value) : Option (DataW Value × List MemPlace) := some (.held v, [])
theorem Sm.map_tight {P : Program} {k : TypeId} {R : Value → Option (DataW Value × List MemPlace)} {w : World} {b n : Nat} {D : DataW Value} (h : w.ownsMap P k R b n D) : w.ownsMap P k R b (Maps.size D) D := by
  obtain ⟨es, clock, hb, F, _, rfl⟩ := h
  refine ⟨es, clock, hb, F, ?_, rfl⟩
  simp [Maps.size, length_sorted]
theorem Sm.lnkL_lit {a b : Int} (ha : I64 a) (hb : I64 b) : WideAt.IsKeyLit (lnkL a b) := by
  have h := lnk_key ha hb
  generalize lnkL a b = l at h ⊢
  generalize lnkV a b = v at h
  exact law94.key h
def Sm.unitV : Value := .agg #[]
/-- what the map of links that are down holds -/
structure Sm.LnkIs (M : DataW Value) (D : List (Int × Int)) : Prop where
  tidy : Tidy M
  isMap : IsMap M
  len : Maps.size M = D.length
  nodup : D.Nodup
  i64 : ∀ x ∈ D, I64 x.1 ∧ I64 x.2
  here : ∀ x ∈ D, Maps.has M (lnkL x.1 x.2) = true ∧ ∀ z, M.atKey (lnkL x.1 x.2) z = .held unitV
  only : ∀ a b, I64 a → I64 b → (a, b) ∉ D → Maps.has M (lnkL a b) = false
theorem Sm.LnkIs.has {M : DataW Value} {D : List (Int × Int)} (h : LnkIs M D) {a b : Int} (ha : I64 a) (hb : I64 b) : Maps.has M (lnkL a b) = decide ((a, b) ∈ D) := by
  by_cases e : (a, b) ∈ D
  · rw [decide_eq_true e]; exact (h.here _ e).1
  · rw [decide_eq_false e]; exact h.only a b ha hb e
def Sm.delL (x : Int × Int) (D : List (Int × Int)) : List (Int × Int) := D.filter fun y => !(decide (y = x))
theorem Sm.mem_delL {x y : Int × Int} {D : List (Int × Int)} : y ∈ delL x D ↔ y ∈ D ∧ y ≠ x := by
  unfold delL
  rw [List.mem_filter]
  simp
theorem Sm.len_delL {x : Int × Int} : ∀ {D : List (Int × Int)}, D.Nodup → (delL x D).length + (if x ∈ D then 1 else 0) = D.length
  | [], _ => by simp [delL]
  | y :: r, h => by
    obtain ⟨h1, h2⟩ := List.nodup_cons.1 h
    have ih := len_delL (x := x) h2
    by_cases e : y = x
    · subst e
      have hd : delL y (y :: r) = delL y r := by unfold delL; rw [List.filter_cons_of_neg (by simp)]
      rw [hd, if_pos (List.mem_cons_self ..)]
      rw [if_neg h1] at ih
      simp only [List.length_cons]
      omega
    · have hd : delL x (y :: r) = y :: delL x r := by unfold delL; rw [List.filter_cons_of_pos (by simp [e])]
      have hiff : x ∈ y :: r ↔ x ∈ r := by
        rw [List.mem_cons]
        exact ⟨fun h => h.resolve_left (fun e2 => e e2.symm), .inr⟩
      rw [hd]
      simp only [hiff, List.length_cons]
      omega
theorem Sm.LnkIs.ne {M : DataW Value} {D : List (Int × Int)} (h : LnkIs M D) {y : Int × Int} (hy : y ∈ D) {a b : Int} (ha : I64 a) (hb : I64 b) (e : y ≠ (a, b)) : lnkL y.1 y.2 ≠ lnkL a b :=
  lnk_ne (h.i64 y hy).1 (h.i64 y hy).2 ha hb (fun e2 => e (by obtain ⟨y1, y2⟩ := y; simp only at e2; rw [e2.1, e2.2]))
theorem Sm.LnkIs.del {M : DataW Value} {D : List (Int × Int)} (h : LnkIs M D) {a b : Int} (ha : I64 a) (hb : I64 b) : LnkIs (M.del (lnkL a b)) (delL (a, b) D) := by
  refine ⟨h.tidy.del _, h.isMap.del _, ?_, h.nodup.filter _, fun x hx => h.i64 x (mem_delL.1 hx).1, fun x hx => ?_, fun c d hc hd hn => ?_⟩
  · have h1 := size_del (k := lnkL a b) h.tidy
    have h2 := len_delL (x := (a, b)) h.nodup
    rw [h.has ha hb, h.len] at h1
    by_cases e : (a, b) ∈ D
    · rw [if_pos e] at h2
      simp only [e, decide_true, if_true] at h1
      omega
    · rw [if_neg e] at h2
      simp only [e, decide_false, Bool.false_eq_true, if_false] at h1
      omega
  · obtain ⟨h1, h2⟩ := mem_delL.1 hx
    have hk := h.ne h1 ha hb h2
    exact ⟨by rw [has_del_other hk]; exact (h.here x h1).1, fun z => by rw [atKey_del_other hk]; exact (h.here x h1).2 z⟩
  · by_cases e : c = a ∧ d = b
    · obtain ⟨rfl, rfl⟩ := e; exact has_del_same
    · rw [has_del_other (lnk_ne hc hd ha hb e)]
      exact h.only c d hc hd (fun hm => hn (mem_delL.2 ⟨hm, fun e2 => e (by simpa using e2)⟩))
theorem Sm.LnkIs.put {M : DataW Value} {D : List (Int × Int)} (h : LnkIs M D) {a b : Int} (ha : I64 a) (hb : I64 b) : LnkIs (M.put (lnkL a b) (.held unitV)) (delL (a, b) D ++ [(a, b)]) := by
  have hmem : ∀ {y : Int × Int}, y ∈ delL (a, b) D ++ [(a, b)] ↔ y = (a, b) ∨ (y ∈ D ∧ y ≠ (a, b)) := fun {y} => by
    rw [List.mem_append, mem_delL, List.mem_singleton]
    exact ⟨fun h => h.elim .inr .inl, fun h => h.elim .inr .inl⟩
  refine ⟨h.tidy.put (lnkL_lit ha hb) _, h.isMap.put _ _, ?_, ?_, fun x hx => ?_, fun x hx => ?_, fun c d hc hd hn => ?_⟩
  · have h1 := size_put (k := lnkL a b) h.tidy (.held unitV)
    have h2 := len_delL (x := (a, b)) h.nodup
    rw [h.has ha hb, h.len] at h1
    rw [List.length_append, List.length_singleton]
    by_cases e : (a, b) ∈ D
    · rw [if_pos e] at h2
      simp only [e, decide_true, if_true] at h1
      omega
    · rw [if_neg e] at h2
      simp only [e, decide_false, Bool.false_eq_true, if_false] at h1
      omega
  · rw [List.nodup_append]
    exact ⟨h.nodup.filter _, by simp, fun x hx y hy e => by
      rw [List.mem_singleton] at hy
      exact (mem_delL.1 hx).2 (e.trans hy)⟩
  · rcases hmem.1 hx with rfl | ⟨h1, _⟩
    · exact ⟨ha, hb⟩
    · exact h.i64 x h1
  · rcases hmem.1 hx with rfl | ⟨h1, h2⟩
    · exact ⟨has_put_same h.isMap (lnkL_lit ha hb) _, fun z => atKey_put_same h.isMap (lnkL_lit ha hb) _ _⟩
    · have hk := h.ne h1 ha hb h2
      exact ⟨by rw [has_put_other hk]; exact (h.here x h1).1, fun z => by rw [atKey_put_other hk]; exact (h.here x h1).2 z⟩
  · have e : ¬ (c = a ∧ d = b) := fun e => hn (hmem.2 (.inl (by rw [e.1, e.2])))
    rw [has_put_other (lnk_ne hc hd ha hb e)]
    exact h.only c d hc hd (fun hm => hn (hmem.2 (.inr ⟨hm, fun e2 => e (by simpa using e2)⟩)))
theorem Sm.LnkIs.nil : LnkIs (.map []) [] := ⟨by first | exact Tidy.nil | exact ⟨_, rfl, by simp, by simp⟩ | simp [Tidy], ⟨_, rfl⟩, rfl, List.nodup_nil, fun f hf => (by cases hf), fun f hf => (by cases hf), fun a b _ _ _ => rfl⟩
/-! ### a net in memory -/
/-- a message: its number, ends, bytes, and where these lie -/
structure Sm.MsgM where
  num : Int
  src : Int
  dst : Int
  bytes : List (BitVec 8)
  A : Option Addr
  c : Nat
def Sm.MsgM.sl (m : MsgM) : Value := .slice m.A m.bytes.length m.c
def Sm.MsgM.cells (m : MsgM) : List Value := [.int .i64 m.num, .int .i64 m.src, .int .i64 m.dst, m.sl]
def Sm.cellsM (L : List MsgM) : List Value := L.flatMap MsgM.cells
structure Sm.NSt where
  ends : Int
  most : Int
  came : Int
/-- a net in memory: block p, the links' map Mb, the messages' row X -/
structure Sm.NAt (W : World) (p Mb base : Nat) (s : NSt) (D : List (Int × Int)) (A : Option Addr) (cap : Nat) (L : List MsgM) : Prop where
  blk : W.heap[p]? = some (.cells #[.int .i64 s.ends, .int .i64 s.most, .int .i64 s.came, .map (some Mb), .slice A L.length cap] 35 (0, 0))
  map : ∃ M, W.ownsMap Try.prog 94 heldElem Mb D.length M ∧ LnkIs M D
  row : W.ownsRow base 83 4 (.slice A L.length cap) L.length (cellsM L)
  byt : ∀ m ∈ L, W.ownsRow base 5 1 m.sl m.bytes.length (m.bytes.map byteCell)
  sep : ∀ m ∈ L, ∀ b, m.sl.ownBlock = some b → (Value.slice A L.length cap).ownBlock ≠ some b
  low : p < base ∧ Mb < base ∧ p ≠ Mb ∧ base ≤ W.heap.size
  lim : 1 ≤ s.ends ∧ s.ends ≤ 64 ∧ 1 ≤ s.most ∧ s.most ≤ 4096 ∧ (L.length : Int) ≤ s.most ∧ 0 ≤ s.came ∧ s.came ≤ 1000000000
  lnk : ∀ x ∈ D, 0 ≤ x.1 ∧ x.1 < s.ends ∧ 0 ≤ x.2 ∧ x.2 < s.ends
  msg : ∀ m ∈ L, 0 ≤ m.num ∧ m.num < s.came ∧ 0 ≤ m.src ∧ m.src < s.ends ∧ 0 ≤ m.dst ∧ m.dst < s.ends ∧ m.bytes.length ≤ 8192
theorem Sm.NAt.keep {W W' : World} {p Mb base : Nat} {s : NSt} {D : List (Int × Int)} {A : Option Addr} {cap : Nat} {L : List MsgM} (h : NAt W p Mb base s D A cap L) (hb : Below W.heap.size W W') : NAt W' p Mb base s D A cap L :=
  ⟨(hb.block _ (Array.getElem?_eq_some_iff.1 h.blk).1).trans h.blk, h.map.imp fun _ hD => ⟨map_keep hD.1 (hb.block _ hD.1.lt), hD.2⟩, own_below h.row hb, fun m hm => own_below (h.byt m hm) hb, h.sep, ⟨h.low.1, h.low.2.1, h.low.2.2.1, Nat.le_trans h.low.2.2.2 hb.size⟩, h.lim, h.lnk, h.msg⟩
/-- there is none: nil, or one that no call made -/
def Sm.NoNet (W : World) (v : Value) : Prop := v = .pointer none ∨ ∃ q, v = .pointer (some ⟨q, 0, none⟩) ∧ W.heap[q]? = some (.cells #[.int .i64 0, .int .i64 0, .int .i64 0, .map none, .slice none 0 0] 35 (0, 0))
theorem Sm.NoNet.keep {W W' : World} {v : Value} (h : NoNet W v) (hb : Below W.heap.size W W') : NoNet W' v :=
  h.imp id fun ⟨q, e, hq⟩ => ⟨q, e, (hb.block _ (Array.getElem?_eq_some_iff.1 hq).1).trans hq⟩
theorem Sm.there_yes {p Mb base : Nat} {s : NSt} {D : List (Int × Int)} {A : Option Addr} {cap : Nat} {L : List MsgM} (w : World) (h : NAt w p Mb base s D A cap L) : Calls Try.prog 42 #[.pointer (some ⟨p, 0, none⟩)] w fun e w' => e = .returned (.bool true) ∧ w = w' := by
  have c3 := cell_of_heap h.blk 0
  simp only [List.getElem?_toArray, List.getElem?_cons_zero] at c3
  have hr := h.lim.1
  obtain ⟨R, hR⟩ : ∃ R, s.ends = R := ⟨_, rfl⟩
  rw [hR] at c3 hr
  have hr2 : 0 < R := by omega
  clear hR h
  go_enter Try.func42, Try.ntmps42
  go_wp2
  go_ret
  exact ⟨by rfl, rfl⟩
theorem Sm.there_no {v : Value} (w : World) (h : NoNet w v) : Calls Try.prog 42 #[v] w fun e w' => e = .returned (.bool false) ∧ w = w' := by
  rcases h with rfl | ⟨q, rfl, hq⟩
  · go_enter Try.func42, Try.ntmps42
    go_wp2
    go_ret
    exact ⟨rfl, rfl⟩
  · have c3 := cell_of_heap hq 0
    simp only [List.getElem?_toArray, List.getElem?_cons_zero] at c3
    clear hq
    go_enter Try.func42, Try.ntmps42
    go_wp2
    go_ret
    exact ⟨rfl, rfl⟩
end Go.Proofs
