/-
  A state of the hash in memory: its words, how many bytes were pressed, the block that waits. No condition.
-/
import Derived.Test.YtdpcgfaknbfmmaaDoorPrs
namespace Go.Proofs
open Go.RowKit Sm
namespace Sm
def setAll (L : List Value) : Nat → List Value → List Value
  | _, [] => L
  | o, v :: r => setAll (L.set o v) (o + 1) r
theorem setAll_mid (A : List Value) : ∀ (B' B C : List Value), B'.length = B.length → setAll (A ++ (B ++ C)) A.length B' = A ++ (B' ++ C)
  | [], B, C, h => by
    obtain rfl : B = [] := List.eq_nil_of_length_eq_zero h.symm
    rfl
  | v :: r, B, C, h => by
    cases B with
    | nil => simp at h
    | cons b B =>
      rw [setAll]
      have e : (A ++ (b :: B ++ C)).set A.length v = (A ++ [v]) ++ (B ++ C) := by simp
      rw [e, show A.length + 1 = (A ++ [v]).length by simp, setAll_mid (A ++ [v]) r B C (by simpa using h)]
      simp
theorem blk_setCells (t : TypeId) (b : Nat) : ∀ (vs : List Value) (o : Nat) (L : List Value) (w : World), Blk w b t L.toArray → Blk (w.setCells b o vs) b t (setAll L o vs).toArray
  | [], _, _, _, h => h
  | v :: r, o, L, w, h => by
    rw [World.setCells, setAll]
    refine blk_setCells t b r (o + 1) (L.set o v) _ ?_
    have := heap_setCell_same w b o L.toArray t v h
    have e : L.toArray.setIfInBounds o v = (L.set o v).toArray := by simp
    rw [e] at this
    exact this
theorem but_setCells (b : Nat) : ∀ (vs : List Value) (o : Nat) (w : World), But (fun k => k = b) w (w.setCells b o vs)
  | [], _, w => But.refl _ w
  | v :: r, o, w => by
    rw [World.setCells]
    exact ((But.refl (fun k => k = b) w).set ⟨b, o, none⟩ v (.inl rfl)).trans (but_setCells b r (o + 1) _) (fun _ _ h => h)
theorem Blk.but {w w' : World} {S : Nat → Prop} {b : Nat} {t : TypeId} {cs : Array Value} (h : Blk w b t cs) (hb : But S w w') (hn : ¬ S b) : Blk w' b t cs := hb.box h hn
/-- a block that waits, as it lies -/
def blc (bl : List (BitVec 8)) (sz : Nat) : List Value := bl.map byteCell ++ [.int .i64 (sz : Int)]
/-- a state as it lies -/
def stc (ws : List (BitVec 32)) (p : Nat) (bl : List (BitVec 8)) (sz : Nat) : List Value := wl ws ++ (.int .u64 (p : Int) :: blc bl sz)
theorem blc_length (bl : List (BitVec 8)) (sz : Nat) : (blc bl sz).length = bl.length + 1 := by simp [blc]
theorem stc_length (ws : List (BitVec 32)) (p : Nat) (bl : List (BitVec 8)) (sz : Nat) : (stc ws p bl sz).length = ws.length + bl.length + 2 := by simp [stc, wl, blc]; omega
theorem blc_one (bl : List (BitVec 8)) (sz : Nat) : ∀ v ∈ blc bl sz, v.oneCell' = true := by
  intro v hv
  simp only [blc, List.mem_append, List.mem_map, List.mem_singleton] at hv
  rcases hv with ⟨x, _, rfl⟩ | rfl <;> rfl
theorem stc_one (ws : List (BitVec 32)) (p : Nat) (bl : List (BitVec 8)) (sz : Nat) : ∀ v ∈ stc ws p bl sz, v.oneCell' = true := by
  intro v hv
  simp only [stc, List.mem_append, List.mem_cons] at hv
  rcases hv with h | rfl | h
  · exact wl_one ws v h
  · rfl
  · exact blc_one bl sz v h
/-- a state lies at the head of block g -/
structure St (w : World) (g : Nat) (t : TypeId) (ws : List (BitVec 32)) (p : Nat) (bl : List (BitVec 8)) (sz : Nat) (tail : List Value) : Prop where
  blk : Blk w g t (stc ws p bl sz ++ tail).toArray
  wlen : ws.length = 8
  blen : bl.length = 64
theorem range_of {w : World} {g : Nat} {t : TypeId} {A B C : List Value} (h : Blk w g t (A ++ (B ++ C)).toArray) : w.rangeAt g A.length B := fun j v hv => by
  have hj := (List.getElem?_eq_some_iff.1 hv).1
  rw [h.cell]
  simp only [List.getElem?_toArray]
  rw [List.getElem?_append_right (by omega), List.getElem?_append_left (by omega), Nat.add_sub_cancel_left]
  exact hv
section
variable {w w' : World} {g : Nat} {t : TypeId} {ws : List (BitVec 32)} {p : Nat} {bl : List (BitVec 8)} {sz : Nat} {tail : List Value}
theorem St.keep (h : St w g t ws p bl sz tail) (hb : Below w.heap.size w w') : St w' g t ws p bl sz tail := ⟨h.blk.keep hb, h.wlen, h.blen⟩
theorem St.but {S : Nat → Prop} (h : St w g t ws p bl sz tail) (hb : But S w w') (hn : ¬ S g) : St w' g t ws p bl sz tail := ⟨h.blk.but hb hn, h.wlen, h.blen⟩
theorem St.drew (h : St w g t ws p bl sz tail) : St w.drew g t ws p bl sz tail := ⟨h.blk, h.wlen, h.blen⟩
theorem St.rangeW (h : St w g t ws p bl sz tail) : w.rangeAt g 0 (wl ws) := by
  have := range_of (A := []) (B := wl ws) (C := (.int .u64 (p : Int) :: blc bl sz) ++ tail) (t := t) (g := g) (w := w) (by simpa [stc, List.append_assoc] using h.blk)
  simpa using this
theorem St.rangeAll (h : St w g t ws p bl sz tail) : w.rangeAt g 0 (stc ws p bl sz) := by
  have := range_of (A := []) (B := stc ws p bl sz) (C := tail) (t := t) (g := g) (w := w) (by simpa using h.blk)
  simpa using this
theorem St.rangeB (h : St w g t ws p bl sz tail) : w.rangeAt g 9 (blc bl sz) := by
  have := range_of (A := wl ws ++ [.int .u64 (p : Int)]) (B := blc bl sz) (C := tail) (t := t) (g := g) (w := w) (by simpa [stc, List.append_assoc] using h.blk)
  have e : (wl ws ++ [Value.int .u64 (p : Int)]).length = 9 := by simp [wl, h.wlen]
  rwa [e] at this
theorem St.cellP (h : St w g t ws p bl sz tail) : w.cell? ⟨g, 8, none⟩ = some (.int .u64 (p : Int)) := by
  have := range_of (A := wl ws) (B := [.int .u64 (p : Int)]) (C := blc bl sz ++ tail) (t := t) (g := g) (w := w) (by simpa [stc, List.append_assoc] using h.blk)
  have e : (wl ws).length = 8 := by simp [wl, h.wlen]
  rw [e] at this
  exact this 0 _ rfl
theorem St.cellS (h : St w g t ws p bl sz tail) : w.cell? ⟨g, 73, none⟩ = some (.int .i64 (sz : Int)) := by
  have := h.rangeB 64 (.int .i64 (sz : Int)) (by simp [blc, h.blen])
  exact this
theorem St.frozen (h : St w g t ws p bl sz tail) (j : Nat) : w.frozen? ⟨g, j, none⟩ = false := h.blk.frozen j
theorem St.thereN (h : St w g t ws p bl sz tail) (o n : Nat) (hn : o + n ≤ 74) : w.there g o n := fun j hj => by
  refine ⟨?_, h.frozen _⟩
  rw [h.blk.cell, List.getElem?_toArray, List.getElem?_eq_getElem (by rw [List.length_append, stc_length, h.wlen, h.blen]; omega)]
  rfl
theorem St.setP (h : St w g t ws p bl sz tail) (p' : Nat) : St (w.setCell ⟨g, 8, none⟩ (.int .u64 (p' : Int))) g t ws p' bl sz tail := by
  refine ⟨?_, h.wlen, h.blen⟩
  have h1 := blk_setCells t g [.int .u64 (p' : Int)] 8 _ w h.blk
  have e : setAll (stc ws p bl sz ++ tail) 8 [.int .u64 (p' : Int)] = stc ws p' bl sz ++ tail := by
    have := setAll_mid (wl ws) [.int .u64 (p' : Int)] [.int .u64 (p : Int)] (blc bl sz ++ tail) rfl
    have el : (wl ws).length = 8 := by simp [wl, h.wlen]
    rw [el] at this
    simpa [stc, List.append_assoc] using this
  rw [e] at h1
  exact h1
theorem St.setW (h : St w g t ws p bl sz tail) (ws' : List (BitVec 32)) (hl : ws'.length = 8) : St (w.setCells g 0 (wl ws')) g t ws' p bl sz tail := by
  refine ⟨?_, hl, h.blen⟩
  have h1 := blk_setCells t g (wl ws') 0 _ w h.blk
  have e : setAll (stc ws p bl sz ++ tail) 0 (wl ws') = stc ws' p bl sz ++ tail := by
    have := setAll_mid [] (wl ws') (wl ws) ((.int .u64 (p : Int) :: blc bl sz) ++ tail) (by simp [wl, h.wlen, hl])
    simpa [stc, List.append_assoc] using this
  rw [e] at h1
  exact h1
theorem St.setB (h : St w g t ws p bl sz tail) (bl' : List (BitVec 8)) (sz' : Nat) (hl : bl'.length = 64) : St (w.setCells g 9 (blc bl' sz')) g t ws p bl' sz' tail := by
  refine ⟨?_, h.wlen, hl⟩
  have h1 := blk_setCells t g (blc bl' sz') 9 _ w h.blk
  have e : setAll (stc ws p bl sz ++ tail) 9 (blc bl' sz') = stc ws p bl' sz' ++ tail := by
    have := setAll_mid (wl ws ++ [.int .u64 (p : Int)]) (blc bl' sz') (blc bl sz) tail (by simp [blc_length, h.blen, hl])
    have el : (wl ws ++ [Value.int .u64 (p : Int)]).length = 9 := by simp [wl, h.wlen]
    rw [el] at this
    simpa [stc, List.append_assoc] using this
  rw [e] at h1
  exact h1
end
/-- a block that waits lies alone in block q -/
theorem blc_range {w : World} {q : Nat} {t : TypeId} {bl : List (BitVec 8)} {sz : Nat} (h : Blk w q t (blc bl sz).toArray) : w.rangeAt q 0 (bl.map byteCell) := by
  have := range_of (A := []) (B := bl.map byteCell) (C := [.int .i64 (sz : Int)]) (t := t) (g := q) (w := w) (by simpa [blc] using h)
  simpa using this
theorem blc_size {w : World} {q : Nat} {t : TypeId} {bl : List (BitVec 8)} {sz : Nat} (h : Blk w q t (blc bl sz).toArray) (hl : bl.length = 64) : w.cell? ⟨q, 64, none⟩ = some (.int .i64 (sz : Int)) := by
  rw [h.cell]
  simp [blc, hl]
end Sm
end Go.Proofs
