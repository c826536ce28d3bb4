/-
  A state of the hash in memory: its words, how many bytes were pressed, the block that waits. No condition.
  Blocks of bytes, and what the blocks that are full press into a state. No condition.
  A range over a function, where what is handed over lies in memory: what an iterator promises, round by round, and the law of the loop. Conditions: what each theorem names.
  Parts that are read beside a state's block; the steps of the iterator over blocks. No condition.
  A row read and written by value within a round: the laws of the plain walk, inside a fence. Conditions: what each names.
-/
import Derived.Test.YtbojnblececnhaaGreatDoorQ01
import Derived.RangeFuncNested
import Derived.RangeFuncBound
import Derived.RangeFuncCalls
import Derived.RangeFuncLeaves
import Derived.Test.YtbojnblececnhaaGreatDoorQ00
import Derived.OwnWalkIn
import Derived.Deep.MidRow
namespace Go.Proofs
open Go.RowKit Sm
namespace Sm
def setAll (L : List Value) : Nat → List Value → List Value
  | _, [] => L
  | o, v :: r => setAll (L.set o v) (o + 1) r
theorem setAll_mid (A : List Value) : ∀ (B' B C : List Value), B'.length = B.length → setAll (A ++ (B ++ C)) A.length B' = A ++ (B' ++ C)
  | [], B, C, h => by
    obtain rfl : B = [] := List.eq_nil_of_length_eq_zero h.symm
    rfl
  | v :: r, B, C, h => by
    cases B with
    | nil => simp at h
    | cons b B =>
      rw [setAll]
      have e : (A ++ (b :: B ++ C)).set A.length v = (A ++ [v]) ++ (B ++ C) := by simp
      rw [e, show A.length + 1 = (A ++ [v]).length by simp, setAll_mid (A ++ [v]) r B C (by simpa using h)]
      simp
theorem blk_setCells (t : TypeId) (b : Nat) : ∀ (vs : List Value) (o : Nat) (L : List Value) (w : World), Blk w b t L.toArray → Blk (w.setCells b o vs) b t (setAll L o vs).toArray
  | [], _, _, _, h => h
  | v :: r, o, L, w, h => by
    rw [World.setCells, setAll]
    refine blk_setCells t b r (o + 1) (L.set o v) _ ?_
    have := heap_setCell_same w b o L.toArray t v h
    have e : L.toArray.setIfInBounds o v = (L.set o v).toArray := by simp
    rw [e] at this
    exact this
theorem but_setCells (b : Nat) : ∀ (vs : List Value) (o : Nat) (w : World), But (fun k => k = b) w (w.setCells b o vs)
  | [], _, w => But.refl _ w
  | v :: r, o, w => by
    rw [World.setCells]
    exact ((But.refl (fun k => k = b) w).set ⟨b, o, none⟩ v (.inl rfl)).trans (but_setCells b r (o + 1) _) (fun _ _ h => h)
theorem Blk.but {w w' : World} {S : Nat → Prop} {b : Nat} {t : TypeId} {cs : Array Value} (h : Blk w b t cs) (hb : But S w w') (hn : ¬ S b) : Blk w' b t cs := hb.box h hn
/-- a block that waits, as it lies -/
def blc (bl : List (BitVec 8)) (sz : Nat) : List Value := bl.map byteCell ++ [.int .i64 (sz : Int)]
/-- a state as it lies -/
def stc (ws : List (BitVec 32)) (p : Nat) (bl : List (BitVec 8)) (sz : Nat) : List Value := wl ws ++ (.int .u64 (p : Int) :: blc bl sz)
theorem blc_length (bl : List (BitVec 8)) (sz : Nat) : (blc bl sz).length = bl.length + 1 := by simp [blc]
theorem stc_length (ws : List (BitVec 32)) (p : Nat) (bl : List (BitVec 8)) (sz : Nat) : (stc ws p bl sz).length = ws.length + bl.length + 2 := by simp [stc, wl, blc]; omega
theorem blc_one (bl : List (BitVec 8)) (sz : Nat) : ∀ v ∈ blc bl sz, v.oneCell' = true := by
  intro v hv
  simp only [blc, List.mem_append, List.mem_map, List.mem_singleton] at hv
  rcases hv with ⟨x, _, rfl⟩ | rfl <;> rfl
theorem stc_one (ws : List (BitVec 32)) (p : Nat) (bl : List (BitVec 8)) (sz : Nat) : ∀ v ∈ stc ws p bl sz, v.oneCell' = true := by
  intro v hv
  simp only [stc, List.mem_append, List.mem_cons] at hv
  rcases hv with h | rfl | h
  · exact wl_one ws v h
  · rfl
  · exact blc_one bl sz v h
/-- a state lies at the head of block g -/
structure St (w : World) (g : Nat) (t : TypeId) (ws : List (BitVec 32)) (p : Nat) (bl : List (BitVec 8)) (sz : Nat) (tail : List Value) : Prop where
  blk : Blk w g t (stc ws p bl sz ++ tail).toArray
  wlen : ws.length = 8
  blen : bl.length = 64
theorem range_of {w : World} {g : Nat} {t : TypeId} {A B C : List Value} (h : Blk w g t (A ++ (B ++ C)).toArray) : w.rangeAt g A.length B := fun j v hv => by
  have hj := (List.getElem?_eq_some_iff.1 hv).1
  rw [h.cell]
  simp only [List.getElem?_toArray]
  rw [List.getElem?_append_right (by omega), List.getElem?_append_left (by omega), Nat.add_sub_cancel_left]
  exact hv
section
variable {w w' : World} {g : Nat} {t : TypeId} {ws : List (BitVec 32)} {p : Nat} {bl : List (BitVec 8)} {sz : Nat} {tail : List Value}
theorem St.keep (h : St w g t ws p bl sz tail) (hb : Below w.heap.size w w') : St w' g t ws p bl sz tail := ⟨h.blk.keep hb, h.wlen, h.blen⟩
theorem St.but {S : Nat → Prop} (h : St w g t ws p bl sz tail) (hb : But S w w') (hn : ¬ S g) : St w' g t ws p bl sz tail := ⟨h.blk.but hb hn, h.wlen, h.blen⟩
theorem St.drew (h : St w g t ws p bl sz tail) : St w.drew g t ws p bl sz tail := ⟨h.blk, h.wlen, h.blen⟩
theorem St.rangeW (h : St w g t ws p bl sz tail) : w.rangeAt g 0 (wl ws) := by
  have := range_of (A := []) (B := wl ws) (C := (.int .u64 (p : Int) :: blc bl sz) ++ tail) (t := t) (g := g) (w := w) (by simpa [stc, List.append_assoc] using h.blk)
  simpa using this
theorem St.rangeAll (h : St w g t ws p bl sz tail) : w.rangeAt g 0 (stc ws p bl sz) := by
  have := range_of (A := []) (B := stc ws p bl sz) (C := tail) (t := t) (g := g) (w := w) (by simpa using h.blk)
  simpa using this
theorem St.rangeB (h : St w g t ws p bl sz tail) : w.rangeAt g 9 (blc bl sz) := by
  have := range_of (A := wl ws ++ [.int .u64 (p : Int)]) (B := blc bl sz) (C := tail) (t := t) (g := g) (w := w) (by simpa [stc, List.append_assoc] using h.blk)
  have e : (wl ws ++ [Value.int .u64 (p : Int)]).length = 9 := by simp [wl, h.wlen]
  rwa [e] at this
theorem St.cellP (h : St w g t ws p bl sz tail) : w.cell? ⟨g, 8, none⟩ = some (.int .u64 (p : Int)) := by
  have := range_of (A := wl ws) (B := [.int .u64 (p : Int)]) (C := blc bl sz ++ tail) (t := t) (g := g) (w := w) (by simpa [stc, List.append_assoc] using h.blk)
  have e : (wl ws).length = 8 := by simp [wl, h.wlen]
  rw [e] at this
  exact this 0 _ rfl
theorem St.cellS (h : St w g t ws p bl sz tail) : w.cell? ⟨g, 73, none⟩ = some (.int .i64 (sz : Int)) := by
  have := h.rangeB 64 (.int .i64 (sz : Int)) (by simp [blc, h.blen])
  exact this
theorem St.frozen (h : St w g t ws p bl sz tail) (j : Nat) : w.frozen? ⟨g, j, none⟩ = false := h.blk.frozen j
theorem St.thereN (h : St w g t ws p bl sz tail) (o n : Nat) (hn : o + n ≤ 74) : w.there g o n := fun j hj => by
  refine ⟨?_, h.frozen _⟩
  rw [h.blk.cell, List.getElem?_toArray, List.getElem?_eq_getElem (by rw [List.length_append, stc_length, h.wlen, h.blen]; omega)]
  rfl
theorem St.setP (h : St w g t ws p bl sz tail) (p' : Nat) : St (w.setCell ⟨g, 8, none⟩ (.int .u64 (p' : Int))) g t ws p' bl sz tail := by
  refine ⟨?_, h.wlen, h.blen⟩
  have h1 := blk_setCells t g [.int .u64 (p' : Int)] 8 _ w h.blk
  have e : setAll (stc ws p bl sz ++ tail) 8 [.int .u64 (p' : Int)] = stc ws p' bl sz ++ tail := by
    have := setAll_mid (wl ws) [.int .u64 (p' : Int)] [.int .u64 (p : Int)] (blc bl sz ++ tail) rfl
    have el : (wl ws).length = 8 := by simp [wl, h.wlen]
    rw [el] at this
    simpa [stc, List.append_assoc] using this
  rw [e] at h1
  exact h1
theorem St.setW (h : St w g t ws p bl sz tail) (ws' : List (BitVec 32)) (hl : ws'.length = 8) : St (w.setCells g 0 (wl ws')) g t ws' p bl sz tail := by
  refine ⟨?_, hl, h.blen⟩
  have h1 := blk_setCells t g (wl ws') 0 _ w h.blk
  have e : setAll (stc ws p bl sz ++ tail) 0 (wl ws') = stc ws' p bl sz ++ tail := by
    have := setAll_mid [] (wl ws') (wl ws) ((.int .u64 (p : Int) :: blc bl sz) ++ tail) (by simp [wl, h.wlen, hl])
    simpa [stc, List.append_assoc] using this
  rw [e] at h1
  exact h1
theorem St.setB (h : St w g t ws p bl sz tail) (bl' : List (BitVec 8)) (sz' : Nat) (hl : bl'.length = 64) : St (w.setCells g 9 (blc bl' sz')) g t ws p bl' sz' tail := by
  refine ⟨?_, h.wlen, hl⟩
  have h1 := blk_setCells t g (blc bl' sz') 9 _ w h.blk
  have e : setAll (stc ws p bl sz ++ tail) 9 (blc bl' sz') = stc ws p bl' sz' ++ tail := by
    have := setAll_mid (wl ws ++ [.int .u64 (p : Int)]) (blc bl' sz') (blc bl sz) tail (by simp [blc_length, h.blen, hl])
    have el : (wl ws ++ [Value.int .u64 (p : Int)]).length = 9 := by simp [wl, h.wlen]
    rw [el] at this
    simpa [stc, List.append_assoc] using this
  rw [e] at h1
  exact h1
end
/-- a block that waits lies alone in block q -/
theorem blc_range {w : World} {q : Nat} {t : TypeId} {bl : List (BitVec 8)} {sz : Nat} (h : Blk w q t (blc bl sz).toArray) : w.rangeAt q 0 (bl.map byteCell) := by
  have := range_of (A := []) (B := bl.map byteCell) (C := [.int .i64 (sz : Int)]) (t := t) (g := q) (w := w) (by simpa [blc] using h)
  simpa using this
theorem blc_size {w : World} {q : Nat} {t : TypeId} {bl : List (BitVec 8)} {sz : Nat} (h : Blk w q t (blc bl sz).toArray) (hl : bl.length = 64) : w.cell? ⟨q, 64, none⟩ = some (.int .i64 (sz : Int)) := by
  rw [h.cell]
  simp [blc, hl]
end Sm
end Go.Proofs
namespace Go.Proofs.Sm
/-- filled with noughts -/
def pad (c : List (BitVec 8)) : List (BitVec 8) := c ++ List.replicate (64 - c.length) 0#8
theorem pad_length (c : List (BitVec 8)) (h : c.length ≤ 64) : (pad c).length = 64 := by simp [pad]; omega
/-- how many blocks are told ahead of the last one -/
def cnt (all : List (BitVec 8)) : Nat := (all.length - 1) / 64
/-- what is told the k-th time -/
def chunk (all : List (BitVec 8)) (k : Nat) : List (BitVec 8) := (all.drop (64 * k)).take 64
def pressK (ws : List (BitVec 32)) (p : Nat) (all : List (BitVec 8)) : Nat → List (BitVec 32)
  | 0 => ws
  | k + 1 => pressS (pressK ws p all k) (pad (chunk all k)) (p + 64 * (k + 1)) false
theorem chunk_full (all : List (BitVec 8)) (k : Nat) (h : 64 * (k + 1) ≤ all.length) : (chunk all k).length = 64 := by
  simp [chunk]; omega
theorem chunk_full' (all : List (BitVec 8)) (k : Nat) (h : k < cnt all) : (chunk all k).length = 64 := by
  unfold cnt at h
  exact chunk_full all k (by omega)
theorem chunk_le (all : List (BitVec 8)) (k : Nat) : (chunk all k).length ≤ 64 := by simp [chunk]; omega
theorem chunk_last (all : List (BitVec 8)) : chunk all (cnt all) = all.drop (64 * cnt all) := by
  unfold chunk
  rw [List.take_of_length_le]
  unfold cnt
  simp; omega
theorem chunk_append (a b : List (BitVec 8)) (k : Nat) (h : 64 * (k + 1) ≤ a.length) : chunk (a ++ b) k = chunk a k := by
  unfold chunk
  rw [List.drop_append_of_le_length (by omega), List.take_append_of_le_length (by simp; omega)]
theorem pressK_length (ws : List (BitVec 32)) (p : Nat) (all : List (BitVec 8)) : ∀ k, (pressK ws p all k).length = ws.length
  | 0 => rfl
  | k + 1 => by rw [pressK, pressS_length, pressK_length]
theorem pressK_append (ws : List (BitVec 32)) (p : Nat) (a b : List (BitVec 8)) : ∀ k, 64 * k ≤ a.length → pressK ws p (a ++ b) k = pressK ws p a k
  | 0, _ => rfl
  | k + 1, h => by rw [pressK, pressK, pressK_append ws p a b k (by omega), chunk_append a b k h]
theorem pressK_add (ws : List (BitVec 32)) (p : Nat) (all : List (BitVec 8)) (m : Nat) : ∀ j, pressK ws p all (m + j) = pressK (pressK ws p all m) (p + 64 * m) (all.drop (64 * m)) j
  | 0 => rfl
  | j + 1 => by
    rw [← Nat.add_assoc, pressK, pressK_add ws p all m j, pressK]
    have e1 : p + 64 * (m + j + 1) = p + 64 * m + 64 * (j + 1) := by omega
    have e2 : chunk all (m + j) = chunk (all.drop (64 * m)) j := by
      unfold chunk
      rw [List.drop_drop, show 64 * m + 64 * j = 64 * (m + j) by omega]
    rw [e1, e2]
/-- the sum's words of a state in which bytes wait -/
def endS (ws : List (BitVec 32)) (p : Nat) (cur : List (BitVec 8)) : List (BitVec 32) := pressS ws (pad cur) (p + cur.length) true
/-- a state: words, how many bytes were pressed, the bytes that wait -/
structure HS where
  ws : List (BitVec 32)
  p : Nat
  cur : List (BitVec 8)
def takeS (s : HS) (b : List (BitVec 8)) : HS := ⟨pressK s.ws s.p (s.cur ++ b) (cnt (s.cur ++ b)), s.p + 64 * cnt (s.cur ++ b), (s.cur ++ b).drop (64 * cnt (s.cur ++ b))⟩
theorem takeS_takeS (s : HS) (a b : List (BitVec 8)) : takeS (takeS s a) b = takeS s (a ++ b) := by
  obtain ⟨ws, p, cur⟩ := s
  unfold takeS
  simp only
  obtain ⟨A, hA⟩ : ∃ A, cur ++ a = A := ⟨_, rfl⟩
  have e : cur ++ (a ++ b) = A ++ b := by rw [← hA, List.append_assoc]
  rw [e, hA]
  have hm : 64 * cnt A ≤ A.length := by unfold cnt; omega
  have hd : A.drop (64 * cnt A) ++ b = (A ++ b).drop (64 * cnt A) := by rw [List.drop_append_of_le_length hm]
  rw [hd]
  have hc : cnt (A ++ b) = cnt A + cnt ((A ++ b).drop (64 * cnt A)) := by
    unfold cnt
    simp only [List.length_drop, List.length_append]
    omega
  rw [hc, pressK_add, pressK_append ws p A b _ hm, List.drop_drop]
  congr 1
  · omega
  · congr 1; omega
theorem takeS_cur_le (s : HS) (b : List (BitVec 8)) : (takeS s b).cur.length ≤ 64 := by
  unfold takeS cnt
  simp; omega
theorem takeS_ws (s : HS) (b : List (BitVec 8)) : (takeS s b).ws.length = s.ws.length := pressK_length ..
theorem takeS_count (s : HS) (b : List (BitVec 8)) : (takeS s b).p + (takeS s b).cur.length = s.p + s.cur.length + b.length := by
  unfold takeS cnt
  simp; omega
end Go.Proofs.Sm
namespace Go.Proofs
open Go Go.RowKit Sm
/-- what speaks of blocks below L alone -/
def Sm.LowJ (L : Nat) (J : Nat → World → Prop) : Prop := ∀ k W W', J k W → Below L W W' → J k W'
/-- the blocks that a round may turn -/
def Sm.RoundMay (X : Nat → Prop) (lo hi : Nat) (row : Array Value → Nat → Prop) (args : Array Value) : Nat → Prop := fun b => X b ∨ (lo ≤ b ∧ b < hi) ∨ row args b
/-- **what an iterator promises** -/
def Sm.SeqX (P : Program) (g : Nat) (lb : Array Value) (X : Nat → Prop) (H : Nat → Nat → Array Value → World → Prop) (row : Array Value → Nat → Prop) (Go : Nat → Prop) (S Sp : Nat → Prop) (w : World) : Prop :=
  ∀ (l : Nat) (J Jx : Nat → World → Prop) (W : World), Below w.heap.size w W → LowJ W.heap.size J → LowJ W.heap.size Jx →
    (∀ k args W1, J k W1 → H W.heap.size k args W1 → YieldAt Fence.wide 1 P l args W1 fun e W' =>
      (e = .returned (.bool true) ∧ Go k ∧ J (k + 1) W' ∧ But (RoundMay X w.heap.size W.heap.size row args) W1 W') ∨ (e = .returned (.bool false) ∧ Jx (k + 1) W' ∧ But (RoundMay X w.heap.size W.heap.size row args) W1 W')) →
    J 0 W → Calls P g (#[.func (.yield l) #[] #[]] ++ lb) W fun e W' => (∃ v, e = .returned v) ∧ ((∃ k, S k ∧ J k W') ∨ (∃ k, Sp k ∧ Jx k W'))
theorem Sm.roundIn_any {m m' : Nat} {P : Program} {l : Nat} {f : FuncId} {tmps : Array Value} {assign body : Code} {w : World} {R : Ending → World → Prop} (h : RoundIn Fence.wide m P l f tmps assign body w R) : RoundIn Fence.wide m' P l f tmps assign body w R :=
  ⟨h.1, fun c cs _ => h.2 c cs (fun d hd => by cases hd)⟩
/-- how the body of a round may be left -/
def Sm.postX (Go : Nat → Prop) (X : Nat → Prop) (row : Array Value → Nat → Prop) (args : Array Value) (I : Nat → World → Prop) (Ix : Code → Nat → World → Prop) (k : Nat) (W : World) : Exit → Act → World → Prop
  | .normal, _, W' => Go k ∧ But (fun b => X b ∨ row args b) W W' ∧ I (k + 1) W'
  | .ret, _, W' => But (fun b => X b ∨ row args b) W W' ∧ Ix .ret (k + 1) W'
  | .exit id, _, W' => But (fun b => X b ∨ row args b) W W' ∧ Ix (.exit id) (k + 1) W'
  | .goto t, _, W' => But (fun b => X b ∨ row args b) W W' ∧ Ix (.goto t) (k + 1) W'
  | .panic _, _, _ => False
  | .outgrown, _, _ => False
theorem Sm.put_but (W : World) (r : Nat) (o : Obj) : But (fun b => b = r) W (W.putObj r o) :=
  ⟨rfl, rfl, rfl, by simp, fun _ _ hn => World.putObj_heap_other hn⟩
theorem Sm.LowJ.but {L : Nat} {J : Nat → World → Prop} (h : LowJ L J) {k : Nat} {S : Nat → Prop} {W W' : World} (hJ : J k W) (hb : But S W W') (hL : L ≤ W.heap.size) (hS : ∀ b, S b → L ≤ b) : J k W' := h k W W' hJ (hb.to_below hL hS)
set_option maxHeartbeats 1000000 in
/-- **the law of the loop** -/
theorem Sm.wpIn_range {P : Program} {g : Operand} {ps : Array Tmp} {assign body : Code} {Q : Exit → Act → World → Prop} {a : Act} {w : World} {n : Nat} {gf : Nat} {lb : Array Value}
    (hg : a.eval g = .func (.func gf) #[] lb) (eg : ∀ args w, (callFunc gf args).run P w = .ok (.enter gf args) w)
    {X : Nat → Prop} {H : Nat → Nat → Array Value → World → Prop} {row : Array Value → Nat → Prop} {Go S Sp : Nat → Prop} (hseq : SeqX P gf lb X H row Go S Sp w)
    (hX : ∀ b, X b → b < w.heap.size) (hH : ∀ k args W W', H (w.heap.size + 2) k args W → But (fun b => b < w.heap.size + 2) W W' → H (w.heap.size + 2) k args W')
    (hrow : ∀ k args W b, H (w.heap.size + 2) k args W → row args b → w.heap.size + 2 ≤ b) (hps : ∀ k args W, H (w.heap.size + 2) k args W → args.size = ps.size)
    (I : Nat → World → Prop) (Ix : Code → Nat → World → Prop) (hI : LowJ w.heap.size I) (hIx : ∀ c, LowJ w.heap.size (Ix c)) (h0 : I 0 w) (Ax : Array Value → Act → World → Prop)
    (hAx : ∀ args a' W W', Ax args a' W → But (fun b => b < w.heap.size + 2) W W' → Ax args a' W')
    (hassign : ∀ (l k : Nat) (args : Array Value) (W : World) (K : Act → World → Prop), w.heap.size + 2 ≤ W.heap.size → I k W → H (w.heap.size + 2) k args W → (∀ a' W', Below W.heap.size W W' → Ax args a' W' → K a' W') →
      assign.wpIn (Fence.wide.inRound l) (n - 1 - 1) P (Exit.then K (fun _ _ _ => False)) { tmps := (ps.zip args).foldl (fun t (p, v) => t.setIfInBounds p v) a.tmps, defers := [] } W)
    (hbody : ∀ (l k : Nat) (args : Array Value) (a' : Act) (W : World), w.heap.size + 2 ≤ W.heap.size → I k W → H (w.heap.size + 2) k args W → Ax args a' W → body.wpIn (Fence.wide.inRound l) (n - 1 - 1) P (postX Go X row args I Ix k W) a' W)
    (hdone : ∀ (k : Nat) (W : World), S k → I k W → W.heap[w.heap.size]? = some (.deferred (some [])) → Q .normal { a with defers := { target := .collected w.heap.size, args := #[] } :: a.defers } W)
    (hstop : ∀ (c : Code) (k : Nat) (W : World), Sp k → Ix c k W → W.heap[w.heap.size]? = some (.deferred (some [])) → c.wpIn Fence.wide n P Q { a with defers := { target := .collected w.heap.size, args := #[] } :: a.defers } W) :
    (Code.rangeFunc g ps assign body).wpIn Fence.wide n P Q a w := by
  refine wpIn_rangeFunc ?_
  intro fn hfn
  obtain ⟨rec, hrec⟩ : ∃ rec : LoopState → Option Code → Loop, rec = fun st pe => { state := st, pending := pe, fn, tmps := a.tmps, params := ps, assign, body, defers := w.heap.size } := ⟨_, rfl⟩
  obtain ⟨W1, hW1⟩ : ∃ W1, (w.alloc (.deferred (some []))).alloc (.loop (rec .ready none)) = W1 := ⟨_, rfl⟩
  have hs1 : W1.heap.size = w.heap.size + 2 := by rw [← hW1]; simp
  have hb1 : Below w.heap.size w W1 := by rw [← hW1]; exact ((Below.refl _ w).alloc (Nat.le_refl _) _).alloc (by simp) _
  have hL1 : W1.heap[w.heap.size + 1]? = some (.loop (rec .ready none)) := by
    rw [← hW1]; have := World.alloc_heap_new (w.alloc (.deferred (some []))) (.loop (rec .ready none)); rwa [World.size_alloc] at this
  have hK1 : W1.heap[w.heap.size]? = some (.deferred (some [])) := by
    rw [← hW1]; exact (Below.heap_alloc _ _ _ (by simp)).trans (World.alloc_heap_new w _)
  refine ⟨w.heap.size + 1, [{ target := .collected w.heap.size, args := #[] }], W1, { target := .fn (.func gf) lb, args := #[.func (.yield (w.heap.size + 1)) #[] #[]] }, W1, gf,
    #[.func (.yield (w.heap.size + 1)) #[] #[]] ++ lb, W1, ?_, ?_, ?_, ?_, (fun h => by cases h), callsIn_wide.2 ?_⟩
  · rw [← hW1, hrec]; exact run_enterLoop_outer _ _ _ _ _
  · simp only [resolve, hg]
    simp [go_sem]
  · intro f' hf'; trivial
  · simp [invoke, go_sem, eg]
  · have keep : ∀ {st : LoopState} {pe : Option Code} {W W' : World}, W.heap[w.heap.size + 1]? = some (.loop (rec st pe)) ∧ W.heap[w.heap.size]? = some (.deferred (some [])) → Below (w.heap.size + 2) W W' → W'.heap[w.heap.size + 1]? = some (.loop (rec st pe)) ∧ W'.heap[w.heap.size]? = some (.deferred (some [])) :=
      fun h hb => ⟨(hb.block _ (by omega)).trans h.1, (hb.block _ (by omega)).trans h.2⟩
    refine (hseq (w.heap.size + 1)
      (fun k W => I k W ∧ w.heap.size + 2 ≤ W.heap.size ∧ (W.heap[w.heap.size + 1]? = some (.loop (rec .ready none)) ∧ W.heap[w.heap.size]? = some (.deferred (some []))))
      (fun k W => ∃ c, Ix c k W ∧ (W.heap[w.heap.size + 1]? = some (.loop (rec .done (some c))) ∧ W.heap[w.heap.size]? = some (.deferred (some []))))
      W1 hb1
      (fun k W W' h hb => ⟨hI k W W' h.1 (hb.mono (by omega)), Nat.le_trans h.2.1 hb.size, keep h.2.2 (by rw [hs1] at hb; exact hb)⟩)
      (fun k W W' h hb => by
        obtain ⟨c, hc, h2⟩ := h
        exact ⟨c, hIx c k W W' hc (hb.mono (by omega)), keep h2 (by rw [hs1] at hb; exact hb)⟩)
      ?_ ⟨hI 0 w W1 h0 hb1, by omega, hL1, hK1⟩).mono ?_
    · rintro k args W ⟨hi, hsz, hl, hk⟩ hh
      rw [hs1] at hh ⊢
      have hlt : w.heap.size + 1 < W.heap.size := (Array.getElem?_eq_some_iff.1 hl).1
      have hy := run_yield (P := P) (args := args) hl (by rw [hrec]; exact hps _ _ _ hh)
      rw [hrec] at hy
      refine ⟨fn, _, assign, body, hy, roundIn_any (m := n - 1 - 1) (roundIn_of_wpIn hfn (hassign _ k args W _ hsz hi hh ?_))⟩
      intro a' Wa hba hax
      have hla : Wa.heap[w.heap.size + 1]? = some (.loop (rec .ready none)) := (hba.block _ hlt).trans hl
      have hka : Wa.heap[w.heap.size]? = some (.deferred (some [])) := (hba.block _ (by omega)).trans hk
      have hlta : w.heap.size + 1 < Wa.heap.size := (Array.getElem?_eq_some_iff.1 hla).1
      refine ⟨_, run_beginRound hla (by rw [hrec]), ?_⟩
      have hb2 := put_but Wa (w.heap.size + 1) (.loop { rec .ready none with state := .busy })
      have hl2 : (Wa.putObj (w.heap.size + 1) (.loop { rec .ready none with state := .busy })).heap[w.heap.size + 1]? = some (.loop { rec .ready none with state := .busy }) := World.putObj_heap_same hlta
      have hk2 : (Wa.putObj (w.heap.size + 1) (.loop { rec .ready none with state := .busy })).heap[w.heap.size]? = some (.deferred (some [])) := (World.putObj_heap_other (by omega)).trans hka
      have hia : I k Wa := hI k W Wa hi (hba.mono (by omega))
      have hi2 : I k (Wa.putObj (w.heap.size + 1) (.loop { rec .ready none with state := .busy })) := hI.but hia hb2 (by omega) (fun b e => by omega)
      have hha : H (w.heap.size + 2) k args Wa := hH k args W Wa hh (But.of_all hba _)
      have hh2 := hH k args Wa _ hha (hb2.mono fun b _ e => by omega)
      have hax2 := hAx args a' Wa _ hax (hb2.mono fun b _ e => by omega)
      refine wpIn_mono (hbody _ k args a' _ (by simp; omega) hi2 hh2 hax2) ?_
      have fin : ∀ (jump : Option Code) (W3 : World), But (fun b => X b ∨ row args b) (Wa.putObj (w.heap.size + 1) (.loop { rec .ready none with state := .busy })) W3 →
          (Instr.endRound (w.heap.size + 1) jump).run P W3 = .ok (.bool jump.isNone) (W3.putObj (w.heap.size + 1) (.loop (rec (if jump.isNone then .ready else .done) jump))) ∧
          w.heap.size + 2 ≤ W3.heap.size ∧
          ((W3.putObj (w.heap.size + 1) (.loop (rec (if jump.isNone then .ready else .done) jump))).heap[w.heap.size + 1]? = some (.loop (rec (if jump.isNone then .ready else .done) jump)) ∧
          (W3.putObj (w.heap.size + 1) (.loop (rec (if jump.isNone then .ready else .done) jump))).heap[w.heap.size]? = some (.deferred (some []))) ∧
          But (RoundMay X w.heap.size (w.heap.size + 2) row args) W (W3.putObj (w.heap.size + 1) (.loop (rec (if jump.isNone then .ready else .done) jump))) := fun jump W3 hk3 => by
        have hno : ∀ b, b = w.heap.size + 1 ∨ b = w.heap.size → ¬ (X b ∨ row args b) := fun b hb e => by
          rcases e with e | e
          · have := hX b e; omega
          · have := hrow _ _ _ _ hh2 e; omega
        have hl3 := hk3.box hl2 (hno _ (.inl rfl))
        have hk4 := hk3.box hk2 (hno _ (.inr rfl))
        have hlt3 := (Array.getElem?_eq_some_iff.1 hl3).1
        have := run_endRound (P := P) jump hl3
        rw [hrec] at this ⊢
        refine ⟨this, by omega, ⟨World.putObj_heap_same hlt3, (World.putObj_heap_other (by omega)).trans hk4⟩, ?_⟩
        have hmay : ∀ b, b = w.heap.size + 1 → RoundMay X w.heap.size (w.heap.size + 2) row args b := fun b e => .inr (.inl (by omega))
        have c1 : But (RoundMay X w.heap.size (w.heap.size + 2) row args) W (Wa.putObj (w.heap.size + 1) (.loop { rec .ready none with state := .busy })) := (But.of_all hba _).trans hb2 (fun b _ e => hmay b e)
        have c2 := c1.trans hk3 (fun b _ e => by
          rcases e with e | e
          · exact .inl e
          · exact .inr (.inr e))
        exact c2.trans (put_but W3 _ _) (fun b _ e => hmay b e)
      rintro e a3 W3 hp
      cases e with
      | normal =>
        obtain ⟨hgo, hk3, hi3⟩ := hp
        obtain ⟨hr, hz, hlk, hbt⟩ := fin none W3 hk3
        exact ⟨_, _, hr, .inl ⟨rfl, hgo, ⟨hI.but hi3 (put_but W3 _ _) (by omega) (fun b e => by omega), by simpa using hz, hlk⟩, hbt⟩⟩
      | ret =>
        obtain ⟨hk3, hi3⟩ := hp
        obtain ⟨hr, hz, hlk, hbt⟩ := fin (some .ret) W3 hk3
        exact ⟨_, _, hr, .inr ⟨rfl, ⟨.ret, (hIx _).but hi3 (put_but W3 _ _) (by omega) (fun b e => by omega), hlk⟩, hbt⟩⟩
      | exit id =>
        obtain ⟨hk3, hi3⟩ := hp
        obtain ⟨hr, hz, hlk, hbt⟩ := fin (some (.exit id)) W3 hk3
        exact ⟨_, _, hr, .inr ⟨rfl, ⟨.exit id, (hIx _).but hi3 (put_but W3 _ _) (by omega) (fun b e => by omega), hlk⟩, hbt⟩⟩
      | goto t =>
        obtain ⟨hk3, hi3⟩ := hp
        obtain ⟨hr, hz, hlk, hbt⟩ := fin (some (.goto t)) W3 hk3
        exact ⟨_, _, hr, .inr ⟨rfl, ⟨.goto t, (hIx _).but hi3 (put_but W3 _ _) (by omega) (fun b e => by omega), hlk⟩, hbt⟩⟩
      | panic ch => exact hp.elim
      | outgrown => exact hp.elim
    · rintro e W2 ⟨⟨v, rfl⟩, (⟨k, hS, hi, hz, hl, hk⟩ | ⟨k, hSp, c, hi, hl, hk⟩)⟩
      · have hlt : w.heap.size + 1 < W2.heap.size := (Array.getElem?_eq_some_iff.1 hl).1
        exact ⟨none, _, by have := run_endLoop (P := P) hl (by rw [hrec]; simp); rw [hrec] at this; exact this, hdone k _ hS (hI.but hi (put_but W2 _ _) (by omega) (fun b e => by omega)) ((World.putObj_heap_other (by omega)).trans hk)⟩
      · have hlt : w.heap.size + 1 < W2.heap.size := (Array.getElem?_eq_some_iff.1 hl).1
        exact ⟨some c, _, by have := run_endLoop (P := P) hl (by rw [hrec]; simp); rw [hrec] at this; exact this, hstop c k _ hSp ((hIx c).but hi (put_but W2 _ _) (by omega) (fun b e => by omega)) ((World.putObj_heap_other (by omega)).trans hk)⟩
/-- **the law of a loop of two variables that are not boxed** -/
theorem Sm.wpIn_range2 {P : Program} {g : Operand} {ps : Array Tmp} {assign body : Code} {Q : Exit → Act → World → Prop} {a : Act} {w : World} {n : Nat} {gf : Nat} {lb : Array Value}
    (hg : a.eval g = .func (.func gf) #[] lb) (eg : ∀ args w, (callFunc gf args).run P w = .ok (.enter gf args) w)
    {X : Nat → Prop} {H : Nat → Nat → Array Value → World → Prop} {row : Array Value → Nat → Prop} {Go S Sp : Nat → Prop} (hseq : SeqX P gf lb X H row Go S Sp w)
    (hX : ∀ b, X b → b < w.heap.size) (hH : ∀ k args W W', H (w.heap.size + 2) k args W → But (fun b => b < w.heap.size + 2) W W' → H (w.heap.size + 2) k args W')
    (hrow : ∀ k args W b, H (w.heap.size + 2) k args W → row args b → w.heap.size + 2 ≤ b) (p1 p2 q1 q2 : Nat) (hps : ps = #[p1, p2]) (hargs : ∀ k args W, H (w.heap.size + 2) k args W → ∃ x v, args = #[x, v])
    (I : Nat → World → Prop) (Ix : Code → Nat → World → Prop) (hI : LowJ w.heap.size I) (hIx : ∀ c, LowJ w.heap.size (Ix c)) (h0 : I 0 w)
    (hassign : ∀ (l : Nat) (x v : Value) (W : World) (K : Act → World → Prop), K { tmps := (((a.tmps.setIfInBounds p1 x).setIfInBounds p2 v).setIfInBounds q1 x).setIfInBounds q2 v, defers := [] } W →
      assign.wpIn (Fence.wide.inRound l) (n - 1 - 1) P (Exit.then K (fun _ _ _ => False)) { tmps := (a.tmps.setIfInBounds p1 x).setIfInBounds p2 v, defers := [] } W)
    (hbody : ∀ (l k : Nat) (x v : Value) (W : World), w.heap.size + 2 ≤ W.heap.size → I k W → H (w.heap.size + 2) k #[x, v] W → body.wpIn (Fence.wide.inRound l) (n - 1 - 1) P (postX Go X row #[x, v] I Ix k W) { tmps := (((a.tmps.setIfInBounds p1 x).setIfInBounds p2 v).setIfInBounds q1 x).setIfInBounds q2 v, defers := [] } W)
    (hdone : ∀ (k : Nat) (W : World), S k → I k W → W.heap[w.heap.size]? = some (.deferred (some [])) → Q .normal { a with defers := { target := .collected w.heap.size, args := #[] } :: a.defers } W)
    (hstop : ∀ (c : Code) (k : Nat) (W : World), Sp k → Ix c k W → W.heap[w.heap.size]? = some (.deferred (some [])) → c.wpIn Fence.wide n P Q { a with defers := { target := .collected w.heap.size, args := #[] } :: a.defers } W) :
    (Code.rangeFunc g ps assign body).wpIn Fence.wide n P Q a w := by
  subst hps
  refine wpIn_range hg eg hseq hX hH hrow (fun k args W h => by obtain ⟨x, v, rfl⟩ := hargs k args W h; rfl) I Ix hI hIx h0
    (fun args a' _ => ∀ x v, args = #[x, v] → a' = { tmps := (((a.tmps.setIfInBounds p1 x).setIfInBounds p2 v).setIfInBounds q1 x).setIfInBounds q2 v, defers := [] }) (fun _ _ _ _ h _ => h) ?_ ?_ hdone hstop
  · intro l k args W K _ _ hh hK
    obtain ⟨x, v, rfl⟩ := hargs k args W hh
    have := hassign l x v W K (hK _ _ (Below.refl _ _) (fun x' v' e => by simp at e; obtain ⟨rfl, rfl⟩ := e; rfl))
    simpa using this
  · intro l k args a' W hs hi hh hax
    obtain ⟨x, v, rfl⟩ := hargs k args W hh
    rw [hax x v rfl]
    exact hbody l k x v W hs hi hh
end Go.Proofs
namespace Go.Proofs
open Go.RowKit Sm
namespace Sm
/-- one of the parts: where it lies, how long it is, its room, its bytes -/
structure Pt where
  A : Option Addr
  n : Nat
  c : Nat
  l : List (BitVec 8)
def Pt.val (p : Pt) : Value := .slice p.A p.n p.c
/-- a slice of bytes that lies outside block g -/
structure PtOK (w : World) (g : Nat) (A : Option Addr) (n c : Nat) (l : List (BitVec 8)) : Prop where
  len : l.length = n
  room : n ≤ c
  most : c ≤ 9223372036854775807
  rd : Rds w (fun b => b = g) A (l.map byteCell)
structure PsOK (w : World) (g : Nat) (A : Option Addr) (n : Nat) (ps : List Pt) : Prop where
  len : ps.length = n
  most : n ≤ 1000000
  rd : Rds w (fun b => b = g) A (ps.map Pt.val)
  each : ∀ p ∈ ps, PtOK w g p.A p.n p.c p.l
def joinP (ps : List Pt) : List (BitVec 8) := ps.flatMap (·.l)
theorem Rds.below {w w' : World} {S : Nat → Prop} {A : Option Addr} {cs : List Value} (h : Rds w S A cs) (hb : Below w.heap.size w w') : Rds w' S A cs := fun hn => by
  obtain ⟨b, off, rfl, hlt, hns, hc⟩ := h hn
  exact ⟨b, off, rfl, Nat.lt_of_lt_of_le hlt hb.size, hns, fun j c hj => (hb.cell (p := ⟨b, off + j, none⟩) hlt).trans (hc j c hj)⟩
theorem PtOK.but {w w' : World} {g : Nat} {A : Option Addr} {n c : Nat} {l : List (BitVec 8)} (h : PtOK w g A n c l) {S : Nat → Prop} (hb : But S w w') (hS : ∀ b, b < w.heap.size → S b → b = g) : PtOK w' g A n c l :=
  ⟨h.len, h.room, h.most, h.rd.but (hb.mono hS) (fun _ e => e)⟩
theorem PsOK.but {w w' : World} {g : Nat} {A : Option Addr} {n : Nat} {ps : List Pt} (h : PsOK w g A n ps) {S : Nat → Prop} (hb : But S w w') (hS : ∀ b, b < w.heap.size → S b → b = g) : PsOK w' g A n ps :=
  ⟨h.len, h.most, h.rd.but (hb.mono hS) (fun _ e => e), fun p hp => (h.each p hp).but hb hS⟩
theorem PsOK.keep {w w' : World} {g : Nat} {A : Option Addr} {n : Nat} {ps : List Pt} (h : PsOK w g A n ps) (hb : Below w.heap.size w w') : PsOK w' g A n ps := h.but (But.of_all hb (fun _ => False)) (fun _ _ e => e.elim)
theorem PtOK.keep {w w' : World} {g : Nat} {A : Option Addr} {n c : Nat} {l : List (BitVec 8)} (h : PtOK w g A n c l) (hb : Below w.heap.size w w') : PtOK w' g A n c l := h.but (But.of_all hb (fun _ => False)) (fun _ _ e => e.elim)
/-- the rest of a part -/
theorem PtOK.drop {w : World} {g b off : Nat} {n c : Nat} {l : List (BitVec 8)} (h : PtOK w g (some ⟨b, off, none⟩) n c l) (k : Nat) (hk : k ≤ n) : PtOK w g (some ⟨b, off + k, none⟩) (n - k) (c - k) (l.drop k) := by
  have hl := h.len
  have hr := h.room
  have hm := h.most
  refine ⟨by simp; omega, by omega, by omega, fun hn => ?_⟩
  have h0 : 0 < (l.map byteCell).length := by simp at hn ⊢; omega
  obtain ⟨b', off', e, hlt, hns, hcell⟩ := h.rd h0
  cases e
  refine ⟨b, off + k, rfl, hlt, hns, fun j v hj => ?_⟩
  have := hcell (k + j) v (by rw [← hj]; simp [List.getElem?_drop])
  rw [Nat.add_assoc]
  exact this
theorem PtOK.end_ {w : World} {g : Nat} {A : Option Addr} {n c : Nat} {l : List (BitVec 8)} (h : PtOK w g A n c l) (hc : n = c) : PtOK w g A (n - n) (c - c) (l.drop n) := by
  have hl := h.len
  have hm := h.most
  refine ⟨by simp; omega, by omega, by omega, fun hn => ?_⟩
  simp [hl] at hn
/-- the block of what has come so far -/
def curB (s : List (BitVec 8)) : List (BitVec 8) := chunk s (cnt s)
def blkV (s : List (BitVec 8)) : Array Value := (blc (pad (curB s)) (curB s).length).toArray
theorem curB_le (s : List (BitVec 8)) : (curB s).length ≤ 64 := chunk_le ..
theorem curB_length (s : List (BitVec 8)) : (curB s).length = s.length - 64 * cnt s := by
  unfold curB
  rw [chunk_last, List.length_drop]
theorem pad_nil : pad [] = List.replicate 64 0#8 := rfl
theorem step_room {s : List (BitVec 8)} (c : List (BitVec 8)) (h : (curB s).length + c.length ≤ 64) : cnt (s ++ c) = cnt s ∧ curB (s ++ c) = curB s ++ c := by
  have hl := curB_length s
  have h1 : cnt (s ++ c) = cnt s := by
    unfold cnt at hl ⊢
    simp only [List.length_append]
    omega
  refine ⟨h1, ?_⟩
  unfold curB at *
  rw [chunk_last, chunk_last, h1, List.drop_append_of_le_length (by unfold cnt; omega)]
theorem step_full {s : List (BitVec 8)} (c : List (BitVec 8)) (h : (curB s).length = 64) (h0 : 0 < c.length) (h1 : c.length ≤ 64) : cnt (s ++ c) = cnt s + 1 ∧ curB (s ++ c) = c := by
  have hl := curB_length s
  have h2 : cnt (s ++ c) = cnt s + 1 := by
    unfold cnt at hl ⊢
    simp only [List.length_append]
    omega
  refine ⟨h2, ?_⟩
  have h3 : s.length = 64 * (cnt s + 1) := by unfold cnt at hl ⊢; omega
  unfold curB
  rw [chunk_last, h2, ← h3, List.drop_append_of_le_length (Nat.le_refl _), List.drop_length, List.nil_append]
theorem full_told {s r all : List (BitVec 8)} (ha : all = s ++ r) (h : (curB s).length = 64) (h0 : 0 < r.length) : cnt s < cnt all ∧ chunk all (cnt s) = curB s := by
  have hl := curB_length s
  subst ha
  have h3 : s.length = 64 * (cnt s + 1) := by unfold cnt at hl ⊢; omega
  refine ⟨?_, chunk_append s r _ (by omega)⟩
  unfold cnt at h3 ⊢
  simp only [List.length_append]
  omega
/-- a chunk laid over a padded block -/
theorem splice_pad (c d : List (BitVec 8)) (n : Nat) (h : c.length + d.length ≤ 64) : splice (blc (pad c) n) c.length (d.map byteCell) = blc (pad (c ++ d)) n := by
  unfold splice blc pad
  have e1 : (List.map byteCell (c ++ List.replicate (64 - c.length) 0#8) ++ [Value.int .i64 (n : Int)]).take c.length = c.map byteCell := by
    rw [List.map_append, List.append_assoc, List.take_append_of_le_length (by simp), List.take_of_length_le (by simp)]
  have e2 : (List.map byteCell (c ++ List.replicate (64 - c.length) 0#8) ++ [Value.int .i64 (n : Int)]).drop (c.length + (d.map byteCell).length) = (List.replicate (64 - (c ++ d).length) 0#8).map byteCell ++ [Value.int .i64 (n : Int)] := by
    rw [List.map_append, List.append_assoc, List.drop_append]
    have : (c.map byteCell).drop (c.length + (d.map byteCell).length) = [] := List.drop_eq_nil_of_le (by simp)
    rw [this, List.nil_append, List.drop_append_of_le_length (by simp; omega)]
    simp
    omega
  rw [e1, e2]
  simp
end Sm
end Go.Proofs
namespace Go.Proofs
open Go
section
variable {F : Fence} {n : Nat} {P : Program} {w : World} {ops : Array Oper} {rest : List Oper} {o : Oper} {a : Act} {Q : Exit → Act → World → Prop}
theorem Sm.wpListIn_load_mid (hgd : o.guard = none) (ty : TypeId) (x : Operand) (ho : o.op = .load ty x)
    (b off : Nat) (hx : a.eval x = .pointer (some ⟨b, off, none⟩)) (cs : List Value) (d : TypeDesc) (hc : w.rangeAt b off cs)
    (hu : P.underlying ty = some d) (hd : d.isRow = true) (hi : (P.info? ty).map (·.size) = some cs.length)
    (h : wpListIn F n P ops Q rest (a.put o.dst (.agg cs.toArray)) w) : wpListIn F n P ops Q (o :: rest) a w := by
  refine wpListIn_plain hgd fun K hK' => ?_
  have hr : (execOp a.eval o).run P w = .ok (.value (.agg cs.toArray)) w := by
    unfold execOp
    simp only [ho, hx, Instr.loadAt, Instr.sureAddr, Sem.run_bind, Sem.run_pure, Result.andThen_ok, run_loadVar_mid w b off ty cs d hc hu hd hi]
  unfold Oper.wpIn
  refine ⟨by simp [Oper.about, ho], ?_⟩
  rw [Oper.semAt_plain F _ _ (by rw [ho]; intro c hc'; cases hc'), hr]
  exact hK' _ _ h
theorem Sm.wpListIn_store_row (hgd : o.guard = none) (ty : TypeId) (x y : Operand) (ho : o.op = .store ty x y)
    (g : Nat) (cells : Array Value) (hx : a.eval x = .pointer (some ⟨g, 0, none⟩)) (hy : a.eval y = .agg cells)
    (t : TypeId) (old : Array Value) (hg : w.heap[g]? = some (.cells old t (0, 0))) (hi : (P.info? ty).map (·.size) = some cells.size)
    (hold : old.size = cells.size) (h1 : cells.all (·.oneCell') = true)
    (h : wpListIn F n P ops Q rest (a.put o.dst undef) (w.setRow g cells)) : wpListIn F n P ops Q (o :: rest) a w := by
  refine wpListIn_plain hgd fun K hK' => ?_
  have hr : (execOp a.eval o).run P w = .ok .skip (w.setRow g cells) := by
    unfold execOp
    simp only [ho, hx, hy, Instr.storeAt, Instr.sureAddr, Sem.run_bind, Sem.run_pure, Result.andThen_ok, run_storeVar_row w g t ty old cells hg hi hold h1]
  unfold Oper.wpIn
  refine ⟨by simp [Oper.about, ho], ?_⟩
  rw [Oper.semAt_plain F _ _ (by rw [ho]; intro c hc'; cases hc'), hr]
  exact hK' _ _ h
theorem Sm.wpListIn_store_mid (hgd : o.guard = none) (ty : TypeId) (x y : Operand) (ho : o.op = .store ty x y)
    (b off : Nat) (cells : Array Value) (hx : a.eval x = .pointer (some ⟨b, off, none⟩)) (hy : a.eval y = .agg cells)
    (ht : w.there b off cells.size) (hi : (P.info? ty).map (·.size) = some cells.size) (h1 : cells.all (·.oneCell') = true)
    (h : wpListIn F n P ops Q rest (a.put o.dst undef) (w.setCells b off cells.toList)) : wpListIn F n P ops Q (o :: rest) a w := by
  refine wpListIn_plain hgd fun K hK' => ?_
  have hr : (execOp a.eval o).run P w = .ok .skip (w.setCells b off cells.toList) := by
    unfold execOp
    simp only [ho, hx, hy, Instr.storeAt, Instr.sureAddr, Sem.run_bind, Sem.run_pure, Result.andThen_ok, run_storeVar_mid w b off ty cells ht hi h1]
  unfold Oper.wpIn
  refine ⟨by simp [Oper.about, ho], ?_⟩
  rw [Oper.semAt_plain F _ _ (by rw [ho]; intro c hc'; cases hc'), hr]
  exact hK' _ _ h
end
end Go.Proofs
