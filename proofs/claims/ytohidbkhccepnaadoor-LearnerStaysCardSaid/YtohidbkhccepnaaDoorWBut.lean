/-
  Texts as bytes, and a text laid behind a row. No condition.
-/
import Derived.Lib.AppendStr
import Derived.Test.YtohidbkhccepnaaDoorStr
import Derived.Test.YtohidbkhccepnaaDoorNum
namespace Go.Proofs
open Go.RowKit Go.Shelf Sm
namespace Sm
/-- a text's bytes -/
def strL (s : ByteArray) : List (BitVec 8) := s.data.toList.map (·.toBitVec)
theorem strL_length (s : ByteArray) : (strL s).length = s.size := by rw [strL, List.length_map, Array.length_toList]; rfl
theorem strL_cells (s : ByteArray) : Lib.strCells s = (strL s).map byteCell := by
  rw [Lib.strCells, strL, List.map_map]
  rfl
theorem strB_data (l : List (BitVec 8)) : (strB l).data.toList = l.map (fun c => UInt8.ofBitVec c) := by
  unfold strB
  rw [strOfNums_data, List.map_map]
  refine List.map_congr_left fun c _ => ?_
  apply UInt8.toNat_inj.1
  have := c.isLt
  simp [ib]
theorem strL_strB (l : List (BitVec 8)) : strL (strB l) = l := by
  rw [strL, strB_data, List.map_map]
  conv => rhs; rw [← List.map_id l]
  rfl
theorem strB_strL (s : ByteArray) : strB (strL s) = s := by
  have h : (strB (strL s)).data.toList = s.data.toList := by
    rw [strB_data, strL, List.map_map]
    conv => rhs; rw [← List.map_id s.data.toList]
    rfl
  have h2 : (strB (strL s)).data = s.data := Array.toList_inj.1 h
  cases s
  exact congrArg ByteArray.mk h2
theorem str_cmp (s t : ByteArray) : (s.toList == t.toList) = decide (strL s = strL t) := by
  rw [← strB_strL s, ← strB_strL t, strB_eq, strL_strB, strL_strB]
end Sm
section
variable {P : Program} (w : World)
/-- append of a text behind a row of the call's own -/
theorem Sm.run_append_str (base : Nat) (t u ty e : TypeId) (i : TypeInfo) (ht : P.underlying t = some (.slice e)) (hu : P.underlying u = some .string) (hi : P.info? e = some i) (hz : i.zero = some (.int .u8 0))
    (hsize : i.size = 1) (hby : i.bytes = 1)
    (v : Value) (n : Nat) (xs : List Value) (hown : w.ownsRow base e 1 v n xs) (hn : 0 < n) (s : ByteArray) (hnm : n + s.size ≤ 1000000000) (hbase : base ≤ w.heap.size) :
    ∃ v' w', (Builtin.append_ #[t, u] ty #[v, .string s]).run P w = .ok v' w' ∧ w'.ownsRow base e 1 v' (n + s.size) (xs ++ (strL s).map byteCell) ∧ w.grownBy w' v.ownBlock ∧ (v'.ownBlock = v.ownBlock ∨ v'.ownBlock = some w.heap.size) := by
  obtain ⟨v', w', hr, h1, h2, _⟩ := Lib.run_append_own_string (P := P) w base t u ty e i ht hu hi hz hsize hby v n xs hown s (by unfold maxLen; omega) (by omega) hbase
  rw [strL_cells] at h1
  refine ⟨v', w', hr, h1, h2, ?_⟩
  rcases hown.2 with ⟨rfl, rfl⟩ | ⟨g, cap, cur, rfl, hbg, hg, hnc, hcm, hcs, htake⟩
  · omega
  · by_cases hroom : n + s.size ≤ cap
    · have h3 := Lib.run_append_room_string (P := P) w t u ty e i ht hu hi hsize g n cap cur hg s hroom (by omega)
      rw [hr] at h3
      injection h3 with h4 h5
      subst h4
      exact .inl rfl
    · have h3 := Lib.run_append_grow_string (P := P) w t u ty e i (.int .u8 0) ht hu hi hz ⟨g, 0, none⟩ n cap xs (by rw [hsize]; exact hown.1) (hown.cells (g := g) rfl) s (by omega) (by unfold maxLen at hcm; omega) (by rw [hby]; exact growslice_fits (by omega) (by omega))
      rw [hr] at h3
      injection h3 with h4 h5
      subst h4
      exact .inr rfl
theorem Sm.wpList_append_str {ops : Array Oper} {rest : List Oper} {o : Oper} {a : Act} {Q : Exit → Act → World → Prop} (hgd : o.guard = none) (sl x : Operand) (t u : TypeId)
    (ho : o.op = .call { callee := .builtin .append, args := #[sl, x], argTypes := #[t, u] })
    (base : Nat) (e : TypeId) (i : TypeInfo) (ht : P.underlying t = some (.slice e)) (hu : P.underlying u = some .string) (hi : P.info? e = some i) (hz : i.zero = some (.int .u8 0))
    (hsize : i.size = 1) (hby : i.bytes = 1)
    (v : Value) (n : Nat) (xs : List Value) (hs : a.eval sl = v) (hown : w.ownsRow base e 1 v n xs) (hn : 0 < n) (s : ByteArray) (hx : a.eval x = .string s) (hnm : n + s.size ≤ 1000000000) (hbase : base ≤ w.heap.size)
    (h : ∀ v' w', w'.ownsRow base e 1 v' (n + s.size) (xs ++ (strL s).map byteCell) → w.grownBy w' v.ownBlock → (v'.ownBlock = v.ownBlock ∨ v'.ownBlock = some w.heap.size) → wpList P ops Q rest (a.put o.dst v') w') : wpList P ops Q (o :: rest) a w := by
  refine wpList_plain hgd fun K hK => ?_
  obtain ⟨v', w', hr, h2, h3, h4⟩ := run_append_str (P := P) w base t u o.type e i ht hu hi hz hsize hby v n xs hown hn s hnm hbase
  unfold Oper.wp execOp
  simp only [ho, resolve, invoke, builtin, Sem.run_bind, Sem.run_pure, Result.andThen_ok, List.map_toArray, List.map_cons, List.map_nil, hs, hx, hr]
  exact hK _ _ (h v' w' h2 h3 h4)
end
end Go.Proofs
