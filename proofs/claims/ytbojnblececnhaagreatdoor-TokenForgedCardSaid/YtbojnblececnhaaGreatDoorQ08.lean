/-
  Noughts appended behind a row of bytes of the call's own ('append(s, make([]byte, k)...)'). No condition.
  The contract of the reference's Mix: at every four words and two.
  The contract of the reference's first words.
  The contract of the reference's order.
  The contract of the reference's places.
-/
import Derived.Lib.AppendStr
import Derived.Test.YtbojnblececnhaaGreatDoorQ07
import Derived.Deep.QuietTactic
import Derived.BigQuiet
import Derived.Laws.CopyOwn
import Derived.Deep.CutRange
import Derived.Test.YtbojnblececnhaaGreatDoorQ01
namespace Go.Proofs
open Go.RowKit Sm
def Sm.zs (k : Nat) : ByteArray := ⟨(List.replicate k (0 : UInt8)).toArray⟩
theorem Sm.zs_size (k : Nat) : (zs k).size = k := by simp [zs, ByteArray.size]
theorem Sm.zs_cells (k : Nat) : Lib.strCells (zs k) = (List.replicate k 0#8).map byteCell := by
  simp [Lib.strCells, zs, byteCell, ib]
theorem Sm.zero_cells (k : Nat) : Builtin.zeroCells (Value.int .u8 0).cells k = ((List.replicate k 0#8).map byteCell).toArray := by
  apply Array.ext'
  simp [Builtin.zeroCells, Value.cells, byteCell, ib, Nat.mod_one]
  rw [List.eq_replicate_iff]
  simp
section
variable {P : Program} (w : World)
theorem Sm.zeros_run (t tn u ty e : TypeId) (i : TypeInfo) (kq kn : IntKind) (ht : P.underlying t = some (.slice e)) (htn : P.underlying tn = some (.int kn)) (hu : P.underlying u = some .string) (hi : P.info? e = some i) (hz : i.zero = some (.int .u8 0))
    (hsize : i.size = 1) (hby : i.bytes = 1) (b : Option Addr) (n c k : Nat) (hk : 0 < k) (hnk : n + k ≤ 1000000000) :
    (Builtin.append_ #[t, tn] ty #[.slice b n c, .int kq k]).run P w = (Builtin.append_ #[t, u] ty #[.slice b n c, .string (zs k)]).run P w := by
  have hw : IntKind.i64.wrap (k : Int) = k := by rw [IntKind.wrap_i64]; omega
  have hneg : ¬ ((k : Int) < 0) := by omega
  have hns : ¬ (k = 0) := by omega
  have h48i : ¬ (281474976710656 < (k : Int)) := by omega
  have hzc := zero_cells k
  have hf : ∀ w, (Builtin.firstCells 1 k (.string (zs k))).run P w = .ok ((List.replicate k 0#8).map byteCell).toArray w := fun w => by
    have := Lib.run_firstCells_string (P := P) w 1 (zs k)
    rw [zs_size, zs_cells] at this
    exact this
  by_cases hr : n + k ≤ c
  · simp [Builtin.append_, run_underlying ht, run_underlying htn, run_underlying hu, sizeOf, typeInfo, zeroValue, hi, hz, hsize, hby, asInt, asIntOf, hw, hneg, hns, h48i, Builtin.lenOf, zs_size, hr, hf, hzc]
  · have h63' : ¬ (9223372036854775807 < ((n : Int) + (k : Int))) := by omega
    have hfit := growslice_fits (old := c) (need := n + k) (bytes := 1) (by omega) (by omega)
    have h48' : ¬ (281474976710656 < Builtin.nextslicecap (n + k) c) := by omega
    simp [Builtin.append_, run_underlying ht, run_underlying htn, run_underlying hu, sizeOf, typeInfo, zeroValue, hi, hz, hsize, hby, asInt, asIntOf, hw, hneg, hns, h48i, Builtin.lenOf, zs_size, hr, hf, hzc, h63', h48']
theorem Sm.wpList_append_zeros {ops : Array Oper} {rest : List Oper} {o : Oper} {a : Act} {Q : Exit → Act → World → Prop} (hgd : o.guard = none) (s x : Operand) (t tn u : TypeId)
    (ho : o.op = .call { callee := .builtin .append, args := #[s, x], argTypes := #[t, tn] })
    (base : Nat) (e : TypeId) (i : TypeInfo) (kq kn : IntKind) (ht : P.underlying t = some (.slice e)) (htn : P.underlying tn = some (.int kn)) (hu : P.underlying u = some .string) (hi : P.info? e = some i) (hz : i.zero = some (.int .u8 0))
    (hsize : i.size = 1) (hby : i.bytes = 1)
    (v : Value) (n : Nat) (xs : List Value) (hs : a.eval s = v) (hown : w.ownsRow base e 1 v n xs)
    (k : Nat) (hx : a.eval x = .int kq (k : Int)) (hk : 0 < k) (hnm : n + k ≤ 1000000000) (hbase : base ≤ w.heap.size)
    (h : ∀ v' w', w'.ownsRow base e 1 v' (n + k) (xs ++ (List.replicate k 0#8).map byteCell) → w.grownBy w' v.ownBlock → wpList P ops Q rest (a.put o.dst v') w') :
    wpList P ops Q (o :: rest) a w := by
  refine wpList_plain hgd fun K hK => ?_
  obtain ⟨v', w', hr, h2, h3, _⟩ := Lib.run_append_own_string (P := P) w base t u o.type e i ht hu hi hz hsize hby v n xs hown (zs k) (by rw [zs_size]; unfold maxLen; omega) (by rw [zs_size]; omega) hbase
  rw [zs_size, zs_cells] at h2
  have hrun : (Builtin.append_ #[t, tn] o.type #[v, .int kq (k : Int)]).run P w = .ok v' w' := by
    rw [← hr]
    rcases hown.2 with ⟨rfl, rfl⟩ | ⟨g, cap, cur, rfl, _⟩
    · exact zeros_run w t tn u o.type e i kq kn ht htn hu hi hz hsize hby none 0 0 k hk (by omega)
    · exact zeros_run w t tn u o.type e i kq kn ht htn hu hi hz hsize hby _ n cap k hk hnm
  unfold Oper.wp execOp
  simp only [ho, resolve, invoke, builtin, Sem.run_bind, Sem.run_pure, Result.andThen_ok, List.map_toArray, List.map_cons, List.map_nil, hs, hx, hrun]
  exact hK _ _ (h v' w' h2 h3)
end
end Go.Proofs
namespace Go.Proofs
open Go.RowKit Sm
theorem Sm.row4_set' {w : World} {g : Nat} {t : TypeId} {a0 a1 a2 a3 : Value} (v0 v1 v2 v3 : Value) (h : w.heap[g]? = some (.cells #[a0, a1, a2, a3] t (0, 0))) :
    ((((w.setCell ⟨g, 0, none⟩ v0).setCell ⟨g, 1, none⟩ v1).setCell ⟨g, 2, none⟩ v2).setCell ⟨g, 3, none⟩ v3).heap[g]? = some (.cells #[v0, v1, v2, v3] t (0, 0)) :=
  heap_setCell_same _ _ _ _ _ _ (heap_setCell_same _ _ _ _ _ _ (heap_setCell_same _ _ _ _ _ _ (heap_setCell_same _ _ _ _ _ _ h)))
def Sm.d1 (q : Q4) (x : BitVec 32) (f : Nat) : BitVec 32 := rotN f (q.d ^^^ (q.a + (q.b + x)))
end Go.Proofs
namespace Go.Proofs
open Go.RowKit Sm
theorem Sm.i27b : (Tryz.prog.info? 0xa4).map (·.size) = some (wvs beginL).size := by kernel_rfl
end Go.Proofs
namespace Go.Proofs
open Go.RowKit Sm
def Sm.nv (l : List Nat) : Array Value := (l.map fun n : Nat => Value.int .i64 (Int.ofNat n)).toArray
theorem Sm.nv_one (l : List Nat) : (nv l).all (·.oneCell') = true := by
  refine all_oneCell_toArray fun v hv => ?_
  simp only [List.mem_map] at hv
  obtain ⟨x, _, rfl⟩ := hv
  rfl
theorem Sm.eqz16 : (#[.int .i64 0, .int .i64 0, .int .i64 0, .int .i64 0, .int .i64 0, .int .i64 0, .int .i64 0, .int .i64 0, .int .i64 0, .int .i64 0, .int .i64 0, .int .i64 0, .int .i64 0, .int .i64 0, .int .i64 0, .int .i64 0] : Array Value) = nv (List.replicate 16 0) := rfl
end Go.Proofs
namespace Go.Proofs
open Go.RowKit Sm
/-- the places of a mixing -/
def Sm.mxR (k : Nat) : List Nat := mxL.getD k []
theorem Sm.eqz4 : (#[.int .i64 0, .int .i64 0, .int .i64 0, .int .i64 0] : Array Value) = nv (List.replicate 4 0) := rfl
end Go.Proofs
