/-
  The walk of the law BlakeMix: at every four words and two it returns true and nothing that lay has turned, where the tables lie in memory.
-/
import Derived.Deep.RegionHeld3
import Derived.ChangeKeysEq
import Derived.Test.YtdpcgfaknbfmmaaDoorWalkB
import Derived.Test.YtdpcgfaknbfmmaaDoorWalkC
import Derived.Test.YtdpcgfaknbfmmaaDoorWorks
namespace Go.Proofs
open Go.RowKit Sm
theorem Sm.info22 : (Tryd.prog.info? 0x16).map (fun i => (i.zero, i.size, i.bytes)) = some (some (.int .u32 0), 1, 4) := by kernel_rfl
theorem Sm.plain22 : Tryd.prog.plainKey 0x16 = true := by kernel_rfl
/-- an array of words is itself -/
theorem Sm.items_same (w : World) (d : Nat) (l : List (BitVec 32)) : ∀ is : List Nat, (∀ i ∈ is, i < l.length) → (Op.eqItems (d + 1) 0x16 1 (wvs l) (wvs l) is).run Tryd.prog w = .ok true w
  | [], _ => by simp [Op.eqItems]
  | i :: is, h => by
    have hi := h i (by simp)
    have hx : (wvs l)[i * 1]? = some (.int .u32 (iv l[i])) := by simp [wvs, wl, hi, wv]
    have hp := run_part_plain (P := Tryd.prog) w plain22 hx
    have he := run_equalIn_int (P := Tryd.prog) w d 0x16 .u32 .u32 (iv l[i]) (iv l[i]) Tryd.underlying22
    have hr := items_same w d l is (fun j hj => h j (by simp [hj]))
    simp only [Op.eqItems, Sem.run_bind, hp, he, hr, Result.andThen_ok, beq_self_eq_true, Bool.not_true, Bool.false_eq_true, if_false]
theorem Sm.arr_same (w : World) {t n : Nat} (l : List (BitVec 32)) (hu : Tryd.prog.underlying t = some (.array n 0x16)) (hl : l.length = n) : (Op.equalIn 10000 t (.agg (wvs l)) (.agg (wvs l))).run Tryd.prog w = .ok true w := by
  obtain ⟨i, hi, _⟩ := info_parts info22
  have hc : Tryd.prog.cellsOf 0x16 = 1 := by kernel_rfl
  rw [run_equalIn_array w 9999 (wvs l) (wvs l) hu hi, hc]
  exact items_same w 9998 l _ fun j hj => by rw [hl]; simpa using hj
theorem Sm.q4_same (q : Q4) (w : World) : (Op.equalIn 10000 0x5a (.agg #[.int .u32 (iv q.a), .int .u32 (iv q.b), .int .u32 (iv q.c), .int .u32 (iv q.d)]) (.agg #[.int .u32 (iv q.a), .int .u32 (iv q.b), .int .u32 (iv q.c), .int .u32 (iv q.d)])).run Tryd.prog w = .ok true w :=
  arr_same w [q.a, q.b, q.c, q.d] Tryd.underlying90 rfl
theorem Sm.mix_from {b v : World} (hb : Below b.heap.size b v) (q : Q4) (x y : BitVec 32) : Calls Tryd.prog 60 #[.agg q.cells, .int .u32 (iv x), .int .u32 (iv y)] v fun e w' => e = .returned (.agg (mixS q x y).cells) ∧ Below b.heap.size b w' :=
  (mix_any q x y v).mono fun _ _ ⟨h1, h2⟩ => ⟨h1, hb.trans (h2.mono hb.size)⟩
theorem Sm.refMix_from {b v : World} (hb : Below b.heap.size b v) (q : Q4) (x y : BitVec 32) : Calls Tryd.prog 47 #[.agg q.cells, .int .u32 (iv x), .int .u32 (iv y)] v fun e w' => e = .returned (.agg (mixS q x y).cells) ∧ Below b.heap.size b w' :=
  (refMix_any q x y v).mono fun _ _ ⟨h1, h2⟩ => ⟨h1, hb.trans (h2.mono hb.size)⟩
theorem Sm.works_from {b v : World} (hb : Below b.heap.size b v) (ht : Tabs b) : Calls Tryd.prog 17 #[] v fun e w' => e = .returned (.bool true) ∧ Below b.heap.size b w' :=
  (works_any v (ht.keep hb)).mono fun _ _ ⟨h1, h2⟩ => ⟨h1, hb.trans (h2.mono hb.size)⟩
end Go.Proofs
