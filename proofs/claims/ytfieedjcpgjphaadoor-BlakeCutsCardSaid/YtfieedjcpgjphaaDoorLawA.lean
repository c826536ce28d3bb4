/-
  The walk of the law BlakeMix: at every four words and two it returns true and nothing that lay has turned, where the tables lie in memory.
-/
import Derived.Deep.RegionHeld3
import Derived.ChangeKeysEq
import Derived.Test.YtfieedjcpgjphaaDoorWalkB
import Derived.Test.YtfieedjcpgjphaaDoorWalkC
import Derived.Test.YtfieedjcpgjphaaDoorWorks
namespace Go.Proofs
open Go.RowKit Sm
theorem Sm.info22 : (Tryd.prog.info? 22).map (fun i => (i.zero, i.size, i.bytes)) = some (some (.int .u32 0), 1, 4) := by kernel_rfl
theorem Sm.plain22 : Tryd.prog.plainKey 22 = true := by kernel_rfl
/-- an array of words is itself -/
theorem Sm.items_same (w : World) (d : Nat) (l : List (BitVec 32)) : ∀ is : List Nat, (∀ i ∈ is, i < l.length) → (Op.eqItems (d + 1) 22 1 (wvs l) (wvs l) is).run Tryd.prog w = .ok true w
  | [], _ => by simp [Op.eqItems]
  | i :: is, h => by
    have hi := h i (by simp)
    have hx : (wvs l)[i * 1]? = some (.int .u32 (iv l[i])) := by simp [wvs, wl, hi, wv]
    have hp := run_part_plain (P := Tryd.prog) w plain22 hx
    have he := run_equalIn_int (P := Tryd.prog) w d 22 .u32 .u32 (iv l[i]) (iv l[i]) Tryd.underlying22
    have hr := items_same w d l is (fun j hj => h j (by simp [hj]))
    simp only [Op.eqItems, Sem.run_bind, hp, he, hr, Result.andThen_ok, beq_self_eq_true, Bool.not_true, Bool.false_eq_true, if_false]
theorem Sm.arr_same (w : World) {t n : Nat} (l : List (BitVec 32)) (hu : Tryd.prog.underlying t = some (.array n 22)) (hl : l.length = n) : (Op.equalIn 10000 t (.agg (wvs l)) (.agg (wvs l))).run Tryd.prog w = .ok true w := by
  obtain ⟨i, hi, _⟩ := info_parts info22
  have hc : Tryd.prog.cellsOf 22 = 1 := by kernel_rfl
  rw [run_equalIn_array w 9999 (wvs l) (wvs l) hu hi, hc]
  exact items_same w 9998 l _ fun j hj => by rw [hl]; simpa using hj
theorem Sm.q4_same (q : Q4) (w : World) : (Op.equalIn 10000 23 (.agg #[.int .u32 (iv q.a), .int .u32 (iv q.b), .int .u32 (iv q.c), .int .u32 (iv q.d)]) (.agg #[.int .u32 (iv q.a), .int .u32 (iv q.b), .int .u32 (iv q.c), .int .u32 (iv q.d)])).run Tryd.prog w = .ok true w :=
  arr_same w [q.a, q.b, q.c, q.d] Tryd.underlying23 rfl
theorem Sm.mix_from {b v : World} (hb : Below b.heap.size b v) (q : Q4) (x y : BitVec 32) : Calls Tryd.prog 10 #[.agg q.cells, .int .u32 (iv x), .int .u32 (iv y)] v fun e w' => e = .returned (.agg (mixS q x y).cells) ∧ Below b.heap.size b w' :=
  (mix_any q x y v).mono fun _ _ ⟨h1, h2⟩ => ⟨h1, hb.trans (h2.mono hb.size)⟩
theorem Sm.refMix_from {b v : World} (hb : Below b.heap.size b v) (q : Q4) (x y : BitVec 32) : Calls Tryd.prog 11 #[.agg q.cells, .int .u32 (iv x), .int .u32 (iv y)] v fun e w' => e = .returned (.agg (mixS q x y).cells) ∧ Below b.heap.size b w' :=
  (refMix_any q x y v).mono fun _ _ ⟨h1, h2⟩ => ⟨h1, hb.trans (h2.mono hb.size)⟩
theorem Sm.works_from {b v : World} (hb : Below b.heap.size b v) (ht : Tabs b) : Calls Tryd.prog 12 #[] v fun e w' => e = .returned (.bool true) ∧ Below b.heap.size b w' :=
  (works_any v (ht.keep hb)).mono fun _ _ ⟨h1, h2⟩ => ⟨h1, hb.trans (h2.mono hb.size)⟩
set_option maxRecDepth 100000 in
set_option maxHeartbeats 2000000 in
theorem Sm.mix_law (q : Q4) (x y : BitVec 32) (w : World) (ht : Tabs w) : Calls Tryd.prog 3 #[.agg q.cells, .int .u32 (iv x), .int .u32 (iv y)] w fun e w' => e = .returned (.bool true) ∧ Below w.heap.size w w' := by
  obtain ⟨r, hr⟩ : ∃ r, mixS q x y = r := ⟨_, rfl⟩
  have hm := fun {b v : World} (hb : Below b.heap.size b v) => mix_from hb q x y
  have hf := fun {b v : World} (hb : Below b.heap.size b v) => refMix_from hb q x y
  rw [hr] at hm hf
  unfold Q4.cells at hm hf ⊢
  clear hr
  have hq := q4_same r
  go_enter Tryd.func3, Tryd.ntmps3
  go_upto_region 1 with fail
  obtain ⟨W0, hW0⟩ : ∃ W0, w.alloc (.cells #[.int .u32 (iv q.a), .int .u32 (iv q.b), .int .u32 (iv q.c), .int .u32 (iv q.d)] 23) = W0 := ⟨_, rfl⟩
  have hz : w.heap.size < W0.heap.size := by rw [← hW0]; simp
  have c0 : W0.cell? ⟨w.heap.size, 0, none⟩ = some (.int .u32 (iv q.a)) := by rw [← hW0]; simp
  have c1 : W0.cell? ⟨w.heap.size, 1, none⟩ = some (.int .u32 (iv q.b)) := by rw [← hW0]; simp
  have c2 : W0.cell? ⟨w.heap.size, 2, none⟩ = some (.int .u32 (iv q.c)) := by rw [← hW0]; simp
  have c3 : W0.cell? ⟨w.heap.size, 3, none⟩ = some (.int .u32 (iv q.d)) := by rw [← hW0]; simp
  have hb0 : Below w.heap.size w W0 := by rw [← hW0]; exact (Below.refl _ w).alloc (Nat.le_refl _) _
  have ht0 := ht.keep hb0
  rw [hW0]
  have HL := Lib.hid hz
  have HB := Lib.hid hb0
  clear hW0 hz hb0 ht
  have hb : Below W0.heap.size W0 W0.drew := (Below.refl _ _).drew
  go_region_held3 (fun W => W.cell? ⟨w.heap.size, 0, none⟩ = some (.int .u32 (iv q.a)) ∧ W.cell? ⟨w.heap.size, 1, none⟩ = some (.int .u32 (iv q.b)) ∧ W.cell? ⟨w.heap.size, 2, none⟩ = some (.int .u32 (iv q.c)) ∧ W.cell? ⟨w.heap.size, 3, none⟩ = some (.int .u32 (iv q.d)))
    (first | exact keep4 HL.out c0 c1 c2 c3 hb3 | exact keep4 HL.out c0 c1 c2 c3 hb2 | exact keep4 HL.out c0 c1 c2 c3 hb1 | exact keep4 HL.out c0 c1 c2 c3 hb)
    (first
    | (go_at_call 10; (with_reducible refine (hm hb).mono ?_); rintro e w1 ⟨rfl, hb1⟩)
    | (go_at_call 11; (with_reducible refine (hf hb1).mono ?_); rintro e w2 ⟨rfl, hb2⟩)
    | (go_at_call 12; (with_reducible refine (works_from hb2 ht0).mono ?_); rintro e w3 ⟨rfl, hb3⟩))
  go_wp2
  go_ret
  exact ⟨rfl, HB.out.trans (hb3.mono HB.out.size)⟩
end Go.Proofs
