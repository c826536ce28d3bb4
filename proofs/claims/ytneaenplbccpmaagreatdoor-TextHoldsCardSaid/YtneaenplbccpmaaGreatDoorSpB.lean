/-
  How a byte stands in a quoted text: the plain facts, and the document's digit. No condition.
-/
import Derived.WalkSpells
import Derived.Test.YtneaenplbccpmaaGreatDoorTxD
import Derived.Test.YtneaenplbccpmaaGreatDoorWBut
namespace Go.Proofs
open Go Go.RowKit Sm Go.Lib
/-- a digit to the base 16 -/
def Sm.hexd (v : Nat) : BitVec 8 := if v < 10 then BitVec.ofNat 8 (48 + v) else BitVec.ofNat 8 (87 + v)
/-- how a byte stands in a quoted text -/
def Sm.spellB (b : BitVec 8) : List (BitVec 8) := if b = 34#8 ∨ b = 92#8 then [92#8, b] else if 32 ≤ b.toNat ∧ b.toNat ≤ 126 then [b] else [92#8, 120#8, hexd (b.toNat / 16), hexd (b.toNat % 16)]
def Sm.quoteL (l : List (BitVec 8)) : List (BitVec 8) := 34#8 :: l.flatMap spellB
def Sm.quoteS (l : List (BitVec 8)) : List (BitVec 8) := quoteL l ++ [34#8]
theorem Sm.spellB_len (b : BitVec 8) : (spellB b).length ≤ 4 := by
  unfold spellB
  repeat' split
  all_goals simp
theorem Sm.quoteL_len : ∀ l : List (BitVec 8), (quoteL l).length ≤ 4 * l.length + 1
  | [] => by simp [quoteL]
  | b :: r => by
    have h1 := quoteL_len r
    have h2 := spellB_len b
    unfold quoteL at *
    simp only [List.flatMap_cons, List.length_cons, List.length_append] at *
    omega
theorem Sm.quoteL_snoc {l : List (BitVec 8)} {k : Nat} (h : k < l.length) : quoteL (l.take (k + 1)) = quoteL (l.take k) ++ spellB l[k] := by
  unfold quoteL
  rw [List.take_succ_eq_append_getElem h, List.flatMap_append]
  simp
theorem Sm.ba_ext {s t : ByteArray} (h : s.data.toList = t.data.toList) : s = t := by
  have h2 : s.data = t.data := Array.toList_inj.1 h
  cases s
  cases t
  exact congrArg ByteArray.mk h2
theorem Sm.strB_join (a b : List (BitVec 8)) : strB a ++ strB b = strB (a ++ b) := by
  refine ba_ext ?_
  rw [ByteArray.data_append, Array.toList_append, strB_data, strB_data, strB_data, List.map_append]
theorem Sm.strB_length (l : List (BitVec 8)) : (strB l).size = l.length := by
  show (strB l).data.size = _
  rw [← Array.length_toList, strB_data, List.length_map]
theorem Sm.hexd_cut : ∀ x : Fin 16, ((⟨#[48, 49, 50, 51, 52, 53, 54, 55, 56, 57, 97, 98, 99, 100, 101, 102]⟩ : ByteArray).extract x.val (x.val + 1)).data.toList = (strB [hexd x.val]).data.toList := by decide +kernel
theorem Sm.hexd_slice (v : Nat) (h : v < 16) (w : World) : (Instr.sliceAt 9 (.string { data := #[48, 49, 50, 51, 52, 53, 54, 55, 56, 57, 97, 98, 99, 100, 101, 102] }) (some (.int .i64 (v : Int))) (some (.int .i64 ((v : Int) + 1))) none).run Tryz.prog w = .ok (.string (strB [hexd v])) w := by
  have e := hexd_cut ⟨v, h⟩
  have hs : ({ data := #[48, 49, 50, 51, 52, 53, 54, 55, 56, 57, 97, 98, 99, 100, 101, 102] } : ByteArray).size = 16 := rfl
  rw [run_sliceAt_string w 9 _ _ _ _ Tryz.underlying9, run_slice_string w 9 _ .i64 .i64 (v : Int) ((v : Int) + 1) Tryz.underlying9 (by omega) (by omega) (by rw [hs]; omega)]
  have e2 : ((v : Int) + 1).toNat = v + 1 := by omega
  simp only [Int.toNat_natCast, e2]
  exact congrArg (fun x => Result.ok (Value.string x) w) (ba_ext e)
theorem Sm.digit_any (v : Nat) (h : v < 16) (w : World) : Calls Tryz.prog 58 #[.int .i64 (v : Int)] w fun e w' => e = .returned (.string (strB [hexd v])) ∧ w = w' := by
  have hsl := hexd_slice v h
  go_enter Tryz.func58, Tryz.ntmps58
  go_wp2
  go_ret
  exact ⟨rfl, rfl⟩
theorem Sm.strL_get (s : ByteArray) (k : Nat) (hk : k < s.size) : (strL s)[k]? = some (s.get! k).toBitVec := by
  unfold strL
  rw [List.getElem?_map]
  cases s with
  | mk a =>
    have hk : k < a.size := hk
    show Option.map _ (a.toList[k]?) = some (a[k]!).toBitVec
    rw [getElem!_pos a k hk, List.getElem?_eq_getElem (by simpa using hk)]
    simp
theorem Sm.strL_at (s : ByteArray) (k : Nat) (h : k < (strL s).length) : (strL s)[k] = (s.get! k).toBitVec := by
  have h1 := strL_get s k (by rw [← strL_length]; exact h)
  rw [List.getElem?_eq_getElem h] at h1
  exact Option.some.inj h1
theorem Sm.get_strL (s : ByteArray) (k : Nat) (h : k < (strL s).length) : ((s.get! k).toNat : Int) = ib (strL s)[k] := by
  rw [strL_at]
  rfl
theorem Sm.one_cut (s : ByteArray) (k : Nat) (h : k < (strL s).length) : s.extract k (k + 1) = strB [(strL s)[k]] := by
  have hk : k < s.size := by rw [← strL_length]; exact h
  rw [strL_at]
  refine ba_ext ?_
  rw [strB_data]
  cases s with
  | mk a =>
    have hk : k < a.size := hk
    rw [ByteArray.data_extract]
    show (a.extract k (k + 1)).toList = [UInt8.ofBitVec (a[k]!).toBitVec]
    rw [getElem!_pos a k hk]
    apply List.ext_getElem
    · simp; omega
    · intro i h1 h2
      have : i = 0 := by simp at h2; omega
      subst this
      simp
theorem Sm.spellB_eq {b : BitVec 8} {X : Nat} (hX : b.toNat = X) : spellB b = if X = 34 ∨ X = 92 then [92#8, b] else if 32 ≤ X ∧ X ≤ 126 then [b] else [92#8, 120#8, hexd (X / 16), hexd (X % 16)] := by
  have hb34 : b = 34#8 ↔ X = 34 := by rw [← hX]; constructor; (intro e; rw [e]; rfl); intro e; exact BitVec.eq_of_toNat_eq (by rw [e]; rfl)
  have hb92 : b = 92#8 ↔ X = 92 := by rw [← hX]; constructor; (intro e; rw [e]; rfl); intro e; exact BitVec.eq_of_toNat_eq (by rw [e]; rfl)
  unfold spellB
  simp only [hX, hb34, hb92]
theorem Sm.hexd_index (v : Nat) (h : v < 16) (w : World) : (Instr.index 9 (.string { data := #[48, 49, 50, 51, 52, 53, 54, 55, 56, 57, 97, 98, 99, 100, 101, 102] }) (.int .u8 (v : Int))).run Tryz.prog w = .ok (.int .u8 (ib (hexd v))) w := by
  have hv : v = 0 ∨ v = 1 ∨ v = 2 ∨ v = 3 ∨ v = 4 ∨ v = 5 ∨ v = 6 ∨ v = 7 ∨ v = 8 ∨ v = 9 ∨ v = 10 ∨ v = 11 ∨ v = 12 ∨ v = 13 ∨ v = 14 ∨ v = 15 := by omega
  rcases hv with rfl | rfl | rfl | rfl | rfl | rfl | rfl | rfl | rfl | rfl | rfl | rfl | rfl | rfl | rfl | rfl <;> (show _ = _; kernel_rfl)
theorem Sm.and_fifteen (X : Nat) (h : X < 256) : bits .and .u8 (X : Int) 15 = ((X % 16 : Nat) : Int) := by
  have e : ∀ x : Fin 256, bits .and .u8 (x.val : Int) 15 = ((x.val % 16 : Nat) : Int) := by decide +kernel
  exact e ⟨X, h⟩
theorem Sm.cell_two_new (w : World) (x y : Value) (t : TypeId) : ∀ j v, [x, y][j]? = some v → (w.alloc (.cells #[x, y] t)).cell? ((⟨w.heap.size, 0, none⟩ : Addr).add j) = some v := by
  intro j v hj
  match j, hj with
  | 0, hj =>
    simp at hj
    subst hj
    exact World.cell?_alloc_new (w := w) #[x, y] t 0
  | 1, hj =>
    simp at hj
    subst hj
    exact World.cell?_alloc_new (w := w) #[x, y] t 1
theorem Sm.cell_four_newD (w : World) (x y z u : Value) (t : TypeId) : ∀ j v, [x, y, z, u][j]? = some v → (w.alloc (.cells #[x, y, z, u] t)).drew.cell? ((⟨w.heap.size, 0, none⟩ : Addr).add j) = some v := fun j v h => cell_four_new w x y z u t j v h
end Go.Proofs
