/-
  Bytes as a string. No condition.
-/
import Derived.Laws.BytesArg
import Derived.WalkSpells
import Derived.Shelf.Abstract
import Derived.Test.YtohidbkhccepnaaDoorValsB
namespace Go.Proofs
open Go.RowKit Go.Shelf Sm
/-- the string of these bytes -/
def Sm.strB (l : List (BitVec 8)) : ByteArray := strOfNums (l.map ib)
theorem Sm.strB_inj {a b : List (BitVec 8)} (h : strB a = strB b) : a = b := by
  have h2 : (a.map ib).map (fun n => UInt8.ofNat n.toNat) = (b.map ib).map (fun n => UInt8.ofNat n.toNat) := by
    rw [← strOfNums_data, ← strOfNums_data]
    exact congrArg (fun s : ByteArray => s.data.toList) h
  rw [List.map_map, List.map_map] at h2
  refine (List.map_inj_right ?_).1 h2
  intro x y e
  have hx := x.isLt
  have hy := y.isLt
  have e2 : (UInt8.ofNat (ib x).toNat).toNat = (UInt8.ofNat (ib y).toNat).toNat := congrArg UInt8.toNat e
  simp [ib] at e2
  exact BitVec.eq_of_toNat_eq (by omega)
theorem Sm.strB_eq (a b : List (BitVec 8)) : ((strB a).toList == (strB b).toList) = decide (a = b) := by
  rw [ByteArray.toList_eq, ByteArray.toList_eq]
  by_cases h : a = b
  · subst h; simp
  · rw [decide_eq_false h, beq_eq_false_iff_ne]
    intro e
    refine h (strB_inj ?_)
    generalize strB a = s at e
    generalize strB b = t at e
    cases s; cases t
    simp at e
    rw [e]
theorem Sm.run_str {P : Program} (w : World) (src e : TypeId) (hs : P.underlying src = some (.slice e)) (he : P.underlying e = some (.int .u8)) (l : List (BitVec 8)) (n c B : Nat) (A : Option Addr) (hn : l.length = n) (hr : Rd w B A l)
    (dst : TypeId) (hd : P.underlying dst = some .string) : (convert src dst (.slice A n c)).run P w = .ok (.string (strB l)) w := by
  subst hn
  rcases A with _ | a
  · have : l = [] := by
      cases l with
      | nil => rfl
      | cons x r =>
        obtain ⟨b, off, h, _⟩ := hr (by simp)
        cases h
    subst this
    exact run_convert_bytes_nil w src e hs he 0 c dst hd
  · by_cases h0 : 0 < l.length
    · obtain ⟨b, off, h, hb, hc⟩ := hr h0
      obtain rfl : a = ⟨b, off, none⟩ := Option.some.inj h
      refine run_convert_bytes_arg w src e hs he b off l.length c (l.map ib) (by simp) ?_ dst hd
      intro i hi
      rw [hc i l[i] (List.getElem?_eq_getElem hi)]
      congr 2
      simp [List.getD_eq_getElem?_getD, hi]
    · have : l = [] := List.eq_nil_of_length_eq_zero (by omega)
      subst this
      rw [run_convert_bytes_string w src dst e _ _ c hs he hd]
      have hl : (loadCells a 0).run P w = .ok (([] : List Int).map (Value.int .u8)).toArray w := by
        have := run_loadCells_list (P := P) w a [] (fun j v hj => by simp at hj)
        simpa using this
      have := run_bytesToString w a 0 c [] hl
      have e0 : strB [] = ByteArray.empty := rfl
      rw [e0]
      simpa using this
end Go.Proofs
