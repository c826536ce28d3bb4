/-
  Opening of arguments of these laws: arrays of words and of bytes, words, numbers and bytes as the walks take them. Conditions: what the frame says of an argument that can be read.
-/
import Derived.Test.YtdpcgfaknbfmmaaDoorFrame
namespace Go.Proofs.YtdpcgfaknbfmmaaDoor
open Go Go.ChangeShapes Go.WideShapes Go.ChangeAt Go.WideMaps Go.WideElems Go.RowKit Sm
set_option maxRecDepth 100000 in
theorem c28 : Tryd.prog.cellsOf 0x18 = 64 := by kernel_rfl
theorem toIv {n : Int} (h : (Lit.int .u32 n).wf = true) : ∃ x : BitVec 32, n = iv x := by
  simp [Lit.wf, IntKind.min, IntKind.max, IntKind.signed, IntKind.bits] at h
  refine ⟨BitVec.ofNat 32 n.toNat, ?_⟩
  unfold iv
  simp
  omega
theorem toIb {n : Int} (h : (Lit.int .u8 n).wf = true) : ib (BitVec.ofNat 8 n.toNat) = n := by
  simp [Lit.wf, IntKind.min, IntKind.max, IntKind.signed, IntKind.bits] at h
  unfold ib
  simp
  omega
theorem bd64 {k : IntKind} {n : Int} (hk : k = .i64) (h : (Lit.int k n).wf = true) : -9223372036854775808 ≤ n ∧ n ≤ 9223372036854775807 := by
  subst hk
  simp [Lit.wf, IntKind.min, IntKind.max, IntKind.signed, IntKind.bits] at h
  omega
set_option maxRecDepth 100000 in
/-- an array of numbers that came in -/
theorem open_nums {H : Type} {enc : TypeId × Value → H} {W : World} {base : Nat} {t e n : Nat} {k : IntKind} {v : Value} {d : DataW H} {p : List MemPlace} (ht : Tryd.prog.underlying t = some (.array n e)) (he : Tryd.prog.underlying e = some (.int k)) (hce : Tryd.prog.cellsOf e = 1) (hct : Tryd.prog.cellsOf t = n)
    (hok : Value.okWide Tryd.prog W .any base t v) (h : DataW.Trod enc Tryd.prog W 0 (fun _ => true) true t v d p) :
    ∃ zs : List Int, zs.length = n ∧ v = .agg (zs.map (Value.int k)).toArray ∧ ∀ z ∈ zs, (Lit.int k z).wf = true := by
  obtain ⟨cs, rfl⟩ : ∃ cs, v = .agg cs := by
    unfold Value.okWide at hok
    rw [ht] at hok
    obtain ⟨cs, rfl, _⟩ := hok
    exact ⟨cs, rfl⟩
  obtain ⟨fuel, hf⟩ := h
  simp only [Value.cells] at hf
  cases fuel with
  | zero => simp [DataW.trod] at hf
  | succ fuel =>
    simp only [DataW.trod, ht, hce, hct, Nat.mul_one] at hf
    split at hf
    · rename_i hl
      obtain ⟨xs, hm, _⟩ := Option.map_eq_some_iff.1 hf
      have hxl : xs.length = n := by simpa using Lib.mapM_length hm
      have key : ∀ i, i < n → ∃ z, cs.toList[i]? = some (.int k z) ∧ (Lit.int k z).wf = true := by
        intro i hi
        obtain ⟨b, hb, hf⟩ := Lib.mapM_at hm i i (by simp [hi])
        obtain ⟨z, hc, _, hw⟩ := DataW.trod_int he hf
        refine ⟨z, ?_, hw⟩
        have := congrArg (·[0]?) hc
        simpa [List.getElem?_take, List.getElem?_drop] using this
      have hall : ∀ c ∈ cs.toList, ∃ z, c = .int k z ∧ (Lit.int k z).wf = true := by
        intro c hc
        obtain ⟨i, hi, rfl⟩ := List.mem_iff_getElem.1 hc
        obtain ⟨z, hz, hw⟩ := key i (by rw [← hl]; exact hi)
        rw [List.getElem?_eq_getElem hi] at hz
        exact ⟨z, Option.some.inj hz, hw⟩
      have make : ∀ l : List Value, (∀ c ∈ l, ∃ z, c = .int k z ∧ (Lit.int k z).wf = true) → ∃ zs : List Int, l = zs.map (Value.int k) ∧ ∀ z ∈ zs, (Lit.int k z).wf = true := by
        intro l
        induction l with
        | nil => intro _; exact ⟨[], rfl, by simp⟩
        | cons c l ih =>
          intro h
          obtain ⟨z, rfl, hw⟩ := h c (by simp)
          obtain ⟨zs, rfl, hz⟩ := ih fun c hc => h c (by simp [hc])
          refine ⟨z :: zs, rfl, fun y hy => ?_⟩
          rcases List.mem_cons.1 hy with rfl | hy
          · exact hw
          · exact hz y hy
      obtain ⟨zs, hzs, hw⟩ := make _ hall
      refine ⟨zs, ?_, ?_, hw⟩
      · have := congrArg List.length hzs; simp at this; simp at hl; omega
      · rw [← hzs]
    · cases hf
set_option maxRecDepth 100000 in
theorem words_of {zs : List Int} (h : ∀ z ∈ zs, (Lit.int .u32 z).wf = true) : ∃ l : List (BitVec 32), zs.map (Value.int .u32) = wl l ∧ l.length = zs.length := by
  induction zs with
  | nil => exact ⟨[], rfl, rfl⟩
  | cons z zs ih =>
    obtain ⟨l, e, hl⟩ := ih fun y hy => h y (by simp [hy])
    obtain ⟨x, rfl⟩ := toIv (h z (by simp))
    exact ⟨x :: l, by rw [List.map_cons, e]; rfl, by simp [hl]⟩
set_option maxRecDepth 100000 in
theorem octs_of {zs : List Int} (h : ∀ z ∈ zs, (Lit.int .u8 z).wf = true) : ∃ l : List (BitVec 8), zs.map (Value.int .u8) = l.map byteCell ∧ l.length = zs.length := by
  induction zs with
  | nil => exact ⟨[], rfl, rfl⟩
  | cons z zs ih =>
    obtain ⟨l, e, hl⟩ := ih fun y hy => h y (by simp [hy])
    exact ⟨BitVec.ofNat 8 z.toNat :: l, by rw [List.map_cons, e, List.map_cons, byteCell, toIb (h z (by simp))], by simp [hl]⟩
set_option maxRecDepth 100000 in
theorem open_words {H : Type} {enc : TypeId × Value → H} {W : World} {base : Nat} {t n : Nat} {v : Value} {d : DataW H} {p : List MemPlace} (ht : Tryd.prog.underlying t = some (.array n 0x16)) (hct : Tryd.prog.cellsOf t = n)
    (hok : Value.okWide Tryd.prog W .any base t v) (h : DataW.Trod enc Tryd.prog W 0 (fun _ => true) true t v d p) : ∃ l : List (BitVec 32), l.length = n ∧ v = .agg (wvs l) := by
  obtain ⟨zs, hl, rfl, hw⟩ := open_nums ht Tryd.underlying22 c22 hct hok h
  obtain ⟨l, e, hll⟩ := words_of hw
  exact ⟨l, by omega, by rw [e]; rfl⟩
set_option maxRecDepth 100000 in
theorem open_octs {H : Type} {enc : TypeId × Value → H} {W : World} {base : Nat} {t n : Nat} {v : Value} {d : DataW H} {p : List MemPlace} (ht : Tryd.prog.underlying t = some (.array n 5)) (hct : Tryd.prog.cellsOf t = n)
    (hok : Value.okWide Tryd.prog W .any base t v) (h : DataW.Trod enc Tryd.prog W 0 (fun _ => true) true t v d p) : ∃ l : List (BitVec 8), l.length = n ∧ v = .agg (l.map byteCell).toArray := by
  obtain ⟨zs, hl, rfl, hw⟩ := open_nums ht Tryd.underlying5 c5 hct hok h
  obtain ⟨l, e, hll⟩ := octs_of hw
  exact ⟨l, by omega, by rw [e]⟩
set_option maxRecDepth 100000 in
theorem open_q4 {H : Type} {enc : TypeId × Value → H} {W : World} {base : Nat} {v : Value} {d : DataW H} {p : List MemPlace} (hok : Value.okWide Tryd.prog W .any base 0x5a v) (h : DataW.Trod enc Tryd.prog W 0 (fun _ => true) true 0x5a v d p) : ∃ q : Q4, v = .agg q.cells := by
  obtain ⟨l, hl, rfl⟩ := open_words Tryd.underlying90 c23 hok h
  match l, hl with
  | [a, b, c, e], _ => exact ⟨⟨a, b, c, e⟩, rfl⟩
end Go.Proofs.YtdpcgfaknbfmmaaDoor
