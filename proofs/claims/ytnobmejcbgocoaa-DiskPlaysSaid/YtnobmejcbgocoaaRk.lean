/-
  The document's Stop and New. What the document says a crash leaves. The program's disk is the document's. Conditions: as each theorem names them.
-/
import Derived.Test.YtnobmejcbgocoaaRfE
namespace Go.Proofs
open Go Go.RowKit Sm Go.Lib Go.Maps Go.WideMaps
attribute [local go_sem] Oper.semAt_some
theorem Sm.put5 (W : World) (B : Nat) (v0 v1 v2 v3 v4 : Value) : But (fun b => b = B) W (((((W.setCell ⟨B, 0, none⟩ v0).setCell ⟨B, 1, none⟩ v1).setCell ⟨B, 2, none⟩ v2).setCell ⟨B, 3, none⟩ v3).setCell ⟨B, 4, none⟩ v4) :=
  (((((But.refl (fun b => b = B) W).set ⟨B, 0, none⟩ v0 (.inl rfl)).set ⟨B, 1, none⟩ v1 (.inl rfl)).set ⟨B, 2, none⟩ v2 (.inl rfl)).set ⟨B, 3, none⟩ v3 (.inl rfl)).set ⟨B, 4, none⟩ v4 (.inl rfl)
set_option maxRecDepth 100000 in
set_option maxHeartbeats 4000000 in
theorem Sm.refStop_any (s : DSt) (A : Option Addr) (n c : Nat) (k : Int) (w : World) :
    Calls Try.prog 59 #[refV s A n c, .int .i64 k] w fun e w' => e = .returned (.tuple #[refV (stoM s k).1 A n c, .int .i64 (stoM s k).2]) ∧ Below w.heap.size w w' := by
  obtain ⟨st, af, de, ro⟩ := s
  unfold refV
  dsimp only
  obtain ⟨w3, hw3⟩ : ∃ w3, ((w.alloc (.cells #[.int .i64 ro, .slice A n c, .bool st, .int .i64 af, .bool de] 28)).alloc (.cells #[.int .i64 0, .slice none 0 0, .bool false, .int .i64 0, .bool false] 28)) = w3 := ⟨_, rfl⟩
  have hb3 : Below w.heap.size w w3 := by rw [← hw3]; exact ((Below.refl _ w).alloc (Nat.le_refl _) _).alloc (by simp) _
  have hx : w3.heap[w.heap.size]? = some (.cells #[.int .i64 ro, .slice A n c, .bool st, .int .i64 af, .bool de] 28 (0, 0)) := by
    rw [← hw3]; exact (Below.heap_alloc _ _ _ (by simp)).trans (World.alloc_heap_new w _)
  have hrb : w3.heap[w.heap.size + 1]? = some (.cells #[.int .i64 0, .slice none 0 0, .bool false, .int .i64 0, .bool false] 28 (0, 0)) := by
    rw [← hw3]
    have := World.alloc_heap_new (w.alloc (.cells #[.int .i64 ro, .slice A n c, .bool st, .int .i64 af, .bool de] 28)) (.cells #[.int .i64 0, .slice none 0 0, .bool false, .int .i64 0, .bool false] 28)
    rwa [World.size_alloc] at this
  obtain ⟨x0, x1, x2, x3, x4⟩ := cells5 hx
  obtain ⟨k0, k1, k2, k3, k4⟩ := cells5 hrb
  have fx2 := frozen_of_heap hx 2
  have fx3 := frozen_of_heap hx 3
  have g0 := frozen_of_heap hrb 0
  have g1 := frozen_of_heap hrb 1
  have g2 := frozen_of_heap hrb 2
  have g3 := frozen_of_heap hrb 3
  have g4 := frozen_of_heap hrb 4
  have HX := Lib.hid hx
  have HRB := Lib.hid hrb
  have HB3 := Lib.hid hb3
  clear hx hrb hb3
  by_cases hk : k < 0
  · have hs : stoM ⟨st, af, de, ro⟩ k = (⟨st, af, de, ro⟩, 2) := by unfold stoM; rw [if_pos hk]
    rw [hs]
    clear hs
    go_enter Try.func59, Try.ntmps59
    go_wp2
    obtain ⟨d0, d1, d2, d3, d4⟩ := cells5 (set5 HRB.out (.int .i64 ro) (.slice A n c) (.bool st) (.int .i64 af) (.bool de))
    refine bodyPost_ret (v := .tuple #[.agg #[.int .i64 ro, .slice A n c, .bool st, .int .i64 af, .bool de], .int .i64 2]) (by simp [results, Try.results59, go_sem, d0, d1, d2, d3, d4]) rfl ⟨rfl, ?_⟩
    exact HB3.out.trans ((put5 w3 (w.heap.size + 1) (.int .i64 ro) (.slice A n c) (.bool st) (.int .i64 af) (.bool de)).to_below HB3.out.size (fun b e => by omega))
  cases de with
  | true =>
    have hs : stoM ⟨st, af, true, ro⟩ k = (⟨st, af, true, ro⟩, 172) := by unfold stoM; rw [if_neg hk, if_pos rfl]
    rw [hs]
    clear hs
    go_enter Try.func59, Try.ntmps59
    go_wp2
    obtain ⟨d0, d1, d2, d3, d4⟩ := cells5 (set5 HRB.out (.int .i64 ro) (.slice A n c) (.bool st) (.int .i64 af) (.bool true))
    refine bodyPost_ret (v := .tuple #[.agg #[.int .i64 ro, .slice A n c, .bool st, .int .i64 af, .bool true], .int .i64 172]) (by simp [results, Try.results59, go_sem, d0, d1, d2, d3, d4]) rfl ⟨rfl, ?_⟩
    exact HB3.out.trans ((put5 w3 (w.heap.size + 1) (.int .i64 ro) (.slice A n c) (.bool st) (.int .i64 af) (.bool true)).to_below HB3.out.size (fun b e => by omega))
  | false =>
    have hs : stoM ⟨st, af, false, ro⟩ k = (⟨true, k, false, ro⟩, 0) := by unfold stoM; rw [if_neg hk, if_neg (show ¬ false = true by decide)]
    rw [hs]
    clear hs
    go_enter Try.func59, Try.ntmps59
    go_upto_region 6 with fail
    obtain ⟨W5, hW5⟩ : ∃ W5, (w3.setCell ⟨w.heap.size, 2, none⟩ (.bool true)).setCell ⟨w.heap.size, 3, none⟩ (.int .i64 k) = W5 := ⟨_, rfl⟩
    have hbx : W5.heap[w.heap.size]? = some (.cells #[.int .i64 ro, .slice A n c, .bool true, .int .i64 k, .bool false] 28 (0, 0)) := by
      rw [← hW5]; exact heap_setCells (i := 3) (heap_setCells (i := 2) HX.out)
    have hbt5 : But (fun b => b = w.heap.size) w3 W5 := by rw [← hW5]; exact ((But.refl (fun b => b = w.heap.size) w3).set ⟨w.heap.size, 2, none⟩ _ (.inl rfl)).set ⟨w.heap.size, 3, none⟩ _ (.inl rfl)
    have hr5 := hbt5.box HRB.out (fun e => by omega)
    have HB5 := Lib.hid (HB3.out.trans (hbt5.to_below HB3.out.size (fun b e => by omega)))
    rw [hW5]
    clear hW5 x0 x1 x2 x3 x4 fx2 fx3 g0 g1 g2 g3 g4 k0 k1 k2 k3 k4 hbt5
    obtain ⟨x0, x1, x2, x3, x4⟩ := cells5 hbx
    obtain ⟨k0, k1, k2, k3, k4⟩ := cells5 hr5
    have g0 := frozen_of_heap hr5 0
    have g1 := frozen_of_heap hr5 1
    have g2 := frozen_of_heap hr5 2
    have g3 := frozen_of_heap hr5 3
    have g4 := frozen_of_heap hr5 4
    have HR5 := Lib.hid hr5
    clear hbx hr5
    go_wp2
    obtain ⟨d0, d1, d2, d3, d4⟩ := cells5 (set5 HR5.out (.int .i64 ro) (.slice A n c) (.bool true) (.int .i64 k) (.bool false))
    refine bodyPost_ret (v := .tuple #[.agg #[.int .i64 ro, .slice A n c, .bool true, .int .i64 k, .bool false], .int .i64 0]) (by simp [results, Try.results59, go_sem, d0, d1, d2, d3, d4]) rfl ⟨rfl, ?_⟩
    exact HB5.out.trans ((put5 W5 (w.heap.size + 1) (.int .i64 ro) (.slice A n c) (.bool true) (.int .i64 k) (.bool false)).to_below HB5.out.size (fun b e => by omega))
set_option maxRecDepth 100000 in
set_option maxHeartbeats 4000000 in
theorem Sm.refNew_any (r : Int) (w : World) :
    Calls Try.prog 35 #[.int .i64 r] w fun e w' => e = .returned (.tuple (if r < 1 ∨ 16777216 < r then #[refV ⟨false, 0, false, 0⟩ none 0 0, .int .i64 2] else #[refV ⟨false, 0, false, r⟩ none 0 0, .int .i64 0])) ∧ Below w.heap.size w w' := by
  obtain ⟨w3, hw3⟩ : ∃ w3, (w.alloc (.cells #[.int .i64 0, .slice none 0 0, .bool false, .int .i64 0, .bool false] 28)) = w3 := ⟨_, rfl⟩
  have hb3 : Below w.heap.size w w3 := by rw [← hw3]; exact (Below.refl _ w).alloc (Nat.le_refl _) _
  have hrb : w3.heap[w.heap.size]? = some (.cells #[.int .i64 0, .slice none 0 0, .bool false, .int .i64 0, .bool false] 28 (0, 0)) := by
    rw [← hw3]
    exact World.alloc_heap_new w _
  obtain ⟨k0, k1, k2, k3, k4⟩ := cells5 hrb
  have g0 := frozen_of_heap hrb 0
  have g1 := frozen_of_heap hrb 1
  have g2 := frozen_of_heap hrb 2
  have g3 := frozen_of_heap hrb 3
  have g4 := frozen_of_heap hrb 4
  have HRB := Lib.hid hrb
  have HB3 := Lib.hid hb3
  clear hrb hb3
  have hput := fun r => HB3.out.trans ((put5 w3 w.heap.size (.int .i64 r) (.slice none 0 0) (.bool false) (.int .i64 0) (.bool false)).to_below HB3.out.size (fun b e => by omega))
  have HPUT := Lib.hid hput
  clear hput
  unfold refV
  dsimp only
  by_cases h1 : r < 1
  · rw [if_pos (.inl h1)]
    go_enter Try.func35, Try.ntmps35
    go_wp2
    obtain ⟨d0, d1, d2, d3, d4⟩ := cells5 (set5 HRB.out (.int .i64 0) (.slice none 0 0) (.bool false) (.int .i64 0) (.bool false))
    exact bodyPost_ret (v := .tuple #[.agg #[.int .i64 0, .slice none 0 0, .bool false, .int .i64 0, .bool false], .int .i64 2]) (by simp [results, Try.results35, go_sem, d0, d1, d2, d3, d4]) rfl ⟨rfl, HPUT.out 0⟩
  by_cases h2 : 16777216 < r
  · rw [if_pos (.inr h2)]
    go_enter Try.func35, Try.ntmps35
    go_wp2
    obtain ⟨d0, d1, d2, d3, d4⟩ := cells5 (set5 HRB.out (.int .i64 0) (.slice none 0 0) (.bool false) (.int .i64 0) (.bool false))
    exact bodyPost_ret (v := .tuple #[.agg #[.int .i64 0, .slice none 0 0, .bool false, .int .i64 0, .bool false], .int .i64 2]) (by simp [results, Try.results35, go_sem, d0, d1, d2, d3, d4]) rfl ⟨rfl, HPUT.out 0⟩
  · rw [if_neg (by omega)]
    go_enter Try.func35, Try.ntmps35
    go_wp2
    obtain ⟨d0, d1, d2, d3, d4⟩ := cells5 (set5 HRB.out (.int .i64 r) (.slice none 0 0) (.bool false) (.int .i64 0) (.bool false))
    exact bodyPost_ret (v := .tuple #[.agg #[.int .i64 r, .slice none 0 0, .bool false, .int .i64 0, .bool false], .int .i64 0]) (by simp [results, Try.results35, go_sem, d0, d1, d2, d3, d4]) rfl ⟨rfl, HPUT.out r⟩
theorem Sm.crM_len (picks : List Int) : ∀ (L : List (List (BitVec 8) × List (BitVec 8) × Nat)) (k : Nat), (crM picks k L).length = L.length
  | [], _ => rfl
  | t :: r, k => by unfold crM; rw [List.length_cons, List.length_cons, crM_len picks r (k + 1)]
theorem Sm.crM_at (picks : List Int) : ∀ (L : List (List (BitVec 8) × List (BitVec 8) × Nat)) (j k : Nat) (t), L[k]? = some t → (crM picks j L)[k]? = some (t.1, t.2.1.take (crK (picks.getD (j + k) 0) t), crK (picks.getD (j + k) 0) t)
  | [], _, k, t, h => by simp at h
  | g :: r, j, 0, t, h => by
    simp only [List.getElem?_cons_zero, Option.some.injEq] at h
    subst h
    rfl
  | g :: r, j, k + 1, t, h => by
    rw [List.getElem?_cons_succ] at h
    unfold crM
    rw [List.getElem?_cons_succ, crM_at picks r (j + 1) k t h, show j + 1 + k = j + (k + 1) by omega]
set_option maxRecDepth 100000 in
set_option maxHeartbeats 8000000 in
theorem Sm.refCrash_any {S : Nat → Prop} (s : DSt) (A : Option Addr) (n c : Nat) (fs : List FileR) (Ap : Option Addr) (np cp : Nat) (picks : List Int) (w : World) (h : FsAt S w A fs) (hn : fs.length = n) (hn2 : n ≤ 100000) (hS : ∀ b, S b → b < w.heap.size)
    (hsu : ∀ f ∈ fs, f.t.2.2 ≤ f.t.2.1.length ∧ f.t.2.1.length ≤ 1000000000) (hpk : PkV w picks w.heap.size 0 (.slice Ap np cp)) :
    Calls Try.prog 58 #[refV s A n c, .slice Ap np cp] w fun e w' => ∃ B cB fs', e = .returned (refV ⟨false, 0, false, s.room⟩ B n cB) ∧ FsAt S w' B fs' ∧ fs'.map (fun f => f.t) = crM picks 0 (fs.map fun f => f.t) ∧ Below w.heap.size w w' := by
  obtain ⟨st, af, de, ro⟩ := s
  obtain ⟨A0, c0, he, hlc, hcm, hcell⟩ := hpk
  rw [Nat.sub_zero] at he hlc hcell
  injection he with e1 e2 e3
  subst e1 e2 e3
  have hnpI : (picks.length : Int) ≤ 9223372036854775807 := by omega
  unfold refV
  dsimp only
  obtain ⟨i0, hi, hz⟩ : ∃ i, Try.prog.info? 59 = some i ∧ (i.zero, i.size, i.bytes) = (some (.agg #[.string ByteArray.empty, .slice none 0 0, .int .i64 0]), 3, 48) := by
    have := refInfo59
    obtain ⟨i, h1, h2⟩ := Option.map_eq_some_iff.1 this
    exact ⟨i, h1, h2⟩
  simp only [Prod.mk.injEq] at hz
  obtain ⟨hz0, hz1, hz2⟩ := hz
  have hx0 : ((w.alloc (.cells #[.int .i64 ro, .slice A n c, .bool st, .int .i64 af, .bool de] 28)).alloc (.cells #[.int .i64 0, .slice none 0 0, .bool false, .int .i64 0, .bool false] 28)).heap[w.heap.size]? = some (.cells #[.int .i64 ro, .slice A n c, .bool st, .int .i64 af, .bool de] 28 (0, 0)) :=
    (Below.heap_alloc _ _ _ (by simp)).trans (World.alloc_heap_new w _)
  obtain ⟨wa, hwa⟩ : ∃ wa, ((w.alloc (.cells #[.int .i64 ro, .slice A n c, .bool st, .int .i64 af, .bool de] 28)).alloc (.cells #[.int .i64 0, .slice none 0 0, .bool false, .int .i64 0, .bool false] 28)) = wa := ⟨_, rfl⟩
  have hsa : wa.heap.size = w.heap.size + 1 + 1 := by rw [← hwa]; simp
  have hba : Below w.heap.size w wa := by rw [← hwa]; exact ((Below.refl _ w).alloc (Nat.le_refl _) _).alloc (by simp) _
  have hra : wa.heap[w.heap.size + 1]? = some (.cells #[.int .i64 0, .slice none 0 0, .bool false, .int .i64 0, .bool false] 28 (0, 0)) := by
    rw [← hwa]
    have := World.alloc_heap_new (w.alloc (.cells #[.int .i64 ro, .slice A n c, .bool st, .int .i64 af, .bool de] 28)) (.cells #[.int .i64 0, .slice none 0 0, .bool false, .int .i64 0, .bool false] 28)
    rwa [World.size_alloc] at this
  rw [hwa] at hx0
  obtain ⟨x0, x1, x2, x3, x4⟩ := cells5 hx0
  have HWA := Lib.hid hwa
  have HX0 := Lib.hid hx0
  have HRA := Lib.hid hra
  have HBA := Lib.hid hba
  have HSA := Lib.hid hsa
  have H := Lib.hid h
  have HN := Lib.hid hn
  have HCELL := Lib.hid hcell
  have HSU := Lib.hid hsu
  clear hwa hx0 hra hba hsa h hn hcell hsu
  go_enter Try.func58, Try.ntmps58
  go_upto_region 1 with fail
  rw [HWA.out]
  go_upto_region 2 with fail
  obtain ⟨w3, hw3⟩ : ∃ w3, wa.alloc (.cells #[.int .i64 ro, .slice none 0 0, .bool false, .int .i64 0, .bool false] 28) = w3 := ⟨_, rfl⟩
  have hb3 : Below wa.heap.size wa w3 := by rw [← hw3]; exact (Below.refl _ wa).alloc (Nat.le_refl _) _
  have hn3 : w3.heap[wa.heap.size]? = some (.cells #[.int .i64 ro, .slice none 0 0, .bool false, .int .i64 0, .bool false] 28 (0, 0)) := by rw [← hw3]; exact World.alloc_heap_new wa _
  rw [hw3]
  clear hw3
  have HX3 := Lib.hid ((hb3.block _ (Array.getElem?_eq_some_iff.1 HX0.out).1).trans HX0.out)
  have HR3 := Lib.hid ((hb3.block _ (Array.getElem?_eq_some_iff.1 HRA.out).1).trans HRA.out)
  have HB3 := Lib.hid (HBA.out.trans (hb3.mono HBA.out.size))
  have hN1 : w.heap.size + 1 < wa.heap.size := by have := HSA.out; omega
  obtain ⟨Nb, hNb⟩ : ∃ Nb, wa.heap.size = Nb := ⟨_, rfl⟩
  rw [hNb] at hn3 hN1 ⊢
  have hN3 : Nb < w3.heap.size := (Array.getElem?_eq_some_iff.1 hn3).1
  have HN3 := Lib.hid hn3
  clear hb3 hn3 hNb x0 x1 x2 x3 x4
  go_wp2
  go_loopw [6] (fun v6 wr => ∃ (k : Nat) (B : Option Addr) (cB : Nat) (fsK : List FileR), k ≤ n ∧ v6 = .int .i64 (k : Int) ∧ Hid (fsK.map (fun f => f.t) = (crM picks 0 (fs.map fun f => f.t)).take k) ∧ Hid (wr.heap[Nb]? = some (.cells #[.int .i64 ro, .slice B k cB, .bool false, .int .i64 0, .bool false] 28 (0, 0))) ∧ Hid (wr.ownsRow w3.heap.size 59 3 (.slice B k cB) k (fsK.flatMap FileR.cells)) ∧ Hid (∀ f ∈ fsK, FOk S w f) ∧ Hid (But (fun b => b = Nb) w3 wr)) (fun v6 _ => n - (RowKit.intOf v6).toNat)
  case atStart => exact ⟨0, none, 0, [], Nat.zero_le _, rfl, Lib.hid rfl, HN3, Lib.hid (World.ownsRow_nil _ _ _ _), Lib.hid (fun f hf => by cases hf), Lib.hid (But.refl _ _)⟩
  case round =>
    obtain ⟨wo, rfl⟩ : ∃ wo : World, wo = wr := ⟨_, rfl⟩
    obtain ⟨k, B, cB, fsK, hk, rfl, HE, HNB, HO, HF, HB⟩ := hrel
    have hBw : Below w.heap.size w wo := HB3.out.trans (HB.out.to_below HB3.out.size (fun b e => by omega))
    have hx := HB.out.box HX3.out (fun e => by omega)
    obtain ⟨x0, x1, x2, x3, x4⟩ := cells5 hx
    have hwo3 := HB.out.size
    by_cases hlt : k < n
    · have hkx : k < fs.length := by rw [HN.out]; exact hlt
      obtain ⟨b, off, rfl, hb, _, hcl⟩ := (H.out.keep hBw).1 (by omega)
      obtain ⟨f, hf⟩ : ∃ f, fs[k] = f := ⟨_, rfl⟩
      have hfk : fs[k]? = some f := by rw [List.getElem?_eq_getElem hkx, hf]
      have hfm : f ∈ fs := List.mem_of_getElem? hfk
      have hcl2 := hcl k f hfk
      have q0 : wo.cell? ⟨b, off + k * 3, none⟩ = some (.string (strB f.t.1)) := hcl2 0 _ rfl
      have q1 : wo.cell? ⟨b, off + k * 3 + 1, none⟩ = some (.slice f.A f.t.2.1.length f.c) := hcl2 1 _ rfl
      have q2 : wo.cell? ⟨b, off + k * 3 + 2, none⟩ = some (.int .i64 (f.t.2.2 : Int)) := hcl2 2 _ rfl
      have hfo := H.out.2 f hfm
      obtain ⟨hsl, hlI⟩ := HSU.out f hfm
      obtain ⟨hlcf, hcfI⟩ := hfo.2
      have hcrk : ∃ P : Nat, crK (picks.getD k 0) f.t = f.t.2.2 + P ∧ f.t.2.2 + P ≤ f.t.2.1.length ∧ (P : Int) = picks.getD k 0 % ((f.t.2.1.length : Int) - (f.t.2.2 : Int) + 1) := by
        have e0 := Int.emod_nonneg (picks.getD k 0) (by omega : (f.t.2.1.length : Int) - f.t.2.2 + 1 ≠ 0)
        have e1 := Int.emod_lt_of_pos (picks.getD k 0) (by omega : 0 < (f.t.2.1.length : Int) - f.t.2.2 + 1)
        refine ⟨_, rfl, ?_, ?_⟩ <;> omega
      obtain ⟨P, hcr, hPl, hP⟩ := hcrk
      have hat := crM_at picks (fs.map fun f => f.t) 0 k f.t (by rw [List.getElem?_map, hfk]; rfl)
      rw [Nat.zero_add, hcr] at hat
      have HAT := Lib.hid hat
      have HFO := Lib.hid hfo
      obtain ⟨nm, hnm⟩ : ∃ nm, strB f.t.1 = nm := ⟨_, rfl⟩
      obtain ⟨lb, hlb⟩ : ∃ lb, f.t.2.1.length = lb := ⟨_, rfl⟩
      obtain ⟨sv, hsv⟩ : ∃ sv, f.t.2.2 = sv := ⟨_, rfl⟩
      obtain ⟨Af, hAf⟩ : ∃ Af, f.A = Af := ⟨_, rfl⟩
      obtain ⟨cf, hcf⟩ : ∃ cf, f.c = cf := ⟨_, rfl⟩
      rw [hnm] at q0
      rw [hlb, hAf, hcf] at q1
      rw [hsv] at q2
      rw [hlb, hsv] at hP hPl hsl
      rw [hlb] at hlI hlcf
      rw [hcf] at hlcf hcfI
      have HP := Lib.hid hP
      have HNM := Lib.hid hnm
      have HLB := Lib.hid hlb
      have HSV := Lib.hid hsv
      have HAF := Lib.hid hAf
      have HCF := Lib.hid hcf
      clear hcl hcl2 hnm hlb hsv hAf hcf hfk hf hfo hat hcr hP hx
      have hki : ¬ (k : Int) < 0 := by omega
      have hkn : (k : Int) < (n : Int) := by omega
      go_upto_region 6 with fail
      obtain ⟨W5, hW5⟩ : ∃ W5, wo.alloc (.cells #[.string nm, .slice Af lb cf, .int .i64 (sv : Int)] 59) = W5 := ⟨_, rfl⟩
      have hb5 : Below wo.heap.size wo W5 := by rw [← hW5]; exact (Below.refl _ wo).alloc (Nat.le_refl _) _
      have hf5 : W5.heap[wo.heap.size]? = some (.cells #[.string nm, .slice Af lb cf, .int .i64 (sv : Int)] 59 (0, 0)) := by rw [← hW5]; exact World.alloc_heap_new wo _
      rw [hW5]
      clear hW5 x0 x1 x2 x3 x4 q0 q1 q2
      have hnb5 := (hb5.block _ (Array.getElem?_eq_some_iff.1 HNB.out).1).trans HNB.out
      have hown5 := own_below HO.out hb5
      have hBw5 := hBw.trans (hb5.mono hBw.size)
      have HOL := Lib.hid (fun g (e : (Value.slice B k cB).ownBlock = some g) => HO.out.lt g e)
      obtain ⟨Fb, hFb⟩ : ∃ Fb, wo.heap.size = Fb := ⟨_, rfl⟩
      have hNF : Nb < Fb := by omega
      have h3F : w3.heap.size ≤ Fb := by omega
      have hF5 : Fb < W5.heap.size := by rw [← hFb]; exact (Array.getElem?_eq_some_iff.1 hf5).1
      have HB5 := Lib.hid (HB.out.trans (But.of_all (hb5.mono (Nat.le_refl _)) (fun b => b = Nb)) (fun _ _ e => e))
      rw [hFb] at hf5 ⊢
      have f1c := cell_of_heap hf5 1
      have f2c := cell_of_heap hf5 2
      have f1z := frozen_of_heap hf5 1
      have f2z := frozen_of_heap hf5 2
      simp only [List.getElem?_toArray, List.getElem?_cons_succ, List.getElem?_cons_zero] at f1c f2c
      have HF5 := Lib.hid hf5
      have HNB5 := Lib.hid hnb5
      have HO5 := Lib.hid hown5
      have HBW5 := Lib.hid hBw5
      clear hf5 hnb5 hown5 hBw5 hBw hb5
      have hsvI : (sv : Int) ≤ 1000000000 := by omega
      have hlbI : (lb : Int) ≤ 1000000000 := by omega
      by_cases hp : k < picks.length
      · obtain ⟨pk, hpk⟩ : ∃ pk, picks[k] = pk := ⟨_, rfl⟩
        have hgd : picks.getD k 0 = pk := by rw [List.getD_eq_getElem?_getD, List.getElem?_eq_getElem hp, hpk]; rfl
        obtain ⟨g, o, rfl, hg, hc⟩ := HCELL.out.resolve_left (by omega)
        have pc0 := (HBW5.out.cell (p := ⟨g, o + (k - 0), none⟩) hg).trans (hc k hp (Nat.zero_le _))
        rw [hpk, Nat.sub_zero] at pc0
        obtain ⟨m, hm⟩ : ∃ m, sv + P = m := ⟨_, rfl⟩
        have hmP : sv + P = m := hm
        have hmi : (sv : Int) + (P : Int) = (m : Int) := by omega
        have hml : m ≤ lb := by omega
        have hm0 : (0 : Int) ≤ (m : Int) := by omega
        have hmc : (m : Int) ≤ (cf : Int) := by omega
        have hkp : (k : Int) < (picks.length : Int) := by omega
        have hpick : ∀ W, Calls Try.prog 70 #[.int .i64 pk, .int .i64 ((lb : Int) - (sv : Int))] W fun e w' => e = .returned (.int .i64 (P : Int)) ∧ W = w' := fun W => (Pick_any pk ((lb : Int) - (sv : Int)) W (by omega) (by omega)).mono (by
          rintro e w' ⟨rfl, rfl⟩
          refine ⟨?_, rfl⟩
          have := HP.out
          rw [hgd] at this
          rw [this])
        have HPICK := Lib.hid hpick
        clear hpick hpk hgd hc hm
        have hwr : IntKind.i64.wrap ((lb : Int) - (sv : Int)) = (lb : Int) - (sv : Int) := wrap_small _ (by omega) (by omega)
        go_upto_region 8 with fail
        go_region_held (fun W => W.cell? ⟨g, o + k, none⟩ = some (.int .i64 pk) ∧ W.cell? ⟨Fb, 1, none⟩ = some (.slice Af lb cf) ∧ W.cell? ⟨Fb, 2, none⟩ = some (.int .i64 (sv : Int))) (go_keep) (first | (go_at_call 70; (try rw [hwr]); (with_reducible refine (HPICK.out _).mono ?_); rintro e W' ⟨rfl, rfl⟩))
        all_goals
          obtain ⟨V5, hV5⟩ : ∃ V5, W5.drew = V5 := ⟨_, rfl⟩
          have hbV : Below W5.heap.size W5 V5 := by rw [← hV5]; exact (Below.refl _ W5).drew
          try rw [hV5]
          clear hV5 f1c f2c f1z f2z
          have hfV := (hbV.block _ hF5).trans HF5.out
          have HNBV := Lib.hid ((hbV.block _ (by omega)).trans HNB5.out)
          have HOV := Lib.hid (own_below HO5.out hbV)
          have HBV5 := Lib.hid (HB5.out.trans (But.of_all hbV (fun b => b = Nb)) (fun _ _ e => e))
          have hFV : Fb < V5.heap.size := (Array.getElem?_eq_some_iff.1 hfV).1
          have f1c := cell_of_heap hfV 1
          have f2c := cell_of_heap hfV 2
          have f1z := frozen_of_heap hfV 1
          have f2z := frozen_of_heap hfV 2
          simp only [List.getElem?_toArray, List.getElem?_cons_succ, List.getElem?_cons_zero] at f1c f2c
          have HFV := Lib.hid hfV
          clear hfV hbV
          go_upto_region 11 with fail
          obtain ⟨W6, hW6⟩ : ∃ W6, (V5.setCell ⟨Fb, 1, none⟩ (.slice Af m cf)).setCell ⟨Fb, 2, none⟩ (.int .i64 (m : Int)) = W6 := ⟨_, rfl⟩
          have hb56 : But (fun b => b = Fb) V5 W6 := by rw [← hW6]; exact ((But.refl (fun b => b = Fb) V5).set ⟨Fb, 1, none⟩ _ (.inl rfl)).set ⟨Fb, 2, none⟩ _ (.inl rfl)
          have hf6 : W6.heap[Fb]? = some (.cells #[.string nm, .slice Af m cf, .int .i64 (m : Int)] 59 (0, 0)) := by rw [← hW6]; exact heap_setCells (i := 2) (heap_setCells (i := 1) HFV.out)
          rw [hW6]
          clear hW6 f1c f2c f1z f2z
          have hnb6 := hb56.box HNBV.out (fun e => by omega)
          have hown6 := hb56.row HOV.out (fun g e1 e2 => by have := HOL.out g e1; omega)
          have hs6 := hb56.size
          have HB6 := Lib.hid (HBV5.out.trans hb56 (fun b hlt e => by omega))
          obtain ⟨y0, y1, y2, y3, y4⟩ := cells5 hnb6
          have r0 := cell_of_heap hf6 0
          have r1 := cell_of_heap hf6 1
          have r2 := cell_of_heap hf6 2
          simp only [List.getElem?_toArray, List.getElem?_cons_succ, List.getElem?_cons_zero] at r0 r1 r2
          have HNB6 := Lib.hid hnb6
          clear hf6 hnb6
          have hok : FOk S w ⟨(f.t.1, f.t.2.1.take m, m), Af, cf⟩ := by
            have h1 := HFO.out
            refine ⟨?_, ?_, ?_⟩
            · have h2 := h1.1.takeB m
              rw [HAF.out] at h2
              exact h2
            · show (f.t.2.1.take m).length ≤ cf
              have := HLB.out
              rw [List.length_take]
              omega
            · exact hcfI
          have hfl : (f.t.2.1.take m).length = m := by have := HLB.out; rw [List.length_take]; omega
          have hfc : FileR.cells ⟨(f.t.1, f.t.2.1.take m, m), Af, cf⟩ = [.string nm, .slice Af m cf, .int .i64 (m : Int)] := by
            unfold FileR.cells
            dsimp only
            rw [HNM.out, hfl]
          have HOK := Lib.hid hok
          have HFC := Lib.hid hfc
          clear hok hfl hfc
          go_wp2_with (at_builtin; refine wpList_append_own_at _ rfl (.tmp 52) (.tmp 54) 26 rfl w3.heap.size 59 i0 _ 3 48 Try.underlying26 hi hz0 hz1 hz2 rfl (by decide) _ k _ rfl (hown6.alloc _) ⟨W6.heap.size, 0, none⟩ 1 1 [.string nm, .slice Af m cf, .int .i64 (m : Int)] rfl rfl (cell_row_new _ _ _) (by simp [Value.oneCell']) (by unfold maxLen; omega) (by omega) (by simp; omega) ?_; intro v7 w7 hown7 hg7 _ _; obtain ⟨B7, c7, rfl⟩ := own3_slice hown7; have hnb7 := (But.grown hg7).box ((Below.heap_alloc W6 _ Nb (by omega)).trans HNB6.out) (fun e => by have := (hown6.lt Nb e).1; omega); have fz7 := frozen_of_heap hnb7 1; have cz7 := cell_of_heap hnb7 1; simp only [List.getElem?_toArray, List.getElem?_cons_succ, List.getElem?_cons_zero] at cz7)
          have hb78 : But (fun b => b = Nb) w7 (w7.setCell ⟨Nb, 1, none⟩ (.slice B7 (k + 1) c7)) := (But.refl (fun b => b = Nb) w7).set ⟨Nb, 1, none⟩ _ (.inl rfl)
          have HNB8 := Lib.hid (heap_setCells (i := 1) (u := .slice B7 (k + 1) c7) hnb7)
          have HO8 : Hid ((w7.setCell ⟨Nb, 1, none⟩ (.slice B7 (k + 1) c7)).ownsRow w3.heap.size 59 3 (.slice B7 (k + 1) c7) (k + 1) ((fsK ++ [(⟨(f.t.1, f.t.2.1.take m, m), Af, cf⟩ : FileR)]).flatMap FileR.cells)) := Lib.hid (by
            rw [List.flatMap_append]
            show World.ownsRow _ _ _ _ _ _ (_ ++ (FileR.cells _ ++ []))
            rw [List.append_nil, HFC.out]
            exact hb78.row hown7 (fun g e1 e2 => by have := (hown7.lt g e1).1; omega))
          have hb67 : But (fun b => b = Nb) w3 w7 := (HB6.out.trans (But.of_all ((Below.refl W6.heap.size W6).alloc (Nat.le_refl _) _) (fun b => b = Nb)) (fun b _ e => e)).trans (But.grown hg7) (fun b hlt e => by have := (hown6.lt b e).1; omega)
          have HB8 := Lib.hid (hb67.trans hb78 (fun b _ e => e))
          have HF8 : Hid (∀ g ∈ fsK ++ [(⟨(f.t.1, f.t.2.1.take m, m), Af, cf⟩ : FileR)], FOk S w g) := Lib.hid (fun g hg => by
            rcases List.mem_append.1 hg with e | e
            · exact HF.out g e
            · rw [List.mem_singleton.1 e]; exact HOK.out)
          have HE8 : Hid ((fsK ++ [(⟨(f.t.1, f.t.2.1.take m, m), Af, cf⟩ : FileR)]).map (fun f => f.t) = (crM picks 0 (fs.map fun f => f.t)).take (k + 1)) := Lib.hid (by
            rw [List.map_append, HE.out, List.take_add_one, HAT.out, HSV.out, hmP]
            rfl)
          clear hb78 hb67 hown7 hg7 hown6 hnb7 y0 y1 y2 y3 y4 r0 r1 r2 hb56
          go_roundw
          case rel => exact ⟨k + 1, B7, c7, _, by omega, by go_num, HE8, HNB8, HO8, HF8, HB8⟩
          case measure => simp [RowKit.intOf]; omega

      · have hgd : picks.getD k 0 = 0 := by rw [List.getD_eq_getElem?_getD, List.getElem?_eq_none (by omega)]; rfl
        have hP0 : P = 0 := by
          have := HP.out
          rw [hgd, Int.zero_emod] at this
          omega
        subst hP0
        have hmP : sv + 0 = sv := rfl
        have hkp : ¬ (k : Int) < (picks.length : Int) := by omega
        have hm0 : (0 : Int) ≤ (sv : Int) := by omega
        have hmc : (sv : Int) ≤ (cf : Int) := by omega
        clear hgd
        go_upto_region 11 with fail
        obtain ⟨W6, hW6⟩ : ∃ W6, (W5.setCell ⟨Fb, 1, none⟩ (.slice Af sv cf)).setCell ⟨Fb, 2, none⟩ (.int .i64 (sv : Int)) = W6 := ⟨_, rfl⟩
        have hb56 : But (fun b => b = Fb) W5 W6 := by rw [← hW6]; exact ((But.refl (fun b => b = Fb) W5).set ⟨Fb, 1, none⟩ _ (.inl rfl)).set ⟨Fb, 2, none⟩ _ (.inl rfl)
        have hf6 : W6.heap[Fb]? = some (.cells #[.string nm, .slice Af sv cf, .int .i64 (sv : Int)] 59 (0, 0)) := by rw [← hW6]; exact heap_setCells (i := 2) (heap_setCells (i := 1) HF5.out)
        rw [hW6]
        clear hW6 f1c f2c f1z f2z
        have hnb6 := hb56.box HNB5.out (fun e => by omega)
        have hown6 := hb56.row HO5.out (fun g e1 e2 => by have := HOL.out g e1; omega)
        have hs6 := hb56.size
        have HB6 := Lib.hid (HB5.out.trans hb56 (fun b hlt e => by omega))
        obtain ⟨y0, y1, y2, y3, y4⟩ := cells5 hnb6
        have r0 := cell_of_heap hf6 0
        have r1 := cell_of_heap hf6 1
        have r2 := cell_of_heap hf6 2
        simp only [List.getElem?_toArray, List.getElem?_cons_succ, List.getElem?_cons_zero] at r0 r1 r2
        have HNB6 := Lib.hid hnb6
        clear hf6 hnb6
        have hok : FOk S w ⟨(f.t.1, f.t.2.1.take sv, sv), Af, cf⟩ := by
          have h1 := HFO.out
          refine ⟨?_, ?_, ?_⟩
          · have h2 := h1.1.takeB sv
            rw [HAF.out] at h2
            exact h2
          · show (f.t.2.1.take sv).length ≤ cf
            have := HLB.out
            rw [List.length_take]
            omega
          · exact hcfI
        have hfl : (f.t.2.1.take sv).length = sv := by have := HLB.out; rw [List.length_take]; omega
        have hfc : FileR.cells ⟨(f.t.1, f.t.2.1.take sv, sv), Af, cf⟩ = [.string nm, .slice Af sv cf, .int .i64 (sv : Int)] := by
          unfold FileR.cells
          dsimp only
          rw [HNM.out, hfl]
        have HOK := Lib.hid hok
        have HFC := Lib.hid hfc
        clear hok hfl hfc
        go_wp2_with (at_builtin; refine wpList_append_own_at _ rfl (.tmp 52) (.tmp 54) 26 rfl w3.heap.size 59 i0 _ 3 48 Try.underlying26 hi hz0 hz1 hz2 rfl (by decide) _ k _ rfl (hown6.alloc _) ⟨W6.heap.size, 0, none⟩ 1 1 [.string nm, .slice Af sv cf, .int .i64 (sv : Int)] rfl rfl (cell_row_new _ _ _) (by simp [Value.oneCell']) (by unfold maxLen; omega) (by omega) (by simp; omega) ?_; intro v7 w7 hown7 hg7 _ _; obtain ⟨B7, c7, rfl⟩ := own3_slice hown7; have hnb7 := (But.grown hg7).box ((Below.heap_alloc W6 _ Nb (by omega)).trans HNB6.out) (fun e => by have := (hown6.lt Nb e).1; omega); have fz7 := frozen_of_heap hnb7 1; have cz7 := cell_of_heap hnb7 1; simp only [List.getElem?_toArray, List.getElem?_cons_succ, List.getElem?_cons_zero] at cz7)
        have hb78 : But (fun b => b = Nb) w7 (w7.setCell ⟨Nb, 1, none⟩ (.slice B7 (k + 1) c7)) := (But.refl (fun b => b = Nb) w7).set ⟨Nb, 1, none⟩ _ (.inl rfl)
        have HNB8 := Lib.hid (heap_setCells (i := 1) (u := .slice B7 (k + 1) c7) hnb7)
        have HO8 : Hid ((w7.setCell ⟨Nb, 1, none⟩ (.slice B7 (k + 1) c7)).ownsRow w3.heap.size 59 3 (.slice B7 (k + 1) c7) (k + 1) ((fsK ++ [(⟨(f.t.1, f.t.2.1.take sv, sv), Af, cf⟩ : FileR)]).flatMap FileR.cells)) := Lib.hid (by
          rw [List.flatMap_append]
          show World.ownsRow _ _ _ _ _ _ (_ ++ (FileR.cells _ ++ []))
          rw [List.append_nil, HFC.out]
          exact hb78.row hown7 (fun g e1 e2 => by have := (hown7.lt g e1).1; omega))
        have hb67 : But (fun b => b = Nb) w3 w7 := (HB6.out.trans (But.of_all ((Below.refl W6.heap.size W6).alloc (Nat.le_refl _) _) (fun b => b = Nb)) (fun b _ e => e)).trans (But.grown hg7) (fun b hlt e => by have := (hown6.lt b e).1; omega)
        have HB8 := Lib.hid (hb67.trans hb78 (fun b _ e => e))
        have HF8 : Hid (∀ g ∈ fsK ++ [(⟨(f.t.1, f.t.2.1.take sv, sv), Af, cf⟩ : FileR)], FOk S w g) := Lib.hid (fun g hg => by
          rcases List.mem_append.1 hg with e | e
          · exact HF.out g e
          · rw [List.mem_singleton.1 e]; exact HOK.out)
        have HE8 : Hid ((fsK ++ [(⟨(f.t.1, f.t.2.1.take sv, sv), Af, cf⟩ : FileR)]).map (fun f => f.t) = (crM picks 0 (fs.map fun f => f.t)).take (k + 1)) := Lib.hid (by
          rw [List.map_append, HE.out, List.take_add_one, HAT.out, HSV.out, hmP]
          rfl)
        clear hb78 hb67 hown7 hg7 hown6 hnb7 y0 y1 y2 y3 y4 r0 r1 r2 hb56
        go_roundw
        case rel => exact ⟨k + 1, B7, c7, _, by omega, by go_num, HE8, HNB8, HO8, HF8, HB8⟩
        case measure => simp [RowKit.intOf]; omega
    · obtain rfl : k = n := by omega
      have hall : (crM picks 0 (fs.map fun f => f.t)).take k = crM picks 0 (fs.map fun f => f.t) := List.take_of_length_le (by rw [crM_len, List.length_map, HN.out]; exact Nat.le_refl _)
      have hr := HB.out.box HR3.out (fun e => by omega)
      obtain ⟨k0, k1, k2, k3, k4⟩ := cells5 hr
      obtain ⟨y0, y1, y2, y3, y4⟩ := cells5 HNB.out
      have g0 := frozen_of_heap hr 0
      have g1 := frozen_of_heap hr 1
      have g2 := frozen_of_heap hr 2
      have g3 := frozen_of_heap hr 3
      have g4 := frozen_of_heap hr 4
      have HR := Lib.hid hr
      have HALL := Lib.hid hall
      have HBW := Lib.hid hBw
      clear hr hall hBw hx
      go_wp2
      obtain ⟨d0, d1, d2, d3, d4⟩ := cells5 (set5 HR.out (.int .i64 ro) (.slice B k cB) (.bool false) (.int .i64 0) (.bool false))
      have hbut := put5 wo (w.heap.size + 1) (.int .i64 ro) (.slice B k cB) (.bool false) (.int .i64 0) (.bool false)
      have hbt : Below w.heap.size w _ := HBW.out.trans (hbut.to_below HBW.out.size (fun b e => by omega))
      refine bodyPost_ret (v := refV ⟨false, 0, false, ro⟩ B k cB) (by simp [results, Try.results58, go_sem, refV, d0, d1, d2, d3, d4]) rfl ⟨B, cB, fsK, rfl, ?_, by rw [HE.out, HALL.out], hbt⟩
      refine FsAt.of_own (hbut.row HO.out (fun g e1 e2 => by have := (HO.out.lt g e1).1; omega)) (by have h1 := congrArg List.length HE.out; rw [List.length_map, HALL.out, crM_len, List.length_map, HN.out] at h1; exact h1) (fun b e => by have := hS b e; omega) (fun g hg => (HF.out g hg).but (But.of_all hbt (fun _ => False)) (fun _ e => e.elim))
set_option maxRecDepth 100000 in
set_option maxHeartbeats 4000000 in
theorem Sm.is_any {B S : Nat → Prop} {p : Nat} {L : List (List (BitVec 8) × List (BitVec 8) × Nat)} (s s2 : DSt) (A : Option Addr) (n c : Nat) (fs : List FileR) (w : World) (hd : Dk B w p s L) (h : FsAt S w A fs) (hn : fs.length = n) (hn2 : n ≤ 100000) (hm : fs.map (fun f => f.t) = L) (hu : usedR fs ≤ 1000000000) (hde : s2.dead = s.dead) :
    Calls Try.prog 29 #[.pointer (some ⟨p, 0, none⟩), refV s2 A n c] w fun e w' => e = .returned (.bool true) ∧ Below w.heap.size w w' := by
  obtain ⟨st2, af2, de2, ro2⟩ := s2
  dsimp only at hde
  subst hde
  obtain ⟨w1, hw1⟩ : ∃ w1, w.alloc (.cells #[.int .i64 ro2, .slice A n c, .bool st2, .int .i64 af2, .bool s.dead] 28) = w1 := ⟨_, rfl⟩
  have hb1 : Below w.heap.size w w1 := by rw [← hw1]; exact (Below.refl _ w).alloc (Nat.le_refl _) _
  have hx1 : w1.heap[w.heap.size]? = some (.cells #[.int .i64 ro2, .slice A n c, .bool st2, .int .i64 af2, .bool s.dead] 28 (0, 0)) := by rw [← hw1]; exact World.alloc_heap_new w _
  have hDL : L.length = n := by rw [← hm, List.length_map]; exact hn
  have hDk := fun W (hb : Below w.heap.size w W) => hd.keep hb
  have hnm := fun W (hb : Below w.heap.size w W) => names_M W (hDk W hb) (by omega)
  have hus := fun W (hb : Below w.heap.size w W) => used_M W (hDk W hb)
  have hdd := fun W (hb : Below w.heap.size w W) => dead_M W (hDk W hb)
  have hru := fun W (hb : Below w.heap.size w W) => refUsed_any ⟨st2, af2, s.dead, ro2⟩ A n c fs W (h.keep hb) hn (by omega) hu
  unfold refV at hru
  dsimp only at hru
  unfold refV
  dsimp only
  rw [usedR_map, hm] at hru
  have hrd := fun W (hb : Below w.heap.size w W) (x : ByteArray) (hx : x.size ≤ 1000000) => read_M x W (hDk W hb) hx
  have hsr := fun W (hb : Below w.heap.size w W) (x : ByteArray) (hx : x.size ≤ 1000000) => sure_M x W (hDk W hb) hx
  have HRDM := Lib.hid hrd
  have HSRM := Lib.hid hsr
  have HFA := Lib.hid hd.facts
  clear hrd hsr
  have HNM := Lib.hid hnm
  have HUS := Lib.hid hus
  have HDD := Lib.hid hdd
  have HRU := Lib.hid hru
  have HX1 := Lib.hid hx1
  have HB1 := Lib.hid hb1
  have HW1 := Lib.hid hw1
  have H := Lib.hid h
  have HM := Lib.hid hm
  have HN := Lib.hid hn
  have HL := Lib.hid hDL
  clear hnm hus hdd hru hx1 hb1 hw1 h hm hn hDL hDk hd
  go_enter Try.func29, Try.ntmps29
  go_upto_region 1 with fail
  rw [HW1.out]
  go_upto_region 2 with (go_at_call 22; (with_reducible refine (HNM.out _ HB1.out).mono ?_); rintro e w2 ⟨v, rfl, hown, hb2⟩; obtain ⟨An, cn, rfl⟩ := own_slice hown)
  rw [HL.out] at hown ⊢
  have hx2 := (hb2.block _ (Array.getElem?_eq_some_iff.1 HX1.out).1).trans HX1.out
  have HB2 := Lib.hid (HB1.out.trans (hb2.mono HB1.out.size))
  have hwl : w.heap.size < w2.heap.size := Nat.lt_of_lt_of_le (Array.getElem?_eq_some_iff.1 HX1.out).1 hb2.size
  have HX2 := Lib.hid hx2
  have HOWN := Lib.hid hown
  have hS : ∀ W, Below w2.heap.size w2 W → W.cell? ⟨w.heap.size, 0, none⟩ = some (.int .i64 ro2) ∧ W.cell? ⟨w.heap.size, 1, none⟩ = some (.slice A n c) ∧ W.cell? ⟨w.heap.size, 2, none⟩ = some (.bool st2) ∧ W.cell? ⟨w.heap.size, 3, none⟩ = some (.int .i64 af2) ∧ W.cell? ⟨w.heap.size, 4, none⟩ = some (.bool s.dead) ∧ Below w2.heap.size w2 W := fun W hb => by
    obtain ⟨a, b, c, d, e⟩ := cells5 ((hb.block _ hwl).trans HX2.out)
    exact ⟨a, b, c, d, e, hb⟩
  have HSS := Lib.hid hS
  clear hb2 hx2 hown hS
  have hnn : ((n : Int) != (n : Int)) = false := by simp
  go_region_held (fun W => W.cell? ⟨w.heap.size, 0, none⟩ = some (.int .i64 ro2) ∧ W.cell? ⟨w.heap.size, 1, none⟩ = some (.slice A n c) ∧ W.cell? ⟨w.heap.size, 2, none⟩ = some (.bool st2) ∧ W.cell? ⟨w.heap.size, 3, none⟩ = some (.int .i64 af2) ∧ W.cell? ⟨w.heap.size, 4, none⟩ = some (.bool s.dead) ∧ Below w2.heap.size w2 W) (first | assumption | (refine HSS.out _ ?_; first | exact (Below.refl _ w2).drew | assumption))
    (first
      | (go_at_call 23; have hbw := (show _ ∧ _ ∧ _ ∧ _ ∧ _ ∧ Below w2.heap.size w2 _ from by assumption).2.2.2.2.2; refine (HUS.out _ (HB2.out.trans (hbw.mono HB2.out.size))).mono ?_; rintro e W5 ⟨rfl, rfl⟩; clear hbw)
      | (go_at_call 24; have hbw := (show _ ∧ _ ∧ _ ∧ _ ∧ _ ∧ Below w2.heap.size w2 _ from by assumption).2.2.2.2.2; refine (HDD.out _ (HB2.out.trans (hbw.mono HB2.out.size))).mono ?_; rintro e W5 ⟨rfl, rfl⟩; clear hbw)
      | (go_at_call 57; have hbw := (show _ ∧ _ ∧ _ ∧ _ ∧ _ ∧ Below w2.heap.size w2 _ from by assumption).2.2.2.2.2; refine (HRU.out _ (HB2.out.trans (hbw.mono HB2.out.size))).mono ?_; rintro e W5 ⟨rfl, hb57⟩; have hb58 := hbw.trans (hb57.mono hbw.size); clear hbw hb57))
  rename_i W5 hS5
  have HB5 := Lib.hid hS5.2.2.2.2.2
  clear hS5 hb58
  go_wp2
  go_loopw [6] (fun v6 wr => ∃ k : Nat, k ≤ n ∧ v6 = .int .i64 (k : Int) ∧ Hid (Below W5.heap.size W5 wr)) (fun v6 _ => n - (RowKit.intOf v6).toNat)
  case atStart => exact ⟨0, Nat.zero_le _, rfl, Lib.hid (Below.refl _ _)⟩
  case round =>
    obtain ⟨wo, rfl⟩ : ∃ wo : World, wo = wr := ⟨_, rfl⟩
    obtain ⟨k, hk, rfl, HB⟩ := hrel
    have hB2o : Below w2.heap.size w2 wo := HB5.out.trans (HB.out.mono HB5.out.size)
    have hBwo : Below w.heap.size w wo := HB2.out.trans (hB2o.mono HB2.out.size)
    by_cases hlt : k < n
    · have hkx : k < fs.length := by rw [HN.out]; exact hlt
      obtain ⟨f, hf⟩ : ∃ f, fs[k] = f := ⟨_, rfl⟩
      have hfk : fs[k]? = some f := by rw [List.getElem?_eq_getElem hkx, hf]
      have hfm : f ∈ fs := List.mem_of_getElem? hfk
      have hLk : L[k]? = some f.t := by rw [← HM.out, List.getElem?_map, hfk]; rfl
      have htm : f.t ∈ L := List.mem_of_getElem? hLk
      have hok := (HFA.out.2 f.t htm).1
      have htl := tell_mem HFA.out.1 htm hok
      obtain ⟨nm, hnm⟩ : ∃ nm, strB f.t.1 = nm := ⟨_, rfl⟩
      have hsn : strL nm = f.t.1 := by rw [← hnm, strL_strB]
      have hnz : nm.size ≤ 1000000 := by
        have h1 := hok
        unfold nameOK at h1
        rw [Bool.and_eq_true, decide_eq_true_eq, ← hsn, strL_length] at h1
        omega
      obtain ⟨g, cap, hv, _, hgl⟩ := HOWN.out.form (by omega)
      injection hv with hv1 _ _
      subst hv1
      have nc0 := HOWN.out.cellAt (g := g) k (by omega)
      have nc1 : wo.cell? ⟨g, k, none⟩ = some (.string nm) := by
        refine (hB2o.cell (p := ⟨g, k, none⟩) hgl).trans (nc0.trans ?_)
        rw [List.getElem?_map, hLk]
        exact congrArg (fun z => some (Value.string z)) hnm
      have hrk := HRDM.out wo hBwo nm hnz
      rw [hsn, htl] at hrk
      dsimp only at hrk
      have hsk := fun W (hb : Below w.heap.size w W) => HSRM.out W hb nm hnz
      rw [hsn, htl] at hsk
      dsimp only at hsk
      obtain ⟨lb, hlb⟩ : ∃ lb, f.t.2.1.length = lb := ⟨_, rfl⟩
      obtain ⟨sv, hsv⟩ : ∃ sv, f.t.2.2 = sv := ⟨_, rfl⟩
      rw [hlb] at hrk
      rw [hsv] at hsk
      obtain ⟨b, off, hAe, hb, _, hcl⟩ := H.out.1 (by omega)
      have hcl2 := hcl k f hfk
      have hfo := H.out.2 f hfm
      have p0 : w.cell? ⟨b, off + k * 3, none⟩ = some (.string nm) := by rw [← hnm]; exact hcl2 0 _ rfl
      have p1 : w.cell? ⟨b, off + k * 3 + 1, none⟩ = some (.slice f.A lb f.c) := by rw [← hlb]; exact hcl2 1 _ rfl
      have p2 : w.cell? ⟨b, off + k * 3 + 2, none⟩ = some (.int .i64 (sv : Int)) := by rw [← hsv]; exact hcl2 2 _ rfl
      obtain ⟨Af, hAf⟩ : ∃ Af, f.A = Af := ⟨_, rfl⟩
      obtain ⟨cf, hcf⟩ : ∃ cf, f.c = cf := ⟨_, rfl⟩
      rw [hAf, hcf] at p1
      have HSK := Lib.hid hsk
      have HFO := Lib.hid hfo
      have HLB := Lib.hid hlb
      have HAF := Lib.hid hAf
      have HP := Lib.hid (And.intro p0 (And.intro p1 p2))
      have HBWO := Lib.hid hBwo
      have HXo := Lib.hid ((hB2o.block _ hwl).trans HX2.out)
      have HNC := Lib.hid nc1
      have HB2O := Lib.hid hB2o
      have hwolt : w.heap.size < wo.heap.size := Nat.lt_of_lt_of_le hwl hB2o.size
      have hglo : g < wo.heap.size := Nat.lt_of_lt_of_le hgl hB2o.size
      subst hAe
      clear hcl hcl2 hfo p0 p1 p2 hAf hcf hlb hsv hsk htl hok hLk htm hfk hf hBwo hB2o nc0 hnm
      go_upto_region 8 with (go_at_call 12; (with_reducible refine hrk.mono ?_); clear hrk; rintro e wx ⟨Ab, cb, rfl, hrb, hbx⟩)
      have HBX := Lib.hid (HBWO.out.trans (hbx.mono HBWO.out.size))
      have nc2 := (hbx.cell (p := ⟨g, k, none⟩) hglo).trans HNC.out
      have hsk := HSK.out wx HBX.out
      clear nc1
      go_upto_region 9 with (go_at_call 13; (with_reducible refine hsk.mono ?_); clear hsk; rintro e wy ⟨rfl, hby⟩)
      have hbxy : Below wo.heap.size wo wy := hbx.trans (hby.mono hbx.size)
      have HBY := Lib.hid (HBWO.out.trans (hbxy.mono HBWO.out.size))
      have nc3 := (hbxy.cell (p := ⟨g, k, none⟩) hglo).trans HNC.out
      obtain ⟨x0, x1, x2, x3, x4⟩ := cells5 ((hbxy.block _ hwolt).trans HXo.out)
      have p0 := (HBY.out.cell (p := ⟨b, off + k * 3, none⟩) hb).trans HP.out.1
      have p1 := (HBY.out.cell (p := ⟨b, off + k * 3 + 1, none⟩) hb).trans HP.out.2.1
      have p2 := (HBY.out.cell (p := ⟨b, off + k * 3 + 2, none⟩) hb).trans HP.out.2.2
      obtain ⟨T, hT⟩ : ∃ T, strB f.t.2.1 = T := ⟨_, rfl⟩
      have hRb : Rd wy wy.heap.size Ab f.t.2.1 := Rd.of_own (own_below hrb hby) (Nat.le_refl _)
      have s1 : ∀ m, (convert 36 9 (.slice Ab lb cb)).run Try.prog (wy.drewN m) = .ok (.string T) (wy.drewN m) := fun m => by
        rw [← hT]
        exact run_str (P := Try.prog) (wy.drewN m) 36 5 Try.underlying36 Try.underlying5 f.t.2.1 lb cb wy.heap.size Ab HLB.out hRb 9 Try.underlying9
      have s2 : ∀ m, (convert 36 9 (.slice Af lb cf)).run Try.prog (wy.drewN m) = .ok (.string T) (wy.drewN m) := fun m => by
        rw [← hT]
        exact run_str (P := Try.prog) (wy.drewN m) 36 5 Try.underlying36 Try.underlying5 f.t.2.1 lb cf wy.heap.size Af HLB.out (by rw [← HAF.out]; exact (HFO.out.but (But.of_all HBY.out (fun _ => False)) (fun _ e => e.elim)).1.rd) 9 Try.underlying9
      have hwz : IntKind.i64.wrap 0 = 0 := by decide
      have hnq : ∀ W, Calls Try.prog 15 #[.int .i64 0] W fun e w' => e = .returned (.int .i64 0) ∧ w' = W := fun W => (num_any 0 W (by decide) (by decide)).mono fun e w' ⟨h1, h2⟩ => ⟨h1, h2.symm⟩
      have hki : ¬ (k : Int) < 0 := by omega
      have hkn : (k : Int) < (n : Int) := by omega
      have HBO := Lib.hid (HB.out.trans (hbxy.mono HB.out.size))
      clear hrb hbx hby nc2 hbxy hT hRb
      go_quiet ((go_at_call 15; with_reducible exact Calls.quiet_of_same (hnq _)))
      go_wp2
      go_roundw
      case rel => exact ⟨k + 1, by omega, by go_num, Lib.hid (HBO.out.trans ⟨rfl, rfl, rfl, Nat.le_refl _, fun _ _ => rfl⟩)⟩
      case measure => simp [RowKit.intOf]; omega
    · obtain rfl : k = n := by omega
      go_wp2
      go_ret
      exact ⟨rfl, hBwo⟩
end Go.Proofs
