/-
  The program's Named: who is named in a text. Conditions: a text of at most a million bytes and some; the package variables lie as they are laid.
-/
import Derived.Maps.OwnIn
import Derived.Test.YtneaenplbccpmaaGreatDoorTxT
import Derived.Test.YtneaenplbccpmaaGreatDoorTxV
import Derived.Test.YtneaenplbccpmaaGreatDoorTxN
namespace Go.Proofs
open Go Go.RowKit Sm Go.Lib Go.Maps Go.WideMaps
attribute [local go_sem] Oper.semAt_some
theorem Sm.info9 : (Tryz.prog.info? 9).map (fun i => (i.zero, i.size, i.bytes)) = some (some (.string ⟨#[]⟩), 1, 16) := by kernel_rfl
theorem Sm.law9 : Keyed Tryz.prog 9 := string_keyed Tryz.underlying9
theorem Sm.zero67 (w : World) : (zeroValue 67).run Tryz.prog w = .ok (.agg #[]) w := by kernel_rfl
/-- a name as a key -/
def Sm.nmKey (nm : List (BitVec 8)) : Lit := .string (strB nm).data.toList
/-- the set of names -/
def Sm.nmSet (l : List (List (BitVec 8))) : DataW Unit := setOf (.agg []) (l.map nmKey)
theorem Sm.nmKey_same (a b : List (BitVec 8)) : (nmKey a).sameKey (nmKey b) = decide (a = b) := by
  show ((strB a).data.toList == (strB b).data.toList) = _
  by_cases h : a = b
  · simp [h]
  · rw [decide_eq_false h, beq_eq_false_iff_ne, strB_data, strB_data]
    intro e
    refine h (List.map_inj_right (fun x y e => ofBV_inj e) |>.1 e)
theorem Sm.nm_has (l : List (List (BitVec 8))) (x : List (BitVec 8)) : Maps.has (nmSet l) (nmKey x) = decide (x ∈ l) := by
  unfold nmSet
  rw [has_setOf _ _ _ (by intro y hy; obtain ⟨z, _, rfl⟩ := List.mem_map.1 hy; trivial), List.any_map]
  induction l with
  | nil => simp
  | cons y r ih =>
    rw [List.any_cons, ih]
    simp only [Function.comp, nmKey_same, List.mem_cons]
    by_cases h : y = x
    · simp [h]
    · have : ¬ x = y := fun e => h e.symm
      simp [h, this]
theorem Sm.nmSet_add (l : List (List (BitVec 8))) (x : List (BitVec 8)) : nmSet (l ++ [x]) = (nmSet l).put (nmKey x) (.agg []) := by
  unfold nmSet
  rw [List.map_append, List.map_cons, List.map_nil, setOf_snoc]
theorem Sm.nmKey_of (nm : List (BitVec 8)) (h : nm.length ≤ 1000000000) : keyOf Tryz.prog 9 (.string (strB nm)) = some (nmKey nm) := keyOf_string_mk Tryz.underlying9 (by rw [strB_length]; unfold maxLen; omega)
/-- a list of texts as cells -/
def Sm.strC (l : List (List (BitVec 8))) : List Value := l.map fun x => .string (strB x)
theorem Sm.rawF_mem : ∀ {l : List (BitVec 8)} {fl : Bool} {x : List (BitVec 8)}, x ∈ rawF fl l → x.length ≤ 16
  | [], fl, x, h => by simp [rawF] at h
  | b :: r, fl, x, h => by
    rw [rawF_cons, List.mem_append] at h
    rcases h with h | h
    · split at h
      · rename_i hc
        rw [List.mem_singleton] at h
        rw [h]
        exact hc.2.2.2
      · simp at h
    · exact rawF_mem h
/-- how all stands behind k names -/
structure Sm.NmI (w : World) (s : ByteArray) (B Mb : Nat) (M : Nat → Prop) (k : Nat) (W : World) (v : Value) : Prop where
  le : k ≤ (rawS s).length
  map : W.ownsMap Tryz.prog 9 unitElem Mb k (nmSet (dedL ((rawS s).take k)))
  bx : W.heap[B]? = some (.cells #[v] 40 (0, 0))
  mx : W.heap[B + 1 + 1]? = some (.cells #[.map (some Mb)] 63 (0, 0))
  row : W.ownsRow w.heap.size 9 1 v (dedL ((rawS s).take k)).length (strC (dedL ((rawS s).take k)))
  inM : ∀ g, v.ownBlock = some g → M g
  below : Below w.heap.size w W
theorem Sm.map_keep {P : Program} {k : TypeId} {R : Value → Option (DataW Unit × List MemPlace)} {w w' : World} {b n : Nat} {D : DataW Unit} (h : w.ownsMap P k R b n D) (e : w'.heap[b]? = w.heap[b]?) : w'.ownsMap P k R b n D := by
  obtain ⟨es, clock, hb, r⟩ := h
  exact ⟨es, clock, e.trans hb, r⟩
theorem Sm.NmI.keep {w : World} {s : ByteArray} {B Mb : Nat} {M S : Nat → Prop} {k : Nat} {W W' : World} {v : Value} (h : NmI w s B Mb M k W v) (hb : But S W W') (hS : ∀ b, S b → w.heap.size ≤ b ∧ b ≠ B ∧ b ≠ B + 1 + 1 ∧ b ≠ Mb ∧ ¬ M b) : NmI w s B Mb M k W' v :=
  ⟨h.le, map_keep h.map (hb.block _ h.map.lt (fun e => (hS _ e).2.2.2.1 rfl)), hb.box h.bx (fun e => (hS _ e).2.1 rfl), hb.box h.mx (fun e => (hS _ e).2.2.1 rfl), hb.row h.row (fun g e1 e2 => (hS g e2).2.2.2.2 (h.inM g e1)), h.inM,
    h.below.trans (hb.to_below (n := w.heap.size) h.below.size (fun b e => (hS b e).1))⟩
/-- a name is put behind the others -/
theorem Sm.NmI.push {w : World} {s : ByteArray} {B k : Nat} {M : Nat → Prop} {W1 V2 V3 : World} {v v3 : Value} {nm : List (BitVec 8)} {args : Array Value} (h : NmI w s B (B + 1) M k W1 v) (hkl : k + 1 ≤ (rawS s).length) (hadd : dedL ((rawS s).take (k + 1)) = dedL ((rawS s).take k) ++ [nm])
    (hb : But (fun b => b = B + 1) W1 V2) (hm : V2.ownsMap Tryz.prog 9 unitElem (B + 1) (k + 1) ((nmSet (dedL ((rawS s).take k))).put (nmKey nm) (.agg []))) (hg : V2.grownBy V3 v.ownBlock)
    (ho : V3.ownsRow w.heap.size 9 1 v3 ((dedL ((rawS s).take k)).length + 1) (strC (dedL ((rawS s).take k)) ++ [.string (strB nm)])) (hat : v3.ownBlock = v.ownBlock ∨ v3.ownBlock = some V2.heap.size) (hwB : w.heap.size ≤ B) (hBs : B + 4 ≤ W1.heap.size) (hM : ∀ b, M b → B + 4 ≤ b ∧ b < W1.heap.size) :
    NmI w s B (B + 1) (fun b => M b ∨ (W1.heap.size ≤ b ∧ b < (V3.setCell ⟨B, 0, none⟩ v3).heap.size)) (k + 1) (V3.setCell ⟨B, 0, none⟩ v3) v3 ∧ But (fun b => ((b = B ∨ b = B + 1) ∨ rowE args b) ∨ M b) W1 (V3.setCell ⟨B, 0, none⟩ v3) := by
  have hz := hb.size
  have hvM : ∀ b, v.ownBlock = some b → B + 4 ≤ b := fun b e => (hM b (h.inM b e)).1
  have h3b : ∀ g, v3.ownBlock = some g → B + 4 ≤ g := fun g e => by
    rcases hat with e2 | e2
    · rw [e2] at e; exact hvM g e
    · rw [e2] at e; injection e with e; omega
  have hg3 := But.grown hg
  have x3 : V3.heap[B]? = some (.cells #[v] 40 (0, 0)) := hg3.box (hb.box h.bx (by omega)) (fun e => by have := hvM B e; omega)
  have hs3 : But (fun b => b = B) V3 (V3.setCell ⟨B, 0, none⟩ v3) := (But.refl _ V3).set ⟨B, 0, none⟩ _ (.inl rfl)
  have hbx := heap_setCells (i := 0) (u := v3) x3
  refine ⟨⟨hkl, ?_, hbx, ?_, ?_, ?_, ?_⟩, ?_⟩
  · rw [hadd, nmSet_add]
    exact map_keep (map_keep hm (hg3.block _ hm.lt (fun e => by have := hvM _ e; omega))) (hs3.block _ (by have := hm.lt; have := hg.size; omega) (by omega))
  · exact hs3.box (hg3.box (hb.box h.mx (by omega)) (fun e => by have := hvM _ e; omega)) (by omega)
  · rw [hadd, List.length_append]
    show (V3.setCell ⟨B, 0, none⟩ v3).ownsRow w.heap.size 9 1 v3 _ (strC (_ ++ [nm]))
    unfold strC at ho ⊢
    rw [List.map_append]
    exact hs3.row ho (fun g e => by have := h3b g e; omega)
  · intro g e
    rcases hat with e2 | e2
    · rw [e2] at e; exact .inl (h.inM g e)
    · have hl := (ho.lt g e).2
      rw [e2] at e
      injection e with e
      refine .inr ⟨by omega, ?_⟩
      simpa using hl
  · have h1 := h.below.trans (hb.to_below (n := w.heap.size) h.below.size (fun b e => by omega))
    have h2 := h1.trans (hg3.to_below (n := w.heap.size) h1.size (fun b e => by have := hvM b e; omega))
    exact h2.setCell (p := ⟨B, 0, none⟩) hwB _
  · exact ((hb.mono (fun b _ e => Or.inl (Or.inl (Or.inr e)))).trans hg3 (fun b _ e => .inr (h.inM b e))).trans hs3 (fun b _ e => .inl (.inl (.inl e)))
theorem Sm.first_one (s : ByteArray) (m : Int) (w w3 : World) (y0 : Box1 w3 w.heap.size (.string s) 9) (y1 : Box1 w3 (w.heap.size + 1) (.int .i64 m) 3) (hb3 : Below w.heap.size w w3) :
    Calls Tryz.prog 38 #[.slice (some ⟨w3.heap.size, 0, none⟩) 1 1]
      (w3.alloc (.cells #[.func (.func 61) #[] #[.pointer (some ⟨w.heap.size, 0, none⟩), .pointer (some ⟨w.heap.size + 1, 0, none⟩)], .int .i64 3] 59))
      fun e w' => e = .returned (.int .i64 (if m < (s.size : Int) then 3 else 0)) ∧ Below w.heap.size w w' := by
  have l0 := y0.lt
  have l1 := y1.lt
  obtain ⟨w4, hw4⟩ : ∃ w4, w3.alloc (.cells #[.func (.func 61) #[] #[.pointer (some ⟨w.heap.size, 0, none⟩), .pointer (some ⟨w.heap.size + 1, 0, none⟩)], .int .i64 3] 59) = w4 := ⟨_, rfl⟩
  have hb4 : Below w3.heap.size w3 w4 := by rw [← hw4]; exact (Below.refl _ w3).alloc (Nat.le_refl _) _
  have hs4 : w3.heap.size < w4.heap.size := by rw [← hw4]; simp
  have hb04 : Below w.heap.size w w4 := hb3.trans (hb4.mono hb3.size)
  have hc : ∀ j v, [(.func (.func 61) #[] #[.pointer (some ⟨w.heap.size, 0, none⟩), .pointer (some ⟨w.heap.size + 1, 0, none⟩)] : Value), .int .i64 3][j]? = some v → w4.cell? ⟨w3.heap.size, j, none⟩ = some v := by
    intro j v hj
    rw [← hw4, cell_of_heap (World.alloc_heap_new w3 _) j]
    simpa using hj
  rw [hw4]
  refine (first_any [⟨61, #[.pointer (some ⟨w.heap.size, 0, none⟩), .pointer (some ⟨w.heap.size + 1, 0, none⟩)], 3, decide (m < (s.size : Int))⟩] w3.heap.size 1 w4 (by simp) hs4 hc ?_).mono ?_
  · intro f hf
    simp only [List.mem_cons, List.mem_nil_iff, or_false] at hf
    subst hf
    refine ⟨enters_of Tryz.func61 (by kernel_rfl) rfl, fun W hW => ?_⟩
    exact long_any s m _ _ W ((y0.keep hb4 l0).keep hW (by omega)) ((y1.keep hb4 l1).keep hW (by omega))
  · rintro e w' ⟨rfl, hb⟩
    refine ⟨?_, hb04.trans (hb.mono hb04.size)⟩
    simp only [firstW]
    by_cases h : m < (s.size : Int)
    · rw [if_pos h, if_pos (by simpa using h)]
    · rw [if_neg h, if_neg (by simpa using h)]
set_option maxRecDepth 100000 in
set_option maxHeartbeats 1000000 in
/-- a text that is too long -/
theorem Sm.Named_long (s : ByteArray) (w : World) (h : 1048576 < s.size) : Calls Tryz.prog 23 #[.string s] w fun e w' => e = .returned (.tuple #[.slice none 0 0, .int .i64 3]) ∧ Below w.heap.size w w' := by
  have hlg := longer_any s 1048576 w
  have hf := fun w3 y0 y1 hb3 => first_one s 1048576 w w3 y0 y1 hb3
  have e3 : (if (1048576 : Int) < (s.size : Int) then (3 : Int) else 0) = 3 := if_pos (by omega)
  rw [e3] at hf
  have HF := Lib.hid hf
  clear hf e3 h
  go_enter Tryz.func23, Tryz.ntmps23
  go_wp2_with (first
    | (go_at_call 39; (with_reducible refine hlg.mono ?_); clear hlg; rintro e w3 ⟨rfl, y0, y1, hb3⟩; have hfc := HF.out w3 y0 y1 hb3; clear y0 y1 hb3)
    | (go_at_call 38; (with_reducible refine hfc.mono ?_); rintro e w4 ⟨rfl, hb4⟩))
  go_ret2
  exact ⟨rfl, hb4⟩
set_option maxRecDepth 100000 in
set_option maxHeartbeats 1000000 in
theorem Sm.Named_any (s : ByteArray) (w : World) (h : s.size ≤ 1048576) : Calls Tryz.prog 23 #[.string s] w fun e w' => ∃ A c, e = .returned (.tuple #[.slice A (namedS s).length c, .int .i64 0]) ∧ w'.ownsRow w.heap.size 9 1 (.slice A (namedS s).length c) (namedS s).length (strC (namedS s)) ∧ Below w.heap.size w w' := by
  have hlg := longer_any s 1048576 w
  have hf := fun w3 y0 y1 hb3 => first_one s 1048576 w w3 y0 y1 hb3
  have e3 : (if (1048576 : Int) < (s.size : Int) then (3 : Int) else 0) = 0 := if_neg (by omega)
  rw [e3] at hf
  have HF := Lib.hid hf
  have hmm := @run_makeMap Tryz.prog
  clear hf e3
  refine (callsIn_wide (n := 3)).1 (callsIn_of_wp_marks Tryz.func23 rfl trivial ?_ rfl)
  refine wpIn_wide.2 ?_
  simp only [Tryz.ntmps23, List.size_toArray, List.length_cons, List.length_nil, Nat.reduceAdd, Nat.reduceSub, Array.replicate_succ, Array.replicate_zero, List.push_toArray, List.append_toArray, List.nil_append, List.cons_append]
  go_wp2_with (first
    | (go_at_call 39; (with_reducible refine hlg.mono ?_); clear hlg; rintro e w3 ⟨rfl, y0, y1, hb3⟩; have hfc := HF.out w3 y0 y1 hb3; clear y0 y1 hb3)
    | (go_at_call 38; (with_reducible refine hfc.mono ?_); rintro e w4 ⟨rfl, hb4⟩)
    | (go_at_call 46; (with_reducible refine (behindAts_any s _).mono ?_); rintro e w' ⟨rfl, rfl⟩))
  obtain ⟨B, hB⟩ : ∃ B, w4.heap.size = B := ⟨_, rfl⟩
  rw [hB]
  obtain ⟨V, hV⟩ : ∃ V, (((w4.alloc (.cells #[.slice none 0 0] 40)).alloc (.map #[] 0)).alloc (.cells #[.map (some (B + 1))] 63)).alloc (.cells #[.string s] 9) = V := ⟨_, rfl⟩
  have hVs : V.heap.size = B + 4 := by rw [← hV]; simp [hB]
  have hwB : w.heap.size ≤ B := by rw [← hB]; exact hb4.size
  have hV4 : Below w4.heap.size w4 V := by rw [← hV]; exact ((((Below.refl _ w4).alloc (Nat.le_refl _) _).alloc (by simp) _).alloc (by simp; omega) _).alloc (by simp; omega) _
  have v0 : V.heap[B]? = some (.cells #[.slice none 0 0] 40 (0, 0)) := by
    rw [← hV, ← hB]
    exact (Below.heap_alloc _ _ _ (by simp; omega)).trans ((Below.heap_alloc _ _ _ (by simp; omega)).trans ((Below.heap_alloc _ _ _ (by simp)).trans (World.alloc_heap_new w4 _)))
  have v1 : (w4.alloc (.cells #[.slice none 0 0] 40)).heap.size = B + 1 := by simp [hB]
  have v2 : ((w4.alloc (.cells #[.slice none 0 0] 40)).alloc (.map #[] 0)).heap.size = B + 1 + 1 := by simp [hB]
  have v3 : (((w4.alloc (.cells #[.slice none 0 0] 40)).alloc (.map #[] 0)).alloc (.cells #[.map (some (B + 1))] 63)).heap.size = B + 1 + 1 + 1 := by simp [hB]
  have vm : V.ownsMap Tryz.prog 9 (unitElem (H := Unit)) (B + 1) 0 (.map []) := by
    have h0 := World.ownsMap_made (H := Unit) (w4.alloc (.cells #[.slice none 0 0] 40)) Tryz.prog 9 unitElem
    rw [v1] at h0
    refine map_keep h0 ?_
    rw [← hV]
    exact (Below.heap_alloc _ _ _ (by rw [v3]; omega)).trans (Below.heap_alloc _ _ _ (by rw [v2]; omega))
  have vx : V.heap[B + 1 + 1]? = some (.cells #[.map (some (B + 1))] 63 (0, 0)) := by
    rw [← hV]
    refine (Below.heap_alloc _ _ _ (by rw [v3]; omega)).trans ?_
    rw [← v2]
    exact World.alloc_heap_new _ _
  have vb : V.heap[B + 1 + 1 + 1]? = some (.cells #[.string s] 9 (0, 0)) := by
    rw [← hV, ← v3]
    exact World.alloc_heap_new _ _
  have hI0 : NmI w s B (B + 1) (fun _ => False) 0 V (.slice none 0 0) := ⟨Nat.zero_le _, vm, v0, vx, World.ownsRow_nil _ _ _ _, (fun g e => by cases e), hb4.trans (hV4.mono hb4.size)⟩
  rw [hV]
  have HI0 := Lib.hid hI0
  have HVs := Lib.hid hVs
  clear hI0 hVs hV v0 v1 v2 v3 vm vx hV4 hb4 hB hfc hmm
  refine (wpIn_wide (n := 3)).1 ?_
  refine wpIn_rangeY1 (gf := 71) (lb := #[.pointer (some ⟨B + 1 + 1 + 1, 0, none⟩)]) rfl (enters_of Tryz.func71 (by kernel_rfl) rfl)
    (names_seqY s (B + 1 + 1 + 1) V (fun b => b = B ∨ b = B + 1) vb (fun b e => by have := HVs.out; omega) (by omega) (by omega))
    (fun b e => by have := HVs.out; omega) ?hH ?hrow 20 7 rfl ?hargs
    (fun M k W => ∃ v, NmI w s B (B + 1) M k W v) (fun _ _ _ _ => False) ?hI ?hIx ⟨_, HI0.out⟩ ?assign ?body ?done ?stop
  case hH =>
    rintro k args W1 W' h hb
    exact h
  case hrow =>
    rintro k args W1 b _ h
    exact h.elim
  case hargs =>
    rintro k args W1 ⟨nm, _, rfl⟩
    exact ⟨_, rfl⟩
  case hI =>
    rintro M k W1 W' ⟨v, h⟩ hM hb
    have hs := HVs.out
    exact ⟨v, h.le, map_keep h.map (hb.block _ h.map.lt (fun e => e (.inl (by omega)))), hb.box h.bx (fun e => e (.inl (by omega))), hb.box h.mx (fun e => e (.inl (by omega))), hb.row h.row (fun g e1 e2 => e2 (.inr (h.inM g e1))), h.inM, h.below.trans (hb.to_below (n := w.heap.size) h.below.size (fun b e => by
      by_cases hlt : b < V.heap.size
      · exact absurd (.inl hlt) e
      · omega))⟩
  case hIx =>
    rintro c M k W1 W' h
    exact h.elim
  case assign =>
    intro l0 x W1 K hK
    simp only [List.setIfInBounds_toArray, List.set_cons_zero, List.set_cons_succ] at hK ⊢
    gi_wp2
    exact hK
  case body =>
    rintro l0 M k x W1 hsz hM ⟨v, hI⟩ ⟨nm, hraw, e⟩
    simp only [Array.mk.injEq, List.cons.injEq, and_true] at e
    obtain rfl := e
    simp only [List.setIfInBounds_toArray, List.set_cons_zero, List.set_cons_succ]
    have hkl := (List.getElem?_eq_some_iff.1 hraw).1
    have hke := (List.getElem?_eq_some_iff.1 hraw).2
    have hded := dedL_succ hkl
    rw [hke] at hded
    have hlen := rawF_mem (List.mem_of_getElem? hraw)
    have hkey := nmKey_of nm (by omega)
    have hhas := nm_has (dedL ((rawS s).take k)) nm
    have m0 := cell_of_heap hI.mx 0
    simp only [List.getElem?_toArray, List.getElem?_cons_zero] at m0
    have hown := hI.map
    have hs4 := HVs.out
    have hrl := rawF_len (strL s) false
    rw [strL_length] at hrl
    have hrl2 : (rawS s).length ≤ s.size := hrl
    by_cases hmem : nm ∈ dedL ((rawS s).take k)
    · have hadd : dedL ((rawS s).take (k + 1)) = dedL ((rawS s).take k) := by rw [hded]; exact if_pos hmem
      rw [decide_eq_true hmem] at hhas
      have hbt : But (fun b => ((b = B ∨ b = B + 1) ∨ rowE #[.string (strB nm)] b) ∨ M b) W1 (W1.alloc (.cells #[] 67)) := (But.refl _ W1).alloc _
      have hk2 := hI.keep ((But.refl (fun _ => False) W1).alloc (.cells #[] 67)) (fun b e => e.elim)
      have hnew : NmI w s B (B + 1) M (k + 1) (W1.alloc (.cells #[] 67)) v := ⟨hkl, by rw [hadd]; exact hk2.map.mono (by omega), hk2.bx, hk2.mx, by rw [hadd]; exact hk2.row, hk2.inM, hk2.below⟩
      have HN := Lib.hid hnew
      have HBT := Lib.hid hbt
      clear hnew hbt hk2 hadd hded hke hraw hI hmem
      gi_wp2_with (gi_at_lookup; refine wpListIn_lookup_own_unit _ rfl _ _ 63 rfl 9 67 law9 Tryz.underlying63 (zero67 _) (B + 1) k _ rfl hown _ _ rfl hkey ?_)
      exact ⟨trivial, HBT.out, M, fun _ e => .inl e, v, HN.out⟩
    · have hadd : dedL ((rawS s).take (k + 1)) = dedL ((rawS s).take k) ++ [nm] := by rw [hded]; exact if_neg hmem
      rw [decide_eq_false hmem] at hhas
      obtain ⟨Wa, hWa⟩ : ∃ Wa, W1.alloc (.cells #[] 67) = Wa := ⟨_, rfl⟩
      have hba : But (fun b => b = B + 1) W1 Wa := by rw [← hWa]; exact (But.refl _ W1).alloc _
      have hown2 : (W1.alloc (.cells #[] 67)).ownsMap Tryz.prog 9 unitElem (B + 1) k (nmSet (dedL ((rawS s).take k))) := map_keep hown (Below.heap_alloc _ _ _ hown.lt)
      have m1 : (W1.alloc (.cells #[] 67)).cell? ⟨B + 1 + 1, 0, none⟩ = some (.map (some (B + 1))) := cell_of_heap ((Below.heap_alloc _ _ _ (Array.getElem?_eq_some_iff.1 hI.mx).1).trans hI.mx) 0
      have hcl : (strB nm).size ≤ 1000000 := by rw [strB_length]; omega
      have hkb := dedL_len (rawS s) k (by omega)
      have HBA := Lib.hid hba
      have HWA := Lib.hid hWa
      have HI := Lib.hid hI
      have HADD := Lib.hid hadd
      obtain ⟨i9, hi9, hs0, hs1, hs2⟩ := info_parts info9
      have hrl3 : k ≤ 1048576 := by omega
      clear hba hWa hadd hded hke hraw hI hmem
      gi_wp2_with (first
        | (gi_at_lookup; refine wpListIn_lookup_own_unit _ rfl _ _ 63 rfl 9 67 law9 Tryz.underlying63 (zero67 _) (B + 1) k _ rfl hown _ _ rfl hkey ?_)
        | (gi_at_mapUpdate; refine wpListIn_mapUpdate_own _ rfl _ _ _ 63 rfl 9 67 law9 Tryz.underlying63 unitElem (B + 1) k _ rfl hown2 (by unfold maxLen; omega) _ _ _ rfl rfl hkey (.agg []) [] unitElem_mk ?_; intro w5 hown5 hg5; have HG5 := Lib.hid hg5; have HM5 := Lib.hid hown5; clear hown5 hg5))
      refine wpIn_round_held (S := fun _ => True) rfl (by kernel_rfl) (by rintro ⟨_, _, h⟩; exact h) trivial (fun hHeld => ?_)
      simp only [List.size_toArray, List.length_cons, List.length_nil, Nat.reduceAdd]
      obtain ⟨V0, hV0⟩ : ∃ V0, w5.drew = V0 := ⟨_, rfl⟩
      have hb0 : But (fun b => b = B + 1) W1 V0 := by rw [← hV0]; exact (HBA.out.trans (by have := But.grown HG5.out; rw [HWA.out] at this; exact this) (fun b _ e => by injection e with e; exact e.symm)).drew
      have hm0 : V0.ownsMap Tryz.prog 9 (unitElem (H := Unit)) (B + 1) (k + 1) ((nmSet (dedL ((rawS s).take k))).put (nmKey nm) (.agg [])) := by rw [← hV0]; exact HM5.out
      rw [hV0]
      have hbx0 := hb0.box HI.out.bx (by omega)
      have hB0 : B < V0.heap.size := (Array.getElem?_eq_some_iff.1 hbx0).1
      have bB0 : V0.cell? ⟨B, 0, none⟩ = some v := cell_of_heap hbx0 0
      have hr0 := hb0.row HI.out.row (fun g e1 e2 => by have := (hM g (HI.out.inM g e1)).1; omega)
      have hvM : ∀ b, v.ownBlock = some b → B + 4 ≤ b := fun b e => by have := (hM b (HI.out.inM b e)).1; omega
      have hrow := fun V1 V2 (h1 : Below V0.heap.size V0 V1) (h2 : V1.alloc (.cells #[.string (strB nm)] 9) = V2) => (by rw [← h2]; exact (own_below hr0 h1).alloc _ : V2.ownsRow w.heap.size 9 1 v (dedL ((rawS s).take k)).length (strC (dedL ((rawS s).take k))))
      have hsz := fun V1 V2 (h1 : Below V0.heap.size V0 V1) (h2 : V1.alloc (.cells #[.string (strB nm)] 9) = V2) => (by rw [← h2]; simp; have := h1.size; omega : w.heap.size ≤ V2.heap.size)
      have hb2 := fun V1 V2 (h1 : Below V0.heap.size V0 V1) (h2 : V1.alloc (.cells #[.string (strB nm)] 9) = V2) => (by rw [← h2]; exact (hb0.trans (But.of_all h1 (fun _ => False)) (fun b _ e => e.elim)).alloc _ : But (fun b => b = B + 1) W1 V2)
      have hm2 := fun V1 V2 (h1 : Below V0.heap.size V0 V1) (h2 : V1.alloc (.cells #[.string (strB nm)] 9) = V2) => (by rw [← h2]; exact map_keep (map_keep hm0 (h1.block _ hm0.lt)) (Below.heap_alloc _ _ _ (Nat.lt_of_lt_of_le hm0.lt h1.size)) : V2.ownsMap Tryz.prog 9 (unitElem (H := Unit)) (B + 1) (k + 1) ((nmSet (dedL ((rawS s).take k))).put (nmKey nm) (.agg [])))
      have hp := fun V1 V2 V3 v3 h1 h2 hg ho hat => HI.out.push (args := #[.string (strB nm)]) (V2 := V2) (V3 := V3) (v3 := v3) (nm := nm) hkl HADD.out (hb2 V1 V2 h1 h2) (hm2 V1 V2 h1 h2) hg ho hat hwB (by omega) (fun b e => ⟨by have := (hM b e).1; omega, (hM b e).2⟩)
      have hx3 := fun V1 V2 V3 h1 h2 (hg : V2.grownBy V3 v.ownBlock) => (But.grown hg).box ((hb2 V1 V2 h1 h2).box HI.out.bx (by omega)) (fun e => by have := hvM B e; omega)
      have hc3 := fun V1 V2 V3 h1 h2 hg => cell_of_heap (hx3 V1 V2 V3 h1 h2 hg) 0
      have hf3 := fun V1 V2 V3 h1 h2 hg => frozen_of_heap (hx3 V1 V2 V3 h1 h2 hg) 0
      simp only [List.getElem?_toArray, List.getElem?_cons_zero] at hc3
      have HROW := Lib.hid hrow
      have HSZ := Lib.hid hsz
      have HP := Lib.hid hp
      have HC3 := Lib.hid hc3
      have HF3 := Lib.hid hf3
      clear hV0 hb0 hm0 hbx0 hr0 hrow hsz hb2 hm2 hp hx3 hc3 hf3
      refine wpAnyH_take (i := 1) (v := .string (strB nm)) rfl (by kernel_rfl) (by kernel_rfl) (by kernel_rfl) (fun _ _ _ h => h) (Or.inl ⟨by rfl, ?_⟩) trivial ?_
      · intro wx _; go_simp
      try simp only [Act.put]
      refine wpAnyH_ready (rs := [0, 2]) (by kernel_rfl) (by simp) (AllReadyH.cons rfl (fun K hK => ?_) (AllReadyH.cons rfl (fun K hK => ?_) AllReadyH.nil))
      · go_simp
        refine hK.out _ _ trivial (fun _ => ?_)
        clear hK K
        try simp only [Act.put]
        refine wpAnyH_ready (rs := [2]) (by kernel_rfl) (by simp) (AllReadyH.cons rfl (fun K hK => ?_) AllReadyH.nil)
        · go_simp
          go_at_call 35
          (with_reducible refine (Clone_any (strB nm) V0 hcl).mono ?_)
          rintro e V1 ⟨rfl, hb1⟩
          have HB1 := Lib.hid hb1
          have bB1 : V1.cell? ⟨B, 0, none⟩ = some v := (hb1.cell (p := ⟨B, 0, none⟩) hB0).trans bB0
          clear hb1
          refine hK.out _ _ trivial (fun _ => ?_)
          clear hK K
          try simp only [Act.put]
          refine wpAnyH_ready (rs := [3]) (by kernel_rfl) (by simp) (AllReadyH.cons rfl (fun K hK => ?_) AllReadyH.nil)
          · go_simp
            obtain ⟨V2, hV2⟩ : ∃ V2, V1.alloc (.cells #[.string (strB nm)] 9) = V2 := ⟨_, rfl⟩
            have bB2 : V2.cell? ⟨B, 0, none⟩ = some v := by rw [← hV2]; exact (World.cell?_alloc_lt V1 _ ⟨B, 0, none⟩ (Nat.lt_of_lt_of_le hB0 HB1.out.size)).trans bB1
            have HV2 := Lib.hid hV2
            rw [hV2]
            clear hV2
            refine hK.out _ _ trivial (fun _ => ?_)
            clear hK K
            try simp only [Act.put]
            refine wpAnyH_ready (rs := [4]) (by kernel_rfl) (by simp) (AllReadyH.cons rfl (fun K hK => ?_) AllReadyH.nil)
            · rw [if_pos (by rfl)]
              try simp only [List.getElem_toArray, List.getElem_cons_succ, List.getElem_cons_zero]
              refine oper_append_at (.tmp 31) (.tmp 34) 40 rfl w.heap.size 9 i9 _ 1 16 Tryz.underlying40 hi9 hs0 hs1 hs2 rfl (by decide) v (dedL ((rawS s).take k)).length (strC (dedL ((rawS s).take k))) rfl (HROW.out V1 V2 HB1.out HV2.out) ⟨V1.heap.size, 0, none⟩ 1 1 [.string (strB nm)] rfl rfl (by rw [← HV2.out]; exact cell_one_new _ _ _) (by simp [Value.oneCell']) (by unfold maxLen; omega) (by omega) (HSZ.out V1 V2 HB1.out HV2.out) ?_
              intro v3 V3 hown3 hg3 hat3
              obtain ⟨A3, c3, rfl⟩ := own_slice hown3
              have HPU := Lib.hid (HP.out V1 V2 V3 _ HB1.out HV2.out hg3 hown3 hat3)
              have b3 : V3.cell? ⟨B, 0, none⟩ = some v := HC3.out V1 V2 V3 HB1.out HV2.out hg3
              have f3 : V3.frozen? ⟨B, 0, none⟩ = false := HF3.out V1 V2 V3 HB1.out HV2.out hg3
              clear hown3 hg3 hat3
              refine hK.out _ _ trivial (fun _ => ?_)
              clear hK K
              try simp only [Act.put]
              refine wpAnyH_ready (rs := [5]) (by kernel_rfl) (by simp) (AllReadyH.cons rfl (fun K hK => ?_) AllReadyH.nil)
              · rw [if_pos (by rfl)]
                go_simp
                refine hK.out _ _ trivial (fun _ => ?_)
                clear hK K
                try simp only [Act.put]
                refine wpAnyH_done (by kernel_rfl) ?_ _
                try simp only [List.getElem_toArray, List.getElem_cons_succ, List.getElem_cons_zero]
                gi_wp2
                exact ⟨trivial, HPU.out.2, _, (fun b e => e), _, HPU.out.1⟩
      · go_simp
        go_at_call 35
        (with_reducible refine (Clone_any (strB nm) V0 hcl).mono ?_)
        rintro e V1 ⟨rfl, hb1⟩
        have HB1 := Lib.hid hb1
        have bB1 : V1.cell? ⟨B, 0, none⟩ = some v := (hb1.cell (p := ⟨B, 0, none⟩) hB0).trans bB0
        clear hb1
        refine hK.out _ _ trivial (fun _ => ?_)
        clear hK K
        try simp only [Act.put]
        refine wpAnyH_ready (rs := [0, 3]) (by kernel_rfl) (by simp) (AllReadyH.cons rfl (fun K hK => ?_) (AllReadyH.cons rfl (fun K hK => ?_) AllReadyH.nil))
        · go_simp
          refine hK.out _ _ trivial (fun _ => ?_)
          clear hK K
          try simp only [Act.put]
          refine wpAnyH_ready (rs := [3]) (by kernel_rfl) (by simp) (AllReadyH.cons rfl (fun K hK => ?_) AllReadyH.nil)
          · go_simp
            obtain ⟨V2, hV2⟩ : ∃ V2, V1.alloc (.cells #[.string (strB nm)] 9) = V2 := ⟨_, rfl⟩
            have bB2 : V2.cell? ⟨B, 0, none⟩ = some v := by rw [← hV2]; exact (World.cell?_alloc_lt V1 _ ⟨B, 0, none⟩ (Nat.lt_of_lt_of_le hB0 HB1.out.size)).trans bB1
            have HV2 := Lib.hid hV2
            rw [hV2]
            clear hV2
            refine hK.out _ _ trivial (fun _ => ?_)
            clear hK K
            try simp only [Act.put]
            refine wpAnyH_ready (rs := [4]) (by kernel_rfl) (by simp) (AllReadyH.cons rfl (fun K hK => ?_) AllReadyH.nil)
            · rw [if_pos (by rfl)]
              try simp only [List.getElem_toArray, List.getElem_cons_succ, List.getElem_cons_zero]
              refine oper_append_at (.tmp 31) (.tmp 34) 40 rfl w.heap.size 9 i9 _ 1 16 Tryz.underlying40 hi9 hs0 hs1 hs2 rfl (by decide) v (dedL ((rawS s).take k)).length (strC (dedL ((rawS s).take k))) rfl (HROW.out V1 V2 HB1.out HV2.out) ⟨V1.heap.size, 0, none⟩ 1 1 [.string (strB nm)] rfl rfl (by rw [← HV2.out]; exact cell_one_new _ _ _) (by simp [Value.oneCell']) (by unfold maxLen; omega) (by omega) (HSZ.out V1 V2 HB1.out HV2.out) ?_
              intro v3 V3 hown3 hg3 hat3
              obtain ⟨A3, c3, rfl⟩ := own_slice hown3
              have HPU := Lib.hid (HP.out V1 V2 V3 _ HB1.out HV2.out hg3 hown3 hat3)
              have b3 : V3.cell? ⟨B, 0, none⟩ = some v := HC3.out V1 V2 V3 HB1.out HV2.out hg3
              have f3 : V3.frozen? ⟨B, 0, none⟩ = false := HF3.out V1 V2 V3 HB1.out HV2.out hg3
              clear hown3 hg3 hat3
              refine hK.out _ _ trivial (fun _ => ?_)
              clear hK K
              try simp only [Act.put]
              refine wpAnyH_ready (rs := [5]) (by kernel_rfl) (by simp) (AllReadyH.cons rfl (fun K hK => ?_) AllReadyH.nil)
              · rw [if_pos (by rfl)]
                go_simp
                refine hK.out _ _ trivial (fun _ => ?_)
                clear hK K
                try simp only [Act.put]
                refine wpAnyH_done (by kernel_rfl) ?_ _
                try simp only [List.getElem_toArray, List.getElem_cons_succ, List.getElem_cons_zero]
                gi_wp2
                exact ⟨trivial, HPU.out.2, _, (fun b e => e), _, HPU.out.1⟩
        · go_simp
          obtain ⟨V2, hV2⟩ : ∃ V2, V1.alloc (.cells #[.string (strB nm)] 9) = V2 := ⟨_, rfl⟩
          have bB2 : V2.cell? ⟨B, 0, none⟩ = some v := by rw [← hV2]; exact (World.cell?_alloc_lt V1 _ ⟨B, 0, none⟩ (Nat.lt_of_lt_of_le hB0 HB1.out.size)).trans bB1
          have HV2 := Lib.hid hV2
          rw [hV2]
          clear hV2
          refine hK.out _ _ trivial (fun _ => ?_)
          clear hK K
          try simp only [Act.put]
          refine wpAnyH_ready (rs := [0]) (by kernel_rfl) (by simp) (AllReadyH.cons rfl (fun K hK => ?_) AllReadyH.nil)
          · go_simp
            refine hK.out _ _ trivial (fun _ => ?_)
            clear hK K
            try simp only [Act.put]
            refine wpAnyH_ready (rs := [4]) (by kernel_rfl) (by simp) (AllReadyH.cons rfl (fun K hK => ?_) AllReadyH.nil)
            · rw [if_pos (by rfl)]
              try simp only [List.getElem_toArray, List.getElem_cons_succ, List.getElem_cons_zero]
              refine oper_append_at (.tmp 31) (.tmp 34) 40 rfl w.heap.size 9 i9 _ 1 16 Tryz.underlying40 hi9 hs0 hs1 hs2 rfl (by decide) v (dedL ((rawS s).take k)).length (strC (dedL ((rawS s).take k))) rfl (HROW.out V1 V2 HB1.out HV2.out) ⟨V1.heap.size, 0, none⟩ 1 1 [.string (strB nm)] rfl rfl (by rw [← HV2.out]; exact cell_one_new _ _ _) (by simp [Value.oneCell']) (by unfold maxLen; omega) (by omega) (HSZ.out V1 V2 HB1.out HV2.out) ?_
              intro v3 V3 hown3 hg3 hat3
              obtain ⟨A3, c3, rfl⟩ := own_slice hown3
              have HPU := Lib.hid (HP.out V1 V2 V3 _ HB1.out HV2.out hg3 hown3 hat3)
              have b3 : V3.cell? ⟨B, 0, none⟩ = some v := HC3.out V1 V2 V3 HB1.out HV2.out hg3
              have f3 : V3.frozen? ⟨B, 0, none⟩ = false := HF3.out V1 V2 V3 HB1.out HV2.out hg3
              clear hown3 hg3 hat3
              refine hK.out _ _ trivial (fun _ => ?_)
              clear hK K
              try simp only [Act.put]
              refine wpAnyH_ready (rs := [5]) (by kernel_rfl) (by simp) (AllReadyH.cons rfl (fun K hK => ?_) AllReadyH.nil)
              · rw [if_pos (by rfl)]
                go_simp
                refine hK.out _ _ trivial (fun _ => ?_)
                clear hK K
                try simp only [Act.put]
                refine wpAnyH_done (by kernel_rfl) ?_ _
                try simp only [List.getElem_toArray, List.getElem_cons_succ, List.getElem_cons_zero]
                gi_wp2
                exact ⟨trivial, HPU.out.2, _, (fun b e => e), _, HPU.out.1⟩
  case done =>
    rintro M k W1 rfl hM ⟨v, hI⟩ hD
    have hall : dedL ((rawS s).take (rawS s).length) = namedS s := by rw [List.take_of_length_le (Nat.le_refl _)]; rfl
    have hrow := hI.row
    rw [hall] at hrow
    obtain ⟨A, c, rfl⟩ := own_slice hrow
    have b0 := cell_of_heap hI.bx 0
    simp only [List.getElem?_toArray, List.getElem?_cons_zero] at b0
    have hpb := put_but W1 V.heap.size (.deferred none)
    have hVl : w.heap.size ≤ V.heap.size := by have := HVs.out; omega
    have hr2 := hpb.row hrow (fun g e1 e2 => by have := (hM g (hI.inM g e1)).1; omega)
    have hb2 := hI.below.trans (hpb.to_below (n := w.heap.size) hI.below.size (fun b e => by omega))
    have HR2 := Lib.hid hr2
    have HB2 := Lib.hid hb2
    clear hall hrow hI hpb hr2 hb2
    go_wp2
    exact retM1 (v := .tuple #[.slice A (namedS s).length c, .int .i64 0]) rfl hD (by simp [results, Tryz.results23, go_sem]) ⟨A, c, rfl, HR2.out, HB2.out⟩
  case stop =>
    rintro c M k W1 _ hM h hD
    exact h.elim
end Go.Proofs
