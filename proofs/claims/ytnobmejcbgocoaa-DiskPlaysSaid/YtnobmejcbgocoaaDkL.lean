/-
  The names of a disk, in order; a pick. Conditions: as each theorem names them.
-/
import Derived.Sort.KeysCollected
import Derived.Test.YtnobmejcbgocoaaDkK
namespace Go.Proofs
open Go Go.RowKit Sm Go.Lib Go.Maps Go.WideMaps
attribute [local go_sem] Oper.semAt_some
theorem Sm.keys_perm {W : World} {p Mb base : Nat} {s : DSt} {G : List FileM} (h : DAt W p Mb base s G) {D : DataW Value} (hown : W.ownsMap Try.prog 9 heldElem Mb G.length D) (hM : MapIs D G) : (G.map fun f => nmU f.name).Perm (strKeys D) := by
  refine Collected.perm (left := fun _ => false) ⟨?_, fun x => ?_⟩ hown law9 Try.underlying9 (fun _ => rfl)
  · refine List.pairwise_map.2 (h.sort.imp fun {a b} hab e => ?_)
    rw [e] at hab
    exact List.lt_irrefl _ hab
  · have hx : x = nmU (x.map UInt8.toBitVec) := by
      rw [nmU_map, List.map_map]
      have : (UInt8.ofBitVec ∘ UInt8.toBitVec) = id := by funext y; simp
      rw [this, List.map_id]
    obtain ⟨nm, hnm⟩ : ∃ nm, x = nmU nm := ⟨_, hx⟩
    subst hnm
    have hh := hM.has_iff nm
    unfold keyN at hh
    rw [hh]
    simp only [List.mem_map, decide_eq_true_eq, and_true]
    constructor
    · rintro ⟨f, hf, e⟩
      exact ⟨f, hf, nmU_inj e⟩
    · rintro ⟨f, hf, e⟩
      exact ⟨f, hf, by rw [e]⟩
theorem Sm.sorted_names {G : List FileM} (h : SortG G) {ss : List (List UInt8)} (hp : ss.Perm (G.map fun f => nmU f.name)) : ss.mergeSort (fun x y => decide (x ≤ y)) = G.map fun f => nmU f.name := by
  rw [mergeSort_of_perm hp]
  have hs : (G.map fun f => nmU f.name).Pairwise (fun x y => decide (x ≤ y) = true) := List.pairwise_map.2 (h.imp fun {a b} hab => decide_eq_true (List.le_of_lt hab))
  first | exact List.mergeSort_of_pairwise hs | exact List.mergeSort_of_sorted hs
theorem Sm.enc_name (nm : List (BitVec 8)) : encStr (nmU nm) = .string (strB nm) := by
  unfold nmU
  simp [encStr]
set_option maxRecDepth 100000 in
set_option maxHeartbeats 1000000 in
theorem Sm.names_any {p Mb base : Nat} {s : DSt} {G : List FileM} (w : World) (h : DAt w p Mb base s G) (hGl : G.length ≤ 1000000) :
    Calls Try.prog 22 #[.pointer (some ⟨p, 0, none⟩)] w fun e w' => ∃ v, e = .returned v ∧ w'.ownsRow w.heap.size 9 1 v G.length (G.map fun f => .string (strB f.name)) ∧ Below w.heap.size w w' := by
  obtain ⟨D, hown, hM⟩ := h.map
  have hth := there_yes w h
  have hk := callsIn_wide.1 (Try.maps_Keys_54 (some Mb) w)
  have hs := callsIn_wide.1 (Try.slices_Sorted_keys_53_54 Mb G.length D heldElem w hown (by rw [hM.len]; unfold maxLen; omega) (by rw [hM.len]; omega))
  have c5 := cell_of_heap h.blk 5
  simp only [List.getElem?_toArray, List.getElem?_cons_zero, List.getElem?_cons_succ] at c5
  have hpm := keys_perm h hown hM
  have HPM := Lib.hid hpm
  have H := Lib.hid h
  clear hown hM h hpm
  go_enter Try.func22, Try.ntmps22
  go_wp2_with (first | (go_at_call 38; (with_reducible refine hth.mono ?_); clear hth; rintro e w1 ⟨rfl, rfl⟩) | (go_at_call 54; (with_reducible refine hk.mono ?_); clear hk; rintro e w1 ⟨rfl, rfl⟩) | (go_at_call 53; (with_reducible refine hs.mono ?_); clear hs; rintro e w1 ⟨v, ss, rfl, hp, hrow, _, hb⟩))
  go_ret
  have hb0 : Below w.heap.size w (w.alloc (.cells #[.map (some Mb)] 33)) := (Below.refl _ w).alloc (Nat.le_refl _) _
  have hp2 := hp.trans HPM.out.symm
  rw [sorted_names H.out.sort hp2, List.map_map] at hrow
  have hl : ss.length = G.length := by rw [hp2.length_eq, List.length_map]
  rw [hl] at hrow
  have he : (encStr ∘ fun f : FileM => nmU f.name) = fun f => .string (strB f.name) := by funext f; exact enc_name f.name
  rw [he] at hrow
  exact ⟨v, rfl, hrow.mono hb0.size, hb0.trans (hb.mono hb0.size)⟩
theorem Sm.tmod_pick (x n : Int) (h : 0 < n) : (x.tmod n + n).tmod n = x % n := by
  have h0 := Int.emod_nonneg x (by omega : n ≠ 0)
  have h1 := Int.emod_lt_of_pos x h
  have hn : (n.natAbs : Int) = n := by omega
  have key : x.tmod n = x % n ∨ x.tmod n = x % n - n := by
    rw [Int.tmod_eq_emod]
    split
    · left; omega
    · right; rw [hn]
  rcases key with e | e
  · rw [e, Int.tmod_eq_emod_of_nonneg (by omega), Int.add_emod_right, Int.emod_emod]
  · rw [e, show x % n - n + n = x % n by omega, Int.tmod_eq_emod_of_nonneg h0, Int.emod_emod]
theorem Sm.tmod_rng (x n : Int) (h : 0 < n) : -n < x.tmod n ∧ x.tmod n < n := by
  have h0 := Int.emod_nonneg x (by omega : n ≠ 0)
  have h1 := Int.emod_lt_of_pos x h
  have hn : (n.natAbs : Int) = n := by omega
  rw [Int.tmod_eq_emod]
  split
  · omega
  · rename_i hc
    rw [hn]
    have : x % n ≠ 0 := fun e => hc (.inr (Int.dvd_of_emod_eq_zero e))
    omega
set_option maxRecDepth 100000 in
theorem Sm.picked_any (x n : Int) (w : World) (h : 0 < n) (hn : n ≤ 1000000000) : Calls Try.prog 43 #[.int .i64 x, .int .i64 n] w fun e w' => e = .returned (.int .i64 (x % n)) ∧ w = w' := by
  have h1 := tmod_rng x n h
  have h2 := tmod_pick x n h
  have hnz : n ≠ 0 := by omega
  have h3 := tmod_rng (x.tmod n + n) n h
  obtain ⟨a1, a2⟩ := h1
  have a3 : 0 ≤ x.tmod n + n := by omega
  have a4 : x.tmod n + n ≤ 2000000000 := by omega
  go_enter Try.func43, Try.ntmps43
  go_wp2
  go_ret
  exact ⟨rfl, rfl⟩
end Go.Proofs
