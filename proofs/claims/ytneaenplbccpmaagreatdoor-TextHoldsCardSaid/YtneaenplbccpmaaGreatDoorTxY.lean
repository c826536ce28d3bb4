/-
  The program's put: a line is put together, and laid behind the others. Conditions: as the theorem names them.
-/
import Derived.Test.YtneaenplbccpmaaGreatDoorTxW
import Derived.Test.YtneaenplbccpmaaGreatDoorTxX
namespace Go.Proofs
open Go Go.RowKit Sm Go.Lib
/-- parts put together -/
def Sm.joinL (xs : List (List (BitVec 8))) : List (BitVec 8) := [32#8].intercalate xs
theorem Sm.join_map (xs : List (List (BitVec 8))) : (⟨(join ((xs.map strB).map (·.data.toList)) ({ data := #[32] } : ByteArray).data.toList).toArray⟩ : ByteArray) = strB (joinL xs) := by
  refine ba_ext ?_
  rw [strB_data]
  unfold join joinL
  simp only [List.map_map]
  have e : ((fun s : ByteArray => s.data.toList) ∘ strB) = fun x : List (BitVec 8) => x.map UInt8.ofBitVec := by
    funext x
    exact strB_data x
  rw [e]
  show ([UInt8.ofBitVec 32#8] : List UInt8).intercalate _ = _
  induction xs with
  | nil => rfl
  | cons x r ih =>
    cases r with
    | nil => simp [List.intercalate]
    | cons y q =>
      simp only [List.map_cons, List.intercalate, List.intersperse, List.flatten_cons, List.map_append] at ih ⊢
      rw [ih]
      simp
/-- what put leaves -/
def Sm.PutQ (base Bl : Nat) (ls : List (List (BitVec 8))) (x : List (BitVec 8)) (v : Value) (w w' : World) : Prop :=
  ∃ v', w'.heap[Bl]? = some (.cells #[v'] 40 (0, 0)) ∧ w'.ownsRow base 9 1 v' (ls.length + 1) (strC (ls ++ [x])) ∧ But (fun b => b = Bl ∨ v.ownBlock = some b) w w' ∧ Stays w v v'
theorem Sm.put_end {base Bl : Nat} {ls : List (List (BitVec 8))} {x : List (BitVec 8)} {v v3 : Value} {w V2 V3 : World} (hbx : w.heap[Bl]? = some (.cells #[v] 40 (0, 0))) (hvB : ∀ g, v.ownBlock = some g → g ≠ Bl) (hb : Below w.heap.size w V2)
    (hg : V2.grownBy V3 v.ownBlock) (ho : V3.ownsRow base 9 1 v3 (ls.length + 1) (strC ls ++ [.string (strB x)])) (hat : v3.ownBlock = v.ownBlock ∨ v3.ownBlock = some V2.heap.size) : PutQ base Bl ls x v w (V3.setCell ⟨Bl, 0, none⟩ v3) := by
  have hl := (Array.getElem?_eq_some_iff.1 hbx).1
  have hz := hb.size
  have h3b : ∀ g, v3.ownBlock = some g → g ≠ Bl := fun g e => by
    rcases hat with e2 | e2
    · rw [e2] at e; exact hvB g e
    · rw [e2] at e; injection e with e; omega
  have x3 : V3.heap[Bl]? = some (.cells #[v] 40 (0, 0)) := (But.grown hg).box ((hb.block Bl hl).trans hbx) (fun e => hvB Bl e rfl)
  have hs3 : But (fun b => b = Bl) V3 (V3.setCell ⟨Bl, 0, none⟩ v3) := (But.refl _ V3).set ⟨Bl, 0, none⟩ _ (.inl rfl)
  refine ⟨v3, heap_setCells (i := 0) (u := v3) x3, ?_, ?_, ?_⟩
  · unfold strC at ho ⊢
    rw [List.map_append]
    exact hs3.row ho (fun g e => h3b g e)
  · exact ((But.of_all hb _).trans (But.grown hg) (fun b _ e => .inr e)).trans hs3 (fun b _ e => .inl e)
  · exact (Stays.of hat).after hz
set_option maxRecDepth 100000 in
set_option maxHeartbeats 2000000 in
theorem Sm.put_any (xs : List (List (BitVec 8))) (A : Option Addr) (c bp base Bl : Nat) (ls : List (List (BitVec 8))) (v : Value) (w : World) (hp : w.ownsRow bp 9 1 (.slice A xs.length c) xs.length (strC xs)) (h0 : 0 < xs.length) (hx1 : xs.length ≤ 1000000)
    (hbx : w.heap[Bl]? = some (.cells #[v] 40 (0, 0))) (hv : w.ownsRow base 9 1 v ls.length (strC ls)) (hvB : ∀ g, v.ownBlock = some g → g ≠ Bl) (hbase : base ≤ w.heap.size) (hls : ls.length ≤ 1000000) (hj : (joinL xs).length ≤ 1000000) :
    Calls Tryz.prog 49 #[.slice A xs.length c, .pointer (some ⟨Bl, 0, none⟩)] w fun e w' => (∃ u, e = .returned u) ∧ PutQ base Bl ls (joinL xs) v w w' := by
  obtain ⟨i9, hi9, hs0, hs1, hs2⟩ := info_parts info9
  obtain ⟨g, cap, eg, hgb, hgl⟩ := hp.form h0
  injection eg with e1 e2 e3
  subst e1 e3
  have hgx : xs.length ≤ c := by
    rcases hp.2 with ⟨h1, h2⟩ | ⟨g2, cap, cur, h1, h2, h3, h4, h5, h6, h7⟩
    · omega
    · injection h1 with f1 f2 f3
      omega
  have hcells : ∀ (j : Nat) x, (xs.map strB)[j]? = some x → w.drew.cell? ⟨g, 0 + j, none⟩ = some (.string x) := fun j x hjx => by
    have hjl : j < xs.length := by simpa using (List.getElem?_eq_some_iff.1 hjx).1
    rw [Nat.zero_add]
    refine (hp.cellAt j (by omega)).trans ?_
    unfold strC
    rw [List.getElem?_map] at hjx ⊢
    obtain ⟨y, hy, rfl⟩ := Option.map_eq_some_iff.1 hjx
    rw [hy]
    rfl
  have hjm := join_map xs
  have hjn := Tryz.strings_Join g 0 c (xs.map strB) { data := #[32] } w.drew hcells hgl (by simp; omega) (by simpa using hgx) (by
    have h2 := congrArg (fun s : ByteArray => s.data.toList.length) hjm
    simp only [strB_data, List.length_map] at h2
    have h3 : (join ((xs.map strB).map (·.data.toList)) ({ data := #[32] } : ByteArray).data.toList).length = (joinL xs).length := by simpa using h2
    omega)
  rw [hjm, List.length_map] at hjn
  have hcl : (strB (joinL xs)).size ≤ 1000000 := by rw [strB_length]; exact hj
  have hsp := fun V2 V3 v3 (hb : Below w.heap.size w V2) hg ho hat => put_end (base := base) (ls := ls) (x := joinL xs) (V2 := V2) (V3 := V3) (v3 := v3) hbx hvB hb hg ho hat
  have hx3 := fun V2 V3 (hb : Below w.heap.size w V2) (hg : V2.grownBy V3 v.ownBlock) => (But.grown hg).box ((hb.block Bl (Array.getElem?_eq_some_iff.1 hbx).1).trans hbx) (fun e => hvB Bl e rfl)
  obtain ⟨X, hX⟩ : ∃ X, strB (joinL xs) = X := ⟨_, rfl⟩
  rw [hX] at hjn hcl
  rw [hX] at hsp
  have HSP := Lib.hid hsp
  have HX3 := Lib.hid hx3
  have JN0 := Lib.hid hjn
  have HV := Lib.hid hv
  have HBX := Lib.hid hbx
  clear hjm hjn hsp hx3 hcells hX hp hv hj
  refine calls_of_wp Tryz.func49 rfl ?_
  simp only [Tryz.ntmps49, List.size_toArray, List.length_cons, List.length_nil, Nat.reduceAdd, Nat.reduceSub, Array.replicate_succ, Array.replicate_zero, List.push_toArray, List.append_toArray, List.nil_append, List.cons_append]
  refine wp_region_held_drew (S := fun _ => True) rfl trivial (fun hHeld => ?_)
  simp only [List.size_toArray, List.length_cons, List.length_nil, Nat.reduceAdd]
  obtain ⟨V0, hV0⟩ : ∃ V0, w.drew = V0 := ⟨_, rfl⟩
  have hb0 : Below w.heap.size w V0 := by rw [← hV0]; exact (Below.refl _ w).drew
  have hs0' : V0.heap.size = w.heap.size := by rw [← hV0]; rfl
  have hJ := JN0.out
  rw [hV0] at hJ ⊢
  have JN := Lib.hid hJ
  have hbx0 := (hb0.block Bl (Array.getElem?_eq_some_iff.1 HBX.out).1).trans HBX.out
  have hB0 : Bl < V0.heap.size := (Array.getElem?_eq_some_iff.1 hbx0).1
  have bB0 : V0.cell? ⟨Bl, 0, none⟩ = some v := cell_of_heap hbx0 0
  have hr0 := own_below HV.out hb0
  have hrow := fun V1 V2 (h1 : Below V0.heap.size V0 V1) (h2 : V1.alloc (.cells #[.string X] 9) = V2) => (by rw [← h2]; exact (own_below hr0 h1).alloc _ : V2.ownsRow base 9 1 v ls.length (strC ls))
  have hsz := fun V1 V2 (h1 : Below V0.heap.size V0 V1) (h2 : V1.alloc (.cells #[.string X] 9) = V2) => (by rw [← h2]; simp; have := h1.size; omega : base ≤ V2.heap.size)
  have hb2 := fun V1 V2 (h1 : Below V0.heap.size V0 V1) (h2 : V1.alloc (.cells #[.string X] 9) = V2) => (by rw [← h2]; rw [hs0'] at h1; have h4 := hb0.trans h1; exact h4.alloc h4.size _ : Below w.heap.size w V2)
  have hp := fun V1 V2 V3 v3 h1 h2 hg ho hat => HSP.out V2 V3 v3 (hb2 V1 V2 h1 h2) hg ho hat
  have hc3 := fun V1 V2 V3 h1 h2 hg => cell_of_heap (HX3.out V2 V3 (hb2 V1 V2 h1 h2) hg) 0
  have hf3 := fun V1 V2 V3 h1 h2 hg => frozen_of_heap (HX3.out V2 V3 (hb2 V1 V2 h1 h2) hg) 0
  simp only [List.getElem?_toArray, List.getElem?_cons_zero] at hc3
  have HROW := Lib.hid hrow
  have HSZ := Lib.hid hsz
  have HP := Lib.hid hp
  have HC3 := Lib.hid hc3
  have HF3 := Lib.hid hf3
  clear hV0 hb0 hbx0 hr0 hrow hsz hb2 hp hc3 hf3 hJ hs0' hgl hgb
  refine wpAnyH_take (i := 1) (v := .slice (some ⟨g, 0, none⟩) xs.length c) rfl (by kernel_rfl) (by kernel_rfl) (by kernel_rfl) (fun _ _ _ h => h) (Or.inl ⟨by rfl, ?_⟩) trivial ?_
  · intro wx _; go_simp
  try simp only [Act.put]
  refine wpAnyH_ready (rs := [0, 2]) (by kernel_rfl) (by simp) (AllReadyH.cons rfl (fun K hK => ?_) (AllReadyH.cons rfl (fun K hK => ?_) AllReadyH.nil))
  · go_simp
    refine hK.out _ _ trivial (fun _ => ?_)
    clear hK K
    try simp only [Act.put]
    refine wpAnyH_ready (rs := [2]) (by kernel_rfl) (by simp) (AllReadyH.cons rfl (fun K hK => ?_) AllReadyH.nil)
    · go_simp
      go_at_call 50
      (with_reducible refine JN.out.mono ?_)
      rintro e U1 ⟨rfl, hb1⟩
      have HU1 := Lib.hid hb1
      have bU1 : U1.cell? ⟨Bl, 0, none⟩ = some v := (hb1.cell (p := ⟨Bl, 0, none⟩) hB0).trans bB0
      clear hb1
      refine hK.out _ _ trivial (fun _ => ?_)
      clear hK K
      try simp only [Act.put]
      refine wpAnyH_ready (rs := [3]) (by kernel_rfl) (by simp) (AllReadyH.cons rfl (fun K hK => ?_) AllReadyH.nil)
      · go_simp
        go_at_call 35
        (with_reducible refine (Clone_any X U1 hcl).mono ?_)
        rintro e V1 ⟨rfl, hb1⟩
        have HB1 := Lib.hid (HU1.out.trans (hb1.mono HU1.out.size))
        have bB1 : V1.cell? ⟨Bl, 0, none⟩ = some v := (HB1.out.cell (p := ⟨Bl, 0, none⟩) hB0).trans bB0
        clear hb1
        refine hK.out _ _ trivial (fun _ => ?_)
        clear hK K
        try simp only [Act.put]
        refine wpAnyH_ready (rs := [4]) (by kernel_rfl) (by simp) (AllReadyH.cons rfl (fun K hK => ?_) AllReadyH.nil)
        · go_simp
          obtain ⟨V2, hV2⟩ : ∃ V2, V1.alloc (.cells #[.string X] 9) = V2 := ⟨_, rfl⟩
          have bB2 : V2.cell? ⟨Bl, 0, none⟩ = some v := by rw [← hV2]; exact (World.cell?_alloc_lt V1 _ ⟨Bl, 0, none⟩ (Nat.lt_of_lt_of_le hB0 HB1.out.size)).trans bB1
          have HV2 := Lib.hid hV2
          rw [hV2]
          clear hV2
          refine hK.out _ _ trivial (fun _ => ?_)
          clear hK K
          try simp only [Act.put]
          refine wpAnyH_ready (rs := [5]) (by kernel_rfl) (by simp) (AllReadyH.cons rfl (fun K hK => ?_) AllReadyH.nil)
          · rw [if_pos (by rfl)]
            try simp only [List.getElem_toArray, List.getElem_cons_succ, List.getElem_cons_zero]
            refine oper_append_at (.tmp 3) (.tmp 7) 40 rfl base 9 i9 _ 1 16 Tryz.underlying40 hi9 hs0 hs1 hs2 rfl (by decide) v ls.length (strC ls) rfl (HROW.out V1 V2 HB1.out HV2.out) ⟨V1.heap.size, 0, none⟩ 1 1 [.string X] rfl rfl (by rw [← HV2.out]; exact cell_one_new _ _ _) (by simp [Value.oneCell']) (by unfold maxLen; omega) (by omega) (HSZ.out V1 V2 HB1.out HV2.out) ?_
            intro v3 V3 hown3 hg3 hat3
            obtain ⟨A3, c3, rfl⟩ := own_slice hown3
            have HPU := Lib.hid (HP.out V1 V2 V3 _ HB1.out HV2.out hg3 hown3 hat3)
            have b3 : V3.cell? ⟨Bl, 0, none⟩ = some v := HC3.out V1 V2 V3 HB1.out HV2.out hg3
            have f3 : V3.frozen? ⟨Bl, 0, none⟩ = false := HF3.out V1 V2 V3 HB1.out HV2.out hg3
            clear hown3 hg3 hat3
            refine hK.out _ _ trivial (fun _ => ?_)
            clear hK K
            try simp only [Act.put]
            refine wpAnyH_ready (rs := [6]) (by kernel_rfl) (by simp) (AllReadyH.cons rfl (fun K hK => ?_) AllReadyH.nil)
            · rw [if_pos (by rfl)]
              go_simp
              refine hK.out _ _ trivial (fun _ => ?_)
              clear hK K
              try simp only [Act.put]
              refine wpAnyH_done (by kernel_rfl) ?_ _
              try simp only [List.getElem_toArray, List.getElem_cons_succ, List.getElem_cons_zero]
              go_wp2_with fail
              go_end0
              exact ⟨⟨_, rfl⟩, HPU.out⟩
  · go_simp
    go_at_call 50
    (with_reducible refine JN.out.mono ?_)
    rintro e U1 ⟨rfl, hb1⟩
    have HU1 := Lib.hid hb1
    have bU1 : U1.cell? ⟨Bl, 0, none⟩ = some v := (hb1.cell (p := ⟨Bl, 0, none⟩) hB0).trans bB0
    clear hb1
    refine hK.out _ _ trivial (fun _ => ?_)
    clear hK K
    try simp only [Act.put]
    refine wpAnyH_ready (rs := [0, 3]) (by kernel_rfl) (by simp) (AllReadyH.cons rfl (fun K hK => ?_) (AllReadyH.cons rfl (fun K hK => ?_) AllReadyH.nil))
    · go_simp
      refine hK.out _ _ trivial (fun _ => ?_)
      clear hK K
      try simp only [Act.put]
      refine wpAnyH_ready (rs := [3]) (by kernel_rfl) (by simp) (AllReadyH.cons rfl (fun K hK => ?_) AllReadyH.nil)
      · go_simp
        go_at_call 35
        (with_reducible refine (Clone_any X U1 hcl).mono ?_)
        rintro e V1 ⟨rfl, hb1⟩
        have HB1 := Lib.hid (HU1.out.trans (hb1.mono HU1.out.size))
        have bB1 : V1.cell? ⟨Bl, 0, none⟩ = some v := (HB1.out.cell (p := ⟨Bl, 0, none⟩) hB0).trans bB0
        clear hb1
        refine hK.out _ _ trivial (fun _ => ?_)
        clear hK K
        try simp only [Act.put]
        refine wpAnyH_ready (rs := [4]) (by kernel_rfl) (by simp) (AllReadyH.cons rfl (fun K hK => ?_) AllReadyH.nil)
        · go_simp
          obtain ⟨V2, hV2⟩ : ∃ V2, V1.alloc (.cells #[.string X] 9) = V2 := ⟨_, rfl⟩
          have bB2 : V2.cell? ⟨Bl, 0, none⟩ = some v := by rw [← hV2]; exact (World.cell?_alloc_lt V1 _ ⟨Bl, 0, none⟩ (Nat.lt_of_lt_of_le hB0 HB1.out.size)).trans bB1
          have HV2 := Lib.hid hV2
          rw [hV2]
          clear hV2
          refine hK.out _ _ trivial (fun _ => ?_)
          clear hK K
          try simp only [Act.put]
          refine wpAnyH_ready (rs := [5]) (by kernel_rfl) (by simp) (AllReadyH.cons rfl (fun K hK => ?_) AllReadyH.nil)
          · rw [if_pos (by rfl)]
            try simp only [List.getElem_toArray, List.getElem_cons_succ, List.getElem_cons_zero]
            refine oper_append_at (.tmp 3) (.tmp 7) 40 rfl base 9 i9 _ 1 16 Tryz.underlying40 hi9 hs0 hs1 hs2 rfl (by decide) v ls.length (strC ls) rfl (HROW.out V1 V2 HB1.out HV2.out) ⟨V1.heap.size, 0, none⟩ 1 1 [.string X] rfl rfl (by rw [← HV2.out]; exact cell_one_new _ _ _) (by simp [Value.oneCell']) (by unfold maxLen; omega) (by omega) (HSZ.out V1 V2 HB1.out HV2.out) ?_
            intro v3 V3 hown3 hg3 hat3
            obtain ⟨A3, c3, rfl⟩ := own_slice hown3
            have HPU := Lib.hid (HP.out V1 V2 V3 _ HB1.out HV2.out hg3 hown3 hat3)
            have b3 : V3.cell? ⟨Bl, 0, none⟩ = some v := HC3.out V1 V2 V3 HB1.out HV2.out hg3
            have f3 : V3.frozen? ⟨Bl, 0, none⟩ = false := HF3.out V1 V2 V3 HB1.out HV2.out hg3
            clear hown3 hg3 hat3
            refine hK.out _ _ trivial (fun _ => ?_)
            clear hK K
            try simp only [Act.put]
            refine wpAnyH_ready (rs := [6]) (by kernel_rfl) (by simp) (AllReadyH.cons rfl (fun K hK => ?_) AllReadyH.nil)
            · rw [if_pos (by rfl)]
              go_simp
              refine hK.out _ _ trivial (fun _ => ?_)
              clear hK K
              try simp only [Act.put]
              refine wpAnyH_done (by kernel_rfl) ?_ _
              try simp only [List.getElem_toArray, List.getElem_cons_succ, List.getElem_cons_zero]
              go_wp2_with fail
              go_end0
              exact ⟨⟨_, rfl⟩, HPU.out⟩
    · go_simp
      go_at_call 35
      (with_reducible refine (Clone_any X U1 hcl).mono ?_)
      rintro e V1 ⟨rfl, hb1⟩
      have HB1 := Lib.hid (HU1.out.trans (hb1.mono HU1.out.size))
      have bB1 : V1.cell? ⟨Bl, 0, none⟩ = some v := (HB1.out.cell (p := ⟨Bl, 0, none⟩) hB0).trans bB0
      clear hb1
      refine hK.out _ _ trivial (fun _ => ?_)
      clear hK K
      try simp only [Act.put]
      refine wpAnyH_ready (rs := [0, 4]) (by kernel_rfl) (by simp) (AllReadyH.cons rfl (fun K hK => ?_) (AllReadyH.cons rfl (fun K hK => ?_) AllReadyH.nil))
      · go_simp
        refine hK.out _ _ trivial (fun _ => ?_)
        clear hK K
        try simp only [Act.put]
        refine wpAnyH_ready (rs := [4]) (by kernel_rfl) (by simp) (AllReadyH.cons rfl (fun K hK => ?_) AllReadyH.nil)
        · go_simp
          obtain ⟨V2, hV2⟩ : ∃ V2, V1.alloc (.cells #[.string X] 9) = V2 := ⟨_, rfl⟩
          have bB2 : V2.cell? ⟨Bl, 0, none⟩ = some v := by rw [← hV2]; exact (World.cell?_alloc_lt V1 _ ⟨Bl, 0, none⟩ (Nat.lt_of_lt_of_le hB0 HB1.out.size)).trans bB1
          have HV2 := Lib.hid hV2
          rw [hV2]
          clear hV2
          refine hK.out _ _ trivial (fun _ => ?_)
          clear hK K
          try simp only [Act.put]
          refine wpAnyH_ready (rs := [5]) (by kernel_rfl) (by simp) (AllReadyH.cons rfl (fun K hK => ?_) AllReadyH.nil)
          · rw [if_pos (by rfl)]
            try simp only [List.getElem_toArray, List.getElem_cons_succ, List.getElem_cons_zero]
            refine oper_append_at (.tmp 3) (.tmp 7) 40 rfl base 9 i9 _ 1 16 Tryz.underlying40 hi9 hs0 hs1 hs2 rfl (by decide) v ls.length (strC ls) rfl (HROW.out V1 V2 HB1.out HV2.out) ⟨V1.heap.size, 0, none⟩ 1 1 [.string X] rfl rfl (by rw [← HV2.out]; exact cell_one_new _ _ _) (by simp [Value.oneCell']) (by unfold maxLen; omega) (by omega) (HSZ.out V1 V2 HB1.out HV2.out) ?_
            intro v3 V3 hown3 hg3 hat3
            obtain ⟨A3, c3, rfl⟩ := own_slice hown3
            have HPU := Lib.hid (HP.out V1 V2 V3 _ HB1.out HV2.out hg3 hown3 hat3)
            have b3 : V3.cell? ⟨Bl, 0, none⟩ = some v := HC3.out V1 V2 V3 HB1.out HV2.out hg3
            have f3 : V3.frozen? ⟨Bl, 0, none⟩ = false := HF3.out V1 V2 V3 HB1.out HV2.out hg3
            clear hown3 hg3 hat3
            refine hK.out _ _ trivial (fun _ => ?_)
            clear hK K
            try simp only [Act.put]
            refine wpAnyH_ready (rs := [6]) (by kernel_rfl) (by simp) (AllReadyH.cons rfl (fun K hK => ?_) AllReadyH.nil)
            · rw [if_pos (by rfl)]
              go_simp
              refine hK.out _ _ trivial (fun _ => ?_)
              clear hK K
              try simp only [Act.put]
              refine wpAnyH_done (by kernel_rfl) ?_ _
              try simp only [List.getElem_toArray, List.getElem_cons_succ, List.getElem_cons_zero]
              go_wp2_with fail
              go_end0
              exact ⟨⟨_, rfl⟩, HPU.out⟩
      · go_simp
        obtain ⟨V2, hV2⟩ : ∃ V2, V1.alloc (.cells #[.string X] 9) = V2 := ⟨_, rfl⟩
        have bB2 : V2.cell? ⟨Bl, 0, none⟩ = some v := by rw [← hV2]; exact (World.cell?_alloc_lt V1 _ ⟨Bl, 0, none⟩ (Nat.lt_of_lt_of_le hB0 HB1.out.size)).trans bB1
        have HV2 := Lib.hid hV2
        rw [hV2]
        clear hV2
        refine hK.out _ _ trivial (fun _ => ?_)
        clear hK K
        try simp only [Act.put]
        refine wpAnyH_ready (rs := [0]) (by kernel_rfl) (by simp) (AllReadyH.cons rfl (fun K hK => ?_) AllReadyH.nil)
        · go_simp
          refine hK.out _ _ trivial (fun _ => ?_)
          clear hK K
          try simp only [Act.put]
          refine wpAnyH_ready (rs := [5]) (by kernel_rfl) (by simp) (AllReadyH.cons rfl (fun K hK => ?_) AllReadyH.nil)
          · rw [if_pos (by rfl)]
            try simp only [List.getElem_toArray, List.getElem_cons_succ, List.getElem_cons_zero]
            refine oper_append_at (.tmp 3) (.tmp 7) 40 rfl base 9 i9 _ 1 16 Tryz.underlying40 hi9 hs0 hs1 hs2 rfl (by decide) v ls.length (strC ls) rfl (HROW.out V1 V2 HB1.out HV2.out) ⟨V1.heap.size, 0, none⟩ 1 1 [.string X] rfl rfl (by rw [← HV2.out]; exact cell_one_new _ _ _) (by simp [Value.oneCell']) (by unfold maxLen; omega) (by omega) (HSZ.out V1 V2 HB1.out HV2.out) ?_
            intro v3 V3 hown3 hg3 hat3
            obtain ⟨A3, c3, rfl⟩ := own_slice hown3
            have HPU := Lib.hid (HP.out V1 V2 V3 _ HB1.out HV2.out hg3 hown3 hat3)
            have b3 : V3.cell? ⟨Bl, 0, none⟩ = some v := HC3.out V1 V2 V3 HB1.out HV2.out hg3
            have f3 : V3.frozen? ⟨Bl, 0, none⟩ = false := HF3.out V1 V2 V3 HB1.out HV2.out hg3
            clear hown3 hg3 hat3
            refine hK.out _ _ trivial (fun _ => ?_)
            clear hK K
            try simp only [Act.put]
            refine wpAnyH_ready (rs := [6]) (by kernel_rfl) (by simp) (AllReadyH.cons rfl (fun K hK => ?_) AllReadyH.nil)
            · rw [if_pos (by rfl)]
              go_simp
              refine hK.out _ _ trivial (fun _ => ?_)
              clear hK K
              try simp only [Act.put]
              refine wpAnyH_done (by kernel_rfl) ?_ _
              try simp only [List.getElem_toArray, List.getElem_cons_succ, List.getElem_cons_zero]
              go_wp2_with fail
              go_end0
              exact ⟨⟨_, rfl⟩, HPU.out⟩
end Go.Proofs
