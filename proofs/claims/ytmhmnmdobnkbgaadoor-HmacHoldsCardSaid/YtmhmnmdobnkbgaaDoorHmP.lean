/-
  The contract of works of layer 5: the chapter's rows hold.
-/
import Derived.Lib.SlBytesConst
import Derived.Deep.RegionHeldLaw
import Derived.Test.YtmhmnmdobnkbgaaDoorHmO
import Derived.Test.YtmhmnmdobnkbgaaDoorM18
namespace Go.Proofs
open Go.RowKit Sm
def Sm.bK : List (BitVec 8) := [107#8]
def Sm.bHI : List (BitVec 8) := [104#8, 105#8]
def Sm.bH : List (BitVec 8) := [104#8]
def Sm.bI : List (BitVec 8) := [105#8]
theorem Sm.rd_k (W : World) (a : Nat) (h : W.cell? ⟨a, 0, none⟩ = some (.int .u8 107)) : Rd W W.heap.size (some ⟨a, 0, none⟩) bK := fun _ => ⟨a, 0, rfl, World.block_lt_of_cell? W _ h, fun j c hj => by
  rcases j with _ | j
  · simp [bK] at hj; subst hj; exact h
  · simp [bK] at hj⟩
theorem Sm.pt_one (W : World) (g b : Nat) (x : BitVec 8) (hg : W.heap.size ≤ g) (h : W.cell? ⟨b, 0, none⟩ = some (.int .u8 (ib x))) : PtOK W g (some ⟨b, 0, none⟩) 1 1 [x] := by
  have hb := World.block_lt_of_cell? W _ h
  simp only at hb
  refine ⟨rfl, by omega, by omega, fun _ => ⟨b, 0, rfl, hb, by omega, fun j v hj => ?_⟩⟩
  rcases j with _ | j
  · simp [byteCell] at hj; subst hj; exact h
  · simp at hj
theorem Sm.pt_two (W : World) (g b : Nat) (x y : BitVec 8) (hg : W.heap.size ≤ g) (h : W.cell? ⟨b, 0, none⟩ = some (.int .u8 (ib x))) (h2 : W.cell? ⟨b, 1, none⟩ = some (.int .u8 (ib y))) : PtOK W g (some ⟨b, 0, none⟩) 2 2 [x, y] := by
  have hb := World.block_lt_of_cell? W _ h
  simp only at hb
  refine ⟨rfl, by omega, by omega, fun _ => ⟨b, 0, rfl, hb, by omega, fun j v hj => ?_⟩⟩
  rcases j with _ | _ | j
  · simp [byteCell] at hj; subst hj; exact h
  · simp [byteCell] at hj; subst hj; exact h2
  · simp at hj
/-- the text's row gets its mark where another one lies behind it -/
theorem Sm.conv_ahead (w : World) (C : Array Value) (n c : Nat) (o : Obj) : (convert 0x16 0x16 (.slice (some ⟨w.heap.size, 0, none⟩) n c)).run Tryd.prog ((w.alloc (.cells C 5)).alloc o) = .ok (.slice (some ⟨w.heap.size, 0, none⟩) n c) ((w.alloc (.cells C 5 (C.size, C.size + 1))).alloc o) := by
  have hsh : ((w.alloc (.cells C 5)).alloc o).shape? w.heap.size = some (5, C.size) := by
    have : ((w.alloc (.cells C 5)).alloc o).heap[w.heap.size]? = some (.cells C 5) := by
      show ((w.heap.push (.cells C 5)).push o)[w.heap.size]? = _
      simp [Array.getElem?_push]
    unfold World.shape?
    rw [this]
  have hm : ∀ (a : Array Obj) (x y : Obj) (f : Obj → Obj), ((a.push x).push y).modify a.size f = (a.push (f x)).push y := by
    intro a x y f
    apply Array.ext
    · simp
    · intro i h1 h2
      simp only [Array.getElem_modify, Array.getElem_push, Array.size_push]
      by_cases h : a.size = i
      · subst h
        simp
      · rcases Nat.lt_trichotomy i a.size with h4 | h4 | h4
        · simp [h, h4]
        · omega
        · simp only [h, if_false]
          by_cases h5 : i < a.size + 1
          · omega
          · simp [h5]
  have hfr : ∀ k : Nat, ((w.alloc (.cells C 5)).alloc o).freeze ⟨w.heap.size, k, none⟩ 1 = (w.alloc (.cells C 5 (k, k + 1))).alloc o := fun k => by
    unfold World.freeze
    rw [if_neg (by decide)]
    show ({ (w.alloc (.cells C 5)).alloc o with heap := ((w.heap.push (.cells C 5)).push o).modify w.heap.size _ } : World) = _
    rw [hm]
    rfl
  simp [convert, run_underlying Tryd.underlying22, run_underlying Tryd.underlying5, markStringish, hsh]
  exact hfr _
/-- two rows in a row -/
theorem Sm.rd_pair (X W : World) (C D : Array Value) (m m2 : Nat × Nat) (hW : (X.alloc (.cells C 5 m)).alloc (.cells D 5 m2) = W) (l l2 : List (BitVec 8)) (hC : C = (l.map byteCell).toArray) (hD : D = (l2.map byteCell).toArray) :
    Rd W W.heap.size (some ⟨X.heap.size, 0, none⟩) l ∧ Rd W W.heap.size (some ⟨X.heap.size + 1, 0, none⟩) l2 ∧ Below X.heap.size X W := by
  obtain ⟨V1, hV1⟩ : ∃ V1, X.alloc (.cells C 5 m) = V1 := ⟨_, rfl⟩
  rw [hV1] at hW
  have s1 : V1.heap.size = X.heap.size + 1 := by rw [← hV1]; simp
  have s2 : W.heap.size = X.heap.size + 1 + 1 := by rw [← hW]; simp [s1]
  have b1 : Below X.heap.size X V1 := by rw [← hV1]; exact (Below.refl _ _).alloc (Nat.le_refl _) _
  have b2 : Below V1.heap.size V1 W := by rw [← hW]; exact (Below.refl _ _).alloc (Nat.le_refl _) _
  refine ⟨fun _ => ⟨X.heap.size, 0, rfl, by omega, fun j c hj => ?_⟩, fun _ => ⟨X.heap.size + 1, 0, rfl, by omega, fun j c hj => ?_⟩, b1.trans (b2.mono b1.size)⟩
  · rw [Nat.zero_add]
    refine (b2.cell (p := ⟨X.heap.size, j, none⟩) (show X.heap.size < _ by omega)).trans ?_
    rw [← hV1, World.cell?_alloc_mark, hC, List.getElem?_toArray, List.getElem?_map, hj]
    rfl
  · rw [Nat.zero_add, ← hW, ← s1, World.cell?_alloc_mark, hD, List.getElem?_toArray, List.getElem?_map, hj]
    rfl
/-- the rows of the text 'k' and of one part 'hi' -/
theorem Sm.khi (v W : World) (hW : ((v.alloc (.cells #[.int .u8 107] 5 (1, 2))).alloc (.cells #[.int .u8 104, .int .u8 105] 5 (2, 3))).alloc (.cells #[.slice (some ⟨v.heap.size + 1, 0, none⟩) 2 2] 0x16) = W) :
    Rd W W.heap.size (some ⟨v.heap.size, 0, none⟩) bK ∧ (∀ g, W.heap.size ≤ g → PsOK W g (some ⟨v.heap.size + 1 + 1, 0, none⟩) 1 [⟨some ⟨v.heap.size + 1, 0, none⟩, 2, 2, bHI⟩]) ∧ Below v.heap.size v W := by
  obtain ⟨V1, hV1⟩ : ∃ V1, v.alloc (.cells #[.int .u8 107] 5 (1, 2)) = V1 := ⟨_, rfl⟩
  obtain ⟨V2, hV2⟩ : ∃ V2, V1.alloc (.cells #[.int .u8 104, .int .u8 105] 5 (2, 3)) = V2 := ⟨_, rfl⟩
  rw [hV1, hV2] at hW
  have s1 : V1.heap.size = v.heap.size + 1 := by rw [← hV1]; simp
  have s2 : V2.heap.size = v.heap.size + 1 + 1 := by rw [← hV2]; simp [s1]
  have s3 : W.heap.size = v.heap.size + 1 + 1 + 1 := by rw [← hW]; simp [s2]
  have b1 : Below v.heap.size v V1 := by rw [← hV1]; exact (Below.refl _ _).alloc (Nat.le_refl _) _
  have b2 : Below V1.heap.size V1 V2 := by rw [← hV2]; exact (Below.refl _ _).alloc (Nat.le_refl _) _
  have b3 : Below V2.heap.size V2 W := by rw [← hW]; exact (Below.refl _ _).alloc (Nat.le_refl _) _
  have a0 : V1.cell? ⟨v.heap.size, 0, none⟩ = some (.int .u8 107) := by rw [← hV1, World.cell?_alloc_mark]; rfl
  have c0 : V2.cell? ⟨v.heap.size + 1, 0, none⟩ = some (.int .u8 104) := by rw [← hV2, ← s1, World.cell?_alloc_mark]; rfl
  have c1 : V2.cell? ⟨v.heap.size + 1, 1, none⟩ = some (.int .u8 105) := by rw [← hV2, ← s1, World.cell?_alloc_mark]; rfl
  have d0 : W.cell? ⟨v.heap.size + 1 + 1, 0, none⟩ = some (.slice (some ⟨v.heap.size + 1, 0, none⟩) 2 2) := by rw [← hW, ← s2, World.cell?_alloc_mark]; rfl
  have a0' := ((b2.trans (b3.mono b2.size)).cell (p := ⟨v.heap.size, 0, none⟩) (show v.heap.size < _ by omega)).trans a0
  have c0' := (b3.cell (p := ⟨v.heap.size + 1, 0, none⟩) (show v.heap.size + 1 < _ by omega)).trans c0
  have c1' := (b3.cell (p := ⟨v.heap.size + 1, 1, none⟩) (show v.heap.size + 1 < _ by omega)).trans c1
  refine ⟨rd_k W _ a0', fun g hg => ⟨rfl, by decide, fun _ => ⟨v.heap.size + 1 + 1, 0, rfl, by omega, by omega, fun j x hj => ?_⟩, fun p hp => ?_⟩, b1.trans ((b2.trans (b3.mono b2.size)).mono b1.size)⟩
  · rcases j with _ | j
    · simp [Pt.val] at hj; subst hj; exact d0
    · simp at hj
  · simp only [List.mem_cons, List.not_mem_nil, or_false] at hp
    subst hp
    exact pt_two W g (v.heap.size + 1) 104#8 105#8 hg c0' c1'
/-- the rows of the text 'k' and of two parts 'h', 'i' -/
theorem Sm.khi2 (v W : World) (hW : (((v.alloc (.cells #[.int .u8 107] 5 (1, 2))).alloc (.cells #[.int .u8 104] 5 (1, 2))).alloc (.cells #[.int .u8 105] 5 (1, 2))).alloc (.cells #[.slice (some ⟨v.heap.size + 1, 0, none⟩) 1 1, .slice (some ⟨v.heap.size + 1 + 1, 0, none⟩) 1 1] 0x16) = W) :
    Rd W W.heap.size (some ⟨v.heap.size, 0, none⟩) bK ∧ (∀ g, W.heap.size ≤ g → PsOK W g (some ⟨v.heap.size + 1 + 1 + 1, 0, none⟩) 2 [⟨some ⟨v.heap.size + 1, 0, none⟩, 1, 1, bH⟩, ⟨some ⟨v.heap.size + 1 + 1, 0, none⟩, 1, 1, bI⟩]) ∧ Below v.heap.size v W := by
  obtain ⟨V1, hV1⟩ : ∃ V1, v.alloc (.cells #[.int .u8 107] 5 (1, 2)) = V1 := ⟨_, rfl⟩
  obtain ⟨V2, hV2⟩ : ∃ V2, V1.alloc (.cells #[.int .u8 104] 5 (1, 2)) = V2 := ⟨_, rfl⟩
  obtain ⟨V3, hV3⟩ : ∃ V3, V2.alloc (.cells #[.int .u8 105] 5 (1, 2)) = V3 := ⟨_, rfl⟩
  rw [hV1, hV2, hV3] at hW
  have s1 : V1.heap.size = v.heap.size + 1 := by rw [← hV1]; simp
  have s2 : V2.heap.size = v.heap.size + 1 + 1 := by rw [← hV2]; simp [s1]
  have s3 : V3.heap.size = v.heap.size + 1 + 1 + 1 := by rw [← hV3]; simp [s2]
  have s4 : W.heap.size = v.heap.size + 1 + 1 + 1 + 1 := by rw [← hW]; simp [s3]
  have b1 : Below v.heap.size v V1 := by rw [← hV1]; exact (Below.refl _ _).alloc (Nat.le_refl _) _
  have b2 : Below V1.heap.size V1 V2 := by rw [← hV2]; exact (Below.refl _ _).alloc (Nat.le_refl _) _
  have b3 : Below V2.heap.size V2 V3 := by rw [← hV3]; exact (Below.refl _ _).alloc (Nat.le_refl _) _
  have b4 : Below V3.heap.size V3 W := by rw [← hW]; exact (Below.refl _ _).alloc (Nat.le_refl _) _
  have b24 : Below V2.heap.size V2 W := b3.trans (b4.mono b3.size)
  have a0 : V1.cell? ⟨v.heap.size, 0, none⟩ = some (.int .u8 107) := by rw [← hV1, World.cell?_alloc_mark]; rfl
  have c0 : V2.cell? ⟨v.heap.size + 1, 0, none⟩ = some (.int .u8 104) := by rw [← hV2, ← s1, World.cell?_alloc_mark]; rfl
  have c1 : V3.cell? ⟨v.heap.size + 1 + 1, 0, none⟩ = some (.int .u8 105) := by rw [← hV3, ← s2, World.cell?_alloc_mark]; rfl
  have d0 : W.cell? ⟨v.heap.size + 1 + 1 + 1, 0, none⟩ = some (.slice (some ⟨v.heap.size + 1, 0, none⟩) 1 1) := by rw [← hW, ← s3, World.cell?_alloc_mark]; rfl
  have d1 : W.cell? ⟨v.heap.size + 1 + 1 + 1, 1, none⟩ = some (.slice (some ⟨v.heap.size + 1 + 1, 0, none⟩) 1 1) := by rw [← hW, ← s3, World.cell?_alloc_mark]; rfl
  have a0' := ((b2.trans (b24.mono b2.size)).cell (p := ⟨v.heap.size, 0, none⟩) (show v.heap.size < _ by omega)).trans a0
  have c0' := (b24.cell (p := ⟨v.heap.size + 1, 0, none⟩) (show v.heap.size + 1 < _ by omega)).trans c0
  have c1' := (b4.cell (p := ⟨v.heap.size + 1 + 1, 0, none⟩) (show v.heap.size + 1 + 1 < _ by omega)).trans c1
  refine ⟨rd_k W _ a0', fun g hg => ⟨rfl, by decide, fun _ => ⟨v.heap.size + 1 + 1 + 1, 0, rfl, by omega, by omega, fun j x hj => ?_⟩, fun p hp => ?_⟩, b1.trans ((b2.trans (b24.mono b2.size)).mono b1.size)⟩
  · rcases j with _ | _ | j
    · simp [Pt.val] at hj; subst hj; exact d0
    · simp [Pt.val] at hj; subst hj; exact d1
    · simp at hj
  · simp only [List.mem_cons, List.not_mem_nil, or_false] at hp
    rcases hp with rfl | rfl
    · exact pt_one W g (v.heap.size + 1) 104#8 hg c0'
    · exact pt_one W g (v.heap.size + 1 + 1) 105#8 hg c1'
set_option maxRecDepth 100000 in
set_option maxHeartbeats 4000000 in
theorem Sm.works5_any : Works5 := by
  intro w ht
  have kc := fun (w : World) (C : Array Value) (n c : Nat) => Lib.run_convert_bytes_const (P := Tryd.prog) w 0x16 5 C n c Tryd.underlying22 Tryd.underlying5
  have HT := Lib.hid ht
  clear ht
  go_enter Tryd.func14, Tryd.ntmps14
  go_upto_region 4 with (first
    | (go_at_call 17; (with_reducible refine (Short_no 7 0 0 0 0 none none _ (by decide)).mono ?_); rintro e w' ⟨rfl, rfl⟩)
    | (go_at_call 19; (with_reducible refine (Check_no 0 0 0 0 0 0 none none none _ (by decide)).mono ?_); rintro e w' ⟨rfl, rfl⟩)
    | (go_at_call 20; (with_reducible refine (Derive_no 8161 0 0 none _ _ (by decide)).mono ?_); rintro e w1 ⟨rfl, hb1⟩))
  have kd := kc (w1.alloc (.cells #[.int .u8 107] 5 (1, 2))) #[.int .u8 104, .int .u8 105] 2 2
  rw [World.size_alloc] at kd
  obtain ⟨T, hT⟩ : ∃ T, tagS bK bHI = T := ⟨_, rfl⟩
  have hTl : T.length = 32 := by rw [← hT]; exact tagS_length _ _
  obtain ⟨W3, hW3⟩ : ∃ W, ((w1.alloc (.cells #[.int .u8 107] 5 (1, 2))).alloc (.cells #[.int .u8 104, .int .u8 105] 5 (2, 3))).alloc (.cells #[.slice (some ⟨w1.heap.size + 1, 0, none⟩) 2 2] 0x16) = W := ⟨_, rfl⟩
  obtain ⟨hrk3, hps3, hb3⟩ := khi w1 W3 hW3
  have hb03 := hb1.trans (hb3.mono hb1.size)
  have hsh := Short_yes 12 1 1 1 1 _ _ bK _ W3 (by decide) (by decide) (HT.out.keep hb03) rfl (by decide) (by decide) (by decide) hrk3 hps3 (by show bHI.length ≤ 90000; decide)
  have hj3 : joinP [⟨some ⟨w1.heap.size + 1, 0, none⟩, 2, 2, bHI⟩] = bHI := rfl
  have h12 : ((12 : Nat) : Int) = 12 := rfl
  rw [hj3, hT, h12] at hsh
  have HSH := Lib.hid hsh
  have HTL := Lib.hid hTl
  have HTE := Lib.hid hT
  clear hsh hrk3 hps3 hj3 hT hTl h12
  go_upto_region 5 with (go_at_call 17; (with_reducible refine HSH.out.mono ?_); rintro e w4 ⟨bS, rfl, hr4, hb4⟩)
  have hb04 := hb03.trans (hb4.mono hb03.size)
  have HB4 := Lib.hid hb04
  have HR4 := Lib.hid hr4
  clear hb04 hr4 hb4 hb03 hb3 hb1 hW3 kd HSH
  have ke := kc (w4.alloc (.cells #[.int .u8 107] 5 (1, 2))) #[.int .u8 104] 1 1
  have kf := kc ((w4.alloc (.cells #[.int .u8 107] 5 (1, 2))).alloc (.cells #[.int .u8 104] 5 (1, 2))) #[.int .u8 105] 1 1
  simp only [World.size_alloc] at ke kf
  obtain ⟨W5, hW5⟩ : ∃ W, (((w4.alloc (.cells #[.int .u8 107] 5 (1, 2))).alloc (.cells #[.int .u8 104] 5 (1, 2))).alloc (.cells #[.int .u8 105] 5 (1, 2))).alloc (.cells #[.slice (some ⟨w4.heap.size + 1, 0, none⟩) 1 1, .slice (some ⟨w4.heap.size + 1 + 1, 0, none⟩) 1 1] 0x16) = W := ⟨_, rfl⟩
  obtain ⟨hrk5, hps5, hb5⟩ := khi2 w4 W5 hW5
  have hb05 := HB4.out.trans (hb5.mono HB4.out.size)
  have htl : (T.take 12).length = 12 := by rw [List.length_take, HTL.out]; rfl
  have hck := Check_yes 1 1 12 12 2 2 _ (some ⟨bS, 0, none⟩) _ bK (T.take 12) _ W5 (by decide) (by decide) htl ((HR4.out.below hb5).more hb5.size) (HT.out.keep hb05) rfl (by decide) (by decide) (by decide) hrk5 hps5 (by show (bH ++ (bI ++ [])).length ≤ 90000; decide)
  have hj5 : joinP [⟨some ⟨w4.heap.size + 1, 0, none⟩, 1, 1, bH⟩, ⟨some ⟨w4.heap.size + 1 + 1, 0, none⟩, 1, 1, bI⟩] = bHI := rfl
  have hdt : decide (T.take 12 = T.take 12) = true := by simp
  rw [hj5, HTE.out, hdt] at hck
  have HCK := Lib.hid hck
  clear hck hrk5 hps5 hj5 hdt htl
  go_upto_region 6 with (go_at_call 19; (with_reducible refine HCK.out.mono ?_); rintro e w6 ⟨rfl, hb6⟩)
  have hb46 := hb5.trans (hb6.mono hb5.size)
  have HR6 := Lib.hid ((HR4.out.below hb46).more hb46.size)
  have HB6 := Lib.hid (HB4.out.trans (hb46.mono HB4.out.size))
  clear hb05 hb5 hb6 hb46 hW5 ke kf HR4 HB4 HCK
  have hb7 : Below w6.heap.size w6 (w6.alloc (.cells #[.int .u8 107] 5 (1, 2))) := (Below.refl _ _).alloc (Nat.le_refl _) _
  have hrk7 := rd_k (w6.alloc (.cells #[.int .u8 107] 5 (1, 2))) w6.heap.size (by rw [World.cell?_alloc_mark]; rfl)
  have hb07 := HB6.out.trans (hb7.mono HB6.out.size)
  have hdv := Derive_yes 0 1 1 _ bK ⟨#[120]⟩ _ (HT.out.keep hb07) rfl (by decide) (by decide) (by decide) hrk7 (by decide) (by decide)
  have h00 : ((0 : Nat) : Int) = 0 := rfl
  rw [h00] at hdv
  have HDV := Lib.hid hdv
  clear hdv hrk7 h00
  go_upto_region 7 with (go_at_call 20; (with_reducible refine HDV.out.mono ?_); rintro e w8 ⟨A8, c8, rfl, _, hb8, _⟩)
  have hb8w := hb7.trans (hb8.mono hb7.size)
  have HR8 := Lib.hid ((HR6.out.below hb8w).more hb8w.size)
  have HB8 := Lib.hid (HB6.out.trans (hb8w.mono HB6.out.size))
  clear hb7 hb07 hb8 hb8w HR6 HB6 HDV
  have kd := kc (w8.alloc (.cells #[.int .u8 107] 5 (1, 2))) #[.int .u8 104, .int .u8 105] 2 2
  rw [World.size_alloc] at kd
  obtain ⟨W9, hW9⟩ : ∃ W, ((w8.alloc (.cells #[.int .u8 107] 5 (1, 2))).alloc (.cells #[.int .u8 104, .int .u8 105] 5 (2, 3))).alloc (.cells #[.slice (some ⟨w8.heap.size + 1, 0, none⟩) 2 2] 0x16) = W := ⟨_, rfl⟩
  obtain ⟨hrk9, hps9, hb9⟩ := khi w8 W9 hW9
  have hb09 := HB8.out.trans (hb9.mono HB8.out.size)
  have htg := Tag_any 1 1 1 1 _ _ bK _ W9 (HT.out.keep hb09) rfl (by decide) (by decide) (by decide) hrk9 hps9 (by show bHI.length ≤ 90000; decide)
  have hj9 : joinP [⟨some ⟨w8.heap.size + 1, 0, none⟩, 2, 2, bHI⟩] = bHI := rfl
  rw [hj9, HTE.out] at htg
  have HTG := Lib.hid htg
  clear htg hrk9 hps9 hj9
  go_upto_region 8 with (first
    | (go_at_call 15; (with_reducible refine HTG.out.mono ?_); rintro e w10 ⟨rfl, hb10⟩)
    | (refine wpList_store_row rfl 0x1b _ _ rfl w10.heap.size (bvs T) rfl rfl 0x1b (bvs (List.replicate 32 0#8)) (World.alloc_heap_new w10 _) (i36 T HTL.out) (by rw [bvs_size, bvs_size, HTL.out]; rfl) (bvs_one T) ?_))
  rw [zu32_eq]
  obtain ⟨X, hX⟩ : ∃ X, (w10.alloc (.cells (bvs (List.replicate 32 0#8)) 0x1b)).setRow w10.heap.size (bvs T) = X := ⟨_, rfl⟩
  obtain ⟨tb, htb⟩ : ∃ b, w10.heap.size = b := ⟨_, rfl⟩
  have hBX : Blk X tb 0x1b (bvs T) := by rw [← hX, ← htb]; exact setRow_heap _ _ _ _ _ _ (World.alloc_heap_new w10 _)
  have hb8X : Below w8.heap.size w8 X := by
    have h1 := hb9.trans (hb10.mono hb9.size)
    rw [← hX]; exact below_setRow (h1.alloc h1.size _) h1.size _
  rw [hX, htb]
  have hrs := (HR8.out.below hb8X).more hb8X.size
  have htX := HT.out.keep (HB8.out.trans (hb8X.mono HB8.out.size))
  have htl : (T.take 12).length = 12 := by rw [List.length_take, HTL.out]; rfl
  have hcv : ∀ W, Below X.heap.size X W → (convert 0x16 9 (.slice (some ⟨tb, 0, none⟩) 12 32)).run Tryd.prog W = .ok (.string (strB (T.take 12))) W ∧ (convert 0x16 9 (.slice (some ⟨bS, 0, none⟩) 12 12)).run Tryd.prog W = .ok (.string (strB (T.take 12))) W ∧ (convert 0x16 9 (.slice (some ⟨tb, 0, none⟩) 32 32)).run Tryd.prog W = .ok (.string (strB T)) W := fun W hb =>
    ⟨conv_rd htl (((hBX.keep hb).rd (hBX.keep hb).lt).take 12), conv_rd htl ((hrs.below hb).more hb.size), conv_rd HTL.out ((hBX.keep hb).rd (hBX.keep hb).lt)⟩
  have HCV := Lib.hid hcv
  have HBX := Lib.hid (HB8.out.trans (hb8X.mono HB8.out.size))
  have hsl1 := slice27_h tb 12 (by decide)
  have h12 : ((12 : Nat) : Int) = 12 := rfl
  rw [h12] at hsl1
  have hsl2 := slice33_all tb
  clear hcv hX htb hBX hb8X hrs htl h12 hb9 hb10 hb09 hW9 kd HR8 HTG htX
  have k1 : ∀ (C : Array Value) (n c : Nat), (convert 0x16 0x16 (.slice (some ⟨X.heap.size, 0, none⟩) n c)).run Tryd.prog (X.alloc (.cells C 5)).drew = .ok (.slice (some ⟨X.heap.size, 0, none⟩) n c) (X.alloc (.cells C 5 (C.size, C.size + 1))).drew := fun C n c => kc X.drew C n c
  have k2 : ∀ (C : Array Value) (n c : Nat) (o : Obj), (convert 0x16 0x16 (.slice (some ⟨X.heap.size, 0, none⟩) n c)).run Tryd.prog ((X.alloc (.cells C 5)).alloc o).drew = .ok (.slice (some ⟨X.heap.size, 0, none⟩) n c) ((X.alloc (.cells C 5 (C.size, C.size + 1))).alloc o).drew := fun C n c o => conv_ahead X.drew C n c o
  have k3 : ∀ (C : Array Value) (n c : Nat) (o : Obj), (convert 0x16 0x16 (.slice (some ⟨X.heap.size + 1, 0, none⟩) n c)).run Tryd.prog ((X.alloc o).alloc (.cells C 5)).drew = .ok (.slice (some ⟨X.heap.size + 1, 0, none⟩) n c) ((X.alloc o).alloc (.cells C 5 (C.size, C.size + 1))).drew := fun C n c o => by
    have := kc (X.drew.alloc o) C n c
    rw [World.size_alloc] at this
    exact this
  obtain ⟨Wa, hWa⟩ : ∃ W, ((X.alloc (.cells #[.int .u8 107] 5 (1, 2))).alloc (.cells #[.int .u8 104, .int .u8 105] 5 (2, 3))).drew = W := ⟨_, rfl⟩
  obtain ⟨Wb, hWb⟩ : ∃ W, ((X.alloc (.cells #[.int .u8 104, .int .u8 105] 5 (2, 3))).alloc (.cells #[.int .u8 107] 5 (1, 2))).drew = W := ⟨_, rfl⟩
  obtain ⟨ha1, ha2, ha3⟩ := rd_pair X.drew Wa _ _ _ _ hWa bK bHI rfl rfl
  obtain ⟨hb1, hb2, hb3⟩ := rd_pair X.drew Wb _ _ _ _ hWb bHI bK rfl rfl
  have hXa : Below X.heap.size X Wa := (Below.refl _ _).drew.trans ha3
  have hXb : Below X.heap.size X Wb := (Below.refl _ _).drew.trans hb3
  have hta := (refTag_any 1 1 2 2 (some ⟨X.heap.size, 0, none⟩) (some ⟨X.heap.size + 1, 0, none⟩) bK bHI Wa rfl (by decide) rfl (by decide) ha1 ha2)
  have htb := (refTag_any 1 1 2 2 (some ⟨X.heap.size + 1, 0, none⟩) (some ⟨X.heap.size, 0, none⟩) bK bHI Wb rfl (by decide) rfl (by decide) hb2 hb1)
  rw [HTE.out] at hta htb
  have HTA := Lib.hid hta
  have HTB := Lib.hid htb
  have HXA := Lib.hid hXa
  have HXB := Lib.hid hXb
  have HKA := Lib.hid (HCV.out Wa hXa)
  have HKB := Lib.hid (HCV.out Wb hXb)
  have q0 := HCV.out X (Below.refl _ _)
  have q0d := HCV.out X.drew (Below.refl _ _).drew
  have hda : ∀ o, Below X.heap.size X (X.alloc o).drew := fun o => ((Below.refl _ _).alloc (Nat.le_refl _) _).drew
  have hdb : ∀ o o2, Below X.heap.size X ((X.alloc o).alloc o2).drew := fun o o2 => (((Below.refl _ _).alloc (Nat.le_refl _) _).alloc (by simp) _).drew
  have HDA := Lib.hid hda
  have HDB := Lib.hid hdb
  have hstr : (T.take 12) = (T.take 12) := rfl
  clear ha1 ha2 ha3 hb1 hb2 hb3 hXa hXb hta htb hda hdb hstr kc
  go_region_held_law (fun W => (convert 0x16 9 (.slice (some ⟨tb, 0, none⟩) 12 32)).run Tryd.prog W = .ok (.string (strB (T.take 12))) W ∧ (convert 0x16 9 (.slice (some ⟨bS, 0, none⟩) 12 12)).run Tryd.prog W = .ok (.string (strB (T.take 12))) W ∧ (convert 0x16 9 (.slice (some ⟨tb, 0, none⟩) 32 32)).run Tryd.prog W = .ok (.string (strB T)) W)
    (first | exact q16 | exact HKA.out | exact HKB.out | exact q0d | exact q0 | exact HCV.out _ (HDA.out _) | exact HCV.out _ (HDB.out _ _))
    (first
    | (go_at_call 18; (with_reducible refine (num5_any _ _).mono ?_); rintro e w' ⟨rfl, rfl⟩)
    | (go_at_call 16; (with_reducible refine HTA.out.mono ?_); rintro e w16 ⟨A16, c16, rfl, hr16, hb16', _⟩; have t16 : (convert 0x16 9 (.slice A16 32 c16)).run Tryd.prog w16 = .ok (.string (strB T)) w16 := conv_rd HTL.out hr16; have hb16 : Below X.heap.size X w16 := HXA.out.trans (hb16'.mono HXA.out.size); have q16 := HCV.out w16 hb16)
    | (go_at_call 16; (with_reducible refine HTB.out.mono ?_); rintro e w16 ⟨A16, c16, rfl, hr16, hb16', _⟩; have t16 : (convert 0x16 9 (.slice A16 32 c16)).run Tryd.prog w16 = .ok (.string (strB T)) w16 := conv_rd HTL.out hr16; have hb16 : Below X.heap.size X w16 := HXB.out.trans (hb16'.mono HXB.out.size); have q16 := HCV.out w16 hb16))
  all_goals
   go_wp2
   go_ret
   exact ⟨rfl, HBX.out.trans (hb16.mono HBX.out.size)⟩
end Go.Proofs
