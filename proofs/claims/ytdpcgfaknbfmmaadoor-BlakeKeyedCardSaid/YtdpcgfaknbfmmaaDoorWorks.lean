/-
  The contract of works: the rows of the chapter hold.
-/
import Derived.Lib.SlBytesConst
import Derived.Test.YtdpcgfaknbfmmaaDoorStr
import Derived.Test.YtdpcgfaknbfmmaaDoorWalkK
namespace Go.Proofs
open Go.RowKit Sm
def Sm.bA : List (BitVec 8) := [97#8]
def Sm.bB : List (BitVec 8) := [98#8, 99#8]
theorem Sm.hash_abc : (hashW 32 [] (bA ++ bB)).take 8 = [80#8, 140#8, 94#8, 140#8, 50#8, 124#8, 20#8, 226#8] := by decide +kernel
theorem Sm.hash_none : (hashW 32 [] []).take 8 = [105#8, 33#8, 122#8, 48#8, 121#8, 144#8, 128#8, 148#8] := by decide +kernel
theorem Sm.str_abc : (strB [80#8, 140#8, 94#8, 140#8, 50#8, 124#8, 20#8, 226#8]).toList = [80, 140, 94, 140, 50, 124, 20, 226] := by rw [ByteArray.toList_eq]; rfl
theorem Sm.str_none : (strB [105#8, 33#8, 122#8, 48#8, 121#8, 144#8, 128#8, 148#8]).toList = [105, 33, 122, 48, 121, 144, 128, 148] := by rw [ByteArray.toList_eq]; rfl
theorem Sm.num_any (e : Int) (w : World) : Calls Tryd.prog 23 #[.int .i64 e] w fun e' w' => e' = .returned (.int .i64 e) ∧ w = w' := by
  go_enter Tryd.func23, Tryd.ntmps23
  go_wp2
  go_ret
  exact ⟨rfl, rfl⟩
theorem Sm.ps_abc (w : World) (a b n : Nat) (h : w.cell? ⟨a, 0, none⟩ = some (.int .u8 97)) (k0 : w.cell? ⟨b, 0, none⟩ = some (.int .u8 98)) (k1 : w.cell? ⟨b, 1, none⟩ = some (.int .u8 99)) (l0 : w.cell? ⟨n, 0, none⟩ = some (.slice (some ⟨a, 0, none⟩) 1 1)) (l1 : w.cell? ⟨n, 1, none⟩ = some (.slice (some ⟨b, 0, none⟩) 2 2)) (g : Nat) (hg : w.heap.size ≤ g) :
    PsOK w g (some ⟨n, 0, none⟩) 2 [⟨some ⟨a, 0, none⟩, 1, 1, bA⟩, ⟨some ⟨b, 0, none⟩, 2, 2, bB⟩] := by
  have ha := World.block_lt_of_cell? w _ h
  have hb := World.block_lt_of_cell? w _ k0
  have hn := World.block_lt_of_cell? w _ l0
  simp only at ha hb hn
  refine ⟨rfl, by omega, fun _ => ⟨n, 0, rfl, hn, by omega, fun j v hj => ?_⟩, fun p hp => ?_⟩
  · rcases j with _ | _ | j
    · simp [Pt.val] at hj; subst hj; exact l0
    · simp [Pt.val] at hj; subst hj; exact l1
    · simp at hj
  · simp only [List.mem_cons, List.not_mem_nil, or_false] at hp
    rcases hp with rfl | rfl
    · refine ⟨rfl, by show 1 ≤ 1; omega, by show 1 ≤ _; omega, fun _ => ⟨a, 0, rfl, ha, by omega, fun j v hj => ?_⟩⟩
      rcases j with _ | j
      · simp [bA, byteCell, ib] at hj; subst hj; exact h
      · simp [bA] at hj
    · refine ⟨rfl, by show 2 ≤ 2; omega, by show 2 ≤ _; omega, fun _ => ⟨b, 0, rfl, hb, by omega, fun j v hj => ?_⟩⟩
      rcases j with _ | _ | j
      · simp [bB, byteCell, ib] at hj; subst hj; exact k0
      · simp [bB, byteCell, ib] at hj; subst hj; exact k1
      · simp [bB] at hj
theorem Sm.ps_nil (w : World) (g : Nat) : PsOK w g none 0 [] := ⟨rfl, by omega, fun h => by simp at h, fun p hp => by simp at hp⟩
theorem Sm.info5 : (Tryd.prog.info? 5).map (fun i => (i.zero, i.size, i.bytes)) = some (some (.int .u8 0), 1, 1) := by kernel_rfl
theorem Sm.slice32_h (b h : Nat) (hI : Int) (e : hI = h) (hh : h ≤ 32) (w : World) :
    (Instr.sliceAt 0x21 (.pointer (some ⟨b, 0, none⟩)) none (some (.int .i64 hI)) none).run Tryd.prog w = .ok (.slice (some ⟨b, 0, none⟩) h 32) w := by
  subst e
  have hu : Tryd.prog.underlying 0x21 = some (.array (Tryd.prog.arrayLen 0x21) (Tryd.prog.elem 0x21)) := by kernel_rfl
  have ha : Tryd.prog.arrayLen 0x21 = 32 := by kernel_rfl
  have he : Tryd.prog.elem 0x21 = 5 := by kernel_rfl
  have hs : ∀ w, (sizeOf 5).run Tryd.prog w = .ok 1 w := fun _ => by kernel_rfl
  rw [run_sliceAt_array_h w 0x21 ⟨b, 0, none⟩ hu .i64 _ (by omega) (by rw [ha]; omega), he, hs]
  simp only [Result.andThen_ok, slicedAt, ha, Int.toNat_natCast, Nat.zero_mul]
  rw [if_neg (by omega), Addr.add_mid]
  rfl
theorem Sm.Blk.rd {w : World} {b : Nat} {t : TypeId} {l : List (BitVec 8)} (h : Blk w b t (bvs l)) {B : Nat} (hB : b < B) : Rd w B (some ⟨b, 0, none⟩) l := fun _ => ⟨b, 0, rfl, hB, fun j c hj => by
  rw [Nat.zero_add, h.cell]
  simp [bvs, hj, byteCell]⟩
theorem Sm.join_abc : joinP [⟨some ⟨0, 0, none⟩, 1, 1, bA⟩, ⟨some ⟨0, 0, none⟩, 2, 2, bB⟩] = bA ++ bB := rfl
set_option maxRecDepth 100000 in
set_option maxHeartbeats 4000000 in
theorem Sm.works_any (w : World) (ht : Tabs w) : Calls Tryd.prog 17 #[] w fun e w' => e = .returned (.bool true) ∧ Below w.heap.size w w' := by
  have kc := fun (w : World) (C : Array Value) (n c : Nat) => Lib.run_convert_bytes_const (P := Tryd.prog) w 0x1e 5 C n c Tryd.underlying30 Tryd.underlying5
  have kd := kc (w.alloc (.cells #[.int .u8 97] 5 (1, 2))) #[.int .u8 98, .int .u8 99] 2 2
  rw [World.size_alloc] at kd
  go_enter Tryd.func17, Tryd.ntmps17
  obtain ⟨W0, hW0⟩ : ∃ W0, ((w.alloc (.cells #[.int .u8 97] 5 (1, 2))).alloc (.cells #[.int .u8 98, .int .u8 99] 5 (2, 3))).alloc (.cells #[.slice (some ⟨w.heap.size, 0, none⟩) 1 1, .slice (some ⟨w.heap.size + 1, 0, none⟩) 2 2] 0x1e) = W0 := ⟨_, rfl⟩
  have hb0 : Below w.heap.size w W0 := by rw [← hW0]; exact (((Below.refl _ w).alloc (Nat.le_refl _) _).alloc (by simp) _).alloc (by simp <;> omega) _
  have hpsW : ∀ g, W0.heap.size ≤ g → PsOK W0 g (some ⟨w.heap.size + 1 + 1, 0, none⟩) 2 [⟨some ⟨w.heap.size, 0, none⟩, 1, 1, bA⟩, ⟨some ⟨w.heap.size + 1, 0, none⟩, 2, 2, bB⟩] := fun g hg => by
    obtain ⟨V1, hV1⟩ : ∃ V1, w.alloc (.cells #[.int .u8 97] 5 (1, 2)) = V1 := ⟨_, rfl⟩
    obtain ⟨V2, hV2⟩ : ∃ V2, V1.alloc (.cells #[.int .u8 98, .int .u8 99] 5 (2, 3)) = V2 := ⟨_, rfl⟩
    have s1 : V1.heap.size = w.heap.size + 1 := by rw [← hV1]; simp
    have s2 : V2.heap.size = w.heap.size + 1 + 1 := by rw [← hV2]; simp [s1]
    have e : V2.alloc (.cells #[.slice (some ⟨w.heap.size, 0, none⟩) 1 1, .slice (some ⟨w.heap.size + 1, 0, none⟩) 2 2] 0x1e) = W0 := by rw [← hV2, ← hV1]; exact hW0
    have a0 : V1.cell? ⟨w.heap.size, 0, none⟩ = some (.int .u8 97) := by rw [← hV1, World.cell?_alloc_mark]; rfl
    have b0 : V2.cell? ⟨w.heap.size + 1, 0, none⟩ = some (.int .u8 98) := by rw [← hV2, ← s1, World.cell?_alloc_mark]; rfl
    have b1 : V2.cell? ⟨w.heap.size + 1, 1, none⟩ = some (.int .u8 99) := by rw [← hV2, ← s1, World.cell?_alloc_mark]; rfl
    refine ps_abc W0 w.heap.size (w.heap.size + 1) (w.heap.size + 1 + 1) ?_ ?_ ?_ ?_ ?_ g hg
    · rw [← e, World.cell?_alloc_lt _ _ _ (by show w.heap.size < _; omega), ← hV2, World.cell?_alloc_lt _ _ _ (by show w.heap.size < _; omega)]; exact a0
    · rw [← e, World.cell?_alloc_lt _ _ _ (by show w.heap.size + 1 < _; omega)]; exact b0
    · rw [← e, World.cell?_alloc_lt _ _ _ (by show w.heap.size + 1 < _; omega)]; exact b1
    · rw [← e, ← s2, World.cell?_alloc_mark]; rfl
    · rw [← e, ← s2, World.cell?_alloc_mark]; rfl
  have h16 := Sum_any _ 2 2 _ W0 hpsW (Nat.le_refl _) (ht.keep hb0) (by show (bA ++ bB).length ≤ 100000; decide)
  obtain ⟨D1, hD1⟩ : ∃ D1, hashW 32 [] (bA ++ bB) = D1 := ⟨_, rfl⟩
  have hj : joinP [⟨some ⟨w.heap.size, 0, none⟩, 1, 1, bA⟩, ⟨some ⟨w.heap.size + 1, 0, none⟩, 2, 2, bB⟩] = bA ++ bB := rfl
  rw [hj, hD1] at h16
  have hD1l : D1.length = 32 := by rw [← hD1]; exact hashW_length ..
  have hD1t : D1.take 8 = [80#8, 140#8, 94#8, 140#8, 50#8, 124#8, 20#8, 226#8] := by rw [← hD1]; exact hash_abc
  obtain ⟨D2, hD2⟩ : ∃ D2, hashW 32 [] [] = D2 := ⟨_, rfl⟩
  have hD2l : D2.length = 32 := by rw [← hD2]; exact hashW_length ..
  have hD2t : D2.take 8 = [105#8, 33#8, 122#8, 48#8, 121#8, 144#8, 128#8, 148#8] := by rw [← hD2]; exact hash_none
  have h16b : ∀ W, Below w.heap.size w W → Calls Tryd.prog 19 #[.slice none 0 0] W fun e w' => e = .returned (.agg (bvs D2)) ∧ Below W.heap.size W w' := fun W hb => by
    rw [← hD2]
    exact Sum_any none 0 0 [] W (fun g _ => ps_nil W g) (Nat.le_refl _) (ht.keep hb) (by decide)
  have HA := Lib.hid h16
  have HBb := Lib.hid h16b
  have H1l := Lib.hid hD1l
  have H1t := Lib.hid hD1t
  have H2l := Lib.hid hD2l
  have H2t := Lib.hid hD2t
  clear h16 h16b hj hD1 hD1l hD1t hD2 hD2l hD2t hpsW
  go_upto_region 2 with (first
    | (go_at_call 19; (with_reducible refine HA.out.mono ?_); rintro e w2 ⟨rfl, hb2⟩; have hb02 := hb0.trans (hb2.mono hb0.size))
    | (go_at_call 19; (with_reducible refine (HBb.out _ hb02).mono ?_); rintro e w3 ⟨rfl, hb3⟩; have hb03 := hb02.trans (hb3.mono hb02.size))
    | (refine wpList_store_row rfl 0x21 _ _ rfl w3.heap.size (bvs D1) rfl rfl 0x21 _ ((Below.heap_alloc _ _ _ (by simp)).trans (World.alloc_heap_new w3 _)) (i36 D1 H1l.out) (by rw [bvs_size, H1l.out]; rfl) (bvs_one D1) ?_)
    | (refine wpList_store_row rfl 0x21 _ _ rfl (w3.heap.size + 1) (bvs D2) rfl rfl 0x21 _ ((setRow_other _ _ _ _ (by omega)).trans (by have := World.alloc_heap_new (w3.alloc (.cells #[.int .u8 0, .int .u8 0, .int .u8 0, .int .u8 0, .int .u8 0, .int .u8 0, .int .u8 0, .int .u8 0, .int .u8 0, .int .u8 0, .int .u8 0, .int .u8 0, .int .u8 0, .int .u8 0, .int .u8 0, .int .u8 0, .int .u8 0, .int .u8 0, .int .u8 0, .int .u8 0, .int .u8 0, .int .u8 0, .int .u8 0, .int .u8 0, .int .u8 0, .int .u8 0, .int .u8 0, .int .u8 0, .int .u8 0, .int .u8 0, .int .u8 0, .int .u8 0] 0x21)) (.cells #[.int .u8 0, .int .u8 0, .int .u8 0, .int .u8 0, .int .u8 0, .int .u8 0, .int .u8 0, .int .u8 0, .int .u8 0, .int .u8 0, .int .u8 0, .int .u8 0, .int .u8 0, .int .u8 0, .int .u8 0, .int .u8 0, .int .u8 0, .int .u8 0, .int .u8 0, .int .u8 0, .int .u8 0, .int .u8 0, .int .u8 0, .int .u8 0, .int .u8 0, .int .u8 0, .int .u8 0, .int .u8 0, .int .u8 0, .int .u8 0, .int .u8 0, .int .u8 0] 0x21); rwa [World.size_alloc] at this)) (i36 D2 H2l.out) (by rw [bvs_size, H2l.out]; rfl) (bvs_one D2) ?_))
  rw [zu32_eq]
  obtain ⟨b1, hb1⟩ : ∃ b1, w3.heap.size = b1 := ⟨_, rfl⟩
  obtain ⟨W5, hW5⟩ : ∃ W5, (((w3.alloc (.cells (bvs (List.replicate 32 0#8)) 0x21)).alloc (.cells (bvs (List.replicate 32 0#8)) 0x21)).setRow w3.heap.size (bvs D1)).setRow (w3.heap.size + 1) (bvs D2) = W5 := ⟨_, rfl⟩
  have hbk1 : Blk W5 b1 0x21 (bvs D1) := by
    rw [← hW5, ← hb1]
    exact (setRow_other _ _ _ _ (by omega)).trans (setRow_heap _ _ _ _ _ _ ((Blk.new w3 0x21 _).alloc _))
  have hbk2 : Blk W5 (b1 + 1) 0x21 (bvs D2) := by
    rw [← hW5, ← hb1]
    exact setRow_heap _ _ (bvs (List.replicate 32 0#8)) _ _ _ ((setRow_other _ _ _ _ (by omega)).trans (Blk.newAt (X := w3.alloc (.cells (bvs (List.replicate 32 0#8)) 0x21)) (by simp) 0x21 _))
  have hb5 : Below w.heap.size w W5 := by
    rw [← hW5]
    have h1 := hb03.size
    exact below_setRow (below_setRow ((hb03.alloc h1 _).alloc (by simp; omega) _) h1 _) (by omega) _
  rw [hW5, hb1]
  have HK1 := Lib.hid hbk1
  have HK2 := Lib.hid hbk2
  clear hW5 hb1 hbk1 hbk2 HA HBb hb02 hb03 kc kd hb0 hW0
  obtain ⟨i0, hi, hz0, hz1, hz2⟩ := info_parts info5
  go_upto_region 4 with (first
    | (at_make; refine wpList_make_full _ rfl _ _ 0x1e rfl w.heap.size 5 i0 _ 1 Tryd.underlying30 hi hz0 hz1 _ _ _ _ 33 rfl rfl rfl rfl (by rw [hz2]; decide) (by unfold maxLen; decide) (by have := hb5.size; omega) ?_; intro w6 hown6 hg6; have hb6 : Below W5.heap.size W5 w6 := (Below.refl _ _).grown hg6 (Nat.le_refl _) (fun k e => by cases e))
    | (go_at_call 21; (with_reducible refine (Keyed_no 33 0 0 0 0 none none _ (by decide) (.inr (.inl (by decide)))).mono ?_); rintro e w' ⟨rfl, rfl⟩)
    | (go_at_call 21; (with_reducible refine (Keyed_no 32 33 33 0 0 _ none _ (by decide) (.inr (.inr (by decide)))).mono ?_); rintro e w' ⟨rfl, rfl⟩))
  have hk1 := HK1.out.keep hb6
  have hk2 := HK2.out.keep hb6
  have hs1 := run_str (P := Tryd.prog) w6 0x1e 5 Tryd.underlying30 Tryd.underlying5 (D1.take 8) 8 32 w6.heap.size (some ⟨b1, 0, none⟩) (by rw [List.length_take, H1l.out]; rfl) ((hk1.rd hk1.lt).take 8) 9 Tryd.underlying9
  have hs2 := run_str (P := Tryd.prog) w6 0x1e 5 Tryd.underlying30 Tryd.underlying5 (D2.take 8) 8 32 w6.heap.size (some ⟨b1 + 1, 0, none⟩) (by rw [List.length_take, H2l.out]; rfl) ((hk2.rd hk2.lt).take 8) 9 Tryd.underlying9
  rw [H1t.out] at hs1
  rw [H2t.out] at hs2
  have hsl1 := slice32_h b1 8 8 rfl (by decide)
  have hsl2 := slice32_h (b1 + 1) 8 8 rfl (by decide)
  have hc1 := str_abc
  have hc2 := str_none
  have hbf := hb5.trans (hb6.mono hb5.size)
  clear hk1 hk2 hb5 hb6 hi hz0 hz1 hz2 hown6 hg6
  go_wp2_with (go_at_call 23; (with_reducible refine (num_any _ _).mono ?_); rintro e w' ⟨rfl, rfl⟩)
  go_ret
  exact ⟨rfl, hbf⟩
end Go.Proofs
