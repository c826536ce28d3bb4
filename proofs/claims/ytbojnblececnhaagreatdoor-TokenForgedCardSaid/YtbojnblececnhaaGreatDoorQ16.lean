/-
  The contracts of hmac's Tag, Short and Check, and of a tag's own Write and Tag.
  The contract of told where the parts are texts; texts as bytes.
  The contracts of a tag's own Write, Tag and Copy, where there is one.
  The keys of a label, and the contract of the reference's Derive.
  The iterator over keys: how it is made, and the making of one key.
-/
import Derived.ChangeKeysEq
import Derived.Test.YtbojnblececnhaaGreatDoorQ15
import Derived.Laws.IdiomStrings
import Derived.Deep.RegionHeldLaw
import Derived.Shelf.Abstract
import Derived.WalkKit
import Derived.OwnWalkIn
import Derived.TacticsInMore
import Derived.LoopNIn
import Derived.LoopIn
import Derived.Outline
import Derived.Deep.WholeRow
import Derived.Deep.CutRange
namespace Go.Proofs
open Go.RowKit Sm
/-- the state behind the inner half -/
def Sm.inS (key : List (BitVec 8)) : HS := takeS (startS 32 []) (xorB 54#8 (blockB key))
def Sm.outH (key : List (BitVec 8)) : List (BitVec 8) := xorB 92#8 (blockB key)
theorem Sm.tag_eq (key b : List (BitVec 8)) : hashW 32 [] (outH key ++ sumS (takeS (inS key) b)) = tagS key b := by
  unfold inS outH tagS hmHalf
  rw [takeS_takeS]
  have h : sumS (takeS (startS 32 []) (xorB 54#8 (blockB key) ++ b)) = hashW 32 [] (xorB 54#8 (blockB key) ++ b) := by unfold sumS hashW; rfl
  rw [h]
theorem Sm.inS_count (key : List (BitVec 8)) : (inS key).p + (inS key).cur.length = 64 := by
  have h := takeS_count (startS 32 []) (xorB 54#8 (blockB key))
  have h1 : (startS 32 []).p = 0 := rfl
  have h2 : (startS 32 []).cur.length = 0 := rfl
  rw [h1, h2, xorB_length, blockB_length] at h
  exact h
set_option maxRecDepth 100000 in
set_option maxHeartbeats 2000000 in
theorem Sm.Tag_any (n c n2 c2 : Nat) (A A2 : Option Addr) (key : List (BitVec 8)) (ps : List Pt) (w : World) (ht : Tabs w) (hk : key.length = n) (hn : n ≤ 1000) (hnc : n ≤ c) (hcm : c ≤ 9223372036854775807) (hr : Rd w w.heap.size A key) (hps : ∀ g, w.heap.size ≤ g → PsOK w g A2 n2 ps) (hp : (joinP ps).length ≤ 90000) :
    Calls Tryz.prog 78 #[.slice A n c, .slice A2 n2 c2] w fun e w' => e = .returned (.agg (bvs (tagS key (joinP ps)))) ∧ Below w.heap.size w w' := by
  obtain ⟨W1, hW1⟩ : ∃ W1, w.alloc (.cells (bvs (List.replicate 32 0#8)) 0x7e) = W1 := ⟨_, rfl⟩
  have hb1 : Below w.heap.size w W1 := by rw [← hW1]; exact (Below.refl _ w).alloc (Nat.le_refl _) _
  have h1 : Blk W1 w.heap.size 0x7e (bvs (List.replicate 32 0#8)) := by rw [← hW1]; exact Blk.new w 0x7e _
  have hnew := macNew_any n c A key W1 (ht.keep hb1) hk hn hnc hcm ((hr.below hb1).more hb1.size)
  have htd : ∀ (v : World) (gm g : Nat), Below w.heap.size w v → w.heap.size ≤ g → MacAt v gm g (outH key) (inS key) → Calls Tryz.prog 88 #[.pointer (some ⟨gm, 0, none⟩), .slice A2 n2 c2] v fun e w' => e = .returned (.agg (bvs (tagS key (joinP ps)))) ∧ But (fun b => b = g) v w' := by
    intro v gm g hb hg hm
    have := told_any gm g (outH key) (inS key) A2 n2 c2 ps v hm (by have := ht.size; omega) (ht.keep hb) ((hps g hg).keep hb) (by rw [inS_count]; omega)
    rw [tag_eq] at this
    exact this.mono fun _ _ ⟨a, _, b⟩ => ⟨a, b⟩
  have hTl := tagS_length key (joinP ps)
  obtain ⟨T, hT⟩ : ∃ T, tagS key (joinP ps) = T := ⟨_, rfl⟩
  rw [hT] at hTl ⊢
  simp only [hT] at htd
  have hnew2 : Calls Tryz.prog 89 #[.slice A n c] W1 fun e w' => ∃ gm g, e = .returned (.pointer (some ⟨gm, 0, none⟩)) ∧ W1.heap.size ≤ gm ∧ W1.heap.size ≤ g ∧ MacAt w' gm g (outH key) (inS key) ∧ Below W1.heap.size W1 w' := hnew
  have HW := Lib.hid hW1
  have H1 := Lib.hid (And.intro h1 hb1)
  have HNEW := Lib.hid hnew2
  have HTD := Lib.hid htd
  have HTL := Lib.hid hTl
  clear hW1 hb1 h1 hnew hnew2 htd hTl hT ht hk hn hnc hcm hr hps hp
  go_enter Tryz.func78, Tryz.ntmps78
  go_upto_region 1 with fail
  rw [zu32_eq, HW.out]
  go_wp2_with (first
    | (go_at_call 89; (with_reducible refine HNEW.out.mono ?_); rintro e w2 ⟨gm, g, rfl, _, hg2, hm2, hb2⟩; have hb02 := H1.out.2.trans (hb2.mono H1.out.2.size))
    | (go_at_call 88; (with_reducible refine (HTD.out w2 gm g hb02 (by have := H1.out.2.size; omega) hm2).mono ?_); rintro e w3 ⟨rfl, hbt3⟩; have h3 : Blk w3 w.heap.size 0x7e (bvs (List.replicate 32 0#8)) := (H1.out.1.keep hb2).but hbt3 (by have := H1.out.1.lt; omega))
    | (refine wpList_store_row rfl 0x7e _ _ rfl w.heap.size (bvs T) rfl rfl 0x7e (bvs (List.replicate 32 0#8)) h3 (i36 T HTL.out) (by rw [bvs_size, bvs_size, HTL.out]; rfl) (bvs_one T) ?_))
  refine bodyPost_ret (results_cell_row rfl _ _ w.heap.size 0x7e (bvs T) (0, 0) _ rfl (setRow_heap _ _ _ _ _ _ h3) Tryz.underlying126 rfl (i36 T HTL.out)) rfl ⟨rfl, ?_⟩
  have h5 : Below w.heap.size w w3 := hb02.trans (hbt3.to_below hb02.size (fun b e => by have := H1.out.2.size; omega))
  exact below_setRow h5 (Nat.le_refl _) _
theorem Sm.slice33_hm (b m : Nat) (hm : m ≤ 32) (w : World) : (Instr.sliceAt 0x7e (.pointer (some ⟨b, 0, none⟩)) none (some (.int .i64 (m : Int))) (some (.int .i64 (m : Int)))).run Tryz.prog w = .ok (.slice (some ⟨b, 0, none⟩) m m) w := by
  have hu : Tryz.prog.underlying 0x7e = some (.array (Tryz.prog.arrayLen 0x7e) (Tryz.prog.elem 0x7e)) := by kernel_rfl
  have ha : Tryz.prog.arrayLen 0x7e = 32 := by kernel_rfl
  have he : Tryz.prog.elem 0x7e = 5 := by kernel_rfl
  have hs : ∀ w, (sizeOf 5).run Tryz.prog w = .ok 1 w := fun _ => by kernel_rfl
  rw [run_sliceAt_array_hm w 0x7e ⟨b, 0, none⟩ hu .i64 .i64 _ _ (by omega) (by omega) (by rw [ha]; omega), he, hs]
  simp only [Result.andThen_ok, slicedAt, Int.toNat_natCast, Nat.zero_mul, Nat.sub_zero]
  split
  · rfl
  · rw [Addr.add_mid, Nat.add_zero]
set_option maxRecDepth 100000 in
theorem Sm.Short_no (m : Int) (n c n2 c2 : Nat) (A A2 : Option Addr) (w : World) (h : m < 8 ∨ 32 < m) : Calls Tryz.prog 56 #[.slice A n c, .int .i64 m, .slice A2 n2 c2] w fun e w' => e = .returned (.tuple #[.slice none 0 0, .int .i64 2]) ∧ w = w' := by
  by_cases h1 : m < 8
  · go_enter Tryz.func56, Tryz.ntmps56
    go_wp2
    go_ret2
    exact ⟨rfl, rfl⟩
  · have h2 : 32 < m := by omega
    go_enter Tryz.func56, Tryz.ntmps56
    go_wp2
    go_ret2
    exact ⟨rfl, rfl⟩
set_option maxRecDepth 100000 in
set_option maxHeartbeats 2000000 in
theorem Sm.Short_yes (m n c n2 c2 : Nat) (A A2 : Option Addr) (key : List (BitVec 8)) (ps : List Pt) (w : World) (h8 : 8 ≤ m) (h32 : m ≤ 32) (ht : Tabs w) (hk : key.length = n) (hn : n ≤ 1000) (hnc : n ≤ c) (hcm : c ≤ 9223372036854775807) (hr : Rd w w.heap.size A key) (hps : ∀ g, w.heap.size ≤ g → PsOK w g A2 n2 ps) (hp : (joinP ps).length ≤ 90000) :
    Calls Tryz.prog 56 #[.slice A n c, .int .i64 (m : Int), .slice A2 n2 c2] w fun e w' => ∃ b, e = .returned (.tuple #[.slice (some ⟨b, 0, none⟩) m m, .int .i64 0]) ∧ Rd w' w'.heap.size (some ⟨b, 0, none⟩) ((tagS key (joinP ps)).take m) ∧ Below w.heap.size w w' := by
  have htg := Tag_any n c n2 c2 A A2 key ps w ht hk hn hnc hcm hr hps hp
  have hTl := tagS_length key (joinP ps)
  obtain ⟨T, hT⟩ : ∃ T, tagS key (joinP ps) = T := ⟨_, rfl⟩
  rw [hT] at hTl htg ⊢
  have h1 : ¬ ((m : Int) < 8) := by omega
  have h2 : ¬ ((32 : Int) < (m : Int)) := by omega
  have hslf := fun b => slice33_hm b m h32
  have HTG := Lib.hid htg
  have HTL := Lib.hid hTl
  have HSL := Lib.hid hslf
  clear htg hTl hT hslf h8 h32 ht hk hn hnc hcm hr hps hp
  go_enter Tryz.func56, Tryz.ntmps56
  go_upto_region 4 with (first
    | (go_at_call 78; (with_reducible refine HTG.out.mono ?_); rintro e w1 ⟨rfl, hb1⟩)
    | (refine wpList_store_row rfl 0x7e _ _ rfl w1.heap.size (bvs T) rfl rfl 0x7e (bvs (List.replicate 32 0#8)) (World.alloc_heap_new w1 _) (i36 T HTL.out) (by rw [bvs_size, bvs_size, HTL.out]; rfl) (bvs_one T) ?_))
  rw [zu32_eq]
  obtain ⟨W2, hW2⟩ : ∃ W2, (w1.alloc (.cells (bvs (List.replicate 32 0#8)) 0x7e)).setRow w1.heap.size (bvs T) = W2 := ⟨_, rfl⟩
  obtain ⟨b, hb⟩ : ∃ b, w1.heap.size = b := ⟨_, rfl⟩
  have hB2 : Blk W2 b 0x7e (bvs T) := by rw [← hW2, ← hb]; exact setRow_heap _ _ _ _ _ _ (World.alloc_heap_new w1 _)
  have hb2 : Below w.heap.size w W2 := by rw [← hW2]; exact below_setRow (hb1.alloc hb1.size _) hb1.size _
  rw [hW2, hb]
  have hsl := HSL.out b
  have H2 := Lib.hid (And.intro hB2 hb2)
  clear hW2 hb hB2 hb2 hb1 HSL HTG
  go_wp2_with fail
  go_ret2
  exact ⟨b, rfl, (H2.out.1.rd H2.out.1.lt).take m, H2.out.2⟩
theorem Sm.plain5 : Tryz.prog.plainKey 5 = true := by kernel_rfl
theorem Sm.ib_beq (x y : BitVec 8) : (ib x == ib y) = (x == y) := by
  rw [Bool.eq_iff_iff]
  simp only [beq_iff_eq]
  constructor
  · intro h; unfold ib at h; exact BitVec.eq_of_toNat_eq (by omega)
  · rintro rfl; rfl
/-- arrays of bytes, item by item -/
theorem Sm.items_oct (w : World) (d : Nat) (l m : List (BitVec 8)) : ∀ is : List Nat, (∀ i ∈ is, i < l.length ∧ i < m.length) → (Op.eqItems (d + 1) 5 1 (bvs l) (bvs m) is).run Tryz.prog w = .ok (is.all fun i => l.getD i 0 == m.getD i 0) w
  | [], _ => by simp [Op.eqItems]
  | i :: is, h => by
    obtain ⟨hi, hj⟩ := h i (by simp)
    have hx : (bvs l)[i * 1]? = some (.int .u8 (ib (l.getD i 0))) := by simp [bvs, byteCell, hi, List.getD_eq_getElem?_getD]
    have hy : (bvs m)[i * 1]? = some (.int .u8 (ib (m.getD i 0))) := by simp [bvs, byteCell, hj, List.getD_eq_getElem?_getD]
    have hp := run_part_plain (P := Tryz.prog) w plain5 hx
    have hq := run_part_plain (P := Tryz.prog) w plain5 hy
    have he := run_equalIn_int (P := Tryz.prog) w d 5 .u8 .u8 (ib (l.getD i 0)) (ib (m.getD i 0)) Tryz.underlying5
    rw [ib_beq] at he
    have hr := items_oct w d l m is (fun j hj => h j (by simp [hj]))
    simp only [Op.eqItems, Sem.run_bind, hp, hq, he, Result.andThen_ok, List.all_cons]
    cases l.getD i 0 == m.getD i 0
    · simp
    · simp only [Bool.not_true, Bool.false_eq_true, if_false, Bool.true_and]
      exact hr
set_option maxRecDepth 100000 in
theorem Sm.blocks_eq (w : World) {t n : Nat} (l m : List (BitVec 8)) (hu : Tryz.prog.underlying t = some (.array n 5)) (hl : l.length = n) (hm : m.length = n) : (Op.equalIn 10000 t (.agg (bvs l)) (.agg (bvs m))).run Tryz.prog w = .ok (decide (l = m)) w := by
  obtain ⟨i, hi, _⟩ := info_parts info5
  have hc : Tryz.prog.cellsOf 5 = 1 := by kernel_rfl
  rw [run_equalIn_array w 9999 (bvs l) (bvs m) hu hi, hc, items_oct w 9998 l m _ (fun j hj => by rw [hl, hm]; simpa using hj)]
  congr 1
  rw [Bool.eq_iff_iff]
  simp only [List.all_eq_true, List.mem_range, beq_iff_eq, decide_eq_true_eq]
  constructor
  · intro h
    apply List.ext_getElem (by omega)
    intro k h1 h2
    have := h k (by omega)
    simpa [List.getD_eq_getElem?_getD, h1, h2] using this
  · rintro rfl _ _; rfl
theorem Sm.pad_inj {l m : List (BitVec 8)} (h : l.length = m.length) : pad l = pad m ↔ l = m := by
  constructor
  · intro e
    unfold pad at e
    exact (List.append_inj e h).1
  · rintro rfl; rfl
set_option maxRecDepth 100000 in
theorem Sm.Check_no (n c nt ct n2 c2 : Nat) (A At A2 : Option Addr) (w : World) (h : nt < 8 ∨ 32 < nt) : Calls Tryz.prog 63 #[.slice A n c, .slice At nt ct, .slice A2 n2 c2] w fun e w' => e = .returned (.tuple #[.bool false, .int .i64 2]) ∧ w = w' := by
  have hs := Short_no (nt : Int) n c n2 c2 A A2 w (by omega)
  have HS := Lib.hid hs
  clear hs h
  go_enter Tryz.func63, Tryz.ntmps63
  go_wp2_with (go_at_call 56; (with_reducible refine HS.out.mono ?_); rintro e w' ⟨rfl, rfl⟩)
  go_ret2
  exact ⟨rfl, rfl⟩
set_option maxRecDepth 100000 in
set_option maxHeartbeats 2000000 in
theorem Sm.Check_yes (n c nt ct n2 c2 : Nat) (A At A2 : Option Addr) (key tag : List (BitVec 8)) (ps : List Pt) (w : World) (h8 : 8 ≤ nt) (h32 : nt ≤ 32) (hlt : tag.length = nt) (hrt : Rd w w.heap.size At tag) (ht : Tabs w) (hk : key.length = n) (hn : n ≤ 1000) (hnc : n ≤ c) (hcm : c ≤ 9223372036854775807) (hr : Rd w w.heap.size A key) (hps : ∀ g, w.heap.size ≤ g → PsOK w g A2 n2 ps) (hp : (joinP ps).length ≤ 90000) :
    Calls Tryz.prog 63 #[.slice A n c, .slice At nt ct, .slice A2 n2 c2] w fun e w' => e = .returned (.tuple #[.bool (decide ((tagS key (joinP ps)).take nt = tag)), .int .i64 0]) ∧ Below w.heap.size w w' := by
  have hs := Short_yes nt n c n2 c2 A A2 key ps w h8 h32 ht hk hn hnc hcm hr hps hp
  have hRl : ((tagS key (joinP ps)).take nt).length = nt := by rw [List.length_take, tagS_length]; omega
  obtain ⟨R, hR⟩ : ∃ R, (tagS key (joinP ps)).take nt = R := ⟨_, rfl⟩
  rw [hR] at hs hRl ⊢
  have hf1 : ∀ v b, Rd v v.heap.size (some ⟨b, 0, none⟩) R → Calls Tryz.prog 84 #[.slice (some ⟨b, 0, none⟩) nt nt] v fun e w' => e = .returned (.agg (bvs (pad R))) ∧ Below v.heap.size v w' := fun v b h => filled_any nt nt _ R v hRl (by omega) h
  have hf2 : ∀ v, Below w.heap.size w v → Calls Tryz.prog 84 #[.slice At nt ct] v fun e w' => e = .returned (.agg (bvs (pad tag))) ∧ Below v.heap.size v w' := fun v h => filled_any nt ct At tag v hlt (by omega) ((hrt.below h).more h.size)
  have heq := fun w => blocks_eq w (t := 0x85) (n := 64) (pad R) (pad tag) Tryz.underlying133 (pad_length R (by omega)) (pad_length tag (by omega))
  have hdec : decide (pad R = pad tag) = decide (R = tag) := by
    have := pad_inj (l := R) (m := tag) (by omega)
    exact decide_eq_decide.2 this
  simp only [hdec] at heq
  have HS := Lib.hid hs
  have HF1 := Lib.hid hf1
  have HF2 := Lib.hid hf2
  clear hs hR hRl hf1 hf2 hdec h8 h32 hlt hrt ht hk hn hnc hcm hr hps hp
  go_enter Tryz.func63, Tryz.ntmps63
  go_wp2_with (first
    | (go_at_call 56; (with_reducible refine HS.out.mono ?_); rintro e w1 ⟨b, rfl, hr1, hb1⟩)
    | (go_at_call 84; (with_reducible refine (HF1.out _ b hr1).mono ?_); rintro e w2 ⟨rfl, hb2⟩; have hb02 := hb1.trans (hb2.mono hb1.size))
    | (go_at_call 84; (with_reducible refine (HF2.out _ hb02).mono ?_); rintro e w3 ⟨rfl, hb3⟩))
  go_ret2
  exact ⟨rfl, hb02.trans (hb3.mono hb02.size)⟩
end Go.Proofs
namespace Go.Proofs
open Go.RowKit Sm
/-- a text's bytes -/
def Sm.sB (s : ByteArray) : List (BitVec 8) := s.data.toList.map UInt8.toBitVec
theorem Sm.sB_length (s : ByteArray) : (sB s).length = s.size := by unfold sB; rw [List.length_map, Array.length_toList]; rfl
theorem Sm.sB_strB (l : List (BitVec 8)) : sB (strB l) = l := by
  have h : (strB l).data.toList = (l.map ib).map (fun n => UInt8.ofNat n.toNat) := by rw [← strOfNums_data]; rfl
  unfold sB
  rw [h, List.map_map, List.map_map]
  conv => rhs; rw [← List.map_id l]
  refine List.map_congr_left fun x _ => ?_
  simp [ib]
def Sm.joinS (ss : List ByteArray) : List (BitVec 8) := ss.flatMap sB
theorem Sm.joinS_snoc (ss : List ByteArray) (k : Nat) (hk : k < ss.length) : joinS (ss.take (k + 1)) = joinS (ss.take k) ++ sB ss[k] := by
  unfold joinS
  rw [List.take_succ_eq_append_getElem hk, List.flatMap_append]
  simp
structure Sm.SsOK (w : World) (g : Nat) (A : Option Addr) (n : Nat) (ss : List ByteArray) : Prop where
  len : ss.length = n
  most : n ≤ 1000000
  rd : Rds w (fun b => b = g) A (ss.map Value.string)
theorem Sm.SsOK.but {w w' : World} {g : Nat} {A : Option Addr} {n : Nat} {ss : List ByteArray} (h : SsOK w g A n ss) {S : Nat → Prop} (hb : But S w w') (hS : ∀ b, b < w.heap.size → S b → b = g) : SsOK w' g A n ss := ⟨h.len, h.most, h.rd.but (hb.mono hS) (fun _ e => e)⟩
theorem Sm.SsOK.keep {w w' : World} {g : Nat} {A : Option Addr} {n : Nat} {ss : List ByteArray} (h : SsOK w g A n ss) (hb : Below w.heap.size w w') : SsOK w' g A n ss := h.but (But.of_all hb (fun _ => False)) (fun _ _ e => e.elim)
/-- a text made into bytes -/
theorem Sm.str_conv (x : ByteArray) (w : World) (hx : x.size ≤ 1000000) : ∃ W2 cx, (convert 9 0x38 (.string x)).run Tryz.prog w = .ok (.slice (some ⟨w.heap.size, 0, none⟩) x.size cx) W2 ∧ Below w.heap.size w W2 ∧ ∀ g, g < w.heap.size → PtOK W2 g (some ⟨w.heap.size, 0, none⟩) x.size cx (sB x) := by
  refine ⟨_, _, run_bytes_of_string (P := Tryz.prog) w 9 0x38 5 x Tryz.underlying9 Tryz.underlying56 Tryz.underlying5, ((Below.refl _ w).drew).alloc (Nat.le_refl _) _, fun g hg => ?_⟩
  have hge := grownCap_ge w x.size 0 5
  have hle := grownCap_le_maxLen w x.size 0 5 (by unfold maxLen; omega)
  refine ⟨sB_length x, hge, by unfold maxLen at hle; omega, fun _ => ⟨w.heap.size, 0, rfl, by simp, by show w.heap.size ≠ g; omega, fun j v hj => ?_⟩⟩
  have hj2 : j < x.data.size := by
    have := (List.getElem?_eq_some_iff.1 hj).1
    rw [List.length_map, sB_length] at this
    exact this
  have e : (w.drew).heap.size = w.heap.size := rfl
  rw [Nat.zero_add, ← e, World.cell?_alloc_mark]
  show (bytesRow x _)[j]? = _
  rw [bytesRow_at x _ j hj2]
  unfold sB at hj
  simp only [List.map_map, List.getElem?_map, Array.getElem?_toList, Array.getElem?_eq_getElem hj2, Option.map_some, Option.some.injEq] at hj
  rw [← hj]
  rfl
set_option maxRecDepth 100000 in
set_option maxHeartbeats 4000000 in
theorem Sm.toldS_any (gm g : Nat) (O : List (BitVec 8)) (s : HS) (A : Option Addr) (n c : Nat) (ps : List ByteArray) (w : World) (h : MacAt w gm g O s) (hg : 4 ≤ g) (ht : Tabs w) (hps : SsOK w g A n ps) (hp : s.p + s.cur.length + (joinS ps).length ≤ 100000) :
    Calls Tryz.prog 102 #[.pointer (some ⟨gm, 0, none⟩), .slice A n c] w fun e w' => e = .returned (.agg (bvs (hashW 32 [] (O ++ sumS (takeS s (joinS ps)))))) ∧ MacAt w' gm g O (takeS s (joinS ps)) ∧ But (fun b => b = g) w w' := by
  obtain ⟨W1, hW1⟩ : ∃ W1, w.alloc (.cells (bvs (List.replicate 32 0#8)) 0x7e) = W1 := ⟨_, rfl⟩
  have hb1 : Below w.heap.size w W1 := by rw [← hW1]; exact (Below.refl _ w).alloc (Nat.le_refl _) _
  have ht1 : TdAt w W1 gm g O (takeS s (joinS (ps.take 0))) := by
    have e : joinS (ps.take 0) = [] := rfl
    rw [e, takeS_nil s h.cur]
    exact ⟨by rw [← hW1]; exact Blk.new w 0x7e _, h.keep hb1, ht.keep hb1, But.of_all hb1 _, h.lt⟩
  have hps1 := hps.keep hb1
  have hnm := hps.most
  have hcn := takeS_count s (joinS ps)
  obtain ⟨f, hf⟩ : ∃ f, takeS s (joinS ps) = f := ⟨_, rfl⟩
  rw [hf] at hcn ⊢
  have hfp : f.p ≤ 1000000000 := by omega
  have hen : ∀ v, TdAt w v gm g O f → Calls Tryz.prog 97 #[.agg #[.pointer (some ⟨g, 0, none⟩)]] v fun e w' => ∃ A c, e = .returned (.slice A 32 c) ∧ 32 ≤ c ∧ c ≤ 9223372036854775807 ∧ Rd w' w'.heap.size A (sumS f) ∧ Below v.heap.size v w' := fun v hv => inEnd_any g f v hv.m0.h hv.m0.cur hv.t hfp
  have hdl : (sumS f).length = 32 := sumS_length f
  obtain ⟨DI, hDI⟩ : ∃ DI, sumS f = DI := ⟨_, rfl⟩
  rw [hDI] at hdl ⊢
  simp only [hDI] at hen
  have hol := h.len
  have hDl : (hashW 32 [] (O ++ DI)).length = 32 := hashW_length _ _ _
  have hsm : ∀ (A : Option Addr) (ps2 : List Pt) (v : World), joinP ps2 = O ++ DI → (∀ g', v.heap.size ≤ g' → PsOK v g' A 2 ps2) → Tabs v → Calls Tryz.prog 96 #[.slice A 2 2] v fun e w' => e = .returned (.agg (bvs (hashW 32 [] (O ++ DI)))) ∧ Below v.heap.size v w' := fun A ps2 v hj hps2 ht2 => by
    have := Sum_any A 2 2 ps2 v hps2 (Nat.le_refl _) ht2 (by rw [hj, List.length_append, hol, hdl]; decide)
    rw [hj] at this
    exact this
  obtain ⟨D, hD⟩ : ∃ D, hashW 32 [] (O ++ DI) = D := ⟨_, rfl⟩
  rw [hD] at hDl ⊢
  simp only [hD] at hsm
  have HEN := Lib.hid hen
  have HSM := Lib.hid hsm
  have HDL := Lib.hid (And.intro hdl hol)
  have HD32 := Lib.hid hDl
  have HFS := Lib.hid hf
  have HW := Lib.hid hW1
  have H1 := Lib.hid (And.intro ht1 hps1)
  have HP := Lib.hid hps
  have HG := Lib.hid (And.intro hg hp)
  clear hW1 hb1 ht1 hps1 hps hg hp ht h hcn hf hfp hen hdl hDI hol hDl hsm hD
  go_enter Tryz.func102, Tryz.ntmps102
  go_upto_region 1 with fail
  rw [zu32_eq, HW.out]
  go_wp2_with fail
  go_loopw [9] (fun s9 wr => ∃ k : Nat, k ≤ n ∧ s9 = .int .i64 (k : Int) ∧ Hid (TdAt w wr gm g O (takeS s (joinS (ps.take k))) ∧ SsOK wr g A n ps)) (fun s9 _ => n - (intOf s9).toNat)
  case atStart => exact ⟨0, Nat.zero_le _, rfl, H1⟩
  case round =>
    obtain ⟨wo, rfl⟩ : ∃ wo : World, wo = wr := ⟨_, rfl⟩
    obtain ⟨k, hk, rfl, HQ⟩ := hrel
    clear H1
    by_cases hlt : k < n
    · have hkl : k < ps.length := by rw [HP.out.len]; exact hlt
      obtain ⟨bo, off, rfl, _, _, hcell⟩ := HQ.out.2.rd (by rw [List.length_map]; omega)
      have hc0 := hcell k (.string ps[k]) (by rw [List.getElem?_map, List.getElem?_eq_getElem hkl]; rfl)
      have hsn := joinS_snoc ps k hkl
      have hpt := HQ.out.1.m0.ptr
      have hcnt := takeS_count s (joinS (ps.take k))
      have hll : (joinS (ps.take (k + 1))).length ≤ (joinS ps).length := by
        have e : joinS ps = joinS (ps.take (k + 1)) ++ joinS (ps.drop (k + 1)) := by
          unfold joinS
          rw [← List.flatMap_append, List.take_append_drop]
        rw [e, List.length_append]; omega
      obtain ⟨x, hpe⟩ : ∃ x, ps[k] = x := ⟨_, rfl⟩
      rw [hpe] at hc0 hsn
      rw [hsn, List.length_append] at hll
      have hc : wo.cell? ⟨bo, off + k, none⟩ = some (.string x) := hc0
      obtain ⟨W2, cx, hcv, hb2, hpx⟩ := str_conv x wo (by have h1 := sB_length x; have h2 := HG.out.2; omega)
      have hpk := hpx g HQ.out.1.m0.lt.2
      have hT2 := HQ.out.1.keep hb2
      have htk := inTake_any g (takeS s (joinS (ps.take k))) (some ⟨wo.heap.size, 0, none⟩) x.size cx (sB x) W2 hT2.m0.h hT2.m0.cur hpk HG.out.1 hT2.t (by rw [List.length_append]; have := HG.out.2; omega)
      rw [takeS_takeS, ← hsn] at htk
      have HTK := Lib.hid htk
      have HSN := Lib.hid hsn
      have HT2 := Lib.hid (And.intro hT2 hb2)
      clear htk hsn hcell hpk hcnt hll hpe hc0 hpx hT2 hb2
      go_wp2_with (go_at_call 95; (with_reducible refine HTK.out.mono ?_); rintro e w2 ⟨⟨v2, rfl⟩, hh2, hbt2⟩)
      go_roundw
      case rel =>
        refine ⟨k + 1, by omega, by go_num, Lib.hid ⟨?_, (HQ.out.2.keep HT2.out.2).but hbt2 (fun _ _ e => e)⟩⟩
        have h3 := HT2.out.1.write (l := sB x) HG.out.1 hbt2 (by rw [takeS_takeS, ← HSN.out]; exact hh2)
        rw [takeS_takeS, ← HSN.out] at h3
        exact h3
      case measure => simp [intOf]; omega
    · obtain rfl : k = n := by omega
      have hall : ps.take k = ps := List.take_of_length_le (by rw [HP.out.len]; exact Nat.le_refl _)
      have hT := HQ.out.1
      rw [hall, HFS.out] at hT
      have HT := Lib.hid hT
      clear hall hT HQ HP HG HW
      go_upto_region 6 with fail
      have hS0 : wo.drew.cell? ⟨gm, 0, none⟩ = some (.pointer (some ⟨g, 0, none⟩)) := HT.out.m0.ptr
      have hsl := slice73_all gm 1
      refine wp_region_held_drew (S := fun wx => wx.cell? ⟨gm, 0, none⟩ = some (.pointer (some ⟨g, 0, none⟩))) rfl hS0 (fun hHeld => ?_)
      simp only [List.size_toArray, List.length_cons, List.length_nil, Nat.reduceAdd]
      have HT7 := Lib.hid (HT.out.drew)
      obtain ⟨W7, hW7⟩ : ∃ W, wo.drew = W := ⟨_, rfl⟩
      rw [hW7] at HT7 hS0 hHeld ⊢
      clear hW7
      refine wpAnyH_take (i := 0) (v := .pointer (some ⟨gm, 0, none⟩)) rfl (by kernel_rfl) (by kernel_rfl) (by kernel_rfl) (fun _ _ _ h => h) (Or.inl ⟨by rfl, ?_⟩) (by assumption) ?_
      · intro wx hs1
        go_simp
      try simp only [Act.put]
      refine wpAnyH_take (i := 1) (v := .pointer (some ⟨gm, 0, none⟩)) rfl (by kernel_rfl) (by kernel_rfl) (by kernel_rfl) (fun _ _ _ h => h) (Or.inl ⟨by rfl, ?_⟩) (by assumption) ?_
      · intro wx hs1
        go_simp
      try simp only [Act.put]
      refine wpAnyH_take (i := 2) (v := .pointer (some ⟨gm, 1, none⟩)) rfl (by kernel_rfl) (by kernel_rfl) (by kernel_rfl) (fun _ _ _ h => h) (Or.inl ⟨by rfl, ?_⟩) (by assumption) ?_
      · intro wx hs1
        go_simp
      try simp only [Act.put]
      refine wpAnyH_take (i := 3) (v := .slice (some ⟨gm, 1, none⟩) 64 64) rfl (by kernel_rfl) (by kernel_rfl) (by kernel_rfl) (fun _ _ _ h => h) (Or.inl ⟨by rfl, ?_⟩) (by assumption) ?_
      · intro wx hs1
        go_simp
      try simp only [Act.put]
      refine wpAnyH_take (i := 4) (v := .pointer (some ⟨gm, 0, none⟩)) rfl (by kernel_rfl) (by kernel_rfl) (by kernel_rfl) (fun _ _ _ h => h) (Or.inl ⟨by rfl, ?_⟩) (by assumption) ?_
      · intro wx hs1
        go_simp
      try simp only [Act.put]
      refine wpAnyH_take (i := 5) (v := .pointer (some ⟨gm, 0, none⟩)) rfl (by kernel_rfl) (by kernel_rfl) (by kernel_rfl) (fun _ _ _ h => h) (Or.inl ⟨by rfl, ?_⟩) (by assumption) ?_
      · intro wx hs1
        go_simp
      try simp only [Act.put]
      refine wpAnyH_take (i := 6) (v := .pointer (some ⟨gm, 0, none⟩)) rfl (by kernel_rfl) (by kernel_rfl) (by kernel_rfl) (fun _ _ _ h => h) (Or.inl ⟨by rfl, ?_⟩) (by assumption) ?_
      · intro wx hs1
        go_simp
      try simp only [Act.put]
      refine wpAnyH_take (i := 7) (v := .agg #[.pointer (some ⟨g, 0, none⟩)]) rfl (by kernel_rfl) (by kernel_rfl) (by kernel_rfl) (fun _ _ _ h => h) (Or.inl ⟨by rfl, ?_⟩) (by assumption) ?_
      · intro wx hs1
        go_simp
      try simp only [Act.put]
      refine wpAnyH_ready (rs := [8]) (by kernel_rfl) (by simp) (AllReadyH.cons rfl (fun K hK => ?_) AllReadyH.nil)
      go_simp
      go_at_call 97
      (with_reducible refine (HEN.out _ HT7.out).mono ?_)
      rintro e w8 ⟨A8, c8, rfl, hc8, hm8, hr8, hb8⟩
      have HT8 := Lib.hid (HT7.out.keep hb8)
      refine hK.out _ _ HT8.out.m0.ptr (fun hHeld => ?_)
      clear hK K
      try simp only [Act.put]
      refine wpAnyH_ready (rs := [9]) (by kernel_rfl) (by simp) (AllReadyH.cons rfl (fun K hK => ?_) AllReadyH.nil)
      go_simp
      have hrow : Blk (w8.alloc (.cells #[.slice (some ⟨gm, 1, none⟩) 64 64, .slice A8 32 c8] 0x38)) w8.heap.size 0x38 ([(⟨some ⟨gm, 1, none⟩, 64, 64, O⟩ : Pt), ⟨A8, 32, c8, DI⟩].map Pt.val).toArray := row_new w8 [⟨some ⟨gm, 1, none⟩, 64, 64, O⟩, ⟨A8, 32, c8, DI⟩]
      have hb9 : Below w8.heap.size w8 (w8.alloc (.cells #[.slice (some ⟨gm, 1, none⟩) 64 64, .slice A8 32 c8] 0x38)) := (Below.refl _ _).alloc (Nat.le_refl _) _
      have HT9 := Lib.hid (HT8.out.keep hb9)
      have hsum := HSM.out (some ⟨w8.heap.size, 0, none⟩) [⟨some ⟨gm, 1, none⟩, 64, 64, O⟩, ⟨A8, 32, c8, DI⟩] _ (by simp [joinP]) (fun g' hg' => parts_ok hrow hb9 rfl (by show 2 ≤ 1000000; decide) g' (by have := hrow.lt; omega) (fun p hp => by
        simp only [List.mem_cons, List.not_mem_nil, or_false] at hp
        rcases hp with rfl | rfl
        · exact pt_of_rd HDL.out.2 (Nat.le_refl _) (by decide) HT8.out.m0.rd g' (Nat.le_trans hb9.size hg')
        · exact pt_of_rd HDL.out.1 hc8 hm8 hr8 g' (Nat.le_trans hb9.size hg'))) HT9.out.t
      obtain ⟨W9, hW9⟩ : ∃ W, w8.alloc (.cells #[.slice (some ⟨gm, 1, none⟩) 64 64, .slice A8 32 c8] 0x38) = W := ⟨_, rfl⟩
      rw [hW9] at hsum HT9 ⊢
      have HSUM := Lib.hid hsum
      clear hW9 hrow hb9 hsum
      refine hK.out _ _ HT9.out.m0.ptr (fun hHeld => ?_)
      clear hK K
      try simp only [Act.put]
      refine wpAnyH_ready (rs := [10]) (by kernel_rfl) (by simp) (AllReadyH.cons rfl (fun K hK => ?_) AllReadyH.nil)
      go_simp
      go_at_call 96
      (with_reducible refine HSUM.out.mono ?_)
      rintro e w10 ⟨rfl, hb10⟩
      have HT10 := Lib.hid (HT9.out.keep hb10)
      refine hK.out _ _ HT10.out.m0.ptr (fun hHeld => ?_)
      clear hK K
      try simp only [Act.put]
      refine wpAnyH_ready (rs := [11]) (by kernel_rfl) (by simp) (AllReadyH.cons rfl (fun K hK => ?_) AllReadyH.nil)
      rw [if_pos (by rfl)]
      refine wp_store_row 0x7e _ _ rfl w.heap.size (bvs D) rfl rfl 0x7e (bvs (List.replicate 32 0#8)) HT10.out.r (i36 D HD32.out) (by rw [bvs_size, bvs_size, HD32.out]; rfl) (bvs_one D) ?_
      have HT11 := Lib.hid (HT10.out.set HD32.out)
      refine hK.out _ _ HT11.out.1.ptr (fun hHeld => ?_)
      clear hK K
      try simp only [Act.put]
      refine wpAnyH_done (by kernel_rfl) ?_ _
      go_wp2_with fail
      refine bodyPost_ret (results_cell_row rfl _ _ w.heap.size 0x7e (bvs D) (0, 0) _ rfl HT11.out.2.1 Tryz.underlying126 rfl (i36 D HD32.out)) rfl ⟨rfl, HT11.out.1, HT11.out.2.2⟩
end Go.Proofs
namespace Go.Proofs
open Go.RowKit Sm
theorem Sm.MacAt.range (w : World) {gm g : Nat} {O : List (BitVec 8)} {s : HS} (h : MacAt w gm g O s) : w.rangeAt gm 1 (O.map byteCell) := by
  have := range_of (A := [Value.pointer (some ⟨g, 0, none⟩)]) (B := O.map byteCell) (C := []) (t := 0x98) (g := gm) (w := w) (by simpa using h.m)
  simpa using this
theorem Sm.i73m (l : List (BitVec 8)) (h : l.length = 64) : (Tryz.prog.info? 0x85).map (·.size) = some (l.map byteCell).length := by rw [List.length_map, h]; kernel_rfl
set_option maxRecDepth 100000 in
set_option maxHeartbeats 2000000 in
theorem Sm.macCopy_any (gm g : Nat) (O : List (BitVec 8)) (s : HS) (w : World) (h : MacAt w gm g O s) :
    Calls Tryz.prog 103 #[.pointer (some ⟨gm, 0, none⟩)] w fun e w' => ∃ gm2 g2, e = .returned (.pointer (some ⟨gm2, 0, none⟩)) ∧ w.heap.size ≤ gm2 ∧ w.heap.size ≤ g2 ∧ MacAt w' gm2 g2 O s ∧ Below w.heap.size w w' := by
  have hth := macThere_yes gm g O s w h
  have hcp : ∀ v, HsAt v g s 32 0 → Calls Tryz.prog 111 #[.pointer (some ⟨g, 0, none⟩)] v fun e w' => ∃ g2, e = .returned (.pointer (some ⟨g2, 0, none⟩)) ∧ v.heap.size ≤ g2 ∧ HsAt w' g2 s 32 0 ∧ Below v.heap.size v w' := fun v hv => Copy_any g s 32 0 v hv (by decide)
  have hz75 := (zero_of_info z75).1
  have hzl := z64_length
  have hol := h.len
  have hcu := h.cur
  have hszO : (bvs O).size = 64 := by rw [bvs_size, hol]
  have hfo := fun p => fold75 O hol p 64 rfl
  have hfo2 := fun p => fold75 O hol p (bvs O).size hszO
  have HT := Lib.hid hth
  have HC := Lib.hid hcp
  have HM := Lib.hid h
  have HOL := Lib.hid (And.intro hol hcu)
  clear hth hcp h hol hcu
  go_enter Tryz.func103, Tryz.ntmps103
  go_upto_region 3 with (go_at_call 110; (with_reducible refine HT.out.mono ?_); rintro e w' ⟨rfl, rfl⟩)
  have HM7 := Lib.hid (HM.out.drew)
  have hbd : Below w.heap.size w w.drew := (Below.refl _ _).drew
  obtain ⟨W7, hW7⟩ : ∃ W, w.drew = W := ⟨_, rfl⟩
  have hS0 : w.drew.cell? ⟨gm, 0, none⟩ = some (.pointer (some ⟨g, 0, none⟩)) ∧ w.drew.rangeAt gm 1 (O.map byteCell) := ⟨HM7.out.ptr, HM7.out.range⟩
  refine wp_region_held_drew (S := fun wx => wx.cell? ⟨gm, 0, none⟩ = some (.pointer (some ⟨g, 0, none⟩)) ∧ wx.rangeAt gm 1 (O.map byteCell)) rfl hS0 (fun hHeld => ?_)
  simp only [List.size_toArray, List.length_cons, List.length_nil, Nat.reduceAdd]
  rw [hW7] at HM7 hS0 hHeld hbd ⊢
  clear hW7
  refine wpAnyH_take (i := 0) (v := .pointer (some ⟨gm, 0, none⟩)) rfl (by kernel_rfl) (by kernel_rfl) (by kernel_rfl) (fun _ _ _ h => h) (Or.inl ⟨by rfl, ?_⟩) (by assumption) ?_
  · intro wx hSw
    obtain ⟨hs1, hs2⟩ := hSw
    go_simp
  try simp only [Act.put]
  refine wpAnyH_take (i := 1) (v := .pointer (some ⟨gm, 0, none⟩)) rfl (by kernel_rfl) (by kernel_rfl) (by kernel_rfl) (fun _ _ _ h => h) (Or.inl ⟨by rfl, ?_⟩) (by assumption) ?_
  · intro wx hSw
    obtain ⟨hs1, hs2⟩ := hSw
    go_simp
  try simp only [Act.put]
  refine wpAnyH_take (i := 2) (v := .pointer (some ⟨gm, 0, none⟩)) rfl (by kernel_rfl) (by kernel_rfl) (by kernel_rfl) (fun _ _ _ h => h) (Or.inl ⟨by rfl, ?_⟩) (by assumption) ?_
  · intro wx hSw
    obtain ⟨hs1, hs2⟩ := hSw
    go_simp
  try simp only [Act.put]
  refine wpAnyH_take (i := 3) (v := .pointer (some ⟨gm, 0, none⟩)) rfl (by kernel_rfl) (by kernel_rfl) (by kernel_rfl) (fun _ _ _ h => h) (Or.inl ⟨by rfl, ?_⟩) (by assumption) ?_
  · intro wx hSw
    obtain ⟨hs1, hs2⟩ := hSw
    go_simp
  try simp only [Act.put]
  refine wpAnyH_take (i := 4) (v := .pointer (some ⟨g, 0, none⟩)) rfl (by kernel_rfl) (by kernel_rfl) (by kernel_rfl) (fun _ _ _ h => h) (Or.inl ⟨by rfl, ?_⟩) (by assumption) ?_
  · intro wx hSw
    obtain ⟨hs1, hs2⟩ := hSw
    go_simp
  try simp only [Act.put]
  refine wpAnyH_take (i := 7) (v := .pointer (some ⟨gm, 0, none⟩)) rfl (by kernel_rfl) (by kernel_rfl) (by kernel_rfl) (fun _ _ _ h => h) (Or.inl ⟨by rfl, ?_⟩) (by assumption) ?_
  · intro wx hSw
    obtain ⟨hs1, hs2⟩ := hSw
    go_simp
  try simp only [Act.put]
  refine wpAnyH_take (i := 8) (v := .pointer (some ⟨gm, 0, none⟩)) rfl (by kernel_rfl) (by kernel_rfl) (by kernel_rfl) (fun _ _ _ h => h) (Or.inl ⟨by rfl, ?_⟩) (by assumption) ?_
  · intro wx hSw
    obtain ⟨hs1, hs2⟩ := hSw
    go_simp
  try simp only [Act.put]
  refine wpAnyH_take (i := 9) (v := .pointer (some ⟨gm, 1, none⟩)) rfl (by kernel_rfl) (by kernel_rfl) (by kernel_rfl) (fun _ _ _ h => h) (Or.inl ⟨by rfl, ?_⟩) (by assumption) ?_
  · intro wx hSw
    obtain ⟨hs1, hs2⟩ := hSw
    go_simp
  try simp only [Act.put]
  refine wpAnyH_take (i := 10) (v := .agg (bvs O)) rfl (by kernel_rfl) (by kernel_rfl) (by kernel_rfl) (fun _ _ _ h => h) (yieldsIf_load_mid (by rfl) 0x85 _ rfl gm 1 rfl (O.map byteCell) _ (fun wx hSw => hSw.2) Tryz.underlying133 rfl (i73m O HOL.out.1)) (by assumption) ?_
  try simp only [Act.put]
  refine wpAnyH_ready (rs := [5]) (by kernel_rfl) (by simp) (AllReadyH.cons rfl (fun K hK => ?_) AllReadyH.nil)
  go_simp
  go_at_call 111
  (with_reducible refine (HC.out _ HM7.out.h).mono ?_)
  rintro e w8 ⟨g2, rfl, hg2, hh2, hb8⟩
  have HM8 := Lib.hid (HM7.out.keep hb8)
  refine hK.out _ _ ⟨HM8.out.ptr, HM8.out.range⟩ (fun hHeld => ?_)
  clear hK K
  try simp only [Act.put]
  refine wpAnyH_ready (rs := [6]) (by kernel_rfl) (by simp) (AllReadyH.cons rfl (fun K hK => ?_) AllReadyH.nil)
  go_simp
  refine hK.out _ _ ⟨HM8.out.ptr, HM8.out.range⟩ (fun hHeld => ?_)
  clear hK K
  try simp only [Act.put]
  refine wpAnyH_ready (rs := [11]) (by kernel_rfl) (by simp) (AllReadyH.cons rfl (fun K hK => ?_) AllReadyH.nil)
  go_simp
  refine hK.out _ _ ⟨HM8.out.ptr, HM8.out.range⟩ (fun hHeld => ?_)
  clear hK K
  try simp only [Act.put]
  refine wpAnyH_ready (rs := [12]) (by kernel_rfl) (by simp) (AllReadyH.cons rfl (fun K hK => ?_) AllReadyH.nil)
  go_simp
  have hb9 : Below w8.heap.size w8 (w8.alloc (.cells (Value.pointer (some ⟨g2, 0, none⟩) :: O.map byteCell).toArray 0x98)) := (Below.refl _ _).alloc (Nat.le_refl _) _
  have HM9 := Lib.hid (HM8.out.keep hb9)
  refine hK.out _ _ ⟨HM9.out.ptr, HM9.out.range⟩ (fun hHeld => ?_)
  clear hK K
  try simp only [Act.put]
  refine wpAnyH_ready (rs := [13]) (by kernel_rfl) (by simp) (AllReadyH.cons rfl (fun K hK => ?_) AllReadyH.nil)
  go_simp
  refine hK.out _ _ ⟨HM9.out.ptr, HM9.out.range⟩ (fun hHeld => ?_)
  clear hK K
  try simp only [Act.put]
  refine wpAnyH_done (by kernel_rfl) ?_ _
  have hne : w8.heap.size ≠ g2 := by have := hh2.lt; omega
  have H9 : MacAt (w8.alloc (.cells (Value.pointer (some ⟨g2, 0, none⟩) :: O.map byteCell).toArray 0x98)) w8.heap.size g2 O s := ⟨Blk.new w8 0x98 _, hh2.keep hb9, HOL.out.1, hne, HOL.out.2⟩
  have hbf := hbd.trans (hb8.mono hbd.size)
  have HF := Lib.hid (And.intro H9 (And.intro hbf (And.intro hb9 (And.intro hg2 hb8.size))))
  clear hne H9 hbf hb9 hg2 hh2 hb8
  go_wp2_with fail
  go_ret
  have h1 := HF.out.2.1.size
  have h2 := hbd.size
  exact ⟨_, g2, rfl, by have := HF.out.2.2.2.2; omega, by have := HF.out.2.2.2.1; omega, HF.out.1, HF.out.2.1.trans (HF.out.2.2.1.mono h1)⟩
end Go.Proofs
namespace Go.Proofs
open Go.RowKit Sm
/-- the key that comes after k ones; none ahead of the first -/
def Sm.lastK (key lb : List (BitVec 8)) : Nat → List (BitVec 8)
  | 0 => []
  | k + 1 => tagS key (lastK key lb k ++ lb ++ [BitVec.ofNat 8 (k + 1)])
/-- the first k keys, one behind the other -/
def Sm.allK (key lb : List (BitVec 8)) : Nat → List (BitVec 8)
  | 0 => []
  | k + 1 => allK key lb k ++ lastK key lb (k + 1)
theorem Sm.lastK_length (key lb : List (BitVec 8)) (k : Nat) : (lastK key lb (k + 1)).length = 32 := tagS_length _ _
theorem Sm.lastK_le (key lb : List (BitVec 8)) (k : Nat) : (lastK key lb k).length ≤ 32 := by
  cases k
  · simp [lastK]
  · rw [lastK_length]; exact Nat.le_refl _
theorem Sm.allK_length (key lb : List (BitVec 8)) (k : Nat) : (allK key lb k).length = 32 * k := by
  induction k with
  | zero => rfl
  | succ k ih => rw [allK, List.length_append, ih, lastK_length]; omega
/-- the first bytes of keys -/
def Sm.deriveS (key lb : List (BitVec 8)) (n : Nat) : List (BitVec 8) := (allK key lb ((n + 31) / 32)).take n
theorem Sm.rd_of_pt {w : World} {g n c : Nat} {A : Option Addr} {l : List (BitVec 8)} (h : PtOK w g A n c l) : Rd w w.heap.size A l := fun hl => by
  obtain ⟨b, off, rfl, hlt, _, hc⟩ := h.rd (by rw [List.length_map]; exact hl)
  exact ⟨b, off, rfl, hlt, fun j c hj => hc j _ (by rw [List.getElem?_map, hj]; rfl)⟩
theorem Sm.rd_one (x : BitVec 8) (X : Int) (hX : X = ib x) (w : World) : Rd (w.alloc (.cells #[.int .u8 X] 5)) (w.heap.size + 1) (some ⟨w.heap.size, 0, none⟩) [x] := fun _ => ⟨w.heap.size, 0, rfl, by omega, fun j c hj => by
  rw [World.cell?_alloc_mark]
  rcases j with _ | j <;> simp at hj <;> subst hj <;> subst hX <;> rfl⟩
theorem Sm.own_cap {w : World} {base n c : Nat} {e : TypeId} {A : Option Addr} {xs : List Value} (h : w.ownsRow base e 1 (.slice A n c) n xs) : n ≤ c := by
  rcases h.2 with ⟨e, e2⟩ | ⟨k, cap, cur, e, hb, hk, hnc, hcm, hcs, htake⟩
  · omega
  · simp only [Value.slice.injEq] at e
    obtain ⟨rfl, _, rfl⟩ := e
    exact hnc
/-- what is read beside a row that grows -/
theorem Sm.rd_grown {w w' : World} {row : Option Nat} {A : Option Addr} {l : List (BitVec 8)} (hg : w.grownBy w' row) (h : Rd w w.heap.size A l) (hn : ∀ a : Addr, A = some a → ∀ g, row = some g → a.block ≠ g) : Rd w' w.heap.size A l := fun hl => by
  obtain ⟨b, off, rfl, hlt, hc⟩ := h hl
  exact ⟨b, off, rfl, hlt, fun j c hj => ((But.grown hg).cell (p := ⟨b, off + j, none⟩) hlt (fun e => hn _ rfl b e rfl)).trans (hc j c hj)⟩
end Go.Proofs
namespace Go.Proofs
open Go.RowKit Sm
attribute [local go_sem] Oper.semAt_some
set_option maxHeartbeats 400000 in
theorem Sm.keys_any (A : Option Addr) (lb : ByteArray) (w : World) : Calls Tryz.prog 90 #[.pointer A, .string lb] w fun e w' => e = .returned (.func (.func 101) #[] #[.pointer (some ⟨w.heap.size, 0, none⟩), .pointer (some ⟨w.heap.size + 1, 0, none⟩)]) ∧ (w.alloc (.cells #[.pointer A] 0x8a)).alloc (.cells #[.string lb] 9) = w' := by
  go_enter Tryz.func90, Tryz.ntmps90
  go_wp2
  go_ret
  exact ⟨rfl, rfl⟩
/-- three texts in a row -/
def Sm.Row3 (w : World) (N : Nat) (x y z : ByteArray) : Prop := Blk w N 9 #[.string x, .string y, .string z]
theorem Sm.Row3.keep {w w' : World} {N : Nat} {x y z : ByteArray} (h : Row3 w N x y z) (hb : Below w.heap.size w w') : Row3 w' N x y z := Blk.keep h hb
theorem Sm.Row3.ok {w : World} {N g : Nat} {x y z : ByteArray} (h : Row3 w N x y z) (hg : g ≠ N) : SsOK w g (some ⟨N, 0, none⟩) 3 [x, y, z] := by
  refine ⟨rfl, by decide, fun _ => ⟨N, 0, rfl, Blk.lt h, fun e => hg e.symm, fun j v hj => ?_⟩⟩
  rw [Nat.zero_add, Blk.cell h]
  simpa using hj
end Go.Proofs
