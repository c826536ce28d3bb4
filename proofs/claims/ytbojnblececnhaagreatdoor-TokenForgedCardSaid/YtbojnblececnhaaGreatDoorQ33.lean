/-
  The contract of the document's Open of keys.
-/
import Derived.BigQuiet
import Derived.Deep.RegionHeldLaw
import Derived.Test.YtbojnblececnhaaGreatDoorQ31
import Derived.Test.YtbojnblececnhaaGreatDoorQ32
namespace Go.Proofs
open Go.RowKit Go.Shelf Sm
/-- what opening answers -/
def Sm.OpenV (r : Except Int (Int × Int × Int)) : Value := match r with
  | .ok p => .tuple #[.agg #[.int .i64 p.1, .int .i64 p.2.1, .int .i64 p.2.2], .int .i64 0]
  | .error no => .tuple #[.agg #[.int .i64 0, .int .i64 0, .int .i64 0], .int .i64 no]
/-- while it is read -/
structure Sm.RoI (w : World) (f : Int) (kv : Value) (B8 : Nat) (wr : World) (rv : Value) (e : Int) : Prop where
  key : Blk wr w.heap.size 29 #[.int .i64 f, kv]
  res : Blk wr (w.heap.size + 1) 24 #[.int .i64 0, .int .i64 0, .int .i64 0]
  rdr : Blk wr B8 0x4f #[rv, .int .i64 e]
  below : Below w.heap.size w wr
  ne : w.heap.size + 1 < B8
theorem Sm.RoI.keep {w wr w' : World} {f e : Int} {kv rv : Value} {B8 : Nat} (h : RoI w f kv B8 wr rv e) (hb : Below wr.heap.size wr w') : RoI w f kv B8 w' rv e :=
  ⟨h.key.keep hb, h.res.keep hb, h.rdr.keep hb, h.below.trans (hb.mono h.below.size), h.ne⟩
theorem Sm.blk_set2 {w : World} {B : Nat} {t : TypeId} {a b : Value} (h : Blk w B t #[a, b]) (x y : Value) : Blk ((w.setCell ⟨B, 0, none⟩ x).setCell ⟨B, 1, none⟩ y) B t #[x, y] := by
  have h1 := heap_setCell_same w B 0 _ t x h
  simp only [List.setIfInBounds_toArray, List.set_cons_zero] at h1
  have h2 := heap_setCell_same _ B 1 _ t y h1
  simp only [List.setIfInBounds_toArray, List.set_cons_succ, List.set_cons_zero] at h2
  exact h2
theorem Sm.blk_set3 {w : World} {B : Nat} {t : TypeId} {a b c : Value} (h : Blk w B t #[a, b, c]) (x y z : Value) : Blk (((w.setCell ⟨B, 0, none⟩ x).setCell ⟨B, 1, none⟩ y).setCell ⟨B, 2, none⟩ z) B t #[x, y, z] := by
  have h1 := heap_setCell_same w B 0 _ t x h
  simp only [List.setIfInBounds_toArray, List.set_cons_zero] at h1
  have h2 := heap_setCell_same _ B 1 _ t y h1
  simp only [List.setIfInBounds_toArray, List.set_cons_succ, List.set_cons_zero] at h2
  have h3 := heap_setCell_same _ B 2 _ t z h2
  simp only [List.setIfInBounds_toArray, List.set_cons_succ, List.set_cons_zero] at h3
  exact h3
theorem Sm.but_set2 (w : World) (B : Nat) (x y : Value) : But (fun b => b = B) w ((w.setCell ⟨B, 0, none⟩ x).setCell ⟨B, 1, none⟩ y) := ((But.refl (fun b => b = B) w).set ⟨B, 0, none⟩ _ (.inl rfl)).set ⟨B, 1, none⟩ _ (.inl rfl)
theorem Sm.RoI.set {w wr : World} {f e : Int} {kv rv : Value} {B8 : Nat} (h : RoI w f kv B8 wr rv e) (rv' : Value) (e' : Int) : RoI w f kv B8 ((wr.setCell ⟨B8, 0, none⟩ rv').setCell ⟨B8, 1, none⟩ (.int .i64 e')) rv' e' := by
  have hne := h.ne
  have hbt := but_set2 wr B8 rv' (.int .i64 e')
  exact ⟨h.key.but hbt (by omega), h.res.but hbt (by omega), blk_set2 h.rdr _ _, But.below h.below hbt (fun b e => by have e : b = B8 := e; omega), hne⟩
theorem Sm.Rd.bound {w : World} {N B b off : Nat} {l : List (BitVec 8)} (h : Rd w N (some ⟨b, off, none⟩) l) (hb : b < B) : Rd w B (some ⟨b, off, none⟩) l := fun hl => by
  obtain ⟨b', off', e, hlt, hc⟩ := h hl
  injection e with e
  injection e with e1 e2
  subst e1 e2
  exact ⟨b, off, rfl, hb, hc⟩
theorem Sm.Rd.set2 {w : World} {B8 : Nat} {A : Option Addr} {l : List (BitVec 8)} (h : Rd w B8 A l) (hB : B8 ≤ w.heap.size) (x y : Value) : Rd ((w.setCell ⟨B8, 0, none⟩ x).setCell ⟨B8, 1, none⟩ y) B8 A l :=
  (but_set2 w B8 x y).rd h hB (fun b hb e => by omega)
theorem Sm.numO_nil (most : Int) : numO [] most = none := by
  unfold numO getN
  rfl
/-- what is opened, once its parts are told -/
theorem Sm.opened_end {d : Kd} {j : Nat} (hd : d.OK j) {b l1 l2 l3 l4 : List (BitVec 8)} {n m s i : Nat} {q : Nat} (hq : q < d.ms.length) (hn : (n : Int) = d.first + q)
    (h1 : numO b 2147483647 = some (l1, (n : Int))) (h2 : numO l1 15 = some (l2, (m : Int))) (h3 : numO l2 2147483647 = some (l3, (s : Int))) (h4 : numO l3 2147483647 = some (l4, (i : Int))) (h16 : l4.length = 16) :
    openedS d.pt b = if tokB d.ms[q] n m s i = b then .ok ((m : Int), (s : Int), (i : Int)) else .error 161 := by
  have hb : b = numsB [(n : Int), (m : Int), (s : Int), (i : Int)] ++ l4 := by
    rw [numsB_cons4, numO_read h1, numO_read h2, numO_read h3, numO_read h4]
    simp
  have hf := Kd.find hd (n := (n : Int)) q hq hn
  unfold openedS
  rw [h1]
  simp only
  rw [h2]
  simp only
  rw [h3]
  simp only
  rw [h4]
  simp only
  rw [if_pos h16, hf]
  simp only
  obtain ⟨F, hF⟩ : ∃ F, numsB [(n : Int), (m : Int), (s : Int), (i : Int)] = F := ⟨_, rfl⟩
  have ht : tokB d.ms[q] n m s i = F ++ (tagS (keyS d.ms[q]) F).take 16 := by
    unfold tokB
    rw [hF]
  rw [hF] at hb
  have e1 : b.take (b.length - 16) = F := by
    rw [hb, List.length_append, h16, Nat.add_sub_cancel, List.take_left']
    rfl
  have e2 : b.drop (b.length - 16) = l4 := by
    rw [hb, List.length_append, h16, Nat.add_sub_cancel, List.drop_left']
    rfl
  rw [e1, e2, ht, hb]
  by_cases hT : (tagS (keyS d.ms[q]) F).take 16 = l4
  · rw [if_pos hT, if_pos (by rw [hT])]
  · rw [if_neg hT, if_neg (fun h => hT (List.append_cancel_left h))]
theorem Sm.opened_short {k : Kpt} {b l1 l2 l3 l4 : List (BitVec 8)} {n m s i : Int}
    (h1 : numO b 2147483647 = some (l1, n)) (h2 : numO l1 15 = some (l2, m)) (h3 : numO l2 2147483647 = some (l3, s)) (h4 : numO l3 2147483647 = some (l4, i)) (h16 : ¬ l4.length = 16) : openedS k b = .error 161 := by
  unfold openedS
  rw [h1]
  simp only
  rw [h2]
  simp only
  rw [h3]
  simp only
  rw [h4]
  simp only
  rw [if_neg h16]
theorem Sm.opened_lacks {k : Kpt} {b l1 l2 l3 l4 : List (BitVec 8)} {n m s i : Int}
    (h1 : numO b 2147483647 = some (l1, n)) (h2 : numO l1 15 = some (l2, m)) (h3 : numO l2 2147483647 = some (l3, s)) (h4 : numO l3 2147483647 = some (l4, i)) (h16 : l4.length = 16) (hf : findS k n = none) : openedS k b = .error 162 := by
  unfold openedS
  rw [h1]
  simp only
  rw [h2]
  simp only
  rw [h3]
  simp only
  rw [h4]
  simp only
  rw [if_pos h16, hf]
theorem Sm.opened_0 {k : Kpt} {b : List (BitVec 8)} (h1 : numO b 2147483647 = none) : openedS k b = .error 161 := by
  unfold openedS
  rw [h1]
theorem Sm.opened_1 {k : Kpt} {b l1 : List (BitVec 8)} {n : Int} (h1 : numO b 2147483647 = some (l1, n)) (h2 : numO l1 15 = none) : openedS k b = .error 161 := by
  unfold openedS
  rw [h1]
  simp only
  rw [h2]
theorem Sm.opened_2 {k : Kpt} {b l1 l2 : List (BitVec 8)} {n m : Int} (h1 : numO b 2147483647 = some (l1, n)) (h2 : numO l1 15 = some (l2, m)) (h3 : numO l2 2147483647 = none) : openedS k b = .error 161 := by
  unfold openedS
  rw [h1]
  simp only
  rw [h2]
  simp only
  rw [h3]
theorem Sm.opened_3 {k : Kpt} {b l1 l2 l3 : List (BitVec 8)} {n m s : Int} (h1 : numO b 2147483647 = some (l1, n)) (h2 : numO l1 15 = some (l2, m)) (h3 : numO l2 2147483647 = some (l3, s)) (h4 : numO l3 2147483647 = none) : openedS k b = .error 161 := by
  unfold openedS
  rw [h1]
  simp only
  rw [h2]
  simp only
  rw [h3]
  simp only
  rw [h4]
set_option maxRecDepth 100000 in
set_option maxHeartbeats 4000000 in
theorem Sm.refOpen_long (d : Kd) (c : Nat) (A : Option Addr) (s : ByteArray) (w : World) (hs : 200 < s.size) :
    Calls Tryz.prog 19 #[.agg #[.int .i64 d.first, .slice A d.ms.length c], .string s] w fun e w' => e = .returned (OpenV (openS d.pt s)) ∧ Below w.heap.size w w' := by
  have ho : openS d.pt s = .error 3 := by unfold openS; rw [if_pos hs]
  obtain ⟨W2, hW2⟩ : ∃ v, (w.alloc (.cells #[.int .i64 d.first, .slice A d.ms.length c] 29)).alloc (.cells #[.int .i64 0, .int .i64 0, .int .i64 0] 24) = v := ⟨_, rfl⟩
  have hb2 : Below w.heap.size w W2 := by rw [← hW2]; exact ((Below.refl _ w).alloc (Nat.le_refl _) _).alloc (by simp) _
  have hk0 : Blk W2 w.heap.size 29 #[.int .i64 d.first, .slice A d.ms.length c] := by rw [← hW2]; exact (Blk.new w 29 _).alloc _
  have hk1 : Blk W2 (w.heap.size + 1) 24 #[.int .i64 0, .int .i64 0, .int .i64 0] := by
    rw [← hW2]
    have := Blk.new (w.alloc (.cells #[.int .i64 d.first, .slice A d.ms.length c] 29)) 24 #[.int .i64 0, .int .i64 0, .int .i64 0]
    rwa [World.size_alloc] at this
  have hlt2 : w.heap.size + 1 < W2.heap.size := hk1.lt
  have HW2 := Lib.hid hW2
  have HB2 := Lib.hid hb2
  have HK := Lib.hid (And.intro hk0 hk1)
  have r0 := hk1.cell 0
  have r1 := hk1.cell 1
  have r2 := hk1.cell 2
  have g0 := hk1.frozen 0
  have g1 := hk1.frozen 1
  have g2 := hk1.frozen 2
  simp only [List.getElem?_toArray, List.getElem?_cons_zero, List.getElem?_cons_succ] at r0 r1 r2
  have hi : (200 : Int) < (s.size : Int) := by omega
  have HO := Lib.hid ho
  clear ho hW2 hb2 hk0 hk1 hs
  go_enter Tryz.func19, Tryz.ntmps19
  go_upto_region 1 with fail
  rw [HW2.out]
  go_wp2
  have hz := blk_set3 HK.out.2 (.int .i64 0) (.int .i64 0) (.int .i64 0)
  have e0 := hz.cell 0
  have e1 := hz.cell 1
  have e2 := hz.cell 2
  simp only [List.getElem?_toArray, List.getElem?_cons_zero, List.getElem?_cons_succ] at e0 e1 e2
  refine bodyPost_ret (v := .tuple #[.agg #[.int .i64 0, .int .i64 0, .int .i64 0], .int .i64 3]) (by simp [results, Tryz.results19, go_sem, e0, e1, e2]) rfl ⟨by rw [HO.out]; rfl, ?_⟩
  exact (((HB2.out).setCell (p := ⟨w.heap.size + 1, 0, none⟩) (by simp) _).setCell (p := ⟨w.heap.size + 1, 1, none⟩) (by simp) _).setCell (p := ⟨w.heap.size + 1, 2, none⟩) (by simp) _
set_option maxRecDepth 100000 in
set_option maxHeartbeats 4000000 in
theorem Sm.refOpen_spell (d : Kd) (c : Nat) (A : Option Addr) (s : ByteArray) (w : World) (hs : s.size ≤ 200) (hu : unspellS (sB s) = none) :
    Calls Tryz.prog 19 #[.agg #[.int .i64 d.first, .slice A d.ms.length c], .string s] w fun e w' => e = .returned (OpenV (openS d.pt s)) ∧ Below w.heap.size w w' := by
  have ho : openS d.pt s = .error 160 := by unfold openS; rw [if_neg (by omega), hu]
  obtain ⟨W2, hW2⟩ : ∃ v, (w.alloc (.cells #[.int .i64 d.first, .slice A d.ms.length c] 29)).alloc (.cells #[.int .i64 0, .int .i64 0, .int .i64 0] 24) = v := ⟨_, rfl⟩
  have hb2 : Below w.heap.size w W2 := by rw [← hW2]; exact ((Below.refl _ w).alloc (Nat.le_refl _) _).alloc (by simp) _
  have hk0 : Blk W2 w.heap.size 29 #[.int .i64 d.first, .slice A d.ms.length c] := by rw [← hW2]; exact (Blk.new w 29 _).alloc _
  have hk1 : Blk W2 (w.heap.size + 1) 24 #[.int .i64 0, .int .i64 0, .int .i64 0] := by
    rw [← hW2]
    have := Blk.new (w.alloc (.cells #[.int .i64 d.first, .slice A d.ms.length c] 29)) 24 #[.int .i64 0, .int .i64 0, .int .i64 0]
    rwa [World.size_alloc] at this
  have hlt2 : w.heap.size + 1 < W2.heap.size := hk1.lt
  have HW2 := Lib.hid hW2
  have HB2 := Lib.hid hb2
  have HK := Lib.hid (And.intro hk0 hk1)
  have hun : Calls Tryz.prog 42 #[.string s] W2 fun e w' => e = .returned (.tuple #[.slice none 0 0, .int .i64 160]) ∧ Below W2.heap.size W2 w' := by
    refine (refUnspell_any s W2 (by omega)).mono ?_
    rintro e w' ⟨hb, hm⟩
    rw [hu] at hm
    exact ⟨hm, hb⟩
  have HUN := Lib.hid hun
  have hi : ¬ (200 : Int) < (s.size : Int) := by omega
  have HO := Lib.hid ho
  clear ho hun hu hW2 hb2 hk0 hk1 hs
  go_enter Tryz.func19, Tryz.ntmps19
  go_upto_region 1 with fail
  rw [HW2.out]
  go_upto_region 4 with (go_at_call 42; (with_reducible refine HUN.out.mono ?_); rintro e w3 ⟨rfl, hb3⟩)
  have hk1 := HK.out.2.keep hb3
  have r0 := hk1.cell 0
  have r1 := hk1.cell 1
  have r2 := hk1.cell 2
  have g0 := hk1.frozen 0
  have g1 := hk1.frozen 1
  have g2 := hk1.frozen 2
  simp only [List.getElem?_toArray, List.getElem?_cons_zero, List.getElem?_cons_succ] at r0 r1 r2
  have HK1 := Lib.hid hk1
  have HB3 := Lib.hid (HB2.out.trans (hb3.mono HB2.out.size))
  have hlt3 := hk1.lt
  clear hk1 hb3
  go_wp2
  have hz := blk_set3 HK1.out (.int .i64 0) (.int .i64 0) (.int .i64 0)
  have e0 := hz.cell 0
  have e1 := hz.cell 1
  have e2 := hz.cell 2
  simp only [List.getElem?_toArray, List.getElem?_cons_zero, List.getElem?_cons_succ] at e0 e1 e2
  refine bodyPost_ret (v := .tuple #[.agg #[.int .i64 0, .int .i64 0, .int .i64 0], .int .i64 160]) (by simp [results, Tryz.results19, go_sem, e0, e1, e2]) rfl ⟨by rw [HO.out]; rfl, ?_⟩
  exact (((HB3.out).setCell (p := ⟨w.heap.size + 1, 0, none⟩) (by simp) _).setCell (p := ⟨w.heap.size + 1, 1, none⟩) (by simp) _).setCell (p := ⟨w.heap.size + 1, 2, none⟩) (by simp) _
set_option maxRecDepth 100000 in
set_option maxHeartbeats 4000000 in
theorem Sm.refOpen_read (d : Kd) (j c : Nat) (A : Option Addr) (s : ByteArray) (w : World) (hd : d.OK j) (hj : j ≤ 1000) (hr : Rds w (fun _ => False) A (d.ms.map Value.string)) (hs : s.size ≤ 200) (bb : List (BitVec 8)) (hu : unspellS (sB s) = some bb) :
    Calls Tryz.prog 19 #[.agg #[.int .i64 d.first, .slice A d.ms.length c], .string s] w fun e w' => e = .returned (OpenV (openS d.pt s)) ∧ Below w.heap.size w w' := by
  have ho : openS d.pt s = openedS d.pt bb := by unfold openS; rw [if_neg (by omega), hu]
  rw [ho]
  have hbbl := unspell_length hu
  obtain ⟨W2, hW2⟩ : ∃ v, (w.alloc (.cells #[.int .i64 d.first, .slice A d.ms.length c] 29)).alloc (.cells #[.int .i64 0, .int .i64 0, .int .i64 0] 24) = v := ⟨_, rfl⟩
  have hb2 : Below w.heap.size w W2 := by rw [← hW2]; exact ((Below.refl _ w).alloc (Nat.le_refl _) _).alloc (by simp) _
  have hk0 : Blk W2 w.heap.size 29 #[.int .i64 d.first, .slice A d.ms.length c] := by rw [← hW2]; exact (Blk.new w 29 _).alloc _
  have hk1 : Blk W2 (w.heap.size + 1) 24 #[.int .i64 0, .int .i64 0, .int .i64 0] := by
    rw [← hW2]
    have := Blk.new (w.alloc (.cells #[.int .i64 d.first, .slice A d.ms.length c] 29)) 24 #[.int .i64 0, .int .i64 0, .int .i64 0]
    rwa [World.size_alloc] at this
  have hlt2 : w.heap.size + 1 < W2.heap.size := hk1.lt
  have HW2 := Lib.hid hW2
  have HB2 := Lib.hid hb2
  have HK := Lib.hid (And.intro hk0 hk1)
  have hun : Calls Tryz.prog 42 #[.string s] W2 fun e w' => ∃ A6 c6, e = .returned (.tuple #[.slice A6 bb.length c6, .int .i64 0]) ∧ w'.ownsRow W2.heap.size 5 1 (.slice A6 bb.length c6) bb.length (bb.map byteCell) ∧ Below W2.heap.size W2 w' := by
    refine (refUnspell_any s W2 (by omega)).mono ?_
    rintro e w' ⟨hb, hm⟩
    rw [hu] at hm
    obtain ⟨v, rfl, hown⟩ := hm
    obtain ⟨A6, c6, rfl⟩ := own_slice hown
    exact ⟨A6, c6, rfl, hown, hb⟩
  have HUN := Lib.hid hun
  have hi : ¬ (200 : Int) < (s.size : Int) := by omega
  have HD := Lib.hid hd
  have HR := Lib.hid hr
  have hs2 : bb.length ≤ 200 := by omega
  obtain ⟨nb, hnb⟩ : ∃ n, bb.length = n := ⟨_, rfl⟩
  rw [hnb] at hs2 HUN
  have HNB := Lib.hid hnb
  clear ho hun hu hW2 hb2 hk0 hk1 hd hr hs hbbl hnb
  obtain ⟨f, hf⟩ : ∃ f, d.first = f := ⟨_, rfl⟩
  obtain ⟨nm, hnm⟩ : ∃ f, d.ms.length = f := ⟨_, rfl⟩
  rw [hf, hnm] at HK HW2
  rw [hf, hnm]
  have hlo := HD.out.lo
  have hhi := HD.out.hi
  have hmo := HD.out.most
  rw [hf] at hlo hhi
  rw [hnm] at hmo hhi
  have hf1 : f ≤ 2000 := by omega
  have HF := Lib.hid (And.intro hf hnm)
  clear hf hnm hhi
  go_enter Tryz.func19, Tryz.ntmps19
  go_upto_region 1 with fail
  rw [HW2.out]
  go_upto_region 7 with (go_at_call 42; (with_reducible refine HUN.out.mono ?_); rintro e w3 ⟨A6, c6, rfl, hown6, hb3⟩)
  obtain ⟨B8, hB8⟩ : ∃ b, w3.heap.size = b := ⟨_, rfl⟩
  obtain ⟨W7, hW7⟩ : ∃ v, w3.alloc (.cells #[.slice A6 nb c6, .int .i64 0] 0x4f) = v := ⟨_, rfl⟩
  have hb37 : Below w3.heap.size w3 W7 := by rw [← hW7]; exact (Below.refl _ _).alloc (Nat.le_refl _) _
  have hb27 : Below W2.heap.size W2 W7 := hb3.trans (hb37.mono hb3.size)
  have hR7 : RoI w f (.slice A nm c) B8 W7 (.slice A6 nb c6) 0 := ⟨HK.out.1.keep hb27, HK.out.2.keep hb27, by rw [← hW7, ← hB8]; exact Blk.new w3 0x4f _, HB2.out.trans (hb27.mono HB2.out.size), by have := HK.out.2.lt; have := hb3.size; omega⟩
  have hrd7 : Rd W7 B8 A6 bb := by
    rw [← hB8]
    exact (Rd.of_own hown6 (Nat.le_refl _)).below hb37
  have hcap : nb ≤ c6 := own_cap hown6
  rw [hW7, hB8]
  have HR7 := Lib.hid hR7
  have HRD7 := Lib.hid hrd7
  have hz7 : B8 < W7.heap.size := hR7.rdr.lt
  clear hW7 hB8 hb37 hb27 hR7 hrd7 hown6 hb3 HUN HK
  cases hst0 : numO bb 2147483647 with
  | none =>
    have HN0 := Lib.hid hst0
    have NAY := Lib.hid (refNum_nay A6 nb c6 bb 2147483647 W7 ⟨HNB.out, hcap, Rd.more HRD7.out (by omega)⟩ (by omega) (by omega) hst0)
    clear hst0
    have k0 := HR7.out.rdr.cell 0
    have k1 := HR7.out.rdr.cell 1
    simp only [List.getElem?_toArray, List.getElem?_cons_zero, List.getElem?_cons_succ] at k0 k1
    go_upto_region 8 with (go_at_call 43; (with_reducible refine NAY.out.mono ?_); rintro e v0 ⟨AE, nE, cE, rfl, hbv⟩; have hRv := HR7.out.keep hbv; have kk0 := hRv.rdr.cell 0; have kk1 := hRv.rdr.cell 1; have gg0 := hRv.rdr.frozen 0; have gg1 := hRv.rdr.frozen 1; simp only [List.getElem?_toArray, List.getElem?_cons_zero, List.getElem?_cons_succ] at kk0 kk1)
    have HRx := Lib.hid (hRv.set (.slice AE nE cE) 120)
    obtain ⟨U, hU⟩ : ∃ u, (v0.setCell ⟨B8, 0, none⟩ (.slice AE nE cE)).setCell ⟨B8, 1, none⟩ (.int .i64 120) = u := ⟨_, rfl⟩
    rw [hU] at HRx
    try rw [hU]
    have hzu : B8 < U.heap.size := HRx.out.rdr.lt
    clear hU hRv hbv kk0 kk1 gg0 gg1 k0 k1 NAY
    have k0 := HRx.out.rdr.cell 0
    have k1 := HRx.out.rdr.cell 1
    simp only [List.getElem?_toArray, List.getElem?_cons_zero, List.getElem?_cons_succ] at k0 k1
    have OFF := Lib.hid (fun (A : Option Addr) (n c : Nat) (W : World) => refNum_off A n c 15 W)
    go_upto_region 9 with (go_at_call 43; (with_reducible refine (OFF.out _ _ _ _).mono ?_); rintro e v1 ⟨rfl, hbv⟩; have hRv := HRx.out.keep hbv; have kk0 := hRv.rdr.cell 0; have kk1 := hRv.rdr.cell 1; have gg0 := hRv.rdr.frozen 0; have gg1 := hRv.rdr.frozen 1; simp only [List.getElem?_toArray, List.getElem?_cons_zero, List.getElem?_cons_succ] at kk0 kk1)
    have HRz1 := Lib.hid (hRv.set (.slice AE nE cE) 120)
    obtain ⟨U1, hU⟩ : ∃ u, (v1.setCell ⟨B8, 0, none⟩ (.slice AE nE cE)).setCell ⟨B8, 1, none⟩ (.int .i64 120) = u := ⟨_, rfl⟩
    rw [hU] at HRz1
    try rw [hU]
    have hzu1 : B8 < U1.heap.size := HRz1.out.rdr.lt
    clear hU hRv hbv kk0 kk1 gg0 gg1 k0 k1 OFF
    have k0 := HRz1.out.rdr.cell 0
    have k1 := HRz1.out.rdr.cell 1
    simp only [List.getElem?_toArray, List.getElem?_cons_zero, List.getElem?_cons_succ] at k0 k1
    have OFF := Lib.hid (fun (A : Option Addr) (n c : Nat) (W : World) => refNum_off A n c 2147483647 W)
    go_upto_region 10 with (go_at_call 43; (with_reducible refine (OFF.out _ _ _ _).mono ?_); rintro e v2 ⟨rfl, hbv⟩; have hRv := HRz1.out.keep hbv; have kk0 := hRv.rdr.cell 0; have kk1 := hRv.rdr.cell 1; have gg0 := hRv.rdr.frozen 0; have gg1 := hRv.rdr.frozen 1; simp only [List.getElem?_toArray, List.getElem?_cons_zero, List.getElem?_cons_succ] at kk0 kk1)
    have HRz2 := Lib.hid (hRv.set (.slice AE nE cE) 120)
    obtain ⟨U2, hU⟩ : ∃ u, (v2.setCell ⟨B8, 0, none⟩ (.slice AE nE cE)).setCell ⟨B8, 1, none⟩ (.int .i64 120) = u := ⟨_, rfl⟩
    rw [hU] at HRz2
    try rw [hU]
    have hzu2 : B8 < U2.heap.size := HRz2.out.rdr.lt
    clear hU hRv hbv kk0 kk1 gg0 gg1 k0 k1 OFF
    have k0 := HRz2.out.rdr.cell 0
    have k1 := HRz2.out.rdr.cell 1
    simp only [List.getElem?_toArray, List.getElem?_cons_zero, List.getElem?_cons_succ] at k0 k1
    have OFF := Lib.hid (fun (A : Option Addr) (n c : Nat) (W : World) => refNum_off A n c 2147483647 W)
    go_upto_region 11 with (go_at_call 43; (with_reducible refine (OFF.out _ _ _ _).mono ?_); rintro e v3 ⟨rfl, hbv⟩; have hRv := HRz2.out.keep hbv; have kk0 := hRv.rdr.cell 0; have kk1 := hRv.rdr.cell 1; have gg0 := hRv.rdr.frozen 0; have gg1 := hRv.rdr.frozen 1; simp only [List.getElem?_toArray, List.getElem?_cons_zero, List.getElem?_cons_succ] at kk0 kk1)
    have HRz3 := Lib.hid (hRv.set (.slice AE nE cE) 120)
    obtain ⟨U3, hU⟩ : ∃ u, (v3.setCell ⟨B8, 0, none⟩ (.slice AE nE cE)).setCell ⟨B8, 1, none⟩ (.int .i64 120) = u := ⟨_, rfl⟩
    rw [hU] at HRz3
    try rw [hU]
    have hzu3 : B8 < U3.heap.size := HRz3.out.rdr.lt
    clear hU hRv hbv kk0 kk1 gg0 gg1 k0 k1 OFF
    have k0 := HRz3.out.rdr.cell 0
    have k1 := HRz3.out.rdr.cell 1
    simp only [List.getElem?_toArray, List.getElem?_cons_zero, List.getElem?_cons_succ] at k0 k1
    have hlr : w.heap.size + 1 < U3.heap.size := HRz3.out.res.lt
    have r0 := HRz3.out.res.cell 0
    have r1 := HRz3.out.res.cell 1
    have r2 := HRz3.out.res.cell 2
    have g0 := HRz3.out.res.frozen 0
    have g1 := HRz3.out.res.frozen 1
    have g2 := HRz3.out.res.frozen 2
    simp only [List.getElem?_toArray, List.getElem?_cons_zero, List.getElem?_cons_succ] at r0 r1 r2
    go_wp2
    have hz := blk_set3 HRz3.out.res (.int .i64 0) (.int .i64 0) (.int .i64 0)
    have e0 := hz.cell 0
    have e1 := hz.cell 1
    have e2 := hz.cell 2
    simp only [List.getElem?_toArray, List.getElem?_cons_zero, List.getElem?_cons_succ] at e0 e1 e2
    refine bodyPost_ret (v := .tuple #[.agg #[.int .i64 0, .int .i64 0, .int .i64 0], .int .i64 161]) (by simp [results, Tryz.results19, go_sem, e0, e1, e2]) rfl ⟨by rw [opened_0 HN0.out]; rfl, ?_⟩
    exact (((HRz3.out.below).setCell (p := ⟨w.heap.size + 1, 0, none⟩) (by simp) _).setCell (p := ⟨w.heap.size + 1, 1, none⟩) (by simp) _).setCell (p := ⟨w.heap.size + 1, 2, none⟩) (by simp) _
  | some p =>
    obtain ⟨l1, x0⟩ := p
    have hbd := numO_bound hst0
    obtain ⟨xn, rfl⟩ : ∃ y : Nat, x0 = (y : Int) := ⟨x0.toNat, by omega⟩
    have hx0 : xn ≤ 2147483647 := by have := hbd.2.1; omega
    obtain ⟨b0, off0, rfl⟩ : ∃ b o, A6 = some ⟨b, o, none⟩ := by
      have hne : 0 < bb.length := by
        rcases Nat.eq_zero_or_pos bb.length with h | h
        · rw [List.length_eq_zero_iff.1 h, numO_nil] at hst0; cases hst0
        · exact h
      obtain ⟨b, o, e, _⟩ := HRD7.out hne
      exact ⟨b, o, e⟩
    have hb0 : b0 < B8 := by
      have hne : 0 < bb.length := by
        rcases Nat.eq_zero_or_pos bb.length with h | h
        · rw [List.length_eq_zero_iff.1 h, numO_nil] at hst0; cases hst0
        · exact h
      obtain ⟨b, o, e, hlt, _⟩ := HRD7.out hne
      injection e with e
      injection e with e1 e2
      subst e1
      exact hlt
    have HY0 := Lib.hid hst0
    have YES := Lib.hid (refNum_yes b0 off0 nb c6 bb l1 2147483647 xn W7 ⟨HNB.out, hcap, Rd.more HRD7.out (by omega)⟩ (by omega) (by omega) hst0)
    clear hst0 hbd
    have k0 := HR7.out.rdr.cell 0
    have k1 := HR7.out.rdr.cell 1
    simp only [List.getElem?_toArray, List.getElem?_cons_zero, List.getElem?_cons_succ] at k0 k1
    go_upto_region 8 with (go_at_call 43; (with_reducible refine YES.out.mono ?_); rintro e v0 ⟨of0, n0, c0, rfl, hle0, hra, hbv⟩; have hRv := HR7.out.keep hbv; have kk0 := hRv.rdr.cell 0; have kk1 := hRv.rdr.cell 1; have gg0 := hRv.rdr.frozen 0; have gg1 := hRv.rdr.frozen 1; simp only [List.getElem?_toArray, List.getElem?_cons_zero, List.getElem?_cons_succ] at kk0 kk1)
    have HR80 := Lib.hid (hRv.set (.slice (some ⟨b0, of0, none⟩) n0 c0) 0)
    have hszv : B8 ≤ v0.heap.size := by have := hRv.rdr.lt; omega
    have HRD80 := Lib.hid (Rd.set2 (Rd.bound hra.rd hb0) hszv (.slice (some ⟨b0, of0, none⟩) n0 c0) (.int .i64 0))
    have HRB80 := Lib.hid (Rd.set2 ((HRD7.out).belowTo hbv (by omega)) hszv (.slice (some ⟨b0, of0, none⟩) n0 c0) (.int .i64 0))
    have HLN0 := Lib.hid (And.intro hra.len hra.room)
    obtain ⟨V0, hV⟩ : ∃ u, (v0.setCell ⟨B8, 0, none⟩ (.slice (some ⟨b0, of0, none⟩) n0 c0)).setCell ⟨B8, 1, none⟩ (.int .i64 0) = u := ⟨_, rfl⟩
    rw [hV] at HR80 HRD80 HRB80
    try rw [hV]
    have hzv0 : B8 < V0.heap.size := HR80.out.rdr.lt
    clear hV hRv hbv hra hszv kk0 kk1 gg0 gg1 k0 k1 YES
    cases hst1 : numO l1 15 with
    | none =>
      have HN1 := Lib.hid hst1
      have NAY := Lib.hid (refNum_nay (some ⟨b0, of0, none⟩) n0 c0 l1 15 V0 ⟨HLN0.out.1, HLN0.out.2, Rd.more HRD80.out (by omega)⟩ (by omega) (by omega) hst1)
      clear hst1
      have k0 := HR80.out.rdr.cell 0
      have k1 := HR80.out.rdr.cell 1
      simp only [List.getElem?_toArray, List.getElem?_cons_zero, List.getElem?_cons_succ] at k0 k1
      go_upto_region 9 with (go_at_call 43; (with_reducible refine NAY.out.mono ?_); rintro e v1 ⟨AE, nE, cE, rfl, hbv⟩; have hRv := HR80.out.keep hbv; have kk0 := hRv.rdr.cell 0; have kk1 := hRv.rdr.cell 1; have gg0 := hRv.rdr.frozen 0; have gg1 := hRv.rdr.frozen 1; simp only [List.getElem?_toArray, List.getElem?_cons_zero, List.getElem?_cons_succ] at kk0 kk1)
      have HRx := Lib.hid (hRv.set (.slice AE nE cE) 120)
      obtain ⟨U, hU⟩ : ∃ u, (v1.setCell ⟨B8, 0, none⟩ (.slice AE nE cE)).setCell ⟨B8, 1, none⟩ (.int .i64 120) = u := ⟨_, rfl⟩
      rw [hU] at HRx
      try rw [hU]
      have hzu : B8 < U.heap.size := HRx.out.rdr.lt
      clear hU hRv hbv kk0 kk1 gg0 gg1 k0 k1 NAY
      have k0 := HRx.out.rdr.cell 0
      have k1 := HRx.out.rdr.cell 1
      simp only [List.getElem?_toArray, List.getElem?_cons_zero, List.getElem?_cons_succ] at k0 k1
      have OFF := Lib.hid (fun (A : Option Addr) (n c : Nat) (W : World) => refNum_off A n c 2147483647 W)
      go_upto_region 10 with (go_at_call 43; (with_reducible refine (OFF.out _ _ _ _).mono ?_); rintro e v2 ⟨rfl, hbv⟩; have hRv := HRx.out.keep hbv; have kk0 := hRv.rdr.cell 0; have kk1 := hRv.rdr.cell 1; have gg0 := hRv.rdr.frozen 0; have gg1 := hRv.rdr.frozen 1; simp only [List.getElem?_toArray, List.getElem?_cons_zero, List.getElem?_cons_succ] at kk0 kk1)
      have HRz2 := Lib.hid (hRv.set (.slice AE nE cE) 120)
      obtain ⟨U2, hU⟩ : ∃ u, (v2.setCell ⟨B8, 0, none⟩ (.slice AE nE cE)).setCell ⟨B8, 1, none⟩ (.int .i64 120) = u := ⟨_, rfl⟩
      rw [hU] at HRz2
      try rw [hU]
      have hzu2 : B8 < U2.heap.size := HRz2.out.rdr.lt
      clear hU hRv hbv kk0 kk1 gg0 gg1 k0 k1 OFF
      have k0 := HRz2.out.rdr.cell 0
      have k1 := HRz2.out.rdr.cell 1
      simp only [List.getElem?_toArray, List.getElem?_cons_zero, List.getElem?_cons_succ] at k0 k1
      have OFF := Lib.hid (fun (A : Option Addr) (n c : Nat) (W : World) => refNum_off A n c 2147483647 W)
      go_upto_region 11 with (go_at_call 43; (with_reducible refine (OFF.out _ _ _ _).mono ?_); rintro e v3 ⟨rfl, hbv⟩; have hRv := HRz2.out.keep hbv; have kk0 := hRv.rdr.cell 0; have kk1 := hRv.rdr.cell 1; have gg0 := hRv.rdr.frozen 0; have gg1 := hRv.rdr.frozen 1; simp only [List.getElem?_toArray, List.getElem?_cons_zero, List.getElem?_cons_succ] at kk0 kk1)
      have HRz3 := Lib.hid (hRv.set (.slice AE nE cE) 120)
      obtain ⟨U3, hU⟩ : ∃ u, (v3.setCell ⟨B8, 0, none⟩ (.slice AE nE cE)).setCell ⟨B8, 1, none⟩ (.int .i64 120) = u := ⟨_, rfl⟩
      rw [hU] at HRz3
      try rw [hU]
      have hzu3 : B8 < U3.heap.size := HRz3.out.rdr.lt
      clear hU hRv hbv kk0 kk1 gg0 gg1 k0 k1 OFF
      have k0 := HRz3.out.rdr.cell 0
      have k1 := HRz3.out.rdr.cell 1
      simp only [List.getElem?_toArray, List.getElem?_cons_zero, List.getElem?_cons_succ] at k0 k1
      have hlr : w.heap.size + 1 < U3.heap.size := HRz3.out.res.lt
      have r0 := HRz3.out.res.cell 0
      have r1 := HRz3.out.res.cell 1
      have r2 := HRz3.out.res.cell 2
      have g0 := HRz3.out.res.frozen 0
      have g1 := HRz3.out.res.frozen 1
      have g2 := HRz3.out.res.frozen 2
      simp only [List.getElem?_toArray, List.getElem?_cons_zero, List.getElem?_cons_succ] at r0 r1 r2
      go_wp2
      have hz := blk_set3 HRz3.out.res (.int .i64 0) (.int .i64 0) (.int .i64 0)
      have e0 := hz.cell 0
      have e1 := hz.cell 1
      have e2 := hz.cell 2
      simp only [List.getElem?_toArray, List.getElem?_cons_zero, List.getElem?_cons_succ] at e0 e1 e2
      refine bodyPost_ret (v := .tuple #[.agg #[.int .i64 0, .int .i64 0, .int .i64 0], .int .i64 161]) (by simp [results, Tryz.results19, go_sem, e0, e1, e2]) rfl ⟨by rw [opened_1 HY0.out HN1.out]; rfl, ?_⟩
      exact (((HRz3.out.below).setCell (p := ⟨w.heap.size + 1, 0, none⟩) (by simp) _).setCell (p := ⟨w.heap.size + 1, 1, none⟩) (by simp) _).setCell (p := ⟨w.heap.size + 1, 2, none⟩) (by simp) _
    | some p =>
      obtain ⟨l2, x1⟩ := p
      have hbd := numO_bound hst1
      obtain ⟨xm, rfl⟩ : ∃ y : Nat, x1 = (y : Int) := ⟨x1.toNat, by omega⟩
      have hx1 : xm ≤ 15 := by have := hbd.2.1; omega
      have HY1 := Lib.hid hst1
      have YES := Lib.hid (refNum_yes b0 of0 n0 c0 l1 l2 15 xm V0 ⟨HLN0.out.1, HLN0.out.2, Rd.more HRD80.out (by omega)⟩ (by omega) (by omega) hst1)
      clear hst1 hbd
      have k0 := HR80.out.rdr.cell 0
      have k1 := HR80.out.rdr.cell 1
      simp only [List.getElem?_toArray, List.getElem?_cons_zero, List.getElem?_cons_succ] at k0 k1
      go_upto_region 9 with (go_at_call 43; (with_reducible refine YES.out.mono ?_); rintro e v1 ⟨of1, n1, c1, rfl, hle1, hra, hbv⟩; have hRv := HR80.out.keep hbv; have kk0 := hRv.rdr.cell 0; have kk1 := hRv.rdr.cell 1; have gg0 := hRv.rdr.frozen 0; have gg1 := hRv.rdr.frozen 1; simp only [List.getElem?_toArray, List.getElem?_cons_zero, List.getElem?_cons_succ] at kk0 kk1)
      have HR81 := Lib.hid (hRv.set (.slice (some ⟨b0, of1, none⟩) n1 c1) 0)
      have hszv : B8 ≤ v1.heap.size := by have := hRv.rdr.lt; omega
      have HRD81 := Lib.hid (Rd.set2 (Rd.bound hra.rd hb0) hszv (.slice (some ⟨b0, of1, none⟩) n1 c1) (.int .i64 0))
      have HRB81 := Lib.hid (Rd.set2 ((HRB80.out).belowTo hbv (by omega)) hszv (.slice (some ⟨b0, of1, none⟩) n1 c1) (.int .i64 0))
      have HLN1 := Lib.hid (And.intro hra.len hra.room)
      obtain ⟨V1, hV⟩ : ∃ u, (v1.setCell ⟨B8, 0, none⟩ (.slice (some ⟨b0, of1, none⟩) n1 c1)).setCell ⟨B8, 1, none⟩ (.int .i64 0) = u := ⟨_, rfl⟩
      rw [hV] at HR81 HRD81 HRB81
      try rw [hV]
      have hzv1 : B8 < V1.heap.size := HR81.out.rdr.lt
      clear hV hRv hbv hra hszv kk0 kk1 gg0 gg1 k0 k1 YES
      cases hst2 : numO l2 2147483647 with
      | none =>
        have HN2 := Lib.hid hst2
        have NAY := Lib.hid (refNum_nay (some ⟨b0, of1, none⟩) n1 c1 l2 2147483647 V1 ⟨HLN1.out.1, HLN1.out.2, Rd.more HRD81.out (by omega)⟩ (by omega) (by omega) hst2)
        clear hst2
        have k0 := HR81.out.rdr.cell 0
        have k1 := HR81.out.rdr.cell 1
        simp only [List.getElem?_toArray, List.getElem?_cons_zero, List.getElem?_cons_succ] at k0 k1
        go_upto_region 10 with (go_at_call 43; (with_reducible refine NAY.out.mono ?_); rintro e v2 ⟨AE, nE, cE, rfl, hbv⟩; have hRv := HR81.out.keep hbv; have kk0 := hRv.rdr.cell 0; have kk1 := hRv.rdr.cell 1; have gg0 := hRv.rdr.frozen 0; have gg1 := hRv.rdr.frozen 1; simp only [List.getElem?_toArray, List.getElem?_cons_zero, List.getElem?_cons_succ] at kk0 kk1)
        have HRx := Lib.hid (hRv.set (.slice AE nE cE) 120)
        obtain ⟨U, hU⟩ : ∃ u, (v2.setCell ⟨B8, 0, none⟩ (.slice AE nE cE)).setCell ⟨B8, 1, none⟩ (.int .i64 120) = u := ⟨_, rfl⟩
        rw [hU] at HRx
        try rw [hU]
        have hzu : B8 < U.heap.size := HRx.out.rdr.lt
        clear hU hRv hbv kk0 kk1 gg0 gg1 k0 k1 NAY
        have k0 := HRx.out.rdr.cell 0
        have k1 := HRx.out.rdr.cell 1
        simp only [List.getElem?_toArray, List.getElem?_cons_zero, List.getElem?_cons_succ] at k0 k1
        have OFF := Lib.hid (fun (A : Option Addr) (n c : Nat) (W : World) => refNum_off A n c 2147483647 W)
        go_upto_region 11 with (go_at_call 43; (with_reducible refine (OFF.out _ _ _ _).mono ?_); rintro e v3 ⟨rfl, hbv⟩; have hRv := HRx.out.keep hbv; have kk0 := hRv.rdr.cell 0; have kk1 := hRv.rdr.cell 1; have gg0 := hRv.rdr.frozen 0; have gg1 := hRv.rdr.frozen 1; simp only [List.getElem?_toArray, List.getElem?_cons_zero, List.getElem?_cons_succ] at kk0 kk1)
        have HRz3 := Lib.hid (hRv.set (.slice AE nE cE) 120)
        obtain ⟨U3, hU⟩ : ∃ u, (v3.setCell ⟨B8, 0, none⟩ (.slice AE nE cE)).setCell ⟨B8, 1, none⟩ (.int .i64 120) = u := ⟨_, rfl⟩
        rw [hU] at HRz3
        try rw [hU]
        have hzu3 : B8 < U3.heap.size := HRz3.out.rdr.lt
        clear hU hRv hbv kk0 kk1 gg0 gg1 k0 k1 OFF
        have k0 := HRz3.out.rdr.cell 0
        have k1 := HRz3.out.rdr.cell 1
        simp only [List.getElem?_toArray, List.getElem?_cons_zero, List.getElem?_cons_succ] at k0 k1
        have hlr : w.heap.size + 1 < U3.heap.size := HRz3.out.res.lt
        have r0 := HRz3.out.res.cell 0
        have r1 := HRz3.out.res.cell 1
        have r2 := HRz3.out.res.cell 2
        have g0 := HRz3.out.res.frozen 0
        have g1 := HRz3.out.res.frozen 1
        have g2 := HRz3.out.res.frozen 2
        simp only [List.getElem?_toArray, List.getElem?_cons_zero, List.getElem?_cons_succ] at r0 r1 r2
        go_wp2
        have hz := blk_set3 HRz3.out.res (.int .i64 0) (.int .i64 0) (.int .i64 0)
        have e0 := hz.cell 0
        have e1 := hz.cell 1
        have e2 := hz.cell 2
        simp only [List.getElem?_toArray, List.getElem?_cons_zero, List.getElem?_cons_succ] at e0 e1 e2
        refine bodyPost_ret (v := .tuple #[.agg #[.int .i64 0, .int .i64 0, .int .i64 0], .int .i64 161]) (by simp [results, Tryz.results19, go_sem, e0, e1, e2]) rfl ⟨by rw [opened_2 HY0.out HY1.out HN2.out]; rfl, ?_⟩
        exact (((HRz3.out.below).setCell (p := ⟨w.heap.size + 1, 0, none⟩) (by simp) _).setCell (p := ⟨w.heap.size + 1, 1, none⟩) (by simp) _).setCell (p := ⟨w.heap.size + 1, 2, none⟩) (by simp) _
      | some p =>
        obtain ⟨l3, x2⟩ := p
        have hbd := numO_bound hst2
        obtain ⟨xs, rfl⟩ : ∃ y : Nat, x2 = (y : Int) := ⟨x2.toNat, by omega⟩
        have hx2 : xs ≤ 2147483647 := by have := hbd.2.1; omega
        have HY2 := Lib.hid hst2
        have YES := Lib.hid (refNum_yes b0 of1 n1 c1 l2 l3 2147483647 xs V1 ⟨HLN1.out.1, HLN1.out.2, Rd.more HRD81.out (by omega)⟩ (by omega) (by omega) hst2)
        clear hst2 hbd
        have k0 := HR81.out.rdr.cell 0
        have k1 := HR81.out.rdr.cell 1
        simp only [List.getElem?_toArray, List.getElem?_cons_zero, List.getElem?_cons_succ] at k0 k1
        go_upto_region 10 with (go_at_call 43; (with_reducible refine YES.out.mono ?_); rintro e v2 ⟨of2, n2, c2, rfl, hle2, hra, hbv⟩; have hRv := HR81.out.keep hbv; have kk0 := hRv.rdr.cell 0; have kk1 := hRv.rdr.cell 1; have gg0 := hRv.rdr.frozen 0; have gg1 := hRv.rdr.frozen 1; simp only [List.getElem?_toArray, List.getElem?_cons_zero, List.getElem?_cons_succ] at kk0 kk1)
        have HR82 := Lib.hid (hRv.set (.slice (some ⟨b0, of2, none⟩) n2 c2) 0)
        have hszv : B8 ≤ v2.heap.size := by have := hRv.rdr.lt; omega
        have HRD82 := Lib.hid (Rd.set2 (Rd.bound hra.rd hb0) hszv (.slice (some ⟨b0, of2, none⟩) n2 c2) (.int .i64 0))
        have HRB82 := Lib.hid (Rd.set2 ((HRB81.out).belowTo hbv (by omega)) hszv (.slice (some ⟨b0, of2, none⟩) n2 c2) (.int .i64 0))
        have HLN2 := Lib.hid (And.intro hra.len hra.room)
        obtain ⟨V2, hV⟩ : ∃ u, (v2.setCell ⟨B8, 0, none⟩ (.slice (some ⟨b0, of2, none⟩) n2 c2)).setCell ⟨B8, 1, none⟩ (.int .i64 0) = u := ⟨_, rfl⟩
        rw [hV] at HR82 HRD82 HRB82
        try rw [hV]
        have hzv2 : B8 < V2.heap.size := HR82.out.rdr.lt
        clear hV hRv hbv hra hszv kk0 kk1 gg0 gg1 k0 k1 YES
        cases hst3 : numO l3 2147483647 with
        | none =>
          have HN3 := Lib.hid hst3
          have NAY := Lib.hid (refNum_nay (some ⟨b0, of2, none⟩) n2 c2 l3 2147483647 V2 ⟨HLN2.out.1, HLN2.out.2, Rd.more HRD82.out (by omega)⟩ (by omega) (by omega) hst3)
          clear hst3
          have k0 := HR82.out.rdr.cell 0
          have k1 := HR82.out.rdr.cell 1
          simp only [List.getElem?_toArray, List.getElem?_cons_zero, List.getElem?_cons_succ] at k0 k1
          go_upto_region 11 with (go_at_call 43; (with_reducible refine NAY.out.mono ?_); rintro e v3 ⟨AE, nE, cE, rfl, hbv⟩; have hRv := HR82.out.keep hbv; have kk0 := hRv.rdr.cell 0; have kk1 := hRv.rdr.cell 1; have gg0 := hRv.rdr.frozen 0; have gg1 := hRv.rdr.frozen 1; simp only [List.getElem?_toArray, List.getElem?_cons_zero, List.getElem?_cons_succ] at kk0 kk1)
          have HRx := Lib.hid (hRv.set (.slice AE nE cE) 120)
          obtain ⟨U, hU⟩ : ∃ u, (v3.setCell ⟨B8, 0, none⟩ (.slice AE nE cE)).setCell ⟨B8, 1, none⟩ (.int .i64 120) = u := ⟨_, rfl⟩
          rw [hU] at HRx
          try rw [hU]
          have hzu : B8 < U.heap.size := HRx.out.rdr.lt
          clear hU hRv hbv kk0 kk1 gg0 gg1 k0 k1 NAY
          have k0 := HRx.out.rdr.cell 0
          have k1 := HRx.out.rdr.cell 1
          simp only [List.getElem?_toArray, List.getElem?_cons_zero, List.getElem?_cons_succ] at k0 k1
          have hlr : w.heap.size + 1 < U.heap.size := HRx.out.res.lt
          have r0 := HRx.out.res.cell 0
          have r1 := HRx.out.res.cell 1
          have r2 := HRx.out.res.cell 2
          have g0 := HRx.out.res.frozen 0
          have g1 := HRx.out.res.frozen 1
          have g2 := HRx.out.res.frozen 2
          simp only [List.getElem?_toArray, List.getElem?_cons_zero, List.getElem?_cons_succ] at r0 r1 r2
          go_wp2
          have hz := blk_set3 HRx.out.res (.int .i64 0) (.int .i64 0) (.int .i64 0)
          have e0 := hz.cell 0
          have e1 := hz.cell 1
          have e2 := hz.cell 2
          simp only [List.getElem?_toArray, List.getElem?_cons_zero, List.getElem?_cons_succ] at e0 e1 e2
          refine bodyPost_ret (v := .tuple #[.agg #[.int .i64 0, .int .i64 0, .int .i64 0], .int .i64 161]) (by simp [results, Tryz.results19, go_sem, e0, e1, e2]) rfl ⟨by rw [opened_3 HY0.out HY1.out HY2.out HN3.out]; rfl, ?_⟩
          exact (((HRx.out.below).setCell (p := ⟨w.heap.size + 1, 0, none⟩) (by simp) _).setCell (p := ⟨w.heap.size + 1, 1, none⟩) (by simp) _).setCell (p := ⟨w.heap.size + 1, 2, none⟩) (by simp) _
        | some p =>
          obtain ⟨l4, x3⟩ := p
          have hbd := numO_bound hst3
          obtain ⟨xi, rfl⟩ : ∃ y : Nat, x3 = (y : Int) := ⟨x3.toNat, by omega⟩
          have hx3 : xi ≤ 2147483647 := by have := hbd.2.1; omega
          have HY3 := Lib.hid hst3
          have YES := Lib.hid (refNum_yes b0 of2 n2 c2 l3 l4 2147483647 xi V2 ⟨HLN2.out.1, HLN2.out.2, Rd.more HRD82.out (by omega)⟩ (by omega) (by omega) hst3)
          clear hst3 hbd
          have k0 := HR82.out.rdr.cell 0
          have k1 := HR82.out.rdr.cell 1
          simp only [List.getElem?_toArray, List.getElem?_cons_zero, List.getElem?_cons_succ] at k0 k1
          go_upto_region 11 with (go_at_call 43; (with_reducible refine YES.out.mono ?_); rintro e v3 ⟨of3, n3, c3, rfl, hle3, hra, hbv⟩; have hRv := HR82.out.keep hbv; have kk0 := hRv.rdr.cell 0; have kk1 := hRv.rdr.cell 1; have gg0 := hRv.rdr.frozen 0; have gg1 := hRv.rdr.frozen 1; simp only [List.getElem?_toArray, List.getElem?_cons_zero, List.getElem?_cons_succ] at kk0 kk1)
          have HR83 := Lib.hid (hRv.set (.slice (some ⟨b0, of3, none⟩) n3 c3) 0)
          have hszv : B8 ≤ v3.heap.size := by have := hRv.rdr.lt; omega
          have HRD83 := Lib.hid (Rd.set2 (Rd.bound hra.rd hb0) hszv (.slice (some ⟨b0, of3, none⟩) n3 c3) (.int .i64 0))
          have HRB83 := Lib.hid (Rd.set2 ((HRB82.out).belowTo hbv (by omega)) hszv (.slice (some ⟨b0, of3, none⟩) n3 c3) (.int .i64 0))
          have HLN3 := Lib.hid (And.intro hra.len hra.room)
          obtain ⟨V3, hV⟩ : ∃ u, (v3.setCell ⟨B8, 0, none⟩ (.slice (some ⟨b0, of3, none⟩) n3 c3)).setCell ⟨B8, 1, none⟩ (.int .i64 0) = u := ⟨_, rfl⟩
          rw [hV] at HR83 HRD83 HRB83
          try rw [hV]
          have hzv3 : B8 < V3.heap.size := HR83.out.rdr.lt
          clear hV hRv hbv hra hszv kk0 kk1 gg0 gg1 k0 k1 YES
          have k0 := HR83.out.rdr.cell 0
          have k1 := HR83.out.rdr.cell 1
          simp only [List.getElem?_toArray, List.getElem?_cons_zero, List.getElem?_cons_succ] at k0 k1
          have hlr : w.heap.size + 1 < V3.heap.size := HR83.out.res.lt
          have hlr0 : w.heap.size < V3.heap.size := by omega
          have r0 := HR83.out.res.cell 0
          have r1 := HR83.out.res.cell 1
          have r2 := HR83.out.res.cell 2
          have g0 := HR83.out.res.frozen 0
          have g1 := HR83.out.res.frozen 1
          have g2 := HR83.out.res.frozen 2
          have q0 := HR83.out.key.cell 0
          have q1 := HR83.out.key.cell 1
          simp only [List.getElem?_toArray, List.getElem?_cons_zero, List.getElem?_cons_succ] at r0 r1 r2 q0 q1
          by_cases h16 : n3 = 16
          · subst h16
            by_cases hf0 : (xn : Int) < f
            · have hfn := Kd.lacks HD.out (n := (xn : Int)) (.inl (by rw [HF.out.1]; exact hf0))
              have HO := Lib.hid (opened_lacks HY0.out HY1.out HY2.out HY3.out HLN3.out.1 hfn)
              clear hfn
              go_wp2
              have hz := blk_set3 HR83.out.res (.int .i64 0) (.int .i64 0) (.int .i64 0)
              have e0 := hz.cell 0
              have e1 := hz.cell 1
              have e2 := hz.cell 2
              simp only [List.getElem?_toArray, List.getElem?_cons_zero, List.getElem?_cons_succ] at e0 e1 e2
              refine bodyPost_ret (v := .tuple #[.agg #[.int .i64 0, .int .i64 0, .int .i64 0], .int .i64 162]) (by simp [results, Tryz.results19, go_sem, e0, e1, e2]) rfl ⟨by rw [HO.out]; rfl, ?_⟩
              exact (((HR83.out.below).setCell (p := ⟨w.heap.size + 1, 0, none⟩) (by simp) _).setCell (p := ⟨w.heap.size + 1, 1, none⟩) (by simp) _).setCell (p := ⟨w.heap.size + 1, 2, none⟩) (by simp) _
            · have NEW := Lib.hid (fun W => refNewest_any f nm c A W hlo (by omega) (by omega))
              by_cases hf9 : f + (nm : Int) - 1 < (xn : Int)
              · have hfn := Kd.lacks HD.out (n := (xn : Int)) (.inr (by rw [HF.out.1, HF.out.2]; exact hf9))
                have HO := Lib.hid (opened_lacks HY0.out HY1.out HY2.out HY3.out HLN3.out.1 hfn)
                clear hfn
                go_upto_region 14 with (go_at_call 28; (with_reducible refine (NEW.out _).mono ?_); rintro e w85 ⟨rfl, hb85⟩)
                have HR85 := Lib.hid (HR83.out.keep hb85)
                have hl85 : w.heap.size + 1 < w85.heap.size := HR85.out.res.lt
                clear r0 r1 r2 g0 g1 g2 q0 q1 hb85 k0 k1
                have r0 := HR85.out.res.cell 0
                have r1 := HR85.out.res.cell 1
                have r2 := HR85.out.res.cell 2
                have g0 := HR85.out.res.frozen 0
                have g1 := HR85.out.res.frozen 1
                have g2 := HR85.out.res.frozen 2
                simp only [List.getElem?_toArray, List.getElem?_cons_zero, List.getElem?_cons_succ] at r0 r1 r2
                go_wp2
                have hz := blk_set3 HR85.out.res (.int .i64 0) (.int .i64 0) (.int .i64 0)
                have e0 := hz.cell 0
                have e1 := hz.cell 1
                have e2 := hz.cell 2
                simp only [List.getElem?_toArray, List.getElem?_cons_zero, List.getElem?_cons_succ] at e0 e1 e2
                refine bodyPost_ret (v := .tuple #[.agg #[.int .i64 0, .int .i64 0, .int .i64 0], .int .i64 162]) (by simp [results, Tryz.results19, go_sem, e0, e1, e2]) rfl ⟨by rw [HO.out]; rfl, ?_⟩
                exact (((HR85.out.below).setCell (p := ⟨w.heap.size + 1, 0, none⟩) (by simp) _).setCell (p := ⟨w.heap.size + 1, 1, none⟩) (by simp) _).setCell (p := ⟨w.heap.size + 1, 2, none⟩) (by simp) _
              · obtain ⟨q, hq⟩ : ∃ q : Nat, (xn : Int) - f = (q : Int) := ⟨((xn : Int) - f).toNat, by omega⟩
                have hqn : q < nm := by omega
                have hql : q < d.ms.length := by rw [HF.out.2]; exact hqn
                have hfin := opened_end HD.out hql (by rw [HF.out.1]; omega) HY0.out HY1.out HY2.out HY3.out HLN3.out.1
                have hms := (HD.out.size _ (List.getElem_mem hql)).2
                obtain ⟨bA, oA, rfl, hbA, _, hcA⟩ := HR.out (by rw [List.length_map]; exact HD.out.some)
                have hcq := hcA q (.string d.ms[q]) (by rw [List.getElem?_map, List.getElem?_eq_getElem hql]; rfl)
                obtain ⟨ma, hma⟩ : ∃ x, d.ms[q] = x := ⟨_, rfl⟩
                rw [hma] at hfin hms hcq
                have HFIN := Lib.hid hfin
                have hwr : IntKind.i64.wrap (q : Int) = (q : Int) := wrap64_small (by omega) (by omega)
                have hq0 : (0 : Int) ≤ (q : Int) := by omega
                have hqni : (q : Int) < (nm : Int) := by omega
                clear hfin hcA hma hql
                go_upto_region 14 with (go_at_call 28; (with_reducible refine (NEW.out _).mono ?_); rintro e w85 ⟨rfl, hb85⟩)
                go_upto_region 16 with fail
                obtain ⟨B17, hB17⟩ : ∃ b, w85.heap.size = b := ⟨_, rfl⟩
                obtain ⟨W16, hW16⟩ : ∃ v, w85.alloc (.cells #[.int .i64 (xm : Int), .int .i64 (xs : Int), .int .i64 (xi : Int)] 24) = v := ⟨_, rfl⟩
                have hb16 : Below V3.heap.size V3 W16 := by rw [← hW16]; exact hb85.alloc hb85.size _
                have hT16 : Blk W16 B17 24 #[.int .i64 (xm : Int), .int .i64 (xs : Int), .int .i64 (xi : Int)] := by rw [← hW16, ← hB17]; exact Blk.new w85 24 _
                have hR16 := HR83.out.keep hb16
                have hrb16 : Rd W16 B8 (some ⟨b0, off0, none⟩) bb := HRB83.out.belowTo hb16 (by omega)
                have hS : ∀ W : World, Below W16.heap.size W16 W → W.cell? ⟨w.heap.size, 0, none⟩ = some (.int .i64 f) ∧ W.cell? ⟨w.heap.size, 1, none⟩ = some (.slice (some ⟨bA, oA, none⟩) nm c) ∧ W.cell? ⟨B17, 0, none⟩ = some (.int .i64 (xm : Int)) ∧ W.cell? ⟨B17, 1, none⟩ = some (.int .i64 (xs : Int)) ∧ W.cell? ⟨B17, 2, none⟩ = some (.int .i64 (xi : Int)) ∧ W.cell? ⟨bA, oA + q, none⟩ = some (.string ma) ∧ (convert 0x38 9 (.slice (some ⟨b0, off0, none⟩) nb c6)).run Tryz.prog W = .ok (.string (strB bb)) W := fun W hb => by
                  have h0 := hR16.keep hb
                  have h1 := hT16.keep hb
                  have hz := hb.size
                  have hrbW := Rd.more (hrb16.belowTo hb (by have := hR16.rdr.lt; omega)) (show B8 ≤ W.heap.size by have := hR16.rdr.lt; omega)
                  exact ⟨h0.key.cell 0, h0.key.cell 1, h1.cell 0, h1.cell 1, h1.cell 2, (h0.below.cell (p := ⟨bA, oA + q, none⟩) hbA).trans hcq, conv_rd (c := c6) HNB.out hrbW⟩
                obtain ⟨G, hG⟩ : ∃ G, tokB ma xn xm xs xi = G := ⟨_, rfl⟩
                rw [hG] at HFIN
                have hWI : ∀ W : World, Below W16.heap.size W16 W → Calls Tryz.prog 20 #[.string ma, .int .i64 (xn : Int), .agg #[.int .i64 (xm : Int), .int .i64 (xs : Int), .int .i64 (xi : Int)]] W fun e w' => ∃ A c', e = .returned (.slice A G.length c') ∧ (convert 0x38 9 (.slice A G.length c')).run Tryz.prog w' = .ok (.string (strB G)) w' ∧ (w'.cell? ⟨w.heap.size, 0, none⟩ = some (.int .i64 f) ∧ w'.cell? ⟨w.heap.size, 1, none⟩ = some (.slice (some ⟨bA, oA, none⟩) nm c) ∧ w'.cell? ⟨B17, 0, none⟩ = some (.int .i64 (xm : Int)) ∧ w'.cell? ⟨B17, 1, none⟩ = some (.int .i64 (xs : Int)) ∧ w'.cell? ⟨B17, 2, none⟩ = some (.int .i64 (xi : Int)) ∧ w'.cell? ⟨bA, oA + q, none⟩ = some (.string ma) ∧ (convert 0x38 9 (.slice (some ⟨b0, off0, none⟩) nb c6)).run Tryz.prog w' = .ok (.string (strB bb)) w') ∧ Below W16.heap.size W16 w' := fun W hb => by
                  rw [← hG]
                  refine (refWith_any ma xn xm xs xi W (by omega) hx0 (by omega) hx2 hx3).mono ?_
                  rintro e w' ⟨A, c', rfl, ho, hb'⟩
                  have hbb := hb.trans (hb'.mono hb.size)
                  exact ⟨A, c', rfl, conv_rd rfl (Rd.of_own ho (Nat.le_refl _)), hS _ hbb, hbb⟩
                have WI := Lib.hid hWI
                have HR16 := Lib.hid hR16
                have HT16 := Lib.hid hT16
                have s0 := hS W16.drew (Below.refl _ _).drew
                have b0' : Below W16.heap.size W16 W16.drew := (Below.refl _ _).drew
                rw [hW16, hB17]
                clear hS hWI hR16 hT16 hrb16 hb16 hb85 hW16 hB17 hG NEW r0 r1 r2 g0 g1 g2 q0 q1 k0 k1 hcq hbA
                by_cases hGb : G = bb
                · have HO := Lib.hid (HFIN.out.trans (if_pos hGb))
                  rw [hGb] at WI
                  clear HFIN
                  go_region_held_law (fun W => W.cell? ⟨w.heap.size, 0, none⟩ = some (.int .i64 f) ∧ W.cell? ⟨w.heap.size, 1, none⟩ = some (.slice (some ⟨bA, oA, none⟩) nm c) ∧ W.cell? ⟨B17, 0, none⟩ = some (.int .i64 (xm : Int)) ∧ W.cell? ⟨B17, 1, none⟩ = some (.int .i64 (xs : Int)) ∧ W.cell? ⟨B17, 2, none⟩ = some (.int .i64 (xi : Int)) ∧ W.cell? ⟨bA, oA + q, none⟩ = some (.string ma) ∧ (convert 0x38 9 (.slice (some ⟨b0, off0, none⟩) nb c6)).run Tryz.prog W = .ok (.string (strB bb)) W)
                    (first | exact s20 | exact s0)
                    (first
                      | (go_at_call 20; (with_reducible refine (WI.out _ b0').mono ?_); rintro e w20 ⟨A20, c20, rfl, k20, s20, b20⟩))
                  have HR20 := Lib.hid (HR16.out.keep b20)
                  have HT20 := Lib.hid (HT16.out.keep b20)
                  have hl20 : w.heap.size + 1 < w20.heap.size := HR20.out.res.lt
                  have r0 := HR20.out.res.cell 0
                  have r1 := HR20.out.res.cell 1
                  have r2 := HR20.out.res.cell 2
                  have g0 := HR20.out.res.frozen 0
                  have g1 := HR20.out.res.frozen 1
                  have g2 := HR20.out.res.frozen 2
                  have t0 := HT20.out.cell 0
                  have t1 := HT20.out.cell 1
                  have t2 := HT20.out.cell 2
                  simp only [List.getElem?_toArray, List.getElem?_cons_zero, List.getElem?_cons_succ] at r0 r1 r2 t0 t1 t2
                  clear b20 s20 k20 s0 b0'
                  go_wp2
                  have hz := blk_set3 HR20.out.res (.int .i64 (xm : Int)) (.int .i64 (xs : Int)) (.int .i64 (xi : Int))
                  have e0 := hz.cell 0
                  have e1 := hz.cell 1
                  have e2 := hz.cell 2
                  simp only [List.getElem?_toArray, List.getElem?_cons_zero, List.getElem?_cons_succ] at e0 e1 e2
                  refine bodyPost_ret (v := .tuple #[.agg #[.int .i64 (xm : Int), .int .i64 (xs : Int), .int .i64 (xi : Int)], .int .i64 0]) (by simp [results, Tryz.results19, go_sem, e0, e1, e2]) rfl ⟨by rw [HO.out]; rfl, ?_⟩
                  exact ((HR20.out.below.setCell (p := ⟨w.heap.size + 1, 0, none⟩) (by simp) _).setCell (p := ⟨w.heap.size + 1, 1, none⟩) (by simp) _).setCell (p := ⟨w.heap.size + 1, 2, none⟩) (by simp) _
                · have HO := Lib.hid (HFIN.out.trans (if_neg hGb))
                  have hnb2 : ((strB G).toList == (strB bb).toList) = false := by
                    have : ¬ (strB G).toList = (strB bb).toList := fun h => hGb (by
                      rw [ByteArray.toList_eq, ByteArray.toList_eq] at h
                      exact strB_inj (ba_ext h))
                    simpa using this
                  obtain ⟨SG, hSG⟩ : ∃ x, strB G = x := ⟨_, rfl⟩
                  obtain ⟨SB, hSB⟩ : ∃ x, strB bb = x := ⟨_, rfl⟩
                  rw [hSG, hSB] at hnb2
                  rw [hSG] at WI
                  rw [hSB] at WI s0
                  clear HFIN hSG
                  go_region_held_law (fun W => W.cell? ⟨w.heap.size, 0, none⟩ = some (.int .i64 f) ∧ W.cell? ⟨w.heap.size, 1, none⟩ = some (.slice (some ⟨bA, oA, none⟩) nm c) ∧ W.cell? ⟨B17, 0, none⟩ = some (.int .i64 (xm : Int)) ∧ W.cell? ⟨B17, 1, none⟩ = some (.int .i64 (xs : Int)) ∧ W.cell? ⟨B17, 2, none⟩ = some (.int .i64 (xi : Int)) ∧ W.cell? ⟨bA, oA + q, none⟩ = some (.string ma) ∧ (convert 0x38 9 (.slice (some ⟨b0, off0, none⟩) nb c6)).run Tryz.prog W = .ok (.string (SB)) W)
                    (first | exact s20 | exact s0)
                    (first
                      | (go_at_call 20; (with_reducible refine (WI.out _ b0').mono ?_); rintro e w20 ⟨A20, c20, rfl, k20, s20, b20⟩))
                  have HR20 := Lib.hid (HR16.out.keep b20)
                  have hl20 : w.heap.size + 1 < w20.heap.size := HR20.out.res.lt
                  have r0 := HR20.out.res.cell 0
                  have r1 := HR20.out.res.cell 1
                  have r2 := HR20.out.res.cell 2
                  have g0 := HR20.out.res.frozen 0
                  have g1 := HR20.out.res.frozen 1
                  have g2 := HR20.out.res.frozen 2
                  simp only [List.getElem?_toArray, List.getElem?_cons_zero, List.getElem?_cons_succ] at r0 r1 r2
                  clear b20 s20 k20 s0 b0'
                  go_wp2
                  have hz := blk_set3 HR20.out.res (.int .i64 0) (.int .i64 0) (.int .i64 0)
                  have e0 := hz.cell 0
                  have e1 := hz.cell 1
                  have e2 := hz.cell 2
                  simp only [List.getElem?_toArray, List.getElem?_cons_zero, List.getElem?_cons_succ] at e0 e1 e2
                  refine bodyPost_ret (v := .tuple #[.agg #[.int .i64 0, .int .i64 0, .int .i64 0], .int .i64 161]) (by simp [results, Tryz.results19, go_sem, e0, e1, e2]) rfl ⟨by rw [HO.out]; rfl, ?_⟩
                  exact (((HR20.out.below).setCell (p := ⟨w.heap.size + 1, 0, none⟩) (by simp) _).setCell (p := ⟨w.heap.size + 1, 1, none⟩) (by simp) _).setCell (p := ⟨w.heap.size + 1, 2, none⟩) (by simp) _
          · have HO := Lib.hid (opened_short (k := d.pt) HY0.out HY1.out HY2.out HY3.out (by rw [HLN3.out.1]; exact h16))
            have h16i : ¬ (n3 : Int) = 16 := by omega
            go_wp2
            have hz := blk_set3 HR83.out.res (.int .i64 0) (.int .i64 0) (.int .i64 0)
            have e0 := hz.cell 0
            have e1 := hz.cell 1
            have e2 := hz.cell 2
            simp only [List.getElem?_toArray, List.getElem?_cons_zero, List.getElem?_cons_succ] at e0 e1 e2
            refine bodyPost_ret (v := .tuple #[.agg #[.int .i64 0, .int .i64 0, .int .i64 0], .int .i64 161]) (by simp [results, Tryz.results19, go_sem, e0, e1, e2]) rfl ⟨by rw [HO.out]; rfl, ?_⟩
            exact (((HR83.out.below).setCell (p := ⟨w.heap.size + 1, 0, none⟩) (by simp) _).setCell (p := ⟨w.heap.size + 1, 1, none⟩) (by simp) _).setCell (p := ⟨w.heap.size + 1, 2, none⟩) (by simp) _
theorem Sm.refOpen_any (d : Kd) (j c : Nat) (A : Option Addr) (s : ByteArray) (w : World) (hd : d.OK j) (hj : j ≤ 1000) (hr : Rds w (fun _ => False) A (d.ms.map Value.string)) :
    Calls Tryz.prog 19 #[.agg #[.int .i64 d.first, .slice A d.ms.length c], .string s] w fun e w' => e = .returned (OpenV (openS d.pt s)) ∧ Below w.heap.size w w' := by
  by_cases hs : 200 < s.size
  · exact refOpen_long d c A s w hs
  · cases hu : unspellS (sB s) with
    | none => exact refOpen_spell d c A s w (by omega) hu
    | some bb => exact refOpen_read d j c A s w hd hj hr (by omega) bb hu
end Go.Proofs
