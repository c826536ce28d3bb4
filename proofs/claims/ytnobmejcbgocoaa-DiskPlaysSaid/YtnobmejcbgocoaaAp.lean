/-
  What a disk that is none tells. What the calls answer that turn a disk, of one that is none. Append and Same of a disk that is none. What a disk that is none tells, and which calls play on one: the walk of DiskPlays. Conditions: as each theorem names them.
-/
import Derived.Test.YtnobmejcbgocoaaAd
namespace Go.Proofs
open Go Go.RowKit Sm Go.Lib Go.Maps Go.WideMaps
attribute [local go_sem] Oper.semAt_some
theorem Sm.names_no {v : Value} (w : World) (h : NoDisk w v) : Calls Try.prog 22 #[v] w fun e w' => e = .returned (.slice none 0 0) ∧ w = w' := by
  have ht := there_no w h
  clear h
  go_enter Try.func22, Try.ntmps22
  go_wp2_with (go_at_call 38; (with_reducible refine ht.mono ?_); rintro e w' ⟨rfl, rfl⟩)
  go_ret
  exact ⟨rfl, rfl⟩
theorem Sm.copy_no {v : Value} (w : World) (h : NoDisk w v) : Calls Try.prog 25 #[v] w fun e w' => e = .returned (.pointer none) ∧ w = w' := by
  have ht := there_no w h
  clear h
  go_enter Try.func25, Try.ntmps25
  go_wp2_with (go_at_call 38; (with_reducible refine ht.mono ?_); rintro e w' ⟨rfl, rfl⟩)
  go_ret
  exact ⟨rfl, rfl⟩
theorem Sm.find_noB {v : Value} (w : World) (h : NoDisk w v) : ∀ A n c W, Below w.heap.size w W → Calls Try.prog 36 #[v, .slice A n c] W fun e w' => e = .returned (.tuple #[.agg #[.slice none 0 0, .int .i64 0], .int .i64 1]) ∧ Below w.heap.size w w' := fun A n c W hb => by
  refine (find_no A n c W (h.keep hb)).mono ?_
  rintro e w' ⟨rfl, hb2⟩
  exact ⟨rfl, hb.trans (hb2.mono hb.size)⟩
theorem Sm.sure_no {v : Value} (x : ByteArray) (w : World) (h : NoDisk w v) : Calls Try.prog 13 #[v, .string x] w fun e w' => e = .returned (.tuple #[.int .i64 0, .int .i64 1]) ∧ Below w.heap.size w w' := by
  have hf := find_noB w h
  clear h
  go_enter Try.func13, Try.ntmps13
  go_wp2_with (go_at_call 36; (with_reducible refine (hf _ _ _ _ ((Below.refl _ w).alloc (Nat.le_refl _) _)).mono ?_); clear hf; rintro e w1 ⟨rfl, hb1⟩)
  go_ret2
  exact ⟨rfl, hb1.trans (((Below.refl _ w1).alloc (Nat.le_refl _) _).mono hb1.size)⟩
theorem Sm.read_no {v : Value} (x : ByteArray) (w : World) (h : NoDisk w v) : Calls Try.prog 12 #[v, .string x] w fun e w' => ∃ A c, e = .returned (.tuple #[.slice A 0 c, .int .i64 1]) ∧ Below w.heap.size w w' := by
  have hf := find_noB w h
  have hfi : ∀ W, Calls Try.prog 37 #[.slice none 0 0, .int .i64 0] W fun e w' => ∃ A c, e = .returned (.slice A 0 c) ∧ Below W.heap.size W w' := fun W => by
    refine (first_any (base := 0) none [] 0 W (World.ownsRow_nil _ _ _ _) (Nat.le_refl _) (by omega)).mono ?_
    rintro e w' ⟨A, c, rfl, _, hb⟩
    exact ⟨A, c, rfl, hb⟩
  clear h
  go_enter Try.func12, Try.ntmps12
  go_wp2_with (first | (go_at_call 36; (with_reducible refine (hf _ _ _ _ ((Below.refl _ w).alloc (Nat.le_refl _) _)).mono ?_); clear hf; rintro e w1 ⟨rfl, hb1⟩) | (go_at_call 37; (with_reducible refine (hfi _).mono ?_); rintro e w2 ⟨A, c, rfl, hb2⟩))
  go_ret2
  have hb3 : Below w.heap.size w (w1.alloc (.cells #[.slice none 0 0, .int .i64 0] 79)) := hb1.trans (((Below.refl _ w1).alloc (Nat.le_refl _) _).mono hb1.size)
  exact ⟨A, c, rfl, hb3.trans (hb2.mono hb3.size)⟩
theorem Sm.crash_no {v : Value} (A : Option Addr) (n c : Nat) (w : World) (h : NoDisk w v) : Calls Try.prog 14 #[v, .slice A n c] w fun e w' => e = .returned (.tuple #[.pointer none, .int .i64 1]) ∧ Below w.heap.size w w' := by
  have hb : Below w.heap.size w (w.alloc (.cells #[.slice A n c] 62)) := (Below.refl _ w).alloc (Nat.le_refl _) _
  have ht := there_no _ (h.keep hb)
  clear h
  go_enter Try.func14, Try.ntmps14
  go_wp2_with (go_at_call 38; (with_reducible refine ht.mono ?_); rintro e w' ⟨rfl, rfl⟩)
  go_ret2
  exact ⟨rfl, hb⟩
theorem Sm.find_noC {v : Value} (w : World) (h : NoDisk w v) : ∀ A n c W, Below w.heap.size w W → Calls Try.prog 36 #[v, .slice A n c] W fun e w' => e = .returned (.tuple #[.agg #[.slice none 0 0, .int .i64 0], .int .i64 1]) ∧ Below W.heap.size W w' := fun A n c W hb => by
  refine (find_no A n c W (h.keep hb)).mono ?_
  rintro e w' ⟨rfl, hb2⟩
  exact ⟨rfl, hb2⟩
set_option maxRecDepth 100000 in
set_option maxHeartbeats 2000000 in
theorem Sm.sync_no {v : Value} (x : ByteArray) (w : World) (h : NoDisk w v) : Calls Try.prog 17 #[v, .string x] w fun e w' => e = .returned (.int .i64 1) ∧ Below w.heap.size w w' := by
  obtain ⟨pa, rfl⟩ : ∃ pa, v = .pointer pa := by
    rcases h with rfl | ⟨q, rfl, _⟩
    · exact ⟨_, rfl⟩
    · exact ⟨_, rfl⟩
  have hf := find_noC w h
  obtain ⟨w2, hw2⟩ : ∃ w2, (w.alloc (.cells #[.pointer pa] 25)).alloc (.cells #[.string x] 9) = w2 := ⟨_, rfl⟩
  have hb2 : Below w.heap.size w w2 := by rw [← hw2]; exact ((Below.refl _ w).alloc (Nat.le_refl _) _).alloc (by simp) _
  have hd : w2.heap[w.heap.size]? = some (.cells #[.pointer pa] 25 (0, 0)) := by rw [← hw2]; exact (Below.heap_alloc _ _ _ (by simp)).trans (World.alloc_heap_new w _)
  have hx : w2.heap[w.heap.size + 1]? = some (.cells #[.string x] 9 (0, 0)) := by
    rw [← hw2]
    exact (by
      have := World.alloc_heap_new (w.alloc (.cells #[.pointer pa] 25)) (.cells #[.string x] 9)
      rwa [World.size_alloc] at this)
  have c1 := cell_of_heap hd 0
  have c2 := cell_of_heap hx 0
  simp only [List.getElem?_toArray, List.getElem?_cons_zero] at c1 c2
  have HW2 := Lib.hid hw2
  have HB2 := Lib.hid hb2
  have HD2 := Lib.hid hd
  have hdl := (Array.getElem?_eq_some_iff.1 hd).1
  clear h hw2 hb2 hd hx
  go_enter Try.func17, Try.ntmps17
  go_upto_region 1 with fail
  rw [HW2.out]
  go_upto_region 2 with (go_at_call 36; (with_reducible refine (hf _ _ _ _ (HB2.out.trans (((Below.refl _ w2).alloc (Nat.le_refl _) _).mono HB2.out.size))).mono ?_); clear hf; rintro e w3 ⟨rfl, hb3⟩)
  have hbA : Below w2.heap.size w2 (w2.alloc (.cells #[.string x] 9)) := (Below.refl _ w2).alloc (Nat.le_refl _) _
  have hb23 : Below w2.heap.size w2 w3 := hbA.trans (hb3.mono hbA.size)
  obtain ⟨w4, hw4⟩ : ∃ w4, w3.alloc (.cells #[.slice none 0 0, .int .i64 0] 79) = w4 := ⟨_, rfl⟩
  have hb34 : Below w3.heap.size w3 w4 := by rw [← hw4]; exact (Below.refl _ w3).alloc (Nat.le_refl _) _
  have hb24 : Below w2.heap.size w2 w4 := hb23.trans (hb34.mono hb23.size)
  have hd4 := (hb24.block _ hdl).trans HD2.out
  have d4 := cell_of_heap hd4 0
  simp only [List.getElem?_toArray, List.getElem?_cons_zero] at d4
  have HB4 := Lib.hid (HB2.out.trans (hb24.mono HB2.out.size))
  rw [hw4]
  clear hw4 c1 c2 hd4 hb34 hb23 hb24 hbA hb3
  go_wp2_with (go_at_call 46; (with_reducible refine (do_why _ _ 1 (by decide) _).mono ?_); rintro e w5 ⟨rfl, rfl⟩)
  go_ret
  exact ⟨rfl, HB4.out⟩
set_option maxRecDepth 100000 in
set_option maxHeartbeats 2000000 in
theorem Sm.remove_no {v : Value} (x : ByteArray) (w : World) (h : NoDisk w v) : Calls Try.prog 19 #[v, .string x] w fun e w' => e = .returned (.int .i64 1) ∧ Below w.heap.size w w' := by
  obtain ⟨pa, rfl⟩ : ∃ pa, v = .pointer pa := by
    rcases h with rfl | ⟨q, rfl, _⟩
    · exact ⟨_, rfl⟩
    · exact ⟨_, rfl⟩
  have hf := find_noC w h
  obtain ⟨w2, hw2⟩ : ∃ w2, (w.alloc (.cells #[.pointer pa] 25)).alloc (.cells #[.string x] 9) = w2 := ⟨_, rfl⟩
  have hb2 : Below w.heap.size w w2 := by rw [← hw2]; exact ((Below.refl _ w).alloc (Nat.le_refl _) _).alloc (by simp) _
  have hd : w2.heap[w.heap.size]? = some (.cells #[.pointer pa] 25 (0, 0)) := by rw [← hw2]; exact (Below.heap_alloc _ _ _ (by simp)).trans (World.alloc_heap_new w _)
  have hx : w2.heap[w.heap.size + 1]? = some (.cells #[.string x] 9 (0, 0)) := by
    rw [← hw2]
    exact (by
      have := World.alloc_heap_new (w.alloc (.cells #[.pointer pa] 25)) (.cells #[.string x] 9)
      rwa [World.size_alloc] at this)
  have c1 := cell_of_heap hd 0
  have c2 := cell_of_heap hx 0
  simp only [List.getElem?_toArray, List.getElem?_cons_zero] at c1 c2
  have HW2 := Lib.hid hw2
  have HB2 := Lib.hid hb2
  have HD2 := Lib.hid hd
  have hdl := (Array.getElem?_eq_some_iff.1 hd).1
  clear h hw2 hb2 hd hx
  go_enter Try.func19, Try.ntmps19
  go_upto_region 1 with fail
  rw [HW2.out]
  go_upto_region 2 with (go_at_call 36; (with_reducible refine (hf _ _ _ _ (HB2.out.trans (((Below.refl _ w2).alloc (Nat.le_refl _) _).mono HB2.out.size))).mono ?_); clear hf; rintro e w3 ⟨rfl, hb3⟩)
  have hbA : Below w2.heap.size w2 (w2.alloc (.cells #[.string x] 9)) := (Below.refl _ w2).alloc (Nat.le_refl _) _
  have hb23 : Below w2.heap.size w2 w3 := hbA.trans (hb3.mono hbA.size)
  obtain ⟨w4, hw4⟩ : ∃ w4, w3.alloc (.cells #[.slice none 0 0, .int .i64 0] 79) = w4 := ⟨_, rfl⟩
  have hb34 : Below w3.heap.size w3 w4 := by rw [← hw4]; exact (Below.refl _ w3).alloc (Nat.le_refl _) _
  have hb24 : Below w2.heap.size w2 w4 := hb23.trans (hb34.mono hb23.size)
  have hd4 := (hb24.block _ hdl).trans HD2.out
  have d4 := cell_of_heap hd4 0
  simp only [List.getElem?_toArray, List.getElem?_cons_zero] at d4
  have HB4 := Lib.hid (HB2.out.trans (hb24.mono HB2.out.size))
  rw [hw4]
  clear hw4 c1 c2 hd4 hb34 hb23 hb24 hbA hb3
  go_wp2_with (go_at_call 46; (with_reducible refine (do_why _ _ 1 (by decide) _).mono ?_); rintro e w5 ⟨rfl, rfl⟩)
  go_ret
  exact ⟨rfl, HB4.out⟩
set_option maxRecDepth 100000 in
set_option maxHeartbeats 2000000 in
theorem Sm.cut_no {v : Value} (x : ByteArray) (k : Int) (w : World) (h : NoDisk w v) : Calls Try.prog 18 #[v, .string x, .int .i64 k] w fun e w' => e = .returned (.int .i64 1) ∧ Below w.heap.size w w' := by
  obtain ⟨pa, rfl⟩ : ∃ pa, v = .pointer pa := by
    rcases h with rfl | ⟨q, rfl, _⟩
    · exact ⟨_, rfl⟩
    · exact ⟨_, rfl⟩
  have hf := find_noC w h
  obtain ⟨w2, hw2⟩ : ∃ w2, ((w.alloc (.cells #[.pointer pa] 25)).alloc (.cells #[.string x] 9)).alloc (.cells #[.int .i64 k] 3) = w2 := ⟨_, rfl⟩
  have hb2 : Below w.heap.size w w2 := by rw [← hw2]; exact (((Below.refl _ w).alloc (Nat.le_refl _) _).alloc (by simp) _).alloc (by simp; omega) _
  have hd : w2.heap[w.heap.size]? = some (.cells #[.pointer pa] 25 (0, 0)) := by rw [← hw2]; exact (Below.heap_alloc _ _ _ (by simp; omega)).trans ((Below.heap_alloc _ _ _ (by simp)).trans (World.alloc_heap_new w _))
  have hx : w2.heap[w.heap.size + 1]? = some (.cells #[.string x] 9 (0, 0)) := by
    rw [← hw2]
    exact (by
      refine (Below.heap_alloc _ _ _ (by simp)).trans ?_
      have := World.alloc_heap_new (w.alloc (.cells #[.pointer pa] 25)) (.cells #[.string x] 9)
      rwa [World.size_alloc] at this)
  have he : w2.heap[w.heap.size + 1 + 1]? = some (.cells #[.int .i64 k] 3 (0, 0)) := by
    rw [← hw2]
    have := World.alloc_heap_new ((w.alloc (.cells #[.pointer pa] 25)).alloc (.cells #[.string x] 9)) (.cells #[.int .i64 k] 3)
    rwa [World.size_alloc, World.size_alloc] at this
  have c1 := cell_of_heap hd 0
  have c2 := cell_of_heap hx 0
  simp only [List.getElem?_toArray, List.getElem?_cons_zero] at c1 c2
  have c3 := cell_of_heap he 0
  simp only [List.getElem?_toArray, List.getElem?_cons_zero] at c3
  have HW2 := Lib.hid hw2
  have HB2 := Lib.hid hb2
  have HD2 := Lib.hid hd
  have hdl := (Array.getElem?_eq_some_iff.1 hd).1
  clear h hw2 hb2 hd hx
  go_enter Try.func18, Try.ntmps18
  go_upto_region 1 with fail
  rw [HW2.out]
  go_upto_region 2 with (go_at_call 36; (with_reducible refine (hf _ _ _ _ (HB2.out.trans (((Below.refl _ w2).alloc (Nat.le_refl _) _).mono HB2.out.size))).mono ?_); clear hf; rintro e w3 ⟨rfl, hb3⟩)
  have hbA : Below w2.heap.size w2 (w2.alloc (.cells #[.string x] 9)) := (Below.refl _ w2).alloc (Nat.le_refl _) _
  have hb23 : Below w2.heap.size w2 w3 := hbA.trans (hb3.mono hbA.size)
  obtain ⟨w4, hw4⟩ : ∃ w4, w3.alloc (.cells #[.slice none 0 0, .int .i64 0] 79) = w4 := ⟨_, rfl⟩
  have hb34 : Below w3.heap.size w3 w4 := by rw [← hw4]; exact (Below.refl _ w3).alloc (Nat.le_refl _) _
  have hb24 : Below w2.heap.size w2 w4 := hb23.trans (hb34.mono hb23.size)
  have hd4 := (hb24.block _ hdl).trans HD2.out
  have d4 := cell_of_heap hd4 0
  simp only [List.getElem?_toArray, List.getElem?_cons_zero] at d4
  have HB4 := Lib.hid (HB2.out.trans (hb24.mono HB2.out.size))
  rw [hw4]
  clear hw4 c1 c2 c3 hd4 hb34 hb23 hb24 hbA hb3
  go_wp2_with (go_at_call 46; (with_reducible refine (do_why _ _ 1 (by decide) _).mono ?_); rintro e w5 ⟨rfl, rfl⟩)
  go_ret
  exact ⟨rfl, HB4.out⟩
set_option maxRecDepth 100000 in
set_option maxHeartbeats 2000000 in
theorem Sm.rename_no {v : Value} (x : ByteArray) (u : ByteArray) (w : World) (h : NoDisk w v) : Calls Try.prog 20 #[v, .string x, .string u] w fun e w' => e = .returned (.int .i64 1) ∧ Below w.heap.size w w' := by
  obtain ⟨pa, rfl⟩ : ∃ pa, v = .pointer pa := by
    rcases h with rfl | ⟨q, rfl, _⟩
    · exact ⟨_, rfl⟩
    · exact ⟨_, rfl⟩
  have hf := find_noC w h
  obtain ⟨w2, hw2⟩ : ∃ w2, ((w.alloc (.cells #[.pointer pa] 25)).alloc (.cells #[.string x] 9)).alloc (.cells #[.string u] 9) = w2 := ⟨_, rfl⟩
  have hb2 : Below w.heap.size w w2 := by rw [← hw2]; exact (((Below.refl _ w).alloc (Nat.le_refl _) _).alloc (by simp) _).alloc (by simp; omega) _
  have hd : w2.heap[w.heap.size]? = some (.cells #[.pointer pa] 25 (0, 0)) := by rw [← hw2]; exact (Below.heap_alloc _ _ _ (by simp; omega)).trans ((Below.heap_alloc _ _ _ (by simp)).trans (World.alloc_heap_new w _))
  have hx : w2.heap[w.heap.size + 1]? = some (.cells #[.string x] 9 (0, 0)) := by
    rw [← hw2]
    exact (by
      refine (Below.heap_alloc _ _ _ (by simp)).trans ?_
      have := World.alloc_heap_new (w.alloc (.cells #[.pointer pa] 25)) (.cells #[.string x] 9)
      rwa [World.size_alloc] at this)
  have he : w2.heap[w.heap.size + 1 + 1]? = some (.cells #[.string u] 9 (0, 0)) := by
    rw [← hw2]
    have := World.alloc_heap_new ((w.alloc (.cells #[.pointer pa] 25)).alloc (.cells #[.string x] 9)) (.cells #[.string u] 9)
    rwa [World.size_alloc, World.size_alloc] at this
  have c1 := cell_of_heap hd 0
  have c2 := cell_of_heap hx 0
  simp only [List.getElem?_toArray, List.getElem?_cons_zero] at c1 c2
  have c3 := cell_of_heap he 0
  simp only [List.getElem?_toArray, List.getElem?_cons_zero] at c3
  have HW2 := Lib.hid hw2
  have HB2 := Lib.hid hb2
  have HD2 := Lib.hid hd
  have hdl := (Array.getElem?_eq_some_iff.1 hd).1
  clear h hw2 hb2 hd hx
  go_enter Try.func20, Try.ntmps20
  go_upto_region 1 with fail
  rw [HW2.out]
  go_upto_region 2 with (go_at_call 36; (with_reducible refine (hf _ _ _ _ (HB2.out.trans (((Below.refl _ w2).alloc (Nat.le_refl _) _).mono HB2.out.size))).mono ?_); clear hf; rintro e w3 ⟨rfl, hb3⟩)
  have hbA : Below w2.heap.size w2 (w2.alloc (.cells #[.string x, .string u] 9)) := (Below.refl _ w2).alloc (Nat.le_refl _) _
  have hb23 : Below w2.heap.size w2 w3 := hbA.trans (hb3.mono hbA.size)
  obtain ⟨w4, hw4⟩ : ∃ w4, w3.alloc (.cells #[.slice none 0 0, .int .i64 0] 79) = w4 := ⟨_, rfl⟩
  have hb34 : Below w3.heap.size w3 w4 := by rw [← hw4]; exact (Below.refl _ w3).alloc (Nat.le_refl _) _
  have hb24 : Below w2.heap.size w2 w4 := hb23.trans (hb34.mono hb23.size)
  have hd4 := (hb24.block _ hdl).trans HD2.out
  have d4 := cell_of_heap hd4 0
  simp only [List.getElem?_toArray, List.getElem?_cons_zero] at d4
  have HB4 := Lib.hid (HB2.out.trans (hb24.mono HB2.out.size))
  rw [hw4]
  clear hw4 c1 c2 c3 hd4 hb34 hb23 hb24 hbA hb3
  go_wp2_with (go_at_call 46; (with_reducible refine (do_why _ _ 1 (by decide) _).mono ?_); rintro e w5 ⟨rfl, rfl⟩)
  go_ret
  exact ⟨rfl, HB4.out⟩
set_option maxRecDepth 100000 in
set_option maxHeartbeats 2000000 in
theorem Sm.append_no {v : Value} (x : ByteArray) (A : Option Addr) (n c : Nat) (w : World) (h : NoDisk w v) : Calls Try.prog 16 #[v, .string x, .slice A n c] w fun e w' => e = .returned (.int .i64 1) ∧ Below w.heap.size w w' := by
  obtain ⟨pa, rfl⟩ : ∃ pa, v = .pointer pa := by
    rcases h with rfl | ⟨q, rfl, _⟩
    · exact ⟨_, rfl⟩
    · exact ⟨_, rfl⟩
  have hf := fun A n c W (hb : Below w.heap.size w W) => check_no A n c W (h.keep hb)
  obtain ⟨w2, hw2⟩ : ∃ w2, ((w.alloc (.cells #[.pointer pa] 25)).alloc (.cells #[.string x] 9)).alloc (.cells #[.slice A n c] 36) = w2 := ⟨_, rfl⟩
  have hb2 : Below w.heap.size w w2 := by rw [← hw2]; exact (((Below.refl _ w).alloc (Nat.le_refl _) _).alloc (by simp) _).alloc (by simp; omega) _
  have hd : w2.heap[w.heap.size]? = some (.cells #[.pointer pa] 25 (0, 0)) := by rw [← hw2]; exact (Below.heap_alloc _ _ _ (by simp; omega)).trans ((Below.heap_alloc _ _ _ (by simp)).trans (World.alloc_heap_new w _))
  have hx : w2.heap[w.heap.size + 1]? = some (.cells #[.string x] 9 (0, 0)) := by
    rw [← hw2]
    refine (Below.heap_alloc _ _ _ (by simp)).trans ?_
    have := World.alloc_heap_new (w.alloc (.cells #[.pointer pa] 25)) (.cells #[.string x] 9)
    rwa [World.size_alloc] at this
  have c1 := cell_of_heap hd 0
  have c2 := cell_of_heap hx 0
  simp only [List.getElem?_toArray, List.getElem?_cons_zero] at c1 c2
  have HW2 := Lib.hid hw2
  have HB2 := Lib.hid hb2
  have HD2 := Lib.hid hd
  have hdl := (Array.getElem?_eq_some_iff.1 hd).1
  clear h hw2 hb2 hd hx
  go_enter Try.func16, Try.ntmps16
  go_upto_region 1 with fail
  rw [HW2.out]
  go_upto_region 2 with (go_at_call 45; (with_reducible refine (hf _ _ _ _ (HB2.out.trans (((Below.refl _ w2).alloc (Nat.le_refl _) _).mono HB2.out.size))).mono ?_); clear hf; rintro e w3 ⟨rfl, hb3⟩)
  have hbA : Below w2.heap.size w2 (w2.alloc (.cells #[.string x] 9)) := (Below.refl _ w2).alloc (Nat.le_refl _) _
  have hb23 : Below w2.heap.size w2 w3 := hbA.trans (hb3.mono hbA.size)
  have hd3 := (hb23.block _ hdl).trans HD2.out
  have HB3 := Lib.hid (HB2.out.trans (hb23.mono HB2.out.size))
  clear c1 c2 hb23 hbA hb3
  go_quiet (fail)
  obtain ⟨w4, hw4⟩ : ∃ w4, w3.drewN nq = w4 := ⟨_, rfl⟩
  have hb34 : Below w3.heap.size w3 w4 := by rw [← hw4]; exact (Below.refl _ w3).trans ⟨rfl, rfl, rfl, Nat.le_refl _, fun _ _ => rfl⟩
  have hd4 : w4.heap[w.heap.size]? = some (.cells #[.pointer pa] 25 (0, 0)) := by rw [← hw4]; exact hd3
  have d4 := cell_of_heap hd4 0
  simp only [List.getElem?_toArray, List.getElem?_cons_zero] at d4
  have HB4 := Lib.hid (HB3.out.trans (hb34.mono HB3.out.size))
  rw [hw4]
  clear hw4 hd3 hd4 hb34
  go_wp2_with (go_at_call 46; (with_reducible refine (do_why _ _ 1 (by decide) _).mono ?_); rintro e w5 ⟨rfl, rfl⟩)
  go_ret
  exact ⟨rfl, HB4.out⟩
theorem Sm.same_no {v u : Value} (w : World) (h : NoDisk w v) (h2 : NoDisk w u) : Calls Try.prog 26 #[v, u] w fun e w' => e = .returned (.bool true) ∧ w = w' := by
  have t1 := there_no w h
  have t2 := there_no w h2
  clear h h2
  go_enter Try.func26, Try.ntmps26
  go_wp2_with (first | (go_at_call 38; (with_reducible refine t1.mono ?_); rintro e w1 ⟨rfl, rfl⟩) | (go_at_call 38; (with_reducible refine t2.mono ?_); rintro e w1 ⟨rfl, rfl⟩))
  go_ret
  exact ⟨rfl, rfl⟩
theorem Sm.NoDisk.nil (w : World) : NoDisk w (.pointer none) := .inl rfl
theorem Sm.same_there {p Mb base : Nat} {s : DSt} {G : List FileM} {u : Value} (w : World) (h : DAt w p Mb base s G) (h2 : NoDisk w u) : Calls Try.prog 26 #[.pointer (some ⟨p, 0, none⟩), u] w fun e w' => e = .returned (.bool false) ∧ w = w' := by
  have t1 := there_yes w h
  have t2 := there_no w h2
  clear h h2
  go_enter Try.func26, Try.ntmps26
  go_wp2_with (first | (go_at_call 38; (with_reducible refine t1.mono ?_); rintro e w1 ⟨rfl, rfl⟩) | (go_at_call 38; (with_reducible refine t2.mono ?_); rintro e w1 ⟨rfl, rfl⟩))
  go_ret
  exact ⟨rfl, rfl⟩
theorem Sm.same_here {p Mb base : Nat} {s : DSt} {G : List FileM} {u : Value} (w : World) (h : DAt w p Mb base s G) (h2 : NoDisk w u) : Calls Try.prog 26 #[u, .pointer (some ⟨p, 0, none⟩)] w fun e w' => e = .returned (.bool false) ∧ w = w' := by
  have t1 := there_yes w h
  have t2 := there_no w h2
  clear h h2
  go_enter Try.func26, Try.ntmps26
  go_wp2_with (first | (go_at_call 38; (with_reducible refine t1.mono ?_); rintro e w1 ⟨rfl, rfl⟩) | (go_at_call 38; (with_reducible refine t2.mono ?_); rintro e w1 ⟨rfl, rfl⟩))
  go_ret
  exact ⟨rfl, rfl⟩
set_option maxRecDepth 100000 in
set_option maxHeartbeats 4000000 in
/-- a room that is none: nothing is played -/
theorem Sm.played_bad (r : Int) (hr : r < 1 ∨ 16777216 < r) (A : Option Addr) (n c : Nat) (w : World) :
    Calls Try.prog 11 #[.int .i64 r, .slice A n c] w fun e w' => e = .returned (.tuple #[.pointer none, .agg #[.int .i64 0, .slice none 0 0, .bool false, .int .i64 0, .bool false], .bool true]) ∧ Below w.heap.size w w' := by
  obtain ⟨n0, hn0⟩ : ∃ n0, w.heap.size = n0 := ⟨_, rfl⟩
  rw [hn0]
  obtain ⟨w1, hw1⟩ : ∃ w1, w.alloc (.cells #[.int .i64 0, .slice none 0 0, .bool false, .int .i64 0, .bool false] 28) = w1 := ⟨_, rfl⟩
  have hb1 : Below n0 w w1 := by rw [← hw1, ← hn0]; exact (Below.refl _ w).alloc (Nat.le_refl _) _
  have hr1 : w1.heap[n0]? = some (.cells #[.int .i64 0, .slice none 0 0, .bool false, .int .i64 0, .bool false] 28 (0, 0)) := by rw [← hw1, ← hn0]; exact World.alloc_heap_new w _
  have hlt1 := (Array.getElem?_eq_some_iff.1 hr1).1
  have hnew := new_bad r w1 hr
  have hrn := refNew_any r w1
  rw [if_pos hr] at hrn
  unfold refV at hrn
  dsimp only at hrn
  have HB1 := Lib.hid hb1
  have HR1 := Lib.hid hr1
  have HW1 := Lib.hid hw1
  have HN0 := Lib.hid hn0
  clear hb1 hr1 hw1 hr hn0
  go_enter Try.func11, Try.ntmps11
  go_upto_region 1 with fail
  rw [HW1.out, HN0.out]
  go_upto_region 3 with (first | (go_at_call 30; (with_reducible refine hnew.mono ?_); clear hnew; rintro e w2 ⟨rfl, rfl⟩) | (go_at_call 35; (with_reducible refine hrn.mono ?_); clear hrn; rintro e w3 ⟨rfl, hb3⟩))
  obtain ⟨b9, hb9⟩ : ∃ b9, w3.heap.size = b9 := ⟨_, rfl⟩
  obtain ⟨w4, hw4⟩ : ∃ w4, w3.alloc (.cells #[.int .i64 0, .slice none 0 0, .bool false, .int .i64 0, .bool false] 28) = w4 := ⟨_, rfl⟩
  have hb4 : Below b9 w3 w4 := by rw [← hw4, ← hb9]; exact (Below.refl _ w3).alloc (Nat.le_refl _) _
  have hr9 : w4.heap[b9]? = some (.cells #[.int .i64 0, .slice none 0 0, .bool false, .int .i64 0, .bool false] 28 (0, 0)) := by rw [← hw4, ← hb9]; exact World.alloc_heap_new w3 _
  have hs3 := hb3.size
  rw [hw4, hb9]
  have hb14 : Below w1.heap.size w1 w4 := hb3.trans (hb4.mono (by omega))
  have hnn : n0 ≠ b9 := by omega
  have HS6 : Hid (∀ W, But (fun b => b = n0) w4 W → W.cell? ⟨b9, 0, none⟩ = some (.int .i64 0) ∧ W.cell? ⟨b9, 1, none⟩ = some (.slice none 0 0) ∧ W.cell? ⟨b9, 2, none⟩ = some (.bool false) ∧ W.cell? ⟨b9, 3, none⟩ = some (.int .i64 0) ∧ W.cell? ⟨b9, 4, none⟩ = some (.bool false)) := Lib.hid (fun W hW => cells5 (hW.box hr9 (fun e => hnn e.symm)))
  have HR4 := Lib.hid ((hb14.block _ hlt1).trans HR1.out)
  have HB4 := Lib.hid (HB1.out.trans (hb14.mono (by omega)))
  clear hw4 hb9 hb4 hr9 hs3 hb3 hb14
  go_wp2_with (go_at_call 15; (with_reducible refine (num_any _ _ (by decide) (by decide)).mono ?_); rintro e w' ⟨rfl, rfl⟩)
  go_loopw [7, 11, 12] (fun v7 v11 v12 wr => v7 = .pointer none ∧ v11 = .bool true ∧ v12 = .int .i64 0 ∧ w4 = wr) (fun _ _ _ _ => 0)
  case atStart => exact ⟨rfl, rfl, rfl, rfl⟩
  case round =>
    obtain ⟨rfl, rfl, rfl, rfl⟩ := hrel
    cases hlt : decide ((0 : Int) < (n : Int))
    all_goals
      simp only [decide_eq_false_iff_not, decide_eq_true_eq] at hlt
      go_upto_region 9 with fail
      have hS0 : But (fun b => b = n0) w4 w4.drew := (But.refl _ w4).drew
      refine wp_region_held_drew (S := fun wx => But (fun b => b = n0) w4 wx) rfl hS0 (fun hHeld => ?_)
      simp only [List.size_toArray, List.length_cons, List.length_nil, Nat.reduceAdd]
      obtain ⟨V0, hV0⟩ : ∃ V, w4.drew = V := ⟨_, rfl⟩
      rw [hV0] at hHeld hS0 ⊢
      have hR7 : V0.heap[n0]? = some (.cells #[.int .i64 0, .slice none 0 0, .bool false, .int .i64 0, .bool false] 28 (0, 0)) := by rw [← hV0]; exact HR4.out
      clear hV0
      refine wpAnyH_take (i := 0) (v := .pointer none) rfl (by kernel_rfl) (by kernel_rfl) (by kernel_rfl) (fun _ _ _ h => h) (Or.inl ⟨by rfl, ?_⟩) (by assumption) ?_
      · intro wx hs1; go_simp
      (try simp only [Act.put, List.getElem_toArray, List.getElem_cons_zero, List.setIfInBounds_toArray, List.set_cons_zero, List.set_cons_succ])
      refine wpAnyH_take (i := 1) (v := .agg #[.int .i64 0, .slice none 0 0, .bool false, .int .i64 0, .bool false]) rfl (by kernel_rfl) (by kernel_rfl) (by kernel_rfl) (fun _ _ _ h => h) (Or.inl ⟨by rfl, ?_⟩) (by assumption) ?_
      · intro wx hs1; obtain ⟨x0, x1, x2, x3, x4⟩ := HS6.out wx hs1; go_simp
      (try simp only [Act.put, List.getElem_toArray, List.getElem_cons_succ, List.getElem_cons_zero, List.setIfInBounds_toArray, List.set_cons_zero, List.set_cons_succ])
      refine wpAnyH_take (i := 2) (v := .bool true) rfl (by kernel_rfl) (by kernel_rfl) (by kernel_rfl) (fun _ _ _ h => h) (Or.inl ⟨by rfl, ?_⟩) (by assumption) ?_
      · intro wx hs1; go_simp
      (try simp only [Act.put, List.getElem_toArray, List.getElem_cons_succ, List.getElem_cons_zero, List.setIfInBounds_toArray, List.set_cons_zero, List.set_cons_succ])
      refine wpAnyH_take (i := 3) (v := .bool true) rfl (by kernel_rfl) (by kernel_rfl) (by kernel_rfl) (fun _ _ _ h => h) (Or.inl ⟨by rfl, ?_⟩) (by assumption) ?_
      · intro wx hs1; go_simp
      (try simp only [Act.put, List.getElem_toArray, List.getElem_cons_succ, List.getElem_cons_zero, List.setIfInBounds_toArray, List.set_cons_zero, List.set_cons_succ])
      refine wpAnyH_take (i := 4) (v := .int .i64 2) rfl (by kernel_rfl) (by kernel_rfl) (by kernel_rfl) (fun _ _ _ h => h) (Or.inl ⟨by rfl, ?_⟩) (by assumption) ?_
      · intro wx hs1; go_simp
      (try simp only [Act.put, List.getElem_toArray, List.getElem_cons_succ, List.getElem_cons_zero, List.setIfInBounds_toArray, List.set_cons_zero, List.set_cons_succ])
      refine wpAnyH_take (i := 5) (v := .bool true) rfl (by kernel_rfl) (by kernel_rfl) (by kernel_rfl) (fun _ _ _ h => h) (Or.inl ⟨by rfl, ?_⟩) (by assumption) ?_
      · intro wx hs1; go_simp
      (try simp only [Act.put, List.getElem_toArray, List.getElem_cons_succ, List.getElem_cons_zero, List.setIfInBounds_toArray, List.set_cons_zero, List.set_cons_succ])
      refine wpAnyH_take (i := 6) (v := .bool true) rfl (by kernel_rfl) (by kernel_rfl) (by kernel_rfl) (fun _ _ _ h => h) (Or.inl ⟨by rfl, ?_⟩) (by assumption) ?_
      · intro wx hs1; go_simp
      (try simp only [Act.put, List.getElem_toArray, List.getElem_cons_succ, List.getElem_cons_zero, List.setIfInBounds_toArray, List.set_cons_zero, List.set_cons_succ])
      refine wpAnyH_take (i := 7) (v := undef) rfl (by kernel_rfl) (by kernel_rfl) (by kernel_rfl) (fun _ _ _ h => h) (Or.inr ⟨by rfl, rfl⟩) (by assumption) ?_
      (try simp only [Act.put, List.getElem_toArray, List.getElem_cons_succ, List.getElem_cons_zero, List.setIfInBounds_toArray, List.set_cons_zero, List.set_cons_succ])
      refine wpAnyH_take (i := 8) (v := undef) rfl (by kernel_rfl) (by kernel_rfl) (by kernel_rfl) (fun _ _ _ h => h) (Or.inr ⟨by rfl, rfl⟩) (by assumption) ?_
      (try simp only [Act.put, List.getElem_toArray, List.getElem_cons_succ, List.getElem_cons_zero, List.setIfInBounds_toArray, List.set_cons_zero, List.set_cons_succ])
      refine wpAnyH_take (i := 9) (v := undef) rfl (by kernel_rfl) (by kernel_rfl) (by kernel_rfl) (fun _ _ _ h => h) (Or.inr ⟨by rfl, rfl⟩) (by assumption) ?_
      (try simp only [Act.put, List.getElem_toArray, List.getElem_cons_succ, List.getElem_cons_zero, List.setIfInBounds_toArray, List.set_cons_zero, List.set_cons_succ])
      refine wpAnyH_take (i := 10) (v := .bool true) rfl (by kernel_rfl) (by kernel_rfl) (by kernel_rfl) (fun _ _ _ h => h) (Or.inl ⟨by rfl, ?_⟩) (by assumption) ?_
      · intro wx hs1; go_simp
      (try simp only [Act.put, List.getElem_toArray, List.getElem_cons_succ, List.getElem_cons_zero, List.setIfInBounds_toArray, List.set_cons_zero, List.set_cons_succ])
      refine wpAnyH_take (i := 11) (v := .bool true) rfl (by kernel_rfl) (by kernel_rfl) (by kernel_rfl) (fun _ _ _ h => h) (Or.inl ⟨by rfl, ?_⟩) (by assumption) ?_
      · intro wx hs1; go_simp
      (try simp only [Act.put, List.getElem_toArray, List.getElem_cons_succ, List.getElem_cons_zero, List.setIfInBounds_toArray, List.set_cons_zero, List.set_cons_succ])
      refine wpAnyH_take (i := 12) (v := .pointer none) rfl (by kernel_rfl) (by kernel_rfl) (by kernel_rfl) (fun _ _ _ h => h) (Or.inl ⟨by rfl, ?_⟩) (by assumption) ?_
      · intro wx hs1; go_simp
      (try simp only [Act.put, List.getElem_toArray, List.getElem_cons_succ, List.getElem_cons_zero, List.setIfInBounds_toArray, List.set_cons_zero, List.set_cons_succ])
      obtain ⟨k0, k1, k2, k3, k4⟩ := cells5 hR7
      have g0 := frozen_of_heap hR7 0
      have g1 := frozen_of_heap hR7 1
      have g2 := frozen_of_heap hR7 2
      have g3 := frozen_of_heap hR7 3
      have g4 := frozen_of_heap hR7 4
      have h8 := set5 hR7 (.int .i64 0) (.slice none 0 0) (.bool false) (.int .i64 0) (.bool false)
      have hbp := put5 V0 n0 (.int .i64 0) (.slice none 0 0) (.bool false) (.int .i64 0) (.bool false)
      refine wpAnyH_ready (rs := [13]) (by kernel_rfl) (by simp) (AllReadyH.cons rfl (fun K hK => ?_) AllReadyH.nil)
      go_simp
      obtain ⟨w8, hw8⟩ : ∃ w8, ((((V0.setCell ⟨n0, 0, none⟩ (.int .i64 0)).setCell ⟨n0, 1, none⟩ (.slice none 0 0)).setCell ⟨n0, 2, none⟩ (.bool false)).setCell ⟨n0, 3, none⟩ (.int .i64 0)).setCell ⟨n0, 4, none⟩ (.bool false) = w8 := ⟨_, rfl⟩
      rw [hw8] at h8 hbp ⊢
      clear hw8
      have hbq8 : But (fun b => b = n0) w4 w8 := hS0.trans hbp (fun b _ e => e)
      refine hK.out _ _ hbq8 (fun _ => ?_)
      clear hK K
      (try simp only [Act.put, List.getElem_toArray, List.getElem_cons_succ, List.getElem_cons_zero, List.setIfInBounds_toArray, List.set_cons_zero, List.set_cons_succ])
      refine wpAnyH_take (i := 14) (v := .bool true) rfl (by kernel_rfl) (by kernel_rfl) (by kernel_rfl) (fun _ _ _ h => h) (Or.inl ⟨by rfl, ?_⟩) (by assumption) ?_
      · intro wx hs1; go_simp
      (try simp only [Act.put, List.getElem_toArray, List.getElem_cons_succ, List.getElem_cons_zero, List.setIfInBounds_toArray, List.set_cons_zero, List.set_cons_succ])
      refine wpAnyH_done (by kernel_rfl) ?_ _
      obtain ⟨d0, d1, d2, d3, d4⟩ := cells5 h8
      go_wp2
      refine bodyPost_ret (v := .tuple #[.pointer none, .agg #[.int .i64 0, .slice none 0 0, .bool false, .int .i64 0, .bool false], .bool true]) (by simp [results, Try.results11, go_sem, d0, d1, d2, d3, d4]) rfl ?_
      exact ⟨rfl, HB4.out.trans (hbq8.to_below (by have := HB4.out.size; have := HN0.out; omega) (fun b e => by omega))⟩
set_option maxRecDepth 100000 in
set_option maxHeartbeats 4000000 in
theorem Sm.plays_law (r : Int) (A : Option Addr) (n c : Nat) (xs : List ActV) (w : World) (hn : xs.length = n) (hc : n ≤ c) (hc2 : c ≤ 9223372036854775807) (hR : RdActs w A xs) (hcame : ∀ x ∈ xs, x.came w) :
    Calls Try.prog 3 #[.int .i64 r, .slice A n c] w fun e w' => e = .returned (.bool true) ∧ Below w.heap.size w w' := by
  have hfew := few_any A n c xs 40 w hR hn hc hc2 hcame
  cases hf : fewM xs 40 with
  | false =>
    have hw0 := works_any w
    rw [hf] at hfew
    clear hR hn hcame
    go_enter Try.func3, Try.ntmps3
    go_wp2_with (first | (go_at_call 9; (with_reducible refine hfew.mono ?_); rintro e w' ⟨rfl, rfl⟩) | (go_at_call 10; (with_reducible refine hw0.mono ?_); rintro e w' ⟨rfl, hb⟩))
    go_ret
    exact ⟨rfl, hb⟩
  | true =>
    rw [hf] at hfew
    have hfs : (∀ x ∈ xs, smallA x = true) ∧ xs.length ≤ 40 := by
      unfold fewM at hf
      simp only [Bool.and_eq_true, decide_eq_true_eq] at hf
      exact ⟨List.all_eq_true.1 hf.1, by omega⟩
    have hn40 : n ≤ 40 := by omega
    obtain ⟨m, hm⟩ : ∃ m, (n : Int).tmod 2 = m := ⟨_, rfl⟩
    have hm01 : m = 0 ∨ m = 1 := by
      rw [← hm, Int.tmod_eq_emod_of_nonneg (by omega)]
      omega
    by_cases hr : r < 1 ∨ 16777216 < r
    · have hpl := played_bad r hr A n c w
      clear hR hn hcame hf hfs
      go_enter Try.func3, Try.ntmps3
      go_upto_region 4 with (first | (go_at_call 9; (with_reducible refine hfew.mono ?_); clear hfew; rintro e w' ⟨rfl, rfl⟩) | (go_at_call 11; (with_reducible refine hpl.mono ?_); clear hpl; rintro e w1 ⟨rfl, hb1⟩))
      rcases hm01 with rfl | rfl
      · have hmm : ((0 : Int) == 1) = false := by decide
        obtain ⟨w2, hw2⟩ : ∃ w2, w1.alloc (.cells #[.int .i64 0, .slice none 0 0, .bool false, .int .i64 0, .bool false] 28) = w2 := ⟨_, rfl⟩
        have hb12 : Below w1.heap.size w1 w2 := by rw [← hw2]; exact (Below.refl _ w1).alloc (Nat.le_refl _) _
        rw [hw2]
        clear hw2
        obtain ⟨wN, rfl⟩ : ∃ wN, wN = w2 := ⟨_, rfl⟩
        have hb2N : Below wN.heap.size wN wN := Below.refl _ _
        have HNO : Hid (∀ W, Below wN.heap.size wN W → NoDisk W (.pointer none)) := Lib.hid (fun W hW => .inl rfl)
        have hb1N : Below w1.heap.size w1 wN := hb12.trans (hb2N.mono hb12.size)
        have HB0N := Lib.hid (hb1.trans (hb1N.mono hb1.size))
        clear hb12 hb2N hb1N hb1
        go_wp2_with (first
      | (go_at_call 12; (with_reducible refine (read_no _ wN (HNO.out wN (Below.refl _ _))).mono ?_); rintro e wa ⟨Aa, ca, rfl, h1⟩)
      | (go_at_call 13; (with_reducible refine (sure_no _ wa (HNO.out wa h1)).mono ?_); rintro e wb ⟨rfl, hbb⟩; have h2 := h1.trans (hbb.mono h1.size))
      | (go_at_call 14; (with_reducible refine (crash_no _ _ _ wb (HNO.out wb h2)).mono ?_); rintro e wc ⟨rfl, hbc⟩; have h3 := h2.trans (hbc.mono h2.size))
      | (go_at_call 16; (with_reducible refine (append_no _ _ _ _ wc (HNO.out wc h3)).mono ?_); rintro e wd ⟨rfl, hbd⟩; have h4 := h3.trans (hbd.mono h3.size))
      | (go_at_call 17; (with_reducible refine (sync_no _ wd (HNO.out wd h4)).mono ?_); rintro e we ⟨rfl, hbe⟩; have h5 := h4.trans (hbe.mono h4.size))
      | (go_at_call 18; (with_reducible refine (cut_no _ _ we (HNO.out we h5)).mono ?_); rintro e wf ⟨rfl, hbf⟩; have h6 := h5.trans (hbf.mono h5.size))
      | (go_at_call 19; (with_reducible refine (remove_no _ wf (HNO.out wf h6)).mono ?_); rintro e wg ⟨rfl, hbg⟩; have h7 := h6.trans (hbg.mono h6.size))
      | (go_at_call 20; (with_reducible refine (rename_no _ _ wg (HNO.out wg h7)).mono ?_); rintro e wh ⟨rfl, hbh⟩; have h8 := h7.trans (hbh.mono h7.size))
      | (go_at_call 21; (with_reducible refine (stop_no _ wh (HNO.out wh h8)).mono ?_); rintro e w' ⟨rfl, rfl⟩)
      | (go_at_call 22; (with_reducible refine (names_no wh (HNO.out wh h8)).mono ?_); rintro e w' ⟨rfl, rfl⟩)
      | (go_at_call 23; (with_reducible refine (used_no wh (HNO.out wh h8)).mono ?_); rintro e w' ⟨rfl, rfl⟩)
      | (go_at_call 24; (with_reducible refine (dead_no wh (HNO.out wh h8)).mono ?_); rintro e w' ⟨rfl, rfl⟩)
      | (go_at_call 25; (with_reducible refine (copy_no wh (HNO.out wh h8)).mono ?_); rintro e w' ⟨rfl, rfl⟩)
      | (go_at_call 26; (with_reducible refine (same_no (u := .pointer none) wh (HNO.out wh h8) (NoDisk.nil wh)).mono ?_); rintro e w' ⟨rfl, rfl⟩)
      | (go_at_call 15; (with_reducible refine (num_any _ _ (by decide) (by decide)).mono ?_); rintro e w' ⟨rfl, rfl⟩)
      | (go_at_call 10; (with_reducible refine (works_any wh).mono ?_); rintro e wz ⟨rfl, hbz⟩))
        go_ret
        exact ⟨rfl, HB0N.out.trans ((h8.trans (hbz.mono h8.size)).mono HB0N.out.size)⟩
      · have hmm : ((1 : Int) == 1) = true := by decide
        obtain ⟨w2, hw2⟩ : ∃ w2, w1.alloc (.cells #[.int .i64 0, .slice none 0 0, .bool false, .int .i64 0, .bool false] 28) = w2 := ⟨_, rfl⟩
        have hb12 : Below w1.heap.size w1 w2 := by rw [← hw2]; exact (Below.refl _ w1).alloc (Nat.le_refl _) _
        rw [hw2]
        clear hw2
        obtain ⟨wN, hwN⟩ : ∃ wN, w2.alloc (.cells #[.bool false, .int .i64 0, .bool false, .int .i64 0, .int .i64 0, .map none] 35) = wN := ⟨_, rfl⟩
        have hb2N : Below w2.heap.size w2 wN := by rw [← hwN]; exact (Below.refl _ w2).alloc (Nat.le_refl _) _
        have hqN : wN.heap[w2.heap.size]? = some (.cells #[.bool false, .int .i64 0, .bool false, .int .i64 0, .int .i64 0, .map none] 35 (0, 0)) := by rw [← hwN]; exact World.alloc_heap_new w2 _
        have HNO : Hid (∀ W, Below wN.heap.size wN W → NoDisk W (.pointer (some ⟨w2.heap.size, 0, none⟩))) := Lib.hid (fun W hW => NoDisk.keep (.inr ⟨_, rfl, hqN⟩) hW)
        go_upto_region 7 with fail
        try rw [hwN]
        clear hqN hwN
        have hb1N : Below w1.heap.size w1 wN := hb12.trans (hb2N.mono hb12.size)
        have HB0N := Lib.hid (hb1.trans (hb1N.mono hb1.size))
        clear hb12 hb2N hb1N hb1
        go_wp2_with (first
      | (go_at_call 12; (with_reducible refine (read_no _ wN (HNO.out wN (Below.refl _ _))).mono ?_); rintro e wa ⟨Aa, ca, rfl, h1⟩)
      | (go_at_call 13; (with_reducible refine (sure_no _ wa (HNO.out wa h1)).mono ?_); rintro e wb ⟨rfl, hbb⟩; have h2 := h1.trans (hbb.mono h1.size))
      | (go_at_call 14; (with_reducible refine (crash_no _ _ _ wb (HNO.out wb h2)).mono ?_); rintro e wc ⟨rfl, hbc⟩; have h3 := h2.trans (hbc.mono h2.size))
      | (go_at_call 16; (with_reducible refine (append_no _ _ _ _ wc (HNO.out wc h3)).mono ?_); rintro e wd ⟨rfl, hbd⟩; have h4 := h3.trans (hbd.mono h3.size))
      | (go_at_call 17; (with_reducible refine (sync_no _ wd (HNO.out wd h4)).mono ?_); rintro e we ⟨rfl, hbe⟩; have h5 := h4.trans (hbe.mono h4.size))
      | (go_at_call 18; (with_reducible refine (cut_no _ _ we (HNO.out we h5)).mono ?_); rintro e wf ⟨rfl, hbf⟩; have h6 := h5.trans (hbf.mono h5.size))
      | (go_at_call 19; (with_reducible refine (remove_no _ wf (HNO.out wf h6)).mono ?_); rintro e wg ⟨rfl, hbg⟩; have h7 := h6.trans (hbg.mono h6.size))
      | (go_at_call 20; (with_reducible refine (rename_no _ _ wg (HNO.out wg h7)).mono ?_); rintro e wh ⟨rfl, hbh⟩; have h8 := h7.trans (hbh.mono h7.size))
      | (go_at_call 21; (with_reducible refine (stop_no _ wh (HNO.out wh h8)).mono ?_); rintro e w' ⟨rfl, rfl⟩)
      | (go_at_call 22; (with_reducible refine (names_no wh (HNO.out wh h8)).mono ?_); rintro e w' ⟨rfl, rfl⟩)
      | (go_at_call 23; (with_reducible refine (used_no wh (HNO.out wh h8)).mono ?_); rintro e w' ⟨rfl, rfl⟩)
      | (go_at_call 24; (with_reducible refine (dead_no wh (HNO.out wh h8)).mono ?_); rintro e w' ⟨rfl, rfl⟩)
      | (go_at_call 25; (with_reducible refine (copy_no wh (HNO.out wh h8)).mono ?_); rintro e w' ⟨rfl, rfl⟩)
      | (go_at_call 26; (with_reducible refine (same_no (u := .pointer none) wh (HNO.out wh h8) (NoDisk.nil wh)).mono ?_); rintro e w' ⟨rfl, rfl⟩)
      | (go_at_call 15; (with_reducible refine (num_any _ _ (by decide) (by decide)).mono ?_); rintro e w' ⟨rfl, rfl⟩)
      | (go_at_call 10; (with_reducible refine (works_any wh).mono ?_); rintro e wz ⟨rfl, hbz⟩))
        go_ret
        exact ⟨rfl, HB0N.out.trans ((h8.trans (hbz.mono h8.size)).mono HB0N.out.size)⟩
    · have hpl := played_any r (by omega) (by omega) A n c xs w hn hc hc2 hR hcame hfs.1 (by omega)
      clear hR hn hcame hf hfs
      go_enter Try.func3, Try.ntmps3
      go_upto_region 4 with (first | (go_at_call 9; (with_reducible refine hfew.mono ?_); clear hfew; rintro e w' ⟨rfl, rfl⟩) | (go_at_call 11; (with_reducible refine hpl.mono ?_); clear hpl; rintro e w1 ⟨p, ⟨st, af, de, ro⟩, L, A1, n1, c1, fs, rfl, hP, hb1⟩; unfold refV; dsimp only))
      rcases hm01 with rfl | rfl
      · have hmm : ((0 : Int) == 1) = false := by decide
        obtain ⟨w2, hw2⟩ : ∃ w2, w1.alloc (.cells #[.int .i64 ro, .slice A1 n1 c1, .bool st, .int .i64 af, .bool de] 28) = w2 := ⟨_, rfl⟩
        have hb12 : Below w1.heap.size w1 w2 := by rw [← hw2]; exact (Below.refl _ w1).alloc (Nat.le_refl _) _
        rw [hw2]
        clear hw2
        obtain ⟨wN, rfl⟩ : ∃ wN, wN = w2 := ⟨_, rfl⟩
        have hb2N : Below wN.heap.size wN wN := Below.refl _ _
        have HNO : Hid (∀ W, Below wN.heap.size wN W → NoDisk W (.pointer none)) := Lib.hid (fun W hW => .inl rfl)
        have hb1N : Below w1.heap.size w1 wN := hb12.trans (hb2N.mono hb12.size)
        have HB0N := Lib.hid (hb1.trans (hb1N.mono hb1.size))
        obtain ⟨B, ⟨Mb, base, G, hDA, _⟩, _, _⟩ := hP.at_
        have HDK : Hid (∀ W, Below wN.heap.size wN W → DAt W p Mb base ⟨st, af, de, ro⟩ G) := Lib.hid (fun W hW => hDA.keep (hb1N.trans (hW.mono hb1N.size)))
        clear hDA hP
        clear hb12 hb2N hb1N hb1
        go_wp2_with (first
      | (go_at_call 12; (with_reducible refine (read_no _ wN (HNO.out wN (Below.refl _ _))).mono ?_); rintro e wa ⟨Aa, ca, rfl, h1⟩)
      | (go_at_call 13; (with_reducible refine (sure_no _ wa (HNO.out wa h1)).mono ?_); rintro e wb ⟨rfl, hbb⟩; have h2 := h1.trans (hbb.mono h1.size))
      | (go_at_call 14; (with_reducible refine (crash_no _ _ _ wb (HNO.out wb h2)).mono ?_); rintro e wc ⟨rfl, hbc⟩; have h3 := h2.trans (hbc.mono h2.size))
      | (go_at_call 16; (with_reducible refine (append_no _ _ _ _ wc (HNO.out wc h3)).mono ?_); rintro e wd ⟨rfl, hbd⟩; have h4 := h3.trans (hbd.mono h3.size))
      | (go_at_call 17; (with_reducible refine (sync_no _ wd (HNO.out wd h4)).mono ?_); rintro e we ⟨rfl, hbe⟩; have h5 := h4.trans (hbe.mono h4.size))
      | (go_at_call 18; (with_reducible refine (cut_no _ _ we (HNO.out we h5)).mono ?_); rintro e wf ⟨rfl, hbf⟩; have h6 := h5.trans (hbf.mono h5.size))
      | (go_at_call 19; (with_reducible refine (remove_no _ wf (HNO.out wf h6)).mono ?_); rintro e wg ⟨rfl, hbg⟩; have h7 := h6.trans (hbg.mono h6.size))
      | (go_at_call 20; (with_reducible refine (rename_no _ _ wg (HNO.out wg h7)).mono ?_); rintro e wh ⟨rfl, hbh⟩; have h8 := h7.trans (hbh.mono h7.size))
      | (go_at_call 21; (with_reducible refine (stop_no _ wh (HNO.out wh h8)).mono ?_); rintro e w' ⟨rfl, rfl⟩)
      | (go_at_call 22; (with_reducible refine (names_no wh (HNO.out wh h8)).mono ?_); rintro e w' ⟨rfl, rfl⟩)
      | (go_at_call 23; (with_reducible refine (used_no wh (HNO.out wh h8)).mono ?_); rintro e w' ⟨rfl, rfl⟩)
      | (go_at_call 24; (with_reducible refine (dead_no wh (HNO.out wh h8)).mono ?_); rintro e w' ⟨rfl, rfl⟩)
      | (go_at_call 25; (with_reducible refine (copy_no wh (HNO.out wh h8)).mono ?_); rintro e w' ⟨rfl, rfl⟩)
      | (go_at_call 26; (with_reducible refine (same_no (u := .pointer none) wh (HNO.out wh h8) (NoDisk.nil wh)).mono ?_); rintro e w' ⟨rfl, rfl⟩)
      | (go_at_call 15; (with_reducible refine (num_any _ _ (by decide) (by decide)).mono ?_); rintro e w' ⟨rfl, rfl⟩)
      | (go_at_call 26; (with_reducible refine (same_there wh (HDK.out wh h8) (HNO.out wh h8)).mono ?_); rintro e w' ⟨rfl, rfl⟩)
      | (go_at_call 26; (with_reducible refine (same_here wh (HDK.out wh h8) (HNO.out wh h8)).mono ?_); rintro e w' ⟨rfl, rfl⟩)
      | (go_at_call 10; (with_reducible refine (works_any wh).mono ?_); rintro e wz ⟨rfl, hbz⟩))
        go_ret
        exact ⟨rfl, HB0N.out.trans ((h8.trans (hbz.mono h8.size)).mono HB0N.out.size)⟩
      · have hmm : ((1 : Int) == 1) = true := by decide
        obtain ⟨w2, hw2⟩ : ∃ w2, w1.alloc (.cells #[.int .i64 ro, .slice A1 n1 c1, .bool st, .int .i64 af, .bool de] 28) = w2 := ⟨_, rfl⟩
        have hb12 : Below w1.heap.size w1 w2 := by rw [← hw2]; exact (Below.refl _ w1).alloc (Nat.le_refl _) _
        rw [hw2]
        clear hw2
        obtain ⟨wN, hwN⟩ : ∃ wN, w2.alloc (.cells #[.bool false, .int .i64 0, .bool false, .int .i64 0, .int .i64 0, .map none] 35) = wN := ⟨_, rfl⟩
        have hb2N : Below w2.heap.size w2 wN := by rw [← hwN]; exact (Below.refl _ w2).alloc (Nat.le_refl _) _
        have hqN : wN.heap[w2.heap.size]? = some (.cells #[.bool false, .int .i64 0, .bool false, .int .i64 0, .int .i64 0, .map none] 35 (0, 0)) := by rw [← hwN]; exact World.alloc_heap_new w2 _
        have HNO : Hid (∀ W, Below wN.heap.size wN W → NoDisk W (.pointer (some ⟨w2.heap.size, 0, none⟩))) := Lib.hid (fun W hW => NoDisk.keep (.inr ⟨_, rfl, hqN⟩) hW)
        go_upto_region 7 with fail
        try rw [hwN]
        clear hqN hwN
        have hb1N : Below w1.heap.size w1 wN := hb12.trans (hb2N.mono hb12.size)
        have HB0N := Lib.hid (hb1.trans (hb1N.mono hb1.size))
        obtain ⟨B, ⟨Mb, base, G, hDA, _⟩, _, _⟩ := hP.at_
        have HDK : Hid (∀ W, Below wN.heap.size wN W → DAt W p Mb base ⟨st, af, de, ro⟩ G) := Lib.hid (fun W hW => hDA.keep (hb1N.trans (hW.mono hb1N.size)))
        clear hDA hP
        clear hb12 hb2N hb1N hb1
        go_wp2_with (first
      | (go_at_call 12; (with_reducible refine (read_no _ wN (HNO.out wN (Below.refl _ _))).mono ?_); rintro e wa ⟨Aa, ca, rfl, h1⟩)
      | (go_at_call 13; (with_reducible refine (sure_no _ wa (HNO.out wa h1)).mono ?_); rintro e wb ⟨rfl, hbb⟩; have h2 := h1.trans (hbb.mono h1.size))
      | (go_at_call 14; (with_reducible refine (crash_no _ _ _ wb (HNO.out wb h2)).mono ?_); rintro e wc ⟨rfl, hbc⟩; have h3 := h2.trans (hbc.mono h2.size))
      | (go_at_call 16; (with_reducible refine (append_no _ _ _ _ wc (HNO.out wc h3)).mono ?_); rintro e wd ⟨rfl, hbd⟩; have h4 := h3.trans (hbd.mono h3.size))
      | (go_at_call 17; (with_reducible refine (sync_no _ wd (HNO.out wd h4)).mono ?_); rintro e we ⟨rfl, hbe⟩; have h5 := h4.trans (hbe.mono h4.size))
      | (go_at_call 18; (with_reducible refine (cut_no _ _ we (HNO.out we h5)).mono ?_); rintro e wf ⟨rfl, hbf⟩; have h6 := h5.trans (hbf.mono h5.size))
      | (go_at_call 19; (with_reducible refine (remove_no _ wf (HNO.out wf h6)).mono ?_); rintro e wg ⟨rfl, hbg⟩; have h7 := h6.trans (hbg.mono h6.size))
      | (go_at_call 20; (with_reducible refine (rename_no _ _ wg (HNO.out wg h7)).mono ?_); rintro e wh ⟨rfl, hbh⟩; have h8 := h7.trans (hbh.mono h7.size))
      | (go_at_call 21; (with_reducible refine (stop_no _ wh (HNO.out wh h8)).mono ?_); rintro e w' ⟨rfl, rfl⟩)
      | (go_at_call 22; (with_reducible refine (names_no wh (HNO.out wh h8)).mono ?_); rintro e w' ⟨rfl, rfl⟩)
      | (go_at_call 23; (with_reducible refine (used_no wh (HNO.out wh h8)).mono ?_); rintro e w' ⟨rfl, rfl⟩)
      | (go_at_call 24; (with_reducible refine (dead_no wh (HNO.out wh h8)).mono ?_); rintro e w' ⟨rfl, rfl⟩)
      | (go_at_call 25; (with_reducible refine (copy_no wh (HNO.out wh h8)).mono ?_); rintro e w' ⟨rfl, rfl⟩)
      | (go_at_call 26; (with_reducible refine (same_no (u := .pointer none) wh (HNO.out wh h8) (NoDisk.nil wh)).mono ?_); rintro e w' ⟨rfl, rfl⟩)
      | (go_at_call 15; (with_reducible refine (num_any _ _ (by decide) (by decide)).mono ?_); rintro e w' ⟨rfl, rfl⟩)
      | (go_at_call 26; (with_reducible refine (same_there wh (HDK.out wh h8) (HNO.out wh h8)).mono ?_); rintro e w' ⟨rfl, rfl⟩)
      | (go_at_call 26; (with_reducible refine (same_here wh (HDK.out wh h8) (HNO.out wh h8)).mono ?_); rintro e w' ⟨rfl, rfl⟩)
      | (go_at_call 10; (with_reducible refine (works_any wh).mono ?_); rintro e wz ⟨rfl, hbz⟩))
        go_ret
        exact ⟨rfl, HB0N.out.trans ((h8.trans (hbz.mono h8.size)).mono HB0N.out.size)⟩
end Go.Proofs
