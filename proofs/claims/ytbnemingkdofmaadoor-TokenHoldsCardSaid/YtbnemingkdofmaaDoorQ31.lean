/-
  The contracts of New and Turn of keys.
-/
import Derived.Test.YtbnemingkdofmaaDoorQ30
namespace Go.Proofs
open Go.RowKit Sm
/-- a deed is tried that writes into one variable -/
theorem Sm.tried_any (D : Nat) (lb : Array Value) (eg : ∀ args w, (callFunc D args).run Tryd.prog w = .ok (.enter D args) w) (w : World) (Bd : Nat) (hBd : Bd < w.heap.size) (R : World → Prop)
    (hd : ∀ v, Below w.heap.size w v → v.heap.size = w.heap.size + 1 → Calls Tryd.prog D lb v fun e w' => (∃ x, e = .returned x) ∧ But (fun b => b = Bd) v w' ∧ R w') :
    Calls Tryd.prog 19 #[.func (.func D) #[] lb] w fun e w4 => e = .returned (.int .i64 0) ∧ ∃ w', R w' ∧ w.heap.size < w'.heap.size ∧ But (fun b => b = w.heap.size) w' w4 ∧ But (fun b => b = Bd) w w4 := by
  obtain ⟨W1, hW1⟩ : ∃ v, w.alloc (.cells #[.int .i64 0] 0x19) = v := ⟨_, rfl⟩
  have hb1 : Below w.heap.size w W1 := by rw [← hW1]; exact (Below.refl _ _).alloc (Nat.le_refl _) _
  have hz1 : W1.heap.size = w.heap.size + 1 := by rw [← hW1]; simp
  have e1 : W1.cell? ⟨w.heap.size, 0, none⟩ = some (.int .i64 0) := by rw [← hW1]; exact World.cell?_alloc_new w #[.int .i64 0] 0x19 0
  have g1 : W1.frozen? ⟨w.heap.size, 0, none⟩ = false := by rw [← hW1]; simp [go_sem]
  refine (tried_ok D lb eg w (fun w' => But (fun b => b = Bd) W1 w' ∧ R w') (by
    rw [hW1]
    refine (hd W1 hb1 hz1).mono ?_
    rintro e w' ⟨hv, hbt, hr⟩
    exact ⟨hv, ⟨hbt, hr⟩, (hbt.cell (p := ⟨w.heap.size, 0, none⟩) (by simp; omega) (by simp; omega)).trans e1, (hbt.frozen (p := ⟨w.heap.size, 0, none⟩) (by simp; omega) (by simp; omega)).trans g1⟩)).mono ?_
  rintro e w4 ⟨rfl, w2, ⟨hbt, hr⟩, rfl⟩
  have hz2 := hbt.size
  refine ⟨rfl, w2, hr, by omega, (But.refl _ w2).set _ _ (.inl rfl), ?_⟩
  exact ((But.of_all hb1 (fun b => b = Bd)).trans hbt (fun _ _ e => e)).set _ _ (.inr (by simp))
/-- a deed is tried that gives up -/
theorem Sm.tried_not (D : Nat) (lb : Array Value) (eg : ∀ args w, (callFunc D args).run Tryd.prog w = .ok (.enter D args) w) (w : World) (why : Int)
    (hd : ∀ v, Below w.heap.size w v → Calls Tryd.prog D lb v fun e w' => e = .panicked [pE why] ∧ Below v.heap.size v w') :
    Calls Tryd.prog 19 #[.func (.func D) #[] lb] w fun e w4 => e = .returned (.int .i64 why) ∧ Below w.heap.size w w4 := by
  obtain ⟨W1, hW1⟩ : ∃ v, w.alloc (.cells #[.int .i64 0] 0x19) = v := ⟨_, rfl⟩
  have hb1 : Below w.heap.size w W1 := by rw [← hW1]; exact (Below.refl _ _).alloc (Nat.le_refl _) _
  have hz1 : W1.heap.size = w.heap.size + 1 := by rw [← hW1]; simp
  have e1 : W1.cell? ⟨w.heap.size, 0, none⟩ = some (.int .i64 0) := by rw [← hW1]; exact World.cell?_alloc_new w #[.int .i64 0] 0x19 0
  have g1 : W1.frozen? ⟨w.heap.size, 0, none⟩ = false := by rw [← hW1]; simp [go_sem]
  refine (tried_no D lb eg w why (fun w' => Below W1.heap.size W1 w') (by
    rw [hW1]
    refine (hd W1 hb1).mono ?_
    rintro e w' ⟨rfl, hbt⟩
    exact ⟨rfl, hbt, (hbt.cell (p := ⟨w.heap.size, 0, none⟩) (by simp; omega)).trans e1, (hbt.frozen (p := ⟨w.heap.size, 0, none⟩) (by simp; omega)).trans g1⟩)).mono ?_
  rintro e w4 ⟨rfl, w2, hbt, rfl⟩
  exact ⟨rfl, (hb1.trans (hbt.mono hb1.size)).setCell (p := ⟨w.heap.size, 0, none⟩) (by simp) _⟩
set_option maxRecDepth 100000 in
set_option maxHeartbeats 2000000 in
theorem Sm.turned_no (k : Kpt) (n : Int) (m : ByteArray) (w : World) (hm : m.size ≤ 9223372036854775807) (h : ¬ (1 ≤ m.size ∧ m.size ≤ 64)) :
    Calls Tryd.prog 24 #[.agg k.cells, .agg #[.int .i64 n], .string m] w fun e w' => e = .panicked [pE 2] ∧ Below w.heap.size w w' := by
  obtain ⟨W3, hW3⟩ : ∃ v, ((w.alloc (.cells k.cells 0x39)).alloc (.cells #[.int .i64 n] 0x35)).alloc (.cells zeroK.cells 0x39) = v := ⟨_, rfl⟩
  have hb3 : Below w.heap.size w W3 := by rw [← hW3]; exact (((Below.refl _ w).alloc (Nat.le_refl _) _).alloc (by simp) _).alloc (by simp; omega) _
  unfold Kpt.cells zeroK at hW3
  rw [show k.cells = (#[.int .i64 k.n0, .string k.s0, .int .i64 k.n1, .string k.s1, .int .i64 k.n2, .string k.s2] : Array Value) from rfl]
  have HB3 := Lib.hid hb3
  by_cases h1 : 1 ≤ m.size
  · have h2 : ¬ m.size ≤ 64 := fun h2 => h ⟨h1, h2⟩
    have hm1 : (1 : Int) ≤ (m.size : Int) := by omega
    have hm2 : ¬ (m.size : Int) ≤ 64 := by omega
    clear h h1 h2
    go_enter Tryd.func24, Tryd.ntmps24
    go_upto_region 1 with fail
    clear hW3
    go_wp2_with (go_at_call 26; (with_reducible refine (must_two1 _ _ _ _ (World.cell?_alloc_new W3 #[.bool true, .bool false] 4 0) (World.cell?_alloc_new W3 #[.bool true, .bool false] 4 1)).mono ?_); rintro e w4 ⟨rfl, rfl⟩)
    exact ⟨rfl, rfl, HB3.out.alloc HB3.out.size _⟩
  · have hm0 : m.size = 0 := by omega
    obtain rfl : m = ⟨#[]⟩ := by
      cases m with
      | mk d =>
        have : d.size = 0 := hm0
        rw [Array.eq_empty_of_size_eq_zero this]
    clear h h1 hm0
    go_enter Tryd.func24, Tryd.ntmps24
    go_upto_region 1 with fail
    clear hW3
    go_wp2_with (go_at_call 26; (with_reducible refine (must_two0 _ _ _ _ (World.cell?_alloc_new W3 #[.bool false, .bool true] 4 0)).mono ?_); rintro e w4 ⟨rfl, rfl⟩)
    exact ⟨rfl, rfl, HB3.out.alloc HB3.out.size _⟩
set_option maxRecDepth 100000 in
set_option maxHeartbeats 1000000 in
theorem Sm.deed23_ok (m : ByteArray) (Bs Bd : Nat) (w : World) (x : Value) (h1 : 1 ≤ m.size) (h2 : m.size ≤ 64) (hs : w.cell? ⟨Bs, 0, none⟩ = some (.string m)) (hd : w.cell? ⟨Bd, 0, none⟩ = some x) (hf : w.frozen? ⟨Bd, 0, none⟩ = false) (hl : Bd < w.heap.size) :
    Calls Tryd.prog 23 #[.pointer (some ⟨Bs, 0, none⟩), .pointer (some ⟨Bd, 0, none⟩)] w fun e w' => (∃ v, e = .returned v) ∧ But (fun b => b = Bd) w w' ∧ ∃ B, w'.cell? ⟨Bd, 0, none⟩ = some (.pointer (some ⟨B, 0, none⟩)) ∧ w'.frozen? ⟨Bd, 0, none⟩ = false ∧ w.heap.size ≤ B ∧ KeyAt w' B (turnK zeroK 0 m) := by
  have hct := turned_yes zeroK 0 m w h1 h2
  rw [show zeroK.cells = (#[.int .i64 0, .string ⟨#[]⟩, .int .i64 0, .string ⟨#[]⟩, .int .i64 0, .string ⟨#[]⟩] : Array Value) from rfl] at hct
  unfold Kpt.cells at hct
  have HCT := Lib.hid hct
  clear hct
  go_enter Tryd.func23, Tryd.ntmps23
  go_wp2_with (go_at_call 24; (with_reducible refine HCT.out.mono ?_); rintro e w1 ⟨rfl, hbl⟩; have hc1 := (hbl.cell (p := ⟨Bd, 0, none⟩) hl).trans hd; have hf1 := (hbl.frozen (p := ⟨Bd, 0, none⟩) hl).trans hf; have hbs := hbl.size; have hl1 : Bd < w1.heap.size := by omega)
  go_end0
  obtain ⟨ws, hws⟩ : ∃ v, w1.setCell ⟨Bd, 0, none⟩ (.pointer (some ⟨w1.heap.size, 0, none⟩)) = v := ⟨_, rfl⟩
  have hset : But (fun b => b = Bd) w1 ws := by rw [← hws]; exact (But.refl _ w1).set _ _ (.inl rfl)
  have hzs : ws.heap.size = w1.heap.size := by rw [← hws]; simp
  have hcs : ws.cell? ⟨Bd, 0, none⟩ = some (.pointer (some ⟨w1.heap.size, 0, none⟩)) := by rw [← hws]; exact World.cell?_setCell_same _ _ _ hc1
  have hfs : ws.frozen? ⟨Bd, 0, none⟩ = false := by rw [← hws, World.frozen?_setCell]; exact hf1
  obtain ⟨w2, hw2⟩ : ∃ v, ws.alloc (.cells (turnK zeroK 0 m).cells 0x3c) = v := ⟨_, rfl⟩
  have hb12 : Below ws.heap.size ws w2 := by rw [← hw2]; exact (Below.refl _ _).alloc (Nat.le_refl _) _
  have hK : KeyAt w2 ws.heap.size (turnK zeroK 0 m) := by rw [← hw2]; exact Blk.new ws 0x3c _
  unfold Kpt.cells at hw2
  rw [hws, hw2]
  rw [hzs] at hK
  refine ⟨⟨_, rfl⟩, ((But.of_all hbl (fun b => b = Bd)).trans hset (fun _ _ e => e)).trans (But.of_all hb12 (fun b => b = Bd)) (fun _ _ e => e), w1.heap.size, (hb12.cell (p := ⟨Bd, 0, none⟩) (by simp; omega)).trans hcs, (hb12.frozen (p := ⟨Bd, 0, none⟩) (by simp; omega)).trans hfs, hbs, hK⟩
set_option maxRecDepth 100000 in
set_option maxHeartbeats 1000000 in
theorem Sm.deed23_no (m : ByteArray) (Bs Bd : Nat) (w : World) (hm : m.size ≤ 9223372036854775807) (h : ¬ (1 ≤ m.size ∧ m.size ≤ 64)) (hs : w.cell? ⟨Bs, 0, none⟩ = some (.string m)) :
    Calls Tryd.prog 23 #[.pointer (some ⟨Bs, 0, none⟩), .pointer (some ⟨Bd, 0, none⟩)] w fun e w' => e = .panicked [pE 2] ∧ Below w.heap.size w w' := by
  have hct := turned_no zeroK 0 m w hm h
  rw [show zeroK.cells = (#[.int .i64 0, .string ⟨#[]⟩, .int .i64 0, .string ⟨#[]⟩, .int .i64 0, .string ⟨#[]⟩] : Array Value) from rfl] at hct
  have HCT := Lib.hid hct
  clear hct h
  go_enter Tryd.func23, Tryd.ntmps23
  go_wp2_with (go_at_call 24; (with_reducible refine HCT.out.mono ?_); rintro e w1 ⟨rfl, hbl⟩)
  exact ⟨rfl, rfl, hbl⟩
theorem Sm.enters23 : ∀ args w, (callFunc 23 args).run Tryd.prog w = .ok (.enter 23 args) w := enters_of Tryd.func23 (by kernel_rfl) rfl
/-- two variables, one behind the other -/
theorem Sm.two_vars (w : World) (a b : Value) (s t : TypeId) : ∃ W0, (w.alloc (.cells #[a] s)).alloc (.cells #[b] t) = W0 ∧ W0.heap.size = w.heap.size + 2 ∧ Below w.heap.size w W0 ∧ W0.cell? ⟨w.heap.size, 0, none⟩ = some a ∧ W0.cell? ⟨w.heap.size + 1, 0, none⟩ = some b ∧ W0.frozen? ⟨w.heap.size + 1, 0, none⟩ = false ∧ W0.frozen? ⟨w.heap.size, 0, none⟩ = false := by
  refine ⟨_, rfl, by simp, ((Below.refl _ w).alloc (Nat.le_refl _) _).alloc (by simp) _, ?_, ?_, by simp [go_sem], ?_⟩
  · rw [World.cell?_alloc_lt _ _ _ (by simp)]
    exact World.cell?_alloc_new w #[a] s 0
  · have := World.cell?_alloc_new (w.alloc (.cells #[a] s)) #[b] t 0
    rw [World.size_alloc] at this
    exact this
  · exact (((Blk.new w s #[a]).alloc (.cells #[b] t)).frozen 0)
set_option maxRecDepth 100000 in
set_option maxHeartbeats 1000000 in
theorem Sm.KNew_ok (m : ByteArray) (w : World) (h1 : 1 ≤ m.size) (h2 : m.size ≤ 64) :
    Calls Tryd.prog 12 #[.string m] w fun e w' => ∃ B, e = .returned (.tuple #[.pointer (some ⟨B, 0, none⟩), .int .i64 0]) ∧ w.heap.size ≤ B ∧ KeyAt w' B (turnK zeroK 0 m) ∧ Below w.heap.size w w' := by
  have hmf : ∀ (fn : Fn) (first cap : Array Value) (w : World), (Instr.makeFunc fn first cap).run Tryd.prog w = .ok (.func fn first cap) w := fun _ _ _ _ => rfl
  obtain ⟨W0, hW0, hz, hb0, c0, c1, f1, _⟩ := two_vars w (.string m) (.pointer none) 9 0x20
  have htr := tried_any 23 #[.pointer (some ⟨w.heap.size, 0, none⟩), .pointer (some ⟨w.heap.size + 1, 0, none⟩)] enters23 W0 (w.heap.size + 1) (by omega)
    (fun w' => ∃ B, w'.cell? ⟨w.heap.size + 1, 0, none⟩ = some (.pointer (some ⟨B, 0, none⟩)) ∧ w'.frozen? ⟨w.heap.size + 1, 0, none⟩ = false ∧ W0.heap.size + 1 ≤ B ∧ KeyAt w' B (turnK zeroK 0 m))
    (fun v hv hvz => (deed23_ok m w.heap.size (w.heap.size + 1) v _ h1 h2 ((hv.cell (p := ⟨w.heap.size, 0, none⟩) (by simp; omega)).trans c0) ((hv.cell (p := ⟨w.heap.size + 1, 0, none⟩) (by simp; omega)).trans c1) ((hv.frozen (p := ⟨w.heap.size + 1, 0, none⟩) (by simp; omega)).trans f1) (by omega)).mono fun e w' ⟨a, b, B, c, g, d, f⟩ => ⟨a, b, B, c, g, by omega, f⟩)
  have HTR := Lib.hid htr
  have HZ := Lib.hid hz
  have HB0 := Lib.hid hb0
  have HF1 := Lib.hid f1
  clear htr hz hb0 c0 c1 f1
  go_enter Tryd.func12, Tryd.ntmps12
  go_upto_region 1 with fail
  clear hW0
  go_upto_region 2 with (go_at_call 19; (with_reducible refine HTR.out.mono ?_); rintro e w4 ⟨rfl, w2, ⟨B, hc, hfc, hBl, hK⟩, hz2, hbt, hbt0⟩)
  have hz := HZ.out
  have hB2 := Blk.lt hK
  have hc4 := (hbt.cell (p := ⟨w.heap.size + 1, 0, none⟩) (by simp; omega) (by simp; omega)).trans hc
  have hf4 : w4.frozen? ⟨w.heap.size + 1, 0, none⟩ = false := (hbt.frozen (p := ⟨w.heap.size + 1, 0, none⟩) (by simp; omega) (by simp; omega)).trans hfc
  have hK4 : KeyAt w4 B (turnK zeroK 0 m) := Blk.but hK hbt (by omega)
  have hb4 : Below w.heap.size w w4 := But.below HB0.out hbt0 (fun b e => by have e : b = w.heap.size + 1 := e; omega)
  have HK4 := Lib.hid hK4
  have HB4 := Lib.hid hb4
  have hlt4 : w.heap.size + 1 < w4.heap.size := by have := hbt.size; omega
  have hBw : w.heap.size ≤ B := by omega
  have hBn : ¬ B = w.heap.size + 1 := by omega
  clear hK4 hb4 hbt hbt0 hc hfc hK hB2 hz hz2 hBl
  go_wp2
  have hs := World.cell?_setCell_same w4 ⟨w.heap.size + 1, 0, none⟩ (.pointer (some ⟨B, 0, none⟩)) hc4
  have hset : But (fun b => b = w.heap.size + 1) w4 (w4.setCell ⟨w.heap.size + 1, 0, none⟩ (.pointer (some ⟨B, 0, none⟩))) := (But.refl _ w4).set _ _ (.inl rfl)
  exact bodyPost_ret (v := .tuple #[.pointer (some ⟨B, 0, none⟩), .int .i64 0]) (by simp [results, Tryd.results12, go_sem, hs]) rfl ⟨B, rfl, hBw, Blk.but HK4.out hset hBn, But.below HB4.out hset (fun b e => by have e : b = w.heap.size + 1 := e; omega)⟩
set_option maxRecDepth 100000 in
set_option maxHeartbeats 1000000 in
theorem Sm.KNew_no (m : ByteArray) (w : World) (hm : m.size ≤ 9223372036854775807) (h : ¬ (1 ≤ m.size ∧ m.size ≤ 64)) :
    Calls Tryd.prog 12 #[.string m] w fun e w' => e = .returned (.tuple #[.pointer none, .int .i64 2]) ∧ Below w.heap.size w w' := by
  have hmf : ∀ (fn : Fn) (first cap : Array Value) (w : World), (Instr.makeFunc fn first cap).run Tryd.prog w = .ok (.func fn first cap) w := fun _ _ _ _ => rfl
  obtain ⟨W0, hW0, hz, hb0, c0, c1, f1, _⟩ := two_vars w (.string m) (.pointer none) 9 0x20
  have htr := tried_not 23 #[.pointer (some ⟨w.heap.size, 0, none⟩), .pointer (some ⟨w.heap.size + 1, 0, none⟩)] enters23 W0 2
    (fun v hv => deed23_no m w.heap.size (w.heap.size + 1) v hm h ((hv.cell (p := ⟨w.heap.size, 0, none⟩) (by simp; omega)).trans c0))
  have HTR := Lib.hid htr
  have HZ := Lib.hid hz
  have HB0 := Lib.hid hb0
  have HF1 := Lib.hid f1
  have HC1 := Lib.hid c1
  clear htr hz hb0 c0 c1 f1 h
  go_enter Tryd.func12, Tryd.ntmps12
  go_upto_region 1 with fail
  clear hW0
  go_upto_region 2 with (go_at_call 19; (with_reducible refine HTR.out.mono ?_); rintro e w4 ⟨rfl, hbt⟩)
  have hz := HZ.out
  have hc4 := (hbt.cell (p := ⟨w.heap.size + 1, 0, none⟩) (by simp; omega)).trans HC1.out
  have hf4 := (hbt.frozen (p := ⟨w.heap.size + 1, 0, none⟩) (by simp; omega)).trans HF1.out
  have HB4 := Lib.hid (HB0.out.trans (hbt.mono HB0.out.size))
  clear hbt hz
  go_wp2
  have hs := World.cell?_setCell_same w4 ⟨w.heap.size + 1, 0, none⟩ (.pointer none) hc4
  exact bodyPost_ret (v := .tuple #[.pointer none, .int .i64 2]) (by simp [results, Tryd.results12, go_sem, hs]) rfl ⟨rfl, HB4.out.setCell (p := ⟨w.heap.size + 1, 0, none⟩) (by simp) _⟩
end Go.Proofs
