/-
  The program's Check: what it answers. Conditions: a text that is not too long; the library's two tables of UTF-8 lie as they are laid.
-/
import Derived.WalkLawsBesides
import Derived.Deep.QuietTactic
import Derived.BigQuiet
import Derived.Test.YtohidbkhccepnaaDoorTxM
import Derived.Test.YtohidbkhccepnaaDoorTxE
import Derived.Test.YtohidbkhccepnaaDoorSlB
import Derived.Test.YtohidbkhccepnaaDoorChM
namespace Go.Proofs
open Go Go.RowKit Sm Go.Lib
/-- what of memory the library's calls read -/
structure Sm.LaysT (w : World) : Prop where
  size : 3 ≤ w.heap.size
  tabs : Lib.Utf8Tabs 0 1 w
theorem Sm.LaysT.keep {w w' : World} (h : LaysT w) (hb : Below w.heap.size w w') : LaysT w' := by
  have hs := h.size
  have k : ∀ b o, b < 3 → w'.cell? ⟨b, o, none⟩ = w.cell? ⟨b, o, none⟩ := fun b o hlt => hb.cell (p := ⟨b, o, none⟩) (by show b < _; omega)
  exact ⟨Nat.le_trans hs hb.size, ⟨fun c hc => (k 0 c (by omega)).trans (h.tabs.1 c hc), fun i hi => ⟨(k 1 _ (by omega)).trans (h.tabs.2 i hi).1, (k 1 _ (by omega)).trans (h.tabs.2 i hi).2⟩⟩⟩
/-- one value in a box -/
def Sm.Box1 (w : World) (B : Nat) (v : Value) (t : TypeId) : Prop := w.heap[B]? = some (.cells #[v] t (0, 0))
theorem Sm.Box1.lt {w : World} {B : Nat} {v : Value} {t : TypeId} (h : Box1 w B v t) : B < w.heap.size := (Array.getElem?_eq_some_iff.1 h).1
theorem Sm.Box1.keep {w w' : World} {B n : Nat} {v : Value} {t : TypeId} (h : Box1 w B v t) (hb : Below n w w') (hn : B < n) : Box1 w' B v t := (hb.block B hn).trans h
theorem Sm.Box1.cell {w : World} {B : Nat} {v : Value} {t : TypeId} (h : Box1 w B v t) : w.cell? ⟨B, 0, none⟩ = some v := cell_of_heap h 0
theorem Sm.Box1.alloc {w : World} {B : Nat} {v : Value} {t : TypeId} (h : Box1 w B v t) (o : Obj) : Box1 (w.alloc o) B v t := (Below.heap_alloc w o B h.lt).trans h
theorem Sm.Box1.new (w : World) (v : Value) (t : TypeId) : Box1 (w.alloc (.cells #[v] t)) w.heap.size v t := World.alloc_heap_new w _
set_option maxRecDepth 100000 in
set_option maxHeartbeats 1000000 in
theorem Sm.longer_any (s : ByteArray) (m : Int) (w : World) :
    Calls Tryd.prog 65 #[.string s, .int .i64 m] w fun e w' => e = .returned (.agg #[.func (.func 72) #[] #[.pointer (some ⟨w.heap.size, 0, none⟩), .pointer (some ⟨w.heap.size + 1, 0, none⟩)], .int .i64 3])
      ∧ Box1 w' w.heap.size (.string s) 9 ∧ Box1 w' (w.heap.size + 1) (.int .i64 m) 3 ∧ Below w.heap.size w w' := by
  have hmf : ∀ (fn : Fn) (first cap : Array Value) (w : World), (Instr.makeFunc fn first cap).run Tryd.prog w = .ok (.func fn first cap) w := fun _ _ _ _ => rfl
  go_enter Tryd.func65, Tryd.ntmps65
  go_wp2
  refine bodyPost_ret (v := .agg #[.func (.func 72) #[] #[.pointer (some ⟨w.heap.size, 0, none⟩), .pointer (some ⟨w.heap.size + 1, 0, none⟩)], .int .i64 3]) (by simp [results, Tryd.results65, go_sem]) rfl ⟨rfl, ?_, ?_, ?_⟩
  · exact ((Box1.new w _ _).alloc _).alloc _
  · have := Box1.new (w.alloc (.cells #[.string s] 9)) (.int .i64 m) 3
    rw [World.size_alloc] at this
    exact this.alloc _
  · exact (((Below.refl _ w).alloc (Nat.le_refl _) _).alloc (by simp) _).alloc (by simp; omega) _
set_option maxRecDepth 100000 in
theorem Sm.long_any (s : ByteArray) (m : Int) (p q : Nat) (w : World) (h1 : Box1 w p (.string s) 9) (h2 : Box1 w q (.int .i64 m) 3) :
    Calls Tryd.prog 72 #[.pointer (some ⟨p, 0, none⟩), .pointer (some ⟨q, 0, none⟩)] w fun e w' => e = .returned (.bool (decide (m < (s.size : Int)))) ∧ Below w.heap.size w w' := by
  have c1 := h1.cell
  have c2 := h2.cell
  clear h1 h2
  go_enter Tryd.func72, Tryd.ntmps72
  go_wp2
  go_ret
  exact ⟨rfl, Below.refl _ _⟩
set_option maxRecDepth 100000 in
theorem Sm.broken_any (s : ByteArray) (p : Nat) (w : World) (hm : s.size ≤ 9223372036854775807) (h1 : Box1 w p (.string s) 9) (hL : LaysT w) :
    Calls Tryd.prog 66 #[.pointer (some ⟨p, 0, none⟩)] w fun e w' => e = .returned (.bool (brokenB s)) ∧ Below w.heap.size w w' := by
  have c1 := h1.cell
  have hv := Tryd.utf8_ValidString s w hm hL.tabs
  rw [valid_eq] at hv
  obtain ⟨b, hb⟩ : ∃ b, brokenB s = b := ⟨_, rfl⟩
  rw [hb] at hv ⊢
  clear h1 hL hb
  go_enter Tryd.func66, Tryd.ntmps66
  go_wp2_with (go_at_call 67; (with_reducible refine hv.mono ?_); rintro e w' ⟨rfl, hb'⟩)
  go_ret
  exact ⟨by simp, hb'⟩
theorem Sm.ret_bool {a b : Bool} (h : a = b) : Ending.returned (.bool a) = .returned (.bool b) := by rw [h]
theorem Sm.encR_nat (x : Nat) : (encR x : Value) = .int .i32 (x : Int) := rfl
set_option maxRecDepth 100000 in
set_option maxHeartbeats 1000000 in
theorem Sm.mayNot_any (x : Nat) (w : World) : Calls Tryd.prog 63 #[.int .i32 (x : Int)] w fun e w' => e = .returned (.bool (badR x)) ∧ Below w.heap.size w w' := by
  by_cases h1 : x < 32
  · have e : badR x = true := decide_eq_true (.inl h1)
    rw [e]
    clear e
    go_enter Tryd.func63, Tryd.ntmps63
    go_wp2
    go_ret
    exact ⟨rfl, Below.refl _ _⟩
  · by_cases h2 : 127 ≤ x
    · by_cases h3 : x ≤ 159
      · have e : badR x = true := decide_eq_true (.inr ⟨h2, h3⟩)
        rw [e]
        clear e
        go_enter Tryd.func63, Tryd.ntmps63
        go_wp2
        go_ret
        exact ⟨ret_bool (by simp; omega), Below.refl _ _⟩
      · have e : badR x = false := decide_eq_false (by omega)
        rw [e]
        clear e
        go_enter Tryd.func63, Tryd.ntmps63
        go_wp2
        go_ret
        exact ⟨ret_bool (by simp; omega), Below.refl _ _⟩
    · have e : badR x = false := decide_eq_false (by omega)
      rw [e]
      clear e
      go_enter Tryd.func63, Tryd.ntmps63
      go_wp2
      go_ret
      exact ⟨ret_bool (by simp; omega), Below.refl _ _⟩
set_option maxRecDepth 100000 in
theorem Sm.sign_any2 (s : ByteArray) (p q : Nat) (w : World) (h1 : Box1 w p (.string s) 9) (h2 : Box1 w q (.func (.func 63) #[] #[]) 100) :
    Calls Tryd.prog 68 #[.pointer (some ⟨p, 0, none⟩), .pointer (some ⟨q, 0, none⟩)] w fun e w' => e = .returned (.bool (anyR badR s)) ∧ Below w.heap.size w w' := by
  have c1 := h1.cell
  have c2 := h2.cell
  have hv := Tryd.strings_ContainsFunc_grows 63 #[] (enters_of Tryd.func63 (by kernel_rfl) rfl) badR s w (fun W x _ _ => mayNot_any x W)
  rw [idx_eq] at hv
  obtain ⟨b, hb⟩ : ∃ b, anyR badR s = b := ⟨_, rfl⟩
  rw [hb] at hv ⊢
  clear h1 h2 hb
  go_enter Tryd.func68, Tryd.ntmps68
  go_wp2_with (go_at_call 69; (with_reducible refine hv.mono ?_); rintro e w' ⟨rfl, hb'⟩)
  go_ret
  exact ⟨rfl, hb'⟩
theorem Sm.toList_ne {s t : ByteArray} : (s.toList == t.toList) = decide (s.data.toList = t.data.toList) := by
  rw [ByteArray.toList_eq, ByteArray.toList_eq]
  by_cases h : s.data.toList = t.data.toList
  · rw [decide_eq_true h]; simp [h]
  · rw [decide_eq_false h, beq_eq_false_iff_ne]; exact h
set_option maxRecDepth 100000 in
set_option maxHeartbeats 1000000 in
theorem Sm.blank_any (s : ByteArray) (p : Nat) (w : World) (hm : s.size ≤ 9223372036854775807) (h1 : Box1 w p (.string s) 9) :
    Calls Tryd.prog 70 #[.pointer (some ⟨p, 0, none⟩)] w fun e w' => e = .returned (.bool (blankB s)) ∧ Below w.heap.size w w' := by
  have c1 := h1.cell
  have hv := fun W => Tryd.strings_Trim_one s 32 (by decide) W hm
  clear h1
  by_cases h0 : s.size = 0
  · have hs : s = ⟨#[]⟩ := by
      cases s with
      | mk a => exact congrArg ByteArray.mk (Array.eq_empty_of_size_eq_zero h0)
    subst hs
    have e : blankB ⟨#[]⟩ = true := by decide +kernel
    rw [e]
    clear e h0
    go_enter Tryd.func70, Tryd.ntmps70
    go_wp2
    go_quiet (fail)
    go_wp2
    go_ret
    exact ⟨rfl, below_drewN w _⟩
  · rw [blank_eq s (by omega)]
    have hl : 0 < s.toList.length := by rw [ByteArray.toList_eq, list_len]; omega
    have he1 : s.toList.isEmpty = false := by
      cases h : s.toList with
      | nil => rw [h] at hl; simp at hl
      | cons _ _ => rfl
    have he2 : ¬ s.toList = [] := fun e => by rw [e] at hl; simp at hl
    obtain ⟨T, hT⟩ : ∃ T, (⟨(trimB s.data.toList 32).toArray⟩ : ByteArray) = T := ⟨_, rfl⟩
    have hd : trimB s.data.toList 32 = T.data.toList := by rw [← hT]
    rw [hd]
    rw [hT] at hv
    have hv2 : ∀ W, Calls Tryd.prog 71 #[.string s, .string { data := #[32] }] W fun e w' => e = .returned (.string T) ∧ ∃ n, w' = W.drewN n := fun W => (hv W).mono fun e w' ⟨h1, h2⟩ => ⟨h1, by
      rcases h2 with h2 | h2
      · exact ⟨0, h2⟩
      · exact ⟨1, h2⟩⟩
    clear hT hd hl hv
    go_enter Tryd.func70, Tryd.ntmps70
    go_wp2
    go_quiet ((go_at_call 71; exact Calls.quiet_of (hv2 _)))
    go_wp2
    go_ret
    exact ⟨ret_bool (by rw [← toList_ne]), below_drewN w _⟩
theorem Sm.cell_eight_new (w : World) (a b c d e f g h : Value) (t : TypeId) : ∀ j v, [a, b, c, d, e, f, g, h][j]? = some v → (w.alloc (.cells #[a, b, c, d, e, f, g, h] t)).cell? ⟨w.heap.size, j, none⟩ = some v := by
  intro j v hj
  rw [cell_of_heap (World.alloc_heap_new w (.cells #[a, b, c, d, e, f, g, h] t)) j]
  simpa using hj
theorem Sm.check_call (s : ByteArray) (w w2 w3 : World) (hm : s.size ≤ 1000000000) (hL : LaysT w) (hb2 : Below w.heap.size w w2) (hs2 : w2.heap.size = w.heap.size + 1 + 1) (x0 : Box1 w2 w.heap.size (.string s) 9)
    (x1 : Box1 w2 (w.heap.size + 1) (.func (.func 63) #[] #[]) 100) (y0 : Box1 w3 w2.heap.size (.string s) 9) (y1 : Box1 w3 (w2.heap.size + 1) (.int .i64 200) 3) (hb3 : Below w2.heap.size w2 w3) :
    Hid (Calls Tryd.prog 64 #[.slice (some ⟨w3.heap.size, 0, none⟩) 4 4]
      (w3.alloc (.cells #[.func (.func 72) #[] #[.pointer (some ⟨w2.heap.size, 0, none⟩), .pointer (some ⟨w2.heap.size + 1, 0, none⟩)], .int .i64 3, .func (.func 66) #[] #[.pointer (some ⟨w.heap.size, 0, none⟩)], .int .i64 130,
        .func (.func 68) #[] #[.pointer (some ⟨w.heap.size, 0, none⟩), .pointer (some ⟨w.heap.size + 1, 0, none⟩)], .int .i64 131, .func (.func 70) #[] #[.pointer (some ⟨w.heap.size, 0, none⟩)], .int .i64 132] 103))
      fun e w' => e = .returned (.int .i64 (checkN s)) ∧ Below w.heap.size w w') := by
  refine Lib.hid ?_
  have l0 := y0.lt
  have l1 := y1.lt
  have hb23 : Below w.heap.size w w3 := hb2.trans (hb3.mono hb2.size)
  have z0 : Box1 w3 w.heap.size (.string s) 9 := x0.keep hb3 (by omega)
  have z1 : Box1 w3 (w.heap.size + 1) (.func (.func 63) #[] #[]) 100 := x1.keep hb3 (by omega)
  obtain ⟨w4, hw4⟩ : ∃ w4, w3.alloc (.cells #[.func (.func 72) #[] #[.pointer (some ⟨w2.heap.size, 0, none⟩), .pointer (some ⟨w2.heap.size + 1, 0, none⟩)], .int .i64 3, .func (.func 66) #[] #[.pointer (some ⟨w.heap.size, 0, none⟩)], .int .i64 130,
        .func (.func 68) #[] #[.pointer (some ⟨w.heap.size, 0, none⟩), .pointer (some ⟨w.heap.size + 1, 0, none⟩)], .int .i64 131, .func (.func 70) #[] #[.pointer (some ⟨w.heap.size, 0, none⟩)], .int .i64 132] 103) = w4 := ⟨_, rfl⟩
  have hb4 : Below w3.heap.size w3 w4 := by rw [← hw4]; exact (Below.refl _ w3).alloc (Nat.le_refl _) _
  have hs4 : w3.heap.size < w4.heap.size := by rw [← hw4]; simp
  have hb04 : Below w.heap.size w w4 := hb23.trans (hb4.mono hb23.size)
  have hc : ∀ j v, _ := cell_eight_new w3 (.func (.func 72) #[] #[.pointer (some ⟨w2.heap.size, 0, none⟩), .pointer (some ⟨w2.heap.size + 1, 0, none⟩)]) (.int .i64 3) (.func (.func 66) #[] #[.pointer (some ⟨w.heap.size, 0, none⟩)]) (.int .i64 130)
        (.func (.func 68) #[] #[.pointer (some ⟨w.heap.size, 0, none⟩), .pointer (some ⟨w.heap.size + 1, 0, none⟩)]) (.int .i64 131) (.func (.func 70) #[] #[.pointer (some ⟨w.heap.size, 0, none⟩)]) (.int .i64 132) 103
  rw [hw4] at hc ⊢
  refine (first_any [⟨72, #[.pointer (some ⟨w2.heap.size, 0, none⟩), .pointer (some ⟨w2.heap.size + 1, 0, none⟩)], 3, decide ((200 : Int) < (s.size : Int))⟩, ⟨66, #[.pointer (some ⟨w.heap.size, 0, none⟩)], 130, brokenB s⟩,
    ⟨68, #[.pointer (some ⟨w.heap.size, 0, none⟩), .pointer (some ⟨w.heap.size + 1, 0, none⟩)], 131, anyR badR s⟩, ⟨70, #[.pointer (some ⟨w.heap.size, 0, none⟩)], 132, blankB s⟩] w3.heap.size 4 w4 (by simp) hs4 hc ?_).mono ?_
  · intro f hf
    simp only [List.mem_cons, List.mem_nil_iff, or_false] at hf
    rcases hf with rfl | rfl | rfl | rfl
    · refine ⟨enters_of Tryd.func72 (by kernel_rfl) rfl, fun W hW => ?_⟩
      exact long_any s 200 _ _ W ((y0.keep hb4 l0).keep hW (by omega)) ((y1.keep hb4 l1).keep hW (by omega))
    · refine ⟨enters_of Tryd.func66 (by kernel_rfl) rfl, fun W hW => ?_⟩
      exact broken_any s _ W (by omega) ((z0.keep hb4 (by omega)).keep hW (by omega)) (hL.keep (hb04.trans (hW.mono hb04.size)))
    · refine ⟨enters_of Tryd.func68 (by kernel_rfl) rfl, fun W hW => ?_⟩
      exact sign_any2 s _ _ W ((z0.keep hb4 (by omega)).keep hW (by omega)) ((z1.keep hb4 (by omega)).keep hW (by omega))
    · refine ⟨enters_of Tryd.func70 (by kernel_rfl) rfl, fun W hW => ?_⟩
      exact blank_any s _ W (by omega) ((z0.keep hb4 (by omega)).keep hW (by omega))
  · rintro e w' ⟨rfl, hb⟩
    refine ⟨?_, hb04.trans (hb.mono hb04.size)⟩
    simp only [firstW, checkN]
    have : (decide ((200 : Int) < (s.size : Int)) = true) = (200 < s.size) := by simp; omega
    simp only [this]
set_option maxRecDepth 100000 in
set_option maxHeartbeats 2000000 in
theorem Sm.TCheck_any (s : ByteArray) (w : World) (hm : s.size ≤ 1000000000) (hL : LaysT w) :
    Calls Tryd.prog 59 #[.string s] w fun e w' => e = .returned (.int .i64 (checkN s)) ∧ Below w.heap.size w w' := by
  have hmf : ∀ (fn : Fn) (first cap : Array Value) (w : World), (Instr.makeFunc fn first cap).run Tryd.prog w = .ok (.func fn first cap) w := fun _ _ _ _ => rfl
  obtain ⟨w2, hw2⟩ : ∃ w2, (w.alloc (.cells #[.string s] 9)).alloc (.cells #[.func (.func 63) #[] #[]] 100) = w2 := ⟨_, rfl⟩
  have hb2 : Below w.heap.size w w2 := by rw [← hw2]; exact ((Below.refl _ w).alloc (Nat.le_refl _) _).alloc (by simp) _
  have hs2 : w2.heap.size = w.heap.size + 1 + 1 := by rw [← hw2]; simp
  have x0 : Box1 w2 w.heap.size (.string s) 9 := by rw [← hw2]; exact (Box1.new w _ _).alloc _
  have x1 : Box1 w2 (w.heap.size + 1) (.func (.func 63) #[] #[]) 100 := by
    rw [← hw2]
    have := Box1.new (w.alloc (.cells #[.string s] 9)) (.func (.func 63) #[] #[]) 100
    rwa [World.size_alloc] at this
  have c0 := x0.cell
  have c1 := x1.cell
  have hlg := longer_any s 200 w2
  have HB2 := Lib.hid hb2
  have HS2 := Lib.hid hs2
  have HX0 := Lib.hid x0
  have HX1 := Lib.hid x1
  have HL := Lib.hid hL
  clear hb2 hs2 x0 x1 hL
  go_enter Tryd.func59, Tryd.ntmps59
  go_wp2_with (first
    | (go_at_call 65; (with_reducible refine hlg.mono ?_); clear hlg; rintro e w3 ⟨rfl, y0, y1, hb3⟩; have HX := check_call s w w2 w3 hm HL.out HB2.out HS2.out HX0.out HX1.out y0 y1 hb3; clear y0 y1 hb3 hw2)
    | (go_at_call 64; (with_reducible refine HX.out.mono ?_); rintro e w4 ⟨rfl, hb4⟩))
  go_ret
  exact ⟨rfl, hb4⟩
end Go.Proofs
