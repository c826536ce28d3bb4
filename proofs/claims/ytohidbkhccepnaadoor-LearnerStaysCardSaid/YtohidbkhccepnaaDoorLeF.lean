/-
  learner: tell. Conditions: as each theorem names them.
-/
import Derived.Test.YtohidbkhccepnaaDoorLeE
namespace Go.Proofs
open Go Go.RowKit Sm Go.Lib
attribute [local go_sem] Oper.semAt_some
set_option maxRecDepth 100000 in
set_option maxHeartbeats 1000000 in
theorem Sm.tell_wrong {w : World} {p Mb : Nat} {s : LSt} {g : HrdM} {n : Nat} (v : Value) (A : Option Addr) (k c : Nat) (xs : List Bool) (hp : LAt w p Mb s g n) (hr : RowB w A k c xs) (hx : xs.any id = true) :
    Calls Tryd.prog 19 #[.pointer (some ⟨p, 0, none⟩), v, .slice A k c] w fun e w' => e = .returned (.tuple #[.bool false, .int .i64 2]) ∧ Below w.heap.size w w' := by
  have h31 := there_any hp
  have H32 : Hid (∀ W, Below w.heap.size w W → Calls Tryd.prog 32 #[.slice A k c, .bool true] W fun e w' => e = .returned (.bool true) ∧ W = w') := Lib.hid fun W hb => by
    have := Contains_any A k c xs W (hr.keep hb)
    rwa [hx] at this
  clear hp hr hx
  go_enter Tryd.func19, Tryd.ntmps19
  go_wp2_with (first
    | (go_at_call 31; (with_reducible refine h31.mono ?_); clear h31; rintro e w1 ⟨rfl, hb1⟩)
    | (go_at_call 32; (with_reducible refine (H32.out _ hb1).mono ?_); rintro e w2 ⟨rfl, rfl⟩))
  go_ret2
  exact ⟨rfl, hb1⟩
set_option maxRecDepth 100000 in
set_option maxHeartbeats 1000000 in
theorem Sm.tell_do {w : World} {p Mb : Nat} {s : LSt} {g : HrdM} {n : Nat} (f : Nat) (lb : Array Value) (eg : ∀ args w, (callFunc f args).run Tryd.prog w = .ok (.enter f args) w) (A : Option Addr) (k c : Nat) (xs : List Bool) (hp : LAt w p Mb s g n) (hr : RowB w A k c xs) (hx : xs.any id = false)
    {s' : LSt} {g' : HrdM} {n' : Nat} {x : Int} (hcl : ∀ W, Below w.heap.size w W → Calls Tryd.prog f lb W fun e w' => e = .returned (.int .i64 x) ∧ LAt w' p Mb s' g' n' ∧ But (SL p Mb) W w') :
    Calls Tryd.prog 19 #[.pointer (some ⟨p, 0, none⟩), .func (.func f) #[] lb, .slice A k c] w fun e w' => e = .returned (.tuple #[.bool (s'.kn != s.kn), .int .i64 x]) ∧ LAt w' p Mb s' g' n' ∧ But (SL p Mb) w w' := by
  have h31 := there_any hp
  have H32 : Hid (∀ W, Below w.heap.size w W → Calls Tryd.prog 32 #[.slice A k c, .bool true] W fun e w' => e = .returned (.bool false) ∧ W = w') := Lib.hid fun W hb => by
    have := Contains_any A k c xs W (hr.keep hb)
    rwa [hx] at this
  have HF : Hid (∀ W, Below w.heap.size w W → W.cell? ⟨p, 6, none⟩ = some (.bool s.kn)) := Lib.hid fun W hb => (eight (hp.keep hb).blk).1.2.2.2.2.2.2.1
  have HC : Hid (∀ W, Below w.heap.size w W → Calls Tryd.prog f lb W fun e w' => e = .returned (.int .i64 x) ∧ Hid (LAt w' p Mb s' g' n' ∧ But (SL p Mb) w w') ∧ w'.cell? ⟨p, 6, none⟩ = some (.bool s'.kn)) := Lib.hid fun W hb => (hcl W hb).mono fun e w' ⟨h1, h2, h3⟩ => ⟨h1, Lib.hid ⟨h2, (But.of_all hb _).trans h3 (fun _ _ e => e)⟩, (eight h2.blk).1.2.2.2.2.2.2.1⟩
  have hkk : ∀ W : World, (binOp .neq 4 (.bool s'.kn) (.bool s.kn)).run Tryd.prog W = .ok (.bool (s'.kn != s.kn)) W := fun W => by cases s'.kn <;> cases s.kn <;> rfl
  obtain ⟨kk, hq⟩ : ∃ kk, (s'.kn != s.kn) = kk := ⟨_, rfl⟩
  obtain ⟨k0, hk0⟩ : ∃ k0, s.kn = k0 := ⟨_, rfl⟩
  obtain ⟨k1, hk1⟩ : ∃ k1, s'.kn = k1 := ⟨_, rfl⟩
  rw [hq] at hkk ⊢
  rw [hk0] at HF hkk
  rw [hk1] at HC hkk
  clear hp hr hx hq hcl hk0 hk1
  go_enter Tryd.func19, Tryd.ntmps19
  go_wp2_with (first
    | (go_at_call 31; (with_reducible refine h31.mono ?_); clear h31; rintro e w1 ⟨rfl, hb1⟩; have c6 := HF.out _ hb1)
    | (go_at_call 32; (with_reducible refine (H32.out _ hb1).mono ?_); rintro e w2 ⟨rfl, rfl⟩))
  refine (HC.out _ hb1).mono ?_
  clear c6
  rintro e w3 ⟨rfl, HL, c6⟩
  go_wp2
  go_ret2
  exact ⟨rfl, HL.out⟩
end Go.Proofs
