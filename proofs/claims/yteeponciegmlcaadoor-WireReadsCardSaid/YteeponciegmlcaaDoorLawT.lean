/-
  The contract of ask, whole. Conditions: what the theorem names.
-/
import Derived.Deep.RegionWith
import Derived.Test.YteeponciegmlcaaDoorLawQ
namespace Go.Proofs
open Go.RowKit Go.Shelf Sm
attribute [local go_sem ↓] Go.wp_at_zero Go.wp_at_succ
set_option maxRecDepth 100000 in
set_option maxHeartbeats 4000000 in
theorem Sm.ask_left (w : World) (R : Nat) (A : Option Addr) (c : Nat) (l : List (BitVec 8)) (e what most : Int) (h : Rdr w R l e) (hra : RefAt w A l.length c l) (e0 : (what == 0) = false) (e1 : (what == 1) = false) (e2 : (what == 2) = false) (e3 : (what == 3) = false) (hlo : -9223372036854775808 ≤ most) (hhi : most ≤ 9223372036854775807) :
    Calls Tryd.prog 25 #[.pointer (some ⟨R, 0, none⟩), rdV A l.length c e, .agg #[.int .i64 what, .int .i64 most]] w (AskPost w R l e) := by
  have hb := askB_below w A l.length c e what most
  have hd : Below w.heap.size w (askB w A l.length c e what most).drew := hb.drew
  have h4 := Left_any (h.below hd)
  have hz : ∀ o : Obj, Below w.heap.size w ((((w.alloc (.cells #[.slice A l.length c, .int .i64 e] 47)).alloc (.cells #[.int .i64 what, .int .i64 most] 56)).alloc o).drew) := fun o => ((((Below.refl _ w).alloc (Nat.le_refl _) _).alloc (by simp) _).alloc (by simp; omega) _).drew
  have hpost : ∀ o : Obj, AskPost w R l e (.returned (.tuple #[rdV A l.length c e, .bool true])) ((((w.alloc (.cells #[.slice A l.length c, .int .i64 e] 47)).alloc (.cells #[.int .i64 what, .int .i64 most] 56)).alloc o).drew) := fun o =>
    ⟨A, l.length, c, rfl, hra.below (hz o), h.below (hz o), But.of_all (hz o) _⟩
  clear h hra hb hd hz
  unfold askB at h4
  unfold rdV at hpost ⊢
  go_enter Tryd.func25, Tryd.ntmps25
  go_wp2_with fail
  all_goals go_region_with (go_at_call 24; (with_reducible refine h4.mono ?_); rintro x w' ⟨rfl, rfl⟩)
  all_goals go_wp2
  all_goals exact bodyPost_ret (v := .tuple #[.agg #[.slice A l.length c, .int .i64 e], .bool true]) (by simp [results, Tryd.results25, go_sem]) rfl (hpost _)
end Go.Proofs
