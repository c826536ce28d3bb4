/-
  acceptor: what AcceptorRises looks at; where it has nothing to walk. Conditions: as the theorem names them.
-/
import Derived.Test.YtamlacofmihldaaDoorAcRp
namespace Go.Proofs
open Go Go.RowKit Sm Go.Lib
attribute [local go_sem] Oper.semAt_some
/-- what is told of what was accepted -/
def Sm.shM (M : AcM) : AcM := if noAcc M = true then zeroM else M
theorem Sm.acVal_sh (M : AcM) : acVal (!noAcc M) M = .agg #[.int .i64 ((shM M).ar), .int .i64 ((shM M).ap), .int .i64 ((shM M).k), .int .i64 ((shM M).m), .int .i64 ((shM M).n), .string ((shM M).t)] := by
  unfold acVal shM
  cases noAcc M <;> rfl
theorem Sm.shM_of {M : AcM} (h : noAcc M = false) : shM M = M := by unfold shM; rw [h]; rfl
theorem Sm.stX_c (M : AcM) (y : XV) : (stX M y).c = M.c := by
  unfold stX stM prM acM
  split <;> split <;> rfl
theorem Sm.stX_s (M : AcM) (y : XV) : (stX M y).s = M.s := by
  unfold stX stM prM acM
  split <;> split <;> rfl
theorem Sm.stX_t {M : AcM} {y : XV} (h : M.t.size ≤ 300) (hy : y.t.size ≤ 300) : (stX M y).t.size ≤ 300 := by
  unfold stX stM prM acM
  split <;> split <;> first | exact h | exact hy
theorem Sm.play_cst {M : AcM} : ∀ (xs : List XV), M.t.size ≤ 300 → (∀ y ∈ xs, y.t.size ≤ 300) → (playM M xs).c = M.c ∧ (playM M xs).t.size ≤ 300
  | [], h, _ => ⟨rfl, h⟩
  | y :: r, h, hx => by
    have := play_cst (M := stX M y) r (stX_t h (hx y (List.mem_cons_self ..))) (fun z hz => hx z (List.mem_cons_of_mem _ hz))
    exact ⟨this.1.trans (stX_c M y), this.2⟩
theorem Sm.below_but {N : Nat} {w w1 w2 : World} {p : Nat} (h : Below N w w1) (hb : But (Xp p) w1 w2) (h1 : N ≤ w1.heap.size) (hp : N ≤ p) : Below N w w2 := h.trans (hb.to_below h1 (fun b e => by rw [show b = p from e]; exact hp))
set_option maxRecDepth 100000 in
set_option maxHeartbeats 4000000 in
theorem Sm.rises_many (c s : Int) (A : Option Addr) (n cap : Nat) (xs : List XV) (w : World) (hn : xs.length = n) (hnc : n ≤ cap) (hc9 : cap ≤ 9223372036854775807) (hx : RdX w A xs) (hcm : ∀ y ∈ xs, XV.came y) (hL : LaysT w) (hf : fewB xs 40 = false) : Calls Tryd.prog 4 #[.int .i64 c, .int .i64 s, .slice A n cap] w fun e w' => e = .returned (.bool true) ∧ Below w.heap.size w w' := by
  have h1 := few_any A n cap xs 40 w hn hnc hc9 hx hcm
  rw [hf] at h1
  have HW := Lib.hid (fun W (hb : Below w.heap.size w W) => works_any W (hL.keep hb))
  clear hn hx hcm hL hf
  go_enter Tryd.func4, Tryd.ntmps4
  go_wp2_with (first
    | (go_at_call 9; (with_reducible refine h1.mono ?_); clear h1; rintro e w1 ⟨rfl, hb1⟩)
    | (go_at_call 6; (with_reducible refine (HW.out _ hb1).mono ?_); clear HW; rintro e w2 ⟨rfl, hb2⟩))
  go_ret
  exact ⟨rfl, hb1.trans (hb2.mono hb1.size)⟩
set_option maxRecDepth 100000 in
set_option maxHeartbeats 4000000 in
theorem Sm.rises_err (c s : Int) (A : Option Addr) (n cap : Nat) (xs : List XV) (w : World) (hn : xs.length = n) (hnc : n ≤ cap) (hc9 : cap ≤ 9223372036854775807) (hx : RdX w A xs) (hcm : ∀ y ∈ xs, XV.came y) (hL : LaysT w) (hf : fewB xs 40 = true) (hv : ¬ (chB c = true ∧ slB s = true)) : Calls Tryd.prog 4 #[.int .i64 c, .int .i64 s, .slice A n cap] w fun e w' => e = .returned (.bool true) ∧ Below w.heap.size w w' := by
  have h1 := few_any A n cap xs 40 w hn hnc hc9 hx hcm
  rw [hf] at h1
  have HW := Lib.hid (fun W (hb : Below w.heap.size w W) => works_any W (hL.keep hb))
  have H2 := Lib.hid (fun W => new_no c s W hv)
  obtain ⟨ev, hev⟩ : ∃ ev, (slotV c s (s % c)).2 = ev := ⟨_, rfl⟩
  have hev0 : (ev != 0) = true := by rw [← hev]; simp only [bne_iff_ne, ne_eq, slotV_e]; exact hv
  rw [hev] at H2
  have hnum := fun x W => num_any x W
  clear hn hx hcm hL hf hv hev
  go_enter Tryd.func4, Tryd.ntmps4
  go_wp2_with (first
    | (go_at_call 9; (with_reducible refine h1.mono ?_); clear h1; rintro e w1 ⟨rfl, hb1⟩)
    | (go_at_call 10; (with_reducible refine (H2.out _).mono ?_); clear H2; rintro e w2 ⟨rfl, hb2⟩; have hb2 := hb1.trans (hb2.mono hb1.size))
    | (go_at_call 11; (with_reducible refine (hnum _ _).mono ?_); rintro e w' ⟨rfl, rfl⟩)
    | (go_at_call 6; (with_reducible refine (HW.out _ hb2).mono ?_); clear HW; rintro e w3 ⟨rfl, hb3⟩))
  go_ret
  exact ⟨rfl, hb2.trans (hb3.mono hb2.size)⟩
end Go.Proofs
