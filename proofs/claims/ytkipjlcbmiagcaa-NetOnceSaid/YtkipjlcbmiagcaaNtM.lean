/-
  Put of none, and what Put refuses of a net. Conditions: as each theorem names them.
-/
import Derived.Test.YtkipjlcbmiagcaaNtJ
namespace Go.Proofs
open Go Go.RowKit Sm Go.Lib Go.Maps Go.WideMaps
theorem Sm.put_no {v : Value} (x y : Int) (A : Option Addr) (n c : Nat) (w : World) (h : NoNet w v) (hn : n ≤ 1000000000) :
    Calls Try.prog 12 #[v, .int .i64 x, .int .i64 y, .slice A n c] w fun e w' => e = .returned (.tuple #[.int .i64 0, .int .i64 1]) ∧ Below w.heap.size w w' := by
  obtain ⟨r, rfl⟩ := h.ptr
  refine put_err r x y A n c true true (decide (8192 < n)) true true 1 w (fun _ _ _ _ _ => rfl) (by decide) (fun W b hb hx => none1_no b W (h.keep hb) hx) (fun e => by cases e) (fun W b hx => put1_any b n c A W hn hx) (fun e => by cases e) (fun e => by cases e)
/-- why a net does not take a message: 0: it does -/
def Sm.putE (s : NSt) (D : List (Int × Int)) (k : Nat) (x y : Int) (n : Nat) : Int :=
  if lnkB s x y = false then 2 else if 8192 < n then 3 else if (x, y) ∈ D then 210 else if (k : Int) = s.most then 211 else 0
theorem Sm.firstF_five (f2 f3 f4 f5 : Bool) (c1 c2 c3 c4 c5 : Array Value) : firstF [⟨59, c1, 1, false⟩, ⟨60, c2, 2, f2⟩, ⟨35, c3, 3, f3⟩, ⟨36, c4, 210, f4⟩, ⟨37, c5, 211, f5⟩] = if f2 = true then 2 else if f3 = true then 3 else if f4 = true then 210 else if f5 = true then 211 else 0 := by
  cases f2 <;> cases f3 <;> cases f4 <;> cases f5 <;> rfl
theorem Sm.put_bad {p Mb base : Nat} {s : NSt} {D : List (Int × Int)} {A0 : Option Addr} {cap0 : Nat} {ms : List MsgM} (x y : Int) (A : Option Addr) (n c : Nat) (w : World) (h : NAt w p Mb base s D A0 cap0 ms) (hn : n ≤ 1000000000) (hE : putE s D ms.length x y n ≠ 0) :
    Calls Try.prog 12 #[.pointer (some ⟨p, 0, none⟩), .int .i64 x, .int .i64 y, .slice A n c] w fun e w' => e = .returned (.tuple #[.int .i64 0, .int .i64 (putE s D ms.length x y n)]) ∧ Below w.heap.size w w' := by
  have hlk : (!(lnkB s x y)) = false → lnkB s x y = true := fun e => by cases h9 : lnkB s x y <;> simp_all
  refine put_err (some ⟨p, 0, none⟩) x y A n c false (!(lnkB s x y)) (decide (8192 < n)) (decide ((x, y) ∈ D)) (decide ((ms.length : Int) = s.most)) _ w (fun _ _ _ _ _ => ?_) hE (fun W b hb hx => none1_yes b W (h.keep hb) hx)
    (fun _ W b1 b2 b3 hb h1 h2 h3 => noLink1_any b1 b2 b3 x y W (h.keep hb) h1 h2 h3) (fun W b hx => put1_any b n c A W hn hx)
    (fun _ e W b1 b2 b3 hb h1 h2 h3 => ?_) (fun _ _ W b hb h1 => put3_any b W (h.keep hb) h1)
  · rw [firstF_five]
    unfold putE
    cases lnkB s x y <;> simp
  · have hi := lnkB_i64 (hlk e) h.lim.2.1
    exact put2_any b1 b2 b3 x y W (h.keep hb) hi.2.2.2.2.1 hi.2.2.2.2.2 h1 h2 h3
end Go.Proofs
