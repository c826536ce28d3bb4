/-
  A net with one message more. Conditions: as the theorem names them.
-/
import Derived.Test.YtkipjlcbmiagcaaNtH
namespace Go.Proofs
open Go Go.RowKit Sm Go.Lib Go.Maps Go.WideMaps
/-- what Put may turn -/
def Sm.PMay (p : Nat) (v : Value) : Nat → Prop := fun b => b = p ∨ v.ownBlock = some b
theorem Sm.own_base {W : World} {b b' : Nat} {e : TypeId} {size n : Nat} {v : Value} {xs : List Value} (h : W.ownsRow b e size v n xs) (hb : b' ≤ b) : W.ownsRow b' e size v n xs :=
  ⟨h.1, h.2.imp id (fun ⟨g, cap, cur, e1, h1, r⟩ => ⟨g, cap, cur, e1, Nat.le_trans hb h1, r⟩)⟩
theorem Sm.cellsM_add (ms : List MsgM) (m : MsgM) : cellsM (ms ++ [m]) = cellsM ms ++ m.cells := by
  unfold cellsM
  rw [List.flatMap_append]
  simp
theorem Sm.NAt.added {w W : World} {p Mb base : Nat} {s : NSt} {D : List (Int × Int)} {A0 : Option Addr} {cap0 : Nat} {ms : List MsgM} (m : MsgM) (A8 : Option Addr) (c8 : Nat) (h : NAt w p Mb base s D A0 cap0 ms) (hP : But (PMay p (.slice A0 ms.length cap0)) w W)
    (hblk : W.heap[p]? = some (.cells #[.int .i64 s.ends, .int .i64 s.most, .int .i64 (s.came + 1), .map (some Mb), .slice A8 (ms.length + 1) c8] 35 (0, 0)))
    (hrow : W.ownsRow base 83 4 (.slice A8 (ms.length + 1) c8) (ms.length + 1) (cellsM ms ++ m.cells))
    (hown : (Value.slice A8 (ms.length + 1) c8).ownBlock = (Value.slice A0 ms.length cap0).ownBlock ∨ ∀ q, (Value.slice A8 (ms.length + 1) c8).ownBlock = some q → w.heap.size ≤ q)
    (hbyt : W.ownsRow base 5 1 m.sl m.bytes.length (m.bytes.map byteCell)) (hsep : ∀ b, m.sl.ownBlock = some b → (Value.slice A8 (ms.length + 1) c8).ownBlock ≠ some b)
    (hm : (ms.length : Int) ≠ s.most) (hc : s.came < 1000000000) (hmm : m.num = s.came ∧ 0 ≤ m.src ∧ m.src < s.ends ∧ 0 ≤ m.dst ∧ m.dst < s.ends ∧ m.bytes.length ≤ 8192) :
    NAt W p Mb base ⟨s.ends, s.most, s.came + 1⟩ D A8 c8 (ms ++ [m]) := by
  have hl := h.low
  have hlim := h.lim
  have hlen : (ms ++ [m]).length = ms.length + 1 := by simp
  have h0 : ∀ q, (Value.slice A0 ms.length cap0).ownBlock = some q → base ≤ q := fun q e => (h.row.lt q e).1
  refine ⟨by rw [hlen]; exact hblk, h.map.imp fun _ hD => ⟨map_keep hD.1 (hP.block _ hD.1.lt (fun e => ?_)), hD.2⟩, by rw [hlen, cellsM_add]; exact hrow, fun x hx => ?_, fun x hx b hb => ?_, ⟨hl.1, hl.2.1, hl.2.2.1, Nat.le_trans hl.2.2.2 hP.size⟩,
    ⟨hlim.1, hlim.2.1, hlim.2.2.1, hlim.2.2.2.1, by rw [hlen]; show ((ms.length + 1 : Nat) : Int) ≤ s.most; omega, by show 0 ≤ s.came + 1; omega, by show s.came + 1 ≤ 1000000000; omega⟩, h.lnk, fun x hx => ?_⟩
  · rcases e with e | e
    · exact hl.2.2.1 e.symm
    · have := h0 _ e; omega
  · rcases List.mem_append.1 hx with hx | hx
    · refine hP.row (h.byt x hx) (fun g e1 e2 => ?_)
      rcases e2 with e2 | e2
      · have := ((h.byt x hx).lt g e1).1; omega
      · exact h.sep x hx g e1 e2
    · rw [List.mem_singleton] at hx
      subst hx
      exact hbyt
  · rw [hlen]
    rcases List.mem_append.1 hx with hx | hx
    · rcases hown with e | e
      · rw [e]; exact h.sep x hx b hb
      · intro e2
        have h1 := e b e2
        have h2 := ((h.byt x hx).lt b hb).2
        omega
    · rw [List.mem_singleton] at hx
      subst hx
      exact hsep b hb
  · rcases List.mem_append.1 hx with hx | hx
    · have h1 := h.msg x hx
      exact ⟨h1.1, by show x.num < s.came + 1; omega, h1.2.2⟩
    · rw [List.mem_singleton] at hx
      subst hx
      exact ⟨by omega, by show x.num < s.came + 1; omega, hmm.2⟩
end Go.Proofs
