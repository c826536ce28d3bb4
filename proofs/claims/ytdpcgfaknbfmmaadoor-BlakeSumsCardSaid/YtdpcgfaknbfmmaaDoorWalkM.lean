/-
  The contracts of a hash's own there and Write, where there is one.
-/
import Derived.Test.YtdpcgfaknbfmmaaDoorWalkL
namespace Go.Proofs
open Go.RowKit Sm
section
variable {w w' : World} {g : Nat} {s : HS} {size : Int} {ahead : Nat}
theorem Sm.HsAt.tail (h : HsAt w g s size ahead) : w.rangeAt g 74 [.int .i64 size, .int .i64 (ahead : Int)] := by
  have := range_of (A := stc s.ws s.p (pad s.cur) s.cur.length) (B := [Value.int .i64 size, .int .i64 (ahead : Int)]) (C := []) (t := 0x33) (g := g) (w := w) (by simpa using h.blk)
  have e : (stc s.ws s.p (pad s.cur) s.cur.length).length = 74 := by rw [stc_length, h.wlen, h.blen]
  rwa [e] at this
theorem Sm.HsAt.cellSize (h : HsAt w g s size ahead) : w.cell? ⟨g, 74, none⟩ = some (.int .i64 size) := h.tail 0 _ rfl
theorem Sm.HsAt.cellAhead (h : HsAt w g s size ahead) : w.cell? ⟨g, 75, none⟩ = some (.int .i64 (ahead : Int)) := h.tail 1 _ rfl
theorem Sm.HsAt.lt (h : HsAt w g s size ahead) : g < w.heap.size := h.blk.lt
theorem Sm.HsAt.keep (h : HsAt w g s size ahead) (hb : Below w.heap.size w w') : HsAt w' g s size ahead := St.keep h hb
theorem Sm.HsAt.but {S : Nat → Prop} (h : HsAt w g s size ahead) (hb : But S w w') (hn : ¬ S g) : HsAt w' g s size ahead := St.but h hb hn
end
set_option maxHeartbeats 1000000 in
theorem Sm.there_yes (w : World) (g : Nat) (s : HS) (size : Int) (ahead : Nat) (h : HsAt w g s size ahead) (h1 : 0 < size) : Calls Tryd.prog 51 #[.pointer (some ⟨g, 0, none⟩)] w fun e w' => e = .returned (.bool true) ∧ w = w' := by
  have hc := h.cellSize
  clear h
  go_enter Tryd.func51, Tryd.ntmps51
  go_wp2
  go_ret
  exact ⟨rfl, rfl⟩
theorem Sm.one_part {w : World} {g : Nat} {A : Option Addr} {n c : Nat} {l : List (BitVec 8)} (hg : g < w.heap.size) (h : PtOK w g A n c l) : PsOK (w.alloc (.cells #[.slice A n c] 0x1e)) g (some ⟨w.heap.size, 0, none⟩) 1 [⟨A, n, c, l⟩] := by
  refine ⟨rfl, by omega, fun _ => ⟨w.heap.size, 0, rfl, by simp, by omega, fun j v hj => ?_⟩, fun p hp => ?_⟩
  · rcases j with _ | j
    · simp [Pt.val] at hj
      subst hj
      rw [World.cell?_alloc_mark]
      rfl
    · simp at hj
  · simp only [List.mem_cons, List.not_mem_nil, or_false] at hp
    subst hp
    exact h.keep ((Below.refl _ w).alloc (Nat.le_refl _) _)
set_option maxRecDepth 100000 in
set_option maxHeartbeats 2000000 in
theorem Sm.Write_any (g : Nat) (s : HS) (size : Int) (ahead : Nat) (A : Option Addr) (n c : Nat) (l : List (BitVec 8)) (w : World) (h : HsAt w g s size ahead) (h1 : 0 < size) (hcur : s.cur.length ≤ 64) (hpt : PtOK w g A n c l) (hg : 3 ≤ g) (ht : Tabs w) (hp : s.p + (s.cur ++ l).length ≤ 1000000000) :
    Calls Tryd.prog 25 #[.pointer (some ⟨g, 0, none⟩), .slice A n c] w fun e w' => e = .returned (.int .i64 0) ∧ HsAt w' g (takeS s l) size ahead ∧ But (fun b => b = g) w w' := by
  have hth := there_yes w g s size ahead h h1
  have hb1 := (Below.refl w.heap.size w).alloc (Nat.le_refl _) (.cells #[.slice A n c] 0x1e)
  have hst1 : St (w.alloc (.cells #[.slice A n c] 0x1e)) g 0x33 s.ws s.p (pad s.cur) s.cur.length [.int .i64 size, .int .i64 (ahead : Int)] := St.keep h hb1
  have htk := take_any g 0x33 s.ws s.p s.cur [.int .i64 size, .int .i64 (ahead : Int)] (some ⟨w.heap.size, 0, none⟩) 1 1 [⟨A, n, c, l⟩] _ hst1 hcur (one_part h.lt hpt) (Nat.le_refl _) hg (ht.keep hb1) (by simpa [joinP] using hp)
  have e : joinP [⟨A, n, c, l⟩] = l := by simp [joinP]
  rw [e] at htk
  have HTK := Lib.hid htk
  have HB1 := Lib.hid hb1
  clear htk hb1 hst1 h h1 hcur hpt hp ht e hg
  go_enter Tryd.func25, Tryd.ntmps25
  go_wp2_with (first
    | (go_at_call 51; (with_reducible refine hth.mono ?_); clear hth; rintro e w' ⟨rfl, rfl⟩)
    | (go_at_call 49; (with_reducible refine HTK.out.mono ?_); rintro e w4 ⟨⟨v4, rfl⟩, hst4, hbt4⟩))
  go_ret
  exact ⟨rfl, hst4, (But.of_all HB1.out _).trans hbt4 (fun _ _ e => e)⟩
end Go.Proofs
