/-
  unset and set: a file is taken away, and put. Conditions: as each theorem names them.
-/
import Derived.Test.YtnobmejcbgocoaaDkB
namespace Go.Proofs
open Go Go.RowKit Sm Go.Lib Go.Maps Go.WideMaps
attribute [local go_sem] Oper.semAt_some
theorem Sm.used_del {nm : List (BitVec 8)} : ∀ {G : List FileM}, SortG G → ∀ {f : FileM}, f ∈ G → f.name = nm → usedG (delG nm G) + f.bytes.length = usedG G
  | [], _, f, h, _ => by cases h
  | x :: r, hs, f, h, e => by
    obtain ⟨h1, h2⟩ := List.pairwise_cons.1 hs
    by_cases ex : x.name = nm
    · have hfx : f = x := sort_name hs h (List.mem_cons_self ..) (e.trans ex.symm)
      have hno : delG nm r = r := by
        unfold delG
        refine List.filter_eq_self.2 (fun g hg => ?_)
        have hne : g.name ≠ nm := fun e2 => by
          have := h1 g hg
          rw [ex, ← e2] at this
          exact absurd this (List.lt_irrefl _)
        simp [hne]
      have hd : delG nm (x :: r) = delG nm r := by unfold delG; rw [List.filter_cons_of_neg (by simp [ex])]
      rw [hd, hno, hfx]
      simp only [usedG, List.map_cons, List.sum_cons]
      omega
    · have hd : delG nm (x :: r) = x :: delG nm r := by unfold delG; rw [List.filter_cons_of_pos (by simp [ex])]
      have hfr : f ∈ r := by
        rcases List.mem_cons.1 h with rfl | h
        · exact absurd e ex
        · exact h
      have ih := used_del h2 hfr e
      rw [hd]
      simp only [usedG, List.map_cons, List.sum_cons] at ih ⊢
      omega
theorem Sm.del_none {nm : List (BitVec 8)} {G : List FileM} (h : ∀ f ∈ G, f.name ≠ nm) : delG nm G = G := by
  unfold delG
  refine List.filter_eq_self.2 (fun g hg => ?_)
  simp [h g hg]
theorem Sm.used_ins (f : FileM) : ∀ G : List FileM, usedG (insG f G) = usedG G + f.bytes.length
  | [] => by simp [insG, usedG]
  | x :: r => by
    have ih := used_ins f r
    unfold insG
    split
    · simp only [usedG, List.map_cons, List.sum_cons]; omega
    · simp only [usedG, List.map_cons, List.sum_cons] at ih ⊢; omega
theorem Sm.used_le {G : List FileM} {f : FileM} (h : f ∈ G) : f.bytes.length ≤ usedG G := by
  induction G with
  | nil => cases h
  | cons x r ih =>
    simp only [usedG, List.map_cons, List.sum_cons] at ih ⊢
    rcases List.mem_cons.1 h with rfl | h
    · omega
    · have := ih h; omega
/-- the cells of a disk with another number of bytes -/
theorem Sm.disk_cells {W : World} {p : Nat} {a b c d e f : Value} (h : W.heap[p]? = some (.cells #[a, b, c, d, e, f] 35 (0, 0))) (u : Value) : (W.setCell ⟨p, 4, none⟩ u).heap[p]? = some (.cells #[a, b, c, d, u, f] 35 (0, 0)) := heap_setCells (i := 4) (u := u) h
/-- what unset and set may turn -/
def Sm.DMay (p Mb : Nat) : Nat → Prop := fun b => b = p ∨ b = Mb
theorem Sm.turned_but {w w' : World} {b : Nat} (h : w.mapTurned w' b) : But (fun x => x = b) w w' := by
  have := But.grown h.grown
  exact this.mono (fun x _ e => by injection e with e; exact e.symm)
/-- a disk with some of its files -/
theorem Sm.DAt.sub {w W : World} {p Mb base : Nat} {s : DSt} {G G' : List FileM} (h : DAt w p Mb base s G) (hb : But (DMay p Mb) w W)
    (hblk : W.heap[p]? = some (.cells #[.bool s.stops, .int .i64 s.after, .bool s.dead, .int .i64 s.room, .int .i64 (usedG G' : Int), .map (some Mb)] 35 (0, 0))) (hmap : ∃ D, W.ownsMap Try.prog 9 heldElem Mb G'.length D ∧ MapIs D G')
    (hG : ∀ f ∈ G', f ∈ G) (hs : SortG G') (hu : usedG G' ≤ usedG G) : DAt W p Mb base s G' := by
  have hl := h.low
  refine ⟨hblk, hmap, hs, fun f hf => hb.row (h.row f (hG f hf)) (fun g e1 e2 => ?_), fun f hf g hg => h.sep f (hG f hf) g (hG g hg), ⟨hl.1, hl.2.1, hl.2.2.1, Nat.le_trans hl.2.2.2 hb.size⟩, ⟨h.room_.1, h.room_.2.1, by have := h.room_.2.2; omega⟩, h.aft, fun f hf => h.ok f (hG f hf)⟩
  have := ((h.row f (hG f hf)).lt g e1).1
  rcases e2 with e2 | e2 <;> omega
set_option maxRecDepth 100000 in
set_option maxHeartbeats 2000000 in
theorem Sm.unset_any {p Mb base : Nat} {s : DSt} {G : List FileM} (x : ByteArray) (w : World) (h : DAt w p Mb base s G) (hxz : x.size ≤ 1000000) :
    Calls Try.prog 51 #[.pointer (some ⟨p, 0, none⟩), .string x] w fun e w' => e = .returned (.tuple #[]) ∧ DAt w' p Mb base s (delG (strL x) G) ∧ But (DMay p Mb) w w' := by
  obtain ⟨D, hD1, hD2⟩ := h.map
  have hsort := h.sort
  have hroom := h.room_
  obtain ⟨A, n, c, sv, hlk, hn⟩ : ∃ (A : Option Addr) (n c : Nat) (sv : Int), (Instr.lookup 33 (.map (some Mb)) (.string x) false).run Try.prog w = .ok (.agg #[.slice A n c, .int .i64 sv]) w ∧ usedG (delG (strL x) G) + n = usedG G := by
    by_cases e : ∃ f ∈ G, f.name = strL x
    · obtain ⟨f, hf, e⟩ := e
      exact ⟨f.A, f.bytes.length, f.c, f.sure, look_some hD1 hD2 hf e.symm hxz false, used_del hsort hf e⟩
    · have hno : ∀ f ∈ G, f.name ≠ strL x := fun f hf e2 => e ⟨f, hf, e2⟩
      exact ⟨none, 0, 0, 0, look_none hD1 hD2 hno hxz false, by rw [del_none hno]; rfl⟩
  have hlkd : (Instr.lookup 33 (.map (some Mb)) (.string x) false).run Try.prog w.drew = .ok (.agg #[.slice A n c, .int .i64 sv]) w.drew := by
    by_cases e : ∃ f ∈ G, f.name = strL x
    · obtain ⟨f, hf, e⟩ := e
      have h1 := look_some hD1 hD2 hf e.symm hxz false
      have h2 := look_some hD1.drew hD2 hf e.symm hxz false
      rw [h1] at hlk
      injection hlk with hlk _
      rw [h2, hlk]
    · have hno : ∀ f ∈ G, f.name ≠ strL x := fun f hf e2 => e ⟨f, hf, e2⟩
      have h1 := look_none hD1 hD2 hno hxz false
      have h2 := look_none hD1.drew hD2 hno hxz false
      rw [h1] at hlk
      injection hlk with hlk _
      rw [h2, hlk]
  have hblk := h.blk
  have c4 := cell_of_heap hblk 4
  have c5 := cell_of_heap hblk 5
  have f4 := frozen_of_heap hblk 4
  simp only [List.getElem?_toArray, List.getElem?_cons_succ, List.getElem?_cons_zero] at c4 c5
  obtain ⟨U, hU⟩ : ∃ U, usedG G = U := ⟨_, rfl⟩
  rw [hU] at c4 hn
  have hUb : (U : Int) ≤ 16777216 := by omega
  have hnU : (n : Int) ≤ (U : Int) := by omega
  have hkey := key_str x hxz
  have HH := Lib.hid h
  have HD1 := Lib.hid hD1
  have HN := Lib.hid hn
  have HUU := Lib.hid hU
  clear h hD1 hn hblk hU
  have hfd : ∀ W, (Instr.field 79 (.agg #[.slice A n c, .int .i64 sv]) 0).run Try.prog W = .ok (.slice A n c) W := fun W => by first | kernel_rfl | rfl
  go_enter Try.func51, Try.ntmps51
  go_wp2
  go_region
  all_goals
    have hpm : Mb ≠ p := fun e => HH.out.low.2.2.1 e.symm
    have hD3 : (w.setCell ⟨p, 4, none⟩ (.int .i64 ((U : Int) - (n : Int)))).drew.ownsMap Try.prog 9 heldElem Mb G.length D := (HD1.out.setCell (a := ⟨p, 4, none⟩) hpm _).drew
    clear hlk hlkd hfd c4 f4
    go_wp2_with (at_delete; refine wpList_delete_own _ rfl _ _ 33 9 rfl 79 law9 Try.underlying33 heldElem Mb _ D rfl hD3 _ _ rfl hkey ?_; intro w2 hown2 hturn2)
    have hB1 : But (DMay p Mb) w (w.setCell ⟨p, 4, none⟩ (.int .i64 ((U : Int) - (n : Int)))).drew := by
      have h1 : But (DMay p Mb) w (w.setCell ⟨p, 4, none⟩ (.int .i64 ((U : Int) - (n : Int)))) := (But.refl _ w).set ⟨p, 4, none⟩ _ (.inl (.inl rfl))
      exact h1.trans (But.of_all (Below.refl _ (w.setCell ⟨p, 4, none⟩ (.int .i64 ((U : Int) - (n : Int))))).drew _) (fun b _ e => e)
    have hB2 := (turned_but hturn2).mono (fun b _ e => (Or.inr e : DMay p Mb b))
    have hB := hB1.trans hB2 (fun b _ e => e)
    have hblk2 : w2.heap[p]? = some (.cells #[.bool s.stops, .int .i64 s.after, .bool s.dead, .int .i64 s.room, .int .i64 (usedG (delG (strL x) G) : Int), .map (some Mb)] 35 (0, 0)) := by
      have h1 := disk_cells HH.out.blk (.int .i64 ((U : Int) - (n : Int)))
      have h2 := (turned_but hturn2).box h1 (fun e => hpm e.symm)
      rw [h2]
      have := HN.out
      congr 3
      simp
      omega
    have hM := hD2.del hsort (strL x)
    have hmap2 : ∃ D, w2.ownsMap Try.prog 9 heldElem Mb (delG (strL x) G).length D ∧ MapIs D (delG (strL x) G) := ⟨_, by have := map_tight hown2; rw [hM.len] at this; exact this, hM⟩
    go_end0
    exact ⟨rfl, HH.out.sub hB hblk2 hmap2 (fun f hf => (mem_del.1 hf).1) (sort_del hsort) (by have := HN.out; rw [HUU.out]; omega), hB⟩
end Go.Proofs
