/-
  The program's spell: how a byte stands in a quoted text, laid behind a row. No condition but a row that is not too long.
-/
import Derived.Deep.RegionHeldLaw
import Derived.Maps.AppendAt
import Derived.Test.YtneaenplbccpmaaGreatDoorSpB
import Derived.Test.YtneaenplbccpmaaGreatDoorTxD
namespace Go.Proofs
open Go Go.RowKit Sm Go.Lib
theorem Sm.info5 : (Tryz.prog.info? 5).map (fun i => (i.zero, i.size, i.bytes)) = some (some (.int .u8 0), 1, 1) := by kernel_rfl
theorem Sm.oper_append_at {P : Program} {o : Oper} {a : Act} {w : World} {K : Act → World → Prop} {Q : Exit → Act → World → Prop} (s x : Operand) (t : TypeId)
    (ho : o.op = .call { callee := .builtin .append, args := #[s, x], argTypes := #[t, t] })
    (base : Nat) (e : TypeId) (i : TypeInfo) (z : Value) (size bytes : Nat) (ht : P.underlying t = some (.slice e)) (hi : P.info? e = some i) (hz : i.zero = some z)
    (hsize : i.size = size) (hby : i.bytes = bytes) (hzs : z.cells.size = size) (hsz : 0 < size)
    (v : Value) (n : Nat) (xs : List Value) (hs : a.eval s = v) (hown : w.ownsRow base e size v n xs)
    (ad : Addr) (m c : Nat) (news : List Value) (hx : a.eval x = .slice (some ad) m c) (hl : news.length = m * size) (hnews : ∀ j u, news[j]? = some u → w.cell? (ad.add j) = some u) (h1 : ∀ u ∈ news, u.oneCell' = true)
    (h63 : n + m ≤ maxLen) (hbytes : (n + m) * bytes ≤ 140737488355328) (hbase : base ≤ w.heap.size)
    (h : ∀ v' w', w'.ownsRow base e size v' (n + m) (xs ++ news) → w.grownBy w' v.ownBlock → (v'.ownBlock = v.ownBlock ∨ v'.ownBlock = some w.heap.size) → K (a.put o.dst v') w') : o.wp P a w K Q := by
  obtain ⟨v', w', hr, h2, h3, h4, h5⟩ := run_append_own_at (P := P) w base t o.type e i z size bytes ht hi hz hsize hby hzs hsz v n xs hown ad m c news hl hnews h1 h63 hbytes hbase
  unfold Oper.wp execOp
  simp only [ho, resolve, invoke, builtin, Sem.run_bind, Sem.run_pure, Result.andThen_ok, List.map_toArray, List.map_cons, List.map_nil, hs, hx, hr]
  exact h v' w' h2 h3 h5
/-- what spell leaves -/
def Sm.SpelledQ (base n : Nat) (v : Value) (xs : List Value) (w : World) (l : List (BitVec 8)) (e : Ending) (w' : World) : Prop :=
  ∃ v', e = .returned v' ∧ w'.ownsRow base 5 1 v' (n + l.length) (xs ++ l.map byteCell) ∧ But (fun q => v.ownBlock = some q) w w' ∧ Stays w v v'
theorem Sm.spelled_end {base n : Nat} {v v' : Value} {xs : List Value} {w w' : World} {l : List (BitVec 8)} {o : Obj} {m : Nat} {news : List Value} (hl : l.length = m) (hn : l.map byteCell = news)
    (ho : w'.ownsRow base 5 1 v' (n + m) (xs ++ news)) (hg : (w.alloc o).grownBy w' v.ownBlock) (hat : v'.ownBlock = v.ownBlock ∨ v'.ownBlock = some (w.alloc o).heap.size) : SpelledQ base n v xs w l (.returned v') w' := by
  subst hl
  subst hn
  exact ⟨v', rfl, ho, ((But.refl _ w).alloc o).trans (But.grown hg) (fun b _ e => e), (Stays.of hat).after (by simp)⟩
theorem Sm.spelled_endD {base n : Nat} {v v' : Value} {xs : List Value} {w w' : World} {l : List (BitVec 8)} {o : Obj} {m : Nat} {news : List Value} (hl : l.length = m) (hn : l.map byteCell = news)
    (ho : w'.ownsRow base 5 1 v' (n + m) (xs ++ news)) (hg : (w.alloc o).drew.grownBy w' v.ownBlock) (hat : v'.ownBlock = v.ownBlock ∨ v'.ownBlock = some (w.alloc o).drew.heap.size) : SpelledQ base n v xs w l (.returned v') w' := by
  subst hl
  subst hn
  exact ⟨v', rfl, ho, (((But.refl _ w).alloc o).drew).trans (But.grown hg) (fun b _ e => e), (Stays.of hat).after (by simp)⟩
theorem Sm.q0 (w : World) : (Instr.index 9 (.string { data := #[34] }) (.int .i64 0)).run Tryz.prog w = .ok (.int .u8 34) w := by kernel_rfl
theorem Sm.e0 (w : World) : (Instr.index 9 (.string { data := #[92] }) (.int .i64 0)).run Tryz.prog w = .ok (.int .u8 92) w := by kernel_rfl
set_option maxRecDepth 100000 in
set_option maxHeartbeats 2000000 in
theorem Sm.spell_any (b : BitVec 8) (base n : Nat) (v : Value) (xs : List Value) (w : World) (hown : w.ownsRow base 5 1 v n xs) (hb : base ≤ w.heap.size) (hn : n ≤ 100000000) :
    Calls Tryz.prog 54 #[v, .int .u8 (ib b)] w (SpelledQ base n v xs w (spellB b)) := by
  obtain ⟨i0, hi0, hz0, hz1, hz2⟩ := info_parts info5
  have hq := q0
  have he := e0
  obtain ⟨X, hX⟩ : ∃ X : Nat, b.toNat = X := ⟨_, rfl⟩
  have hib : ib b = (X : Int) := by unfold ib; rw [hX]
  have hXl : X < 256 := by rw [← hX]; exact b.isLt
  have hsp := spellB_eq hX
  have hb2 : b = BitVec.ofNat 8 X := by rw [← hX]; simp
  rw [hib]
  by_cases hA : X = 34 ∨ X = 92
  · rw [if_pos hA] at hsp
    have hc2 : (spellB b).map byteCell = [.int .u8 92, .int .u8 (X : Int)] := by rw [hsp]; simp [byteCell, hib]; rfl
    have hl2 : (spellB b).length = 2 := by rw [hsp]; rfl
    have HC := Lib.hid hc2
    have HL := Lib.hid hl2
    clear hsp hib hX hb2 hc2 hl2
    by_cases h34 : X = 34
    · subst h34
      clear hA
      go_enter Tryz.func54, Tryz.ntmps54
      go_wp2_with (at_builtin; refine wpList_append_own_at _ rfl (.tmp 14) (.tmp 17) 38 rfl base 5 i0 _ 1 1 Tryz.underlying38 hi0 hz0 hz1 hz2 rfl (by decide) _ n xs rfl (hown.alloc _) ⟨w.heap.size, 0, none⟩ 2 2 [.int .u8 92, .int .u8 34] rfl rfl (cell_two_new _ _ _ _) (by simp [Value.oneCell']) ?_ ?_ ?_ ?_; (unfold maxLen; omega); omega; (simp; omega); intro v3 w3 hown3 hg3 _ hat3)
      go_ret
      exact spelled_end HL.out HC.out hown3 hg3 hat3
    · have h92 : X = 92 := by omega
      subst h92
      clear hA
      go_enter Tryz.func54, Tryz.ntmps54
      go_wp2_with (at_builtin; refine wpList_append_own_at _ rfl (.tmp 14) (.tmp 17) 38 rfl base 5 i0 _ 1 1 Tryz.underlying38 hi0 hz0 hz1 hz2 rfl (by decide) _ n xs rfl (hown.alloc _) ⟨w.heap.size, 0, none⟩ 2 2 [.int .u8 92, .int .u8 92] rfl rfl (cell_two_new _ _ _ _) (by simp [Value.oneCell']) ?_ ?_ ?_ ?_; (unfold maxLen; omega); omega; (simp; omega); intro v3 w3 hown3 hg3 _ hat3)
      go_ret
      exact spelled_end HL.out HC.out hown3 hg3 hat3
  · rw [if_neg hA] at hsp
    have h34 : ¬ X = 34 := fun e => hA (.inl e)
    have h92 : ¬ X = 92 := fun e => hA (.inr e)
    have n34 : ((X : Int) == 34) = false := by simp; omega
    have n92 : ((X : Int) == 92) = false := by simp; omega
    clear hA
    by_cases hB : 32 ≤ X ∧ X ≤ 126
    · rw [if_pos hB] at hsp
      have hc2 : (spellB b).map byteCell = [.int .u8 (X : Int)] := by rw [hsp]; simp [byteCell, hib]
      have hl2 : (spellB b).length = 1 := by rw [hsp]; rfl
      have HC := Lib.hid hc2
      have HL := Lib.hid hl2
      obtain ⟨b0, b1⟩ := hB
      clear hsp hib hX hb2 hc2 hl2
      go_enter Tryz.func54, Tryz.ntmps54
      go_wp2_with (at_builtin; refine wpList_append_own_at _ rfl (.tmp 26) (.tmp 28) 38 rfl base 5 i0 _ 1 1 Tryz.underlying38 hi0 hz0 hz1 hz2 rfl (by decide) _ n xs rfl (hown.alloc _) ⟨w.heap.size, 0, none⟩ 1 1 [.int .u8 (X : Int)] rfl rfl (cell_one_new _ _ _) (by simp [Value.oneCell']) ?_ ?_ ?_ ?_; (unfold maxLen; omega); omega; (simp; omega); intro v3 w3 hown3 hg3 _ hat3)
      go_ret
      exact spelled_end HL.out HC.out hown3 hg3 hat3
    · rw [if_neg hB] at hsp
      obtain ⟨q, hq1⟩ : ∃ q, X / 16 = q := ⟨_, rfl⟩
      obtain ⟨r, hr1⟩ : ∃ r, X % 16 = r := ⟨_, rfl⟩
      rw [hq1, hr1] at hsp
      obtain ⟨dq, hdq⟩ : ∃ d, hexd q = d := ⟨_, rfl⟩
      obtain ⟨dr, hdr⟩ : ∃ d, hexd r = d := ⟨_, rfl⟩
      have iq : ∀ w, (Instr.index 9 (.string { data := #[48, 49, 50, 51, 52, 53, 54, 55, 56, 57, 97, 98, 99, 100, 101, 102] }) (.int .u8 (q : Int))).run Tryz.prog w = .ok (.int .u8 (ib dq)) w := fun w => by rw [← hdq]; exact hexd_index q (by omega) w
      have ir : ∀ w, (Instr.index 9 (.string { data := #[48, 49, 50, 51, 52, 53, 54, 55, 56, 57, 97, 98, 99, 100, 101, 102] }) (.int .u8 (r : Int))).run Tryz.prog w = .ok (.int .u8 (ib dr)) w := fun w => by rw [← hdr]; exact hexd_index r (by omega) w
      have s1 : (X : Int) / 16 = (q : Int) := by omega
      have s2 : bits .and .u8 (X : Int) 15 = (r : Int) := by rw [← hr1]; exact and_fifteen X hXl
      rw [hdq, hdr] at hsp
      have hc2 : (spellB b).map byteCell = [.int .u8 92, .int .u8 120, .int .u8 (ib dq), .int .u8 (ib dr)] := by rw [hsp]; rfl
      have hl2 : (spellB b).length = 4 := by rw [hsp]; rfl
      have HC := Lib.hid hc2
      have HL := Lib.hid hl2
      have hcond : (decide ((32 : Int) ≤ (X : Int)) && decide ((X : Int) ≤ 126)) = false := by
        by_cases h1 : 32 ≤ X
        · have : ¬ X ≤ 126 := fun e => hB ⟨h1, e⟩
          simp; omega
        · simp; omega
      clear hsp hib hX hb2 hc2 hl2 hq1 hr1 hdq hdr
      by_cases b0 : 32 ≤ X
      · have b1 : ¬ X ≤ 126 := fun e => hB ⟨b0, e⟩
        clear hB hcond
        go_enter Tryz.func54, Tryz.ntmps54
        go_wp2
        go_region_held_law (fun _ => True) (trivial) (first
          | ((try simp only [List.getElem_toArray, List.getElem_cons_succ, List.getElem_cons_zero]); refine oper_append_at (.tmp 30) (.tmp 38) 38 rfl base 5 i0 _ 1 1 Tryz.underlying38 hi0 hz0 hz1 hz2 rfl (by decide) _ n xs rfl (hown.alloc _) ⟨w.heap.size, 0, none⟩ 4 4 [.int .u8 92, .int .u8 120, .int .u8 (ib dq), .int .u8 (ib dr)] rfl rfl (cell_four_newD _ _ _ _ _ _) (by simp [Value.oneCell']) ?_ ?_ ?_ ?_; (unfold maxLen; omega); omega; (simp; omega); intro v3 w3 hown3 hg3 hat3; simp only [Act.put]))
        all_goals
          try go_wp2
          go_ret
          exact spelled_endD HL.out HC.out hown3 hg3 hat3
      · clear hB hcond
        go_enter Tryz.func54, Tryz.ntmps54
        go_wp2
        go_region_held_law (fun _ => True) (trivial) (first
          | ((try simp only [List.getElem_toArray, List.getElem_cons_succ, List.getElem_cons_zero]); refine oper_append_at (.tmp 30) (.tmp 38) 38 rfl base 5 i0 _ 1 1 Tryz.underlying38 hi0 hz0 hz1 hz2 rfl (by decide) _ n xs rfl (hown.alloc _) ⟨w.heap.size, 0, none⟩ 4 4 [.int .u8 92, .int .u8 120, .int .u8 (ib dq), .int .u8 (ib dr)] rfl rfl (cell_four_newD _ _ _ _ _ _) (by simp [Value.oneCell']) ?_ ?_ ?_ ?_; (unfold maxLen; omega); omega; (simp; omega); intro v3 w3 hown3 hg3 hat3; simp only [Act.put]))
        all_goals
          try go_wp2
          go_ret
          exact spelled_endD HL.out HC.out hown3 hg3 hat3
end Go.Proofs
