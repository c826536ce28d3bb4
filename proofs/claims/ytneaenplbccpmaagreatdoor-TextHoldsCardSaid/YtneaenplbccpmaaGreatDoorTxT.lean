/-
  The walk of the program's unquoted, and Unquote by it. Conditions: a text that is not too long; the package variables lie as they are laid.
-/
import Derived.Test.YtneaenplbccpmaaGreatDoorTxS
namespace Go.Proofs
open Go Go.RowKit Sm Go.Lib
/-- what stands from round to round -/
structure Sm.UnqAt (w wr : World) (body p r : List (BitVec 8)) (u6 u7 : Value) (m : Nat) (sp : List Value) : Prop where
  o6 : wr.ownsRow w.heap.size 5 1 u6 p.length (p.map byteCell)
  o7 : wr.ownsRow w.heap.size 5 1 u7 m sp
  ne : ∀ g, u6.ownBlock = some g → u7.ownBlock ≠ some g
  below : Below w.heap.size w wr
  eq : p.flatMap spellB ++ r = body
def Sm.strLen : Value → Nat
  | .string s => s.size
  | _ => 0
theorem Sm.UnqAt.len {w wr : World} {body p r : List (BitVec 8)} {u6 u7 : Value} {m : Nat} {sp : List Value} (h : UnqAt w wr body p r u6 u7 m sp) : p.length ≤ body.length ∧ r.length ≤ body.length := by
  have h1 : ∀ p : List (BitVec 8), p.length ≤ (p.flatMap spellB).length := by
    intro p
    induction p with
    | nil => simp
    | cons c q ih =>
      have := List.length_pos_iff.2 (spell_pos c)
      simp only [List.flatMap_cons, List.length_append, List.length_cons]
      omega
  have := h1 p
  rw [← h.eq, List.length_append]
  omega
/-- a round that goes on -/
theorem Sm.UnqAt.next {w wr w1 w2 w3 : World} {body p r : List (BitVec 8)} {u6 : Value} {A7 A8 : Option Addr} {m c7 c8 : Nat} {sp : List Value} {c : BitVec 8} {x y : Obj} {u6' : Value} (h : UnqAt w wr body p r u6 (.slice A7 m c7) m sp)
    (hb1 : Below wr.heap.size wr w1) (hbt : But (fun q => (Value.slice A7 0 c7).ownBlock = some q) w1 w2) (hst : Stays w1 (.slice A7 0 c7) (.slice A8 (spellB c).length c8))
    (o7 : w2.ownsRow w.heap.size 5 1 (.slice A8 (spellB c).length c8) (spellB c).length ((spellB c).map byteCell))
    (hg : ((w2.alloc x).alloc y).grownBy w3 u6.ownBlock) (o6 : w3.ownsRow w.heap.size 5 1 u6' (p.length + 1) (p.map byteCell ++ [byteCell c])) (hat : u6'.ownBlock = u6.ownBlock ∨ u6'.ownBlock = some ((w2.alloc x).alloc y).heap.size)
    (hp : (spellB c).isPrefixOf r = true) : UnqAt w w3 body (p ++ [c]) (r.drop (spellB c).length) u6' (.slice A8 (spellB c).length c8) (spellB c).length ((spellB c).map byteCell) := by
  have o6w1 := own_below h.o6 hb1
  have hlt6 : ∀ g, u6.ownBlock = some g → w.heap.size ≤ g ∧ g < w1.heap.size := fun g e => o6w1.lt g e
  have hlt7 : ∀ g, (Value.slice A8 (spellB c).length c8).ownBlock = some g → w.heap.size ≤ g ∧ g < w2.heap.size := fun g e => o7.lt g e
  have hne : ∀ g, u6.ownBlock = some g → (Value.slice A8 (spellB c).length c8).ownBlock ≠ some g := by
    intro g e1 e2
    rcases hst with hst | hst
    · rw [hst] at e2
      exact h.ne g e1 (by cases A7 <;> exact e2)
    · have := hst g e2
      have := (hlt6 g e1).2
      omega
  have hb3 : But (fun q => u6.ownBlock = some q) w2 w3 := (((But.refl _ w2).alloc x).alloc y).trans (But.grown hg) (fun b _ e => e)
  refine ⟨by rw [List.length_append, List.map_append]; exact o6, hb3.row o7 (fun g e1 e2 => hne g e2 e1), ?_, ?_, ?_⟩
  · intro g e1 e2
    rcases hat with hat | hat
    · rw [hat] at e1
      exact hne g e1 e2
    · rw [hat] at e1
      have := (hlt7 g e2).2
      injection e1 with e1
      simp at e1
      omega
  · have hb01 : Below w.heap.size w w1 := h.below.trans (hb1.mono h.below.size)
    have hb02 : Below w.heap.size w w2 := hb01.trans (hbt.to_below (n := w.heap.size) hb01.size (fun b e => (h.o7.lt b (by cases A7 <;> exact e)).1))
    exact hb02.trans (hb3.to_below (n := w.heap.size) hb02.size (fun b e => (hlt6 b e).1))
  · obtain ⟨q, hq⟩ := List.isPrefixOf_iff_prefix.1 hp
    rw [← h.eq, ← hq]
    simp
theorem Sm.cell_two_box (w : World) (x : Value) (t : TypeId) (y : Value) (u : TypeId) : ∀ j v, [y][j]? = some v → ((w.alloc (.cells #[x] t)).alloc (.cells #[y] u)).cell? ((⟨w.heap.size + 1, 0, none⟩ : Addr).add j) = some v := by
  have := cell_one_new (w.alloc (.cells #[x] t)) y u
  rwa [World.size_alloc] at this
set_option maxRecDepth 100000 in
set_option maxHeartbeats 4000000 in
theorem Sm.unquoted_any (l : List (BitVec 8)) (w : World) (hm : l.length ≤ 10000000) (hL : LaysT w) : Calls Tryz.prog 56 #[.string (strB l)] w (UnqQ l w) := by
  obtain ⟨i0, hi0, hz0, hz1, hz2⟩ := info_parts info5
  have e34 : ({ data := #[34] } : ByteArray) = strB [34#8] := by decide +kernel
  have hcp := cutPre_any l [34#8] w
  rw [← e34] at hcp
  cases h1 : ([34#8] : List (BitVec 8)).isPrefixOf l with
  | false =>
    rw [h1] at hcp
    simp only [Bool.false_eq_true, if_false] at hcp
    have hcs := cutSuf_any l [34#8] w (by omega)
    rw [← e34] at hcs
    obtain ⟨X, hX⟩ : ∃ X, (if ([34#8] : List (BitVec 8)).isSuffixOf l then l.take (l.length - ([34#8] : List (BitVec 8)).length) else l) = X := ⟨_, rfl⟩
    obtain ⟨b, hb⟩ : ∃ b, ([34#8] : List (BitVec 8)).isSuffixOf l = b := ⟨_, rfl⟩
    rw [hX, hb] at hcs
    have hQ : UnqQ l w (.panicked [pQ]) (w.alloc (.cells #[.bool false, .bool b] 4)) := ⟨(Below.refl _ w).alloc (Nat.le_refl _) _, .inr ⟨qu_pre h1, rfl⟩⟩
    have HQ := Lib.hid hQ
    have hm2 := must_two0 w.heap.size 2 (w.alloc (.cells #[.bool false, .bool b] 4)) (World.cell?_alloc_new (w := w) #[.bool false, .bool b] 4 0)
    clear e34 hX hb h1 hL hQ
    go_enter Tryz.func56, Tryz.ntmps56
    go_wp2_with (first
      | (go_at_call 79; (with_reducible refine hcp.mono ?_); rintro e w1 ⟨rfl, rfl⟩)
      | (go_at_call 80; (with_reducible refine hcs.mono ?_); rintro e w1 ⟨rfl, rfl⟩)
      | (go_at_call 81; (with_reducible refine hm2.mono ?_); rintro e w1 ⟨rfl, rfl⟩))
    exact ⟨rfl, HQ.out⟩
  | true =>
    rw [h1] at hcp
    simp only [if_true, List.length_cons, List.length_nil, Nat.zero_add] at hcp
    have hcs := cutSuf_any (l.drop 1) [34#8] w (by rw [List.length_drop]; omega)
    rw [← e34] at hcs
    cases h2 : ([34#8] : List (BitVec 8)).isSuffixOf (l.drop 1) with
    | false =>
      rw [h2] at hcs
      simp only [Bool.false_eq_true, if_false] at hcs
      have hQ : UnqQ l w (.panicked [pQ]) (w.alloc (.cells #[.bool true, .bool false] 4)) := ⟨(Below.refl _ w).alloc (Nat.le_refl _) _, .inr ⟨qu_suf h2, rfl⟩⟩
      have HQ := Lib.hid hQ
      have hm2 := must_two1 w.heap.size 2 (w.alloc (.cells #[.bool true, .bool false] 4)) (World.cell?_alloc_new (w := w) #[.bool true, .bool false] 4 0) (World.cell?_alloc_new (w := w) #[.bool true, .bool false] 4 1)
      obtain ⟨L1, hL1⟩ : ∃ L1, l.drop 1 = L1 := ⟨_, rfl⟩
      rw [hL1] at hcp hcs
      clear e34 h1 h2 hL hQ hL1
      go_enter Tryz.func56, Tryz.ntmps56
      go_wp2_with (first
        | (go_at_call 79; (with_reducible refine hcp.mono ?_); rintro e w1 ⟨rfl, rfl⟩)
        | (go_at_call 80; (with_reducible refine hcs.mono ?_); rintro e w1 ⟨rfl, rfl⟩)
        | (go_at_call 81; (with_reducible refine hm2.mono ?_); rintro e w1 ⟨rfl, rfl⟩))
      exact ⟨rfl, HQ.out⟩
    | true =>
      rw [h2] at hcs
      simp only [if_true, List.length_cons, List.length_nil, Nat.zero_add] at hcs
      have hbody := qu_body h1 h2
      obtain ⟨body, hbd⟩ : ∃ body, (l.drop 1).take ((l.drop 1).length - 1) = body := ⟨_, rfl⟩
      rw [hbd] at hcs hbody
      have hbl : body.length ≤ 10000000 := by rw [hbody] at hm; simp at hm; omega
      have HBODY := Lib.hid hbody
      obtain ⟨L1, hL1⟩ : ∃ L1, l.drop 1 = L1 := ⟨_, rfl⟩
      rw [hL1] at hcp hcs
      obtain ⟨W, hW⟩ : ∃ W, w.alloc (.cells #[.bool true, .bool true] 4) = W := ⟨_, rfl⟩
      have hm2 := must_two w.heap.size 2 (w.alloc (.cells #[.bool true, .bool true] 4)) (World.cell?_alloc_new (w := w) #[.bool true, .bool true] 4 0) (World.cell?_alloc_new (w := w) #[.bool true, .bool true] 4 1)
      rw [hW] at hm2
      have hbW : Below w.heap.size w W := by rw [← hW]; exact (Below.refl _ w).alloc (Nat.le_refl _) _
      have hI0 : UnqAt w W body [] body (.slice none 0 0) (.slice none 0 0) 0 [] := ⟨World.ownsRow_nil _ _ _ _, World.ownsRow_nil _ _ _ _, (fun g e => by cases e), hbW, rfl⟩
      have HI0 := Lib.hid hI0
      have HLL := Lib.hid hL
      clear e34 h1 h2 hL hbody hbd hL1 hbW hI0 hm
      go_enter Tryz.func56, Tryz.ntmps56
      go_wp2_with (first
        | (go_at_call 79; (with_reducible refine hcp.mono ?_); rintro e w1 ⟨rfl, rfl⟩)
        | (go_at_call 80; (with_reducible refine hcs.mono ?_); rintro e w1 ⟨rfl, rfl⟩)
        | (go_at_call 81; (with_reducible refine hm2.mono ?_); rintro e w1 ⟨⟨v, rfl⟩, rfl⟩))
      clear hcp hcs hm2
      go_loopw [3, 6, 7] (fun v3 v6 v7 wr => ∃ (p r : List (BitVec 8)) (u6 u7 : Value) (m : Nat) (sp : List Value), v3 = .string (strB r) ∧ u6 = v6 ∧ u7 = v7 ∧ Hid (UnqAt w wr body p r u6 u7 m sp)) (fun v3 _ _ _ => strLen v3)
      case atStart => exact ⟨[], body, _, _, 0, [], rfl, rfl, rfl, HI0⟩
      case round =>
        obtain ⟨wo, rfl⟩ : ∃ wo : World, wo = wr := ⟨_, rfl⟩
        obtain ⟨p, r, u6, u7, m, sp, rfl, rfl, rfl, HI⟩ := hrel
        clear HI0 hW
        have hlen := HI.out.len
        by_cases hr : r = []
        · subst hr
          have e0 : strB [] = { data := #[] } := by decide +kernel
          rw [e0]
          obtain ⟨A, c, rfl⟩ := own_slice HI.out.o6
          have hcv := run_str (P := Tryz.prog) wo 38 5 Tryz.underlying38 Tryz.underlying5 p p.length c wo.heap.size A rfl (Rd.of_own (l := p) HI.out.o6 (Nat.le_refl _)) 9 Tryz.underlying9
          have hQ : UnqQ l w (.returned (.string (strB p))) wo := ⟨HI.out.below, .inl ⟨p, by rw [HBODY.out, quote_cons, ← HI.out.eq]; simp, rfl⟩⟩
          have HQ := Lib.hid hQ
          clear e0 hlen hQ HI
          go_wp2
          go_ret
          exact HQ.out
        · have hne0 : 0 < (strB r).toList.length := by rw [ByteArray.toList_eq, list_len, strB_length]; exact List.length_pos_iff.2 hr
          have he1 : (strB r).toList.isEmpty = false := by
            cases h : (strB r).toList with
            | nil => rw [h] at hne0; simp at hne0
            | cons _ _ => rfl
          have he2 : ¬ (strB r).toList = [] := fun e => by rw [e] at hne0; simp at hne0
          have hno := fun h t => unq_no (l := l) HBODY.out HI.out.eq hr h t
          have hLo := HLL.out.keep HI.out.below
          cases hmean : meantL r with
          | none =>
            have hm82 := meant_no r wo hr hmean (by omega) hLo
            have HNO := Lib.hid (hno (fun c e => by rw [hmean] at e; cases e))
            clear hne0 hno hLo hmean hr
            go_wp2_with (go_at_call 82; (with_reducible refine hm82.mono ?_); rintro e w1 ⟨rfl, hb1⟩)
            exact ⟨rfl, HI.out.below.trans (hb1.mono HI.out.below.size), .inr ⟨HNO.out, rfl⟩⟩
          | some c =>
            have hm82 := meant_yes r c wo hmean (by omega)
            have hpm := meant_spell c
            obtain ⟨A7, c7, rfl⟩ := own_slice HI.out.o7
            have hzc := zero_cut A7 m c7
            have hsl : (spellB c).length ≤ 4 := spellB_len c
            have h54 := fun (w1 : World) (hb1 : Below wo.heap.size wo w1) => spell_any c w.heap.size 0 (.slice A7 0 c7) [] w1 (own_zero (own_below HI.out.o7 hb1)) (Nat.le_trans HI.out.below.size hb1.size) (by omega)
            have hcpr := fun w2 => cutPre_any r (spellB c) w2
            have H54 := Lib.hid h54
            cases hpf : (spellB c).isPrefixOf r with
            | false =>
              rw [hpf] at hcpr
              simp only [Bool.false_eq_true, if_false] at hcpr
              have HNO := Lib.hid (hno (fun c' e => by rw [hmean] at e; obtain rfl := Option.some.inj e; exact hpf))
              clear hne0 hno hLo hmean hr hpm h54 hpf
              go_wp2_with (first
                | (go_at_call 82; (with_reducible refine hm82.mono ?_); clear hm82; rintro e w1 ⟨rfl, hb1⟩; have G54 := H54.out w1 hb1)
                | (go_at_call 54; (with_reducible refine G54.mono ?_); clear G54; rintro e w2 ⟨v', rfl, o7', hbt, hst⟩; rw [Nat.zero_add, List.nil_append] at o7'; obtain ⟨A8, c8, rfl⟩ := own_slice o7'; have hcv2 := run_str (P := Tryz.prog) w2 38 5 Tryz.underlying38 Tryz.underlying5 (spellB c) (spellB c).length c8 w2.heap.size A8 rfl (Rd.of_own (l := spellB c) o7' (Nat.le_refl _)) 9 Tryz.underlying9; have hbw := HI.out.below.trans (hb1.mono HI.out.below.size); have HBW := Lib.hid (hbw.trans (hbt.to_below (n := w.heap.size) hbw.size (fun b e => (HI.out.o7.lt b (by cases A7 <;> exact e)).1))); have hm1 := must_no w2.heap.size 1 (w2.alloc (.cells #[.bool false] 4)) (World.cell?_alloc_new (w := w2) #[.bool false] 4 0); clear hbt hst o7' hbw hb1)
                | (go_at_call 79; (with_reducible refine (hcpr _).mono ?_); rintro e w3 ⟨rfl, rfl⟩)
                | (go_at_call 81; (with_reducible refine hm1.mono ?_); rintro e w3 ⟨rfl, rfl⟩))
              exact ⟨rfl, HBW.out.alloc HBW.out.size _, .inr ⟨HNO.out, rfl⟩⟩
            | true =>
              rw [hpf] at hcpr
              simp only [if_true] at hcpr
              have hdl : (strB (r.drop (spellB c).length)).size < (strB r).size := by
                rw [strB_length, strB_length, List.length_drop]
                have := List.length_pos_iff.2 (spell_pos c)
                have := List.length_pos_iff.2 hr
                omega
              have HPF := Lib.hid hpf
              have HDL := Lib.hid hdl
              have hpl : p.length ≤ 10000000 := by omega
              clear hne0 hno hLo hmean hr hpm h54 hpf hdl hlen
              go_wp2_with (first
                | (go_at_call 82; (with_reducible refine hm82.mono ?_); clear hm82; rintro e w1 ⟨rfl, hb1⟩; have G54 := H54.out w1 hb1)
                | (go_at_call 54; (with_reducible refine G54.mono ?_); clear G54; rintro e w2 ⟨v', rfl, o7', hbt, hst⟩; rw [Nat.zero_add, List.nil_append] at o7'; obtain ⟨A8, c8, rfl⟩ := own_slice o7'; have hcv2 := run_str (P := Tryz.prog) w2 38 5 Tryz.underlying38 Tryz.underlying5 (spellB c) (spellB c).length c8 w2.heap.size A8 rfl (Rd.of_own (l := spellB c) o7' (Nat.le_refl _)) 9 Tryz.underlying9; have o6w := hbt.row (own_below HI.out.o6 hb1) (fun g e1 e2 => HI.out.ne g e1 (by cases A7 <;> exact e2)); have hm1 := must_yes w2.heap.size 1 (w2.alloc (.cells #[.bool true] 4)) (World.cell?_alloc_new (w := w2) #[.bool true] 4 0); have HCN := Lib.hid (cell_two_box w2 (.bool true) 4 (.int .u8 (ib c)) 5); have hbs := Nat.le_trans HI.out.below.size (Nat.le_trans hb1.size hbt.size); have HN := Lib.hid (fun (x y : Obj) (u6' : Value) (w3 : World) hg o6 hat => HI.out.next (x := x) (y := y) (u6' := u6') (w3 := w3) hb1 hbt hst o7' hg o6 hat HPF.out); clear hbt hst o7' hb1)
                | (go_at_call 79; (with_reducible refine (hcpr _).mono ?_); rintro e w3 ⟨rfl, rfl⟩)
                | (go_at_call 81; (with_reducible refine hm1.mono ?_); rintro e w3 ⟨⟨v, rfl⟩, rfl⟩)
                | (at_builtin; refine wpList_append_own_at _ rfl (.tmp 43) (.tmp 45) 38 rfl w.heap.size 5 i0 _ 1 1 Tryz.underlying38 hi0 hz0 hz1 hz2 rfl (by decide) _ p.length _ rfl ((o6w.alloc _).alloc _) ⟨w2.heap.size + 1, 0, none⟩ 1 1 [.int .u8 (ib c)] rfl rfl HCN.out (by simp [Value.oneCell']) ?_ ?_ ?_ ?_; (unfold maxLen; omega); omega; (simp; omega); intro v3 w3 hown3 hg3 _ hat3))
              have HN3 := Lib.hid (HN.out _ _ _ _ hg3 hown3 hat3)
              clear hown3 hg3 hat3 HN
              refine ⟨⟨p ++ [c], _, _, _, _, _, rfl, rfl, rfl, HN3⟩, ?_⟩
              simpa [strLen] using HDL.out
theorem Sm.quoteS_inj {a b : List (BitVec 8)} (h : quoteS a = quoteS b) : a = b := by
  rw [quote_cons, quote_cons] at h
  have e2 : a.flatMap spellB = b.flatMap spellB := List.append_cancel_right (List.cons.inj h).2
  obtain ⟨t', e3, e4⟩ := spell_apart a b [] (by simpa using e2)
  cases t' with
  | nil => simpa using e3.symm
  | cons c q =>
    exfalso
    simp only [List.flatMap_cons] at e4
    exact spell_pos c (List.append_eq_nil_iff.1 e4.symm).1
theorem Sm.Unq_yes (t : List (BitVec 8)) (w : World) (hm : (quoteS t).length ≤ 10000000) (hL : LaysT w) :
    Calls Tryz.prog 29 #[.string (strB (quoteS t))] w fun e w' => e = .returned (.tuple #[.string (strB t), .int .i64 0]) ∧ Below w.heap.size w w' :=
  Unquote_yes _ _ w fun W hW => (unquoted_any (quoteS t) W hm (hL.keep hW)).mono fun e w' ⟨hb, h⟩ => by
    rcases h with ⟨t', h1, h2⟩ | ⟨h1, _⟩
    · rw [h2, quoteS_inj h1]
      exact ⟨rfl, hb⟩
    · exact absurd rfl (h1 t)
theorem Sm.Unq_no (l : List (BitVec 8)) (w : World) (hn : ∀ t, l ≠ quoteS t) (hm : l.length ≤ 10000000) (hL : LaysT w) :
    Calls Tryz.prog 29 #[.string (strB l)] w fun e w' => e = .returned (.tuple #[.string ⟨#[]⟩, .int .i64 133]) ∧ Below w.heap.size w w' :=
  Unquote_no _ w fun W hW => (unquoted_any l W hm (hL.keep hW)).mono fun e w' ⟨hb, h⟩ => by
    rcases h with ⟨t', h1, h2⟩ | ⟨_, h2⟩
    · exact absurd h1 (hn t')
    · exact ⟨h2, hb⟩
end Go.Proofs
