/-
  The program's Quote. Condition: a text that is not too long.
-/
import Derived.Laws.MakeOwn
import Derived.Test.YtneaenplbccpmaaGreatDoorApp
import Derived.Test.YtneaenplbccpmaaGreatDoorTxK
namespace Go.Proofs
open Go Go.RowKit Sm Go.Lib
set_option maxRecDepth 100000 in
set_option maxHeartbeats 2000000 in
theorem Sm.Quote_any (s : ByteArray) (w : World) (hm : s.size ≤ 1000000) : Calls Tryz.prog 28 #[.string s] w fun e w' => e = .returned (.string (strB (quoteS (strL s)))) ∧ Below w.heap.size w w' := by
  obtain ⟨i0, hi0, hz0, hz1, hz2⟩ := info_parts info5
  have hl := strL_length s
  obtain ⟨l, hle⟩ : ∃ l, strL s = l := ⟨_, rfl⟩
  have hgt : ∀ (k : Nat) (h : k < l.length), ((s.get! k).toNat : Int) = ib l[k] := by subst hle; exact get_strL s
  rw [hle] at hl ⊢
  have HL := Lib.hid hl
  have HG := Lib.hid hgt
  obtain ⟨W1, hmk, ho1, hg1⟩ := run_make_own (P := Tryz.prog) w w.heap.size 38 5 i0 _ 1 Tryz.underlying38 hi0 hz0 hz1 .i64 .i64 (s.size + 1 + 1) (by rw [hz2]; omega) (by unfold maxLen; omega) (Nat.le_refl _)
  have hmk2 : (Instr.makeSlice 38 (.int .i64 0) (.int .i64 ((s.size : Int) + 1 + 1))).run Tryz.prog w = .ok (.slice (some ⟨w.heap.size, 0, none⟩) 0 (s.size + 1 + 1)) W1 := by rw [← hmk]; rfl
  have hb1 : Below w.heap.size w W1 := (But.grown hg1).to_below (Nat.le_refl _) (fun b e => by cases e)
  have HB1 := Lib.hid hb1
  have HO1 := Lib.hid ho1
  clear hl hgt hle hmk hg1 ho1 hb1
  go_enter Tryz.func28, Tryz.ntmps28
  go_wp2_with (at_builtin; refine wpList_append_own_string _ rfl (.tmp 10) (.const (.string { data := #[34] })) 38 9 rfl w.heap.size 5 i0 Tryz.underlying38 Tryz.underlying9 hi0 hz0 hz1 hz2 _ 0 [] rfl HO1.out { data := #[34] } rfl (by decide) (by decide) HB1.out.size ?_; intro v2 w2 hown2 hg2 _)
  have HO2 : Hid (w2.ownsRow w.heap.size 5 1 v2 (quoteL (l.take 0)).length ((quoteL (l.take 0)).map byteCell)) := Lib.hid hown2
  have HB2 := Lib.hid (HB1.out.trans ((But.grown hg2).to_below (n := w.heap.size) HB1.out.size (fun b e => (HO1.out.lt _ e).1)))
  clear hown2 hg2 hmk2 HO1 HB1
  go_loopw [3, 14] (fun vo vi wr => ∃ (k : Nat) (u : Value), k ≤ s.size ∧ u = vo ∧ vi = .int .i64 (k : Int) ∧ Hid (wr.ownsRow w.heap.size 5 1 u (quoteL (l.take k)).length ((quoteL (l.take k)).map byteCell)) ∧ Hid (Below w.heap.size w wr))
    (fun _ vi _ => s.size - (RowKit.intOf vi).toNat)
  case atStart => exact ⟨0, _, Nat.zero_le _, rfl, rfl, HO2, HB2⟩
  case round =>
    obtain ⟨k, u, hk, rfl, rfl, HR, HB⟩ := hrel
    clear HO2 HB2
    have hq := quoteL_len (l.take k)
    rw [List.length_take] at hq
    have hql : (quoteL (l.take k)).length ≤ 100000000 := by omega
    clear hq
    by_cases hlt : k < s.size
    · have hkl : k < l.length := by have := HL.out; omega
      have hsn := Lib.hid (quoteL_snoc hkl)
      have hg := HG.out k hkl
      obtain ⟨b, hb⟩ : ∃ b, l[k] = b := ⟨_, rfl⟩
      rw [hb] at hsn hg
      have hix : ∀ w, (Instr.index 9 (.string s) (.int .i64 (k : Int))).run Tryz.prog w = .ok (.int .u8 (ib b)) w := fun w => by rw [byte_at s k hlt w, hg]
      have hsp := spell_any b w.heap.size _ u _ wr HR.out HB.out.size hql
      clear hkl hg hb hql
      go_wp2_with (go_at_call 54; (with_reducible refine hsp.mono ?_); clear hsp; rintro e w1 ⟨v', rfl, hown', hbt, hst⟩; have HO' := Lib.hid hown'; have HB' := Lib.hid (HB.out.trans (hbt.to_below (n := w.heap.size) HB.out.size (fun b e => (HR.out.lt _ e).1))); clear hown' hbt hst)
      refine ⟨⟨k + 1, _, by omega, rfl, by go_num, Lib.hid (by rw [hsn.out, List.length_append, List.map_append]; exact HO'.out), HB'⟩, by simp [RowKit.intOf]; omega⟩
    · obtain rfl : k = s.size := by omega
      have hall : l.take s.size = l := List.take_of_length_le (by have := HL.out; omega)
      rw [hall] at HR hql
      clear hall hk hlt
      have hqs : quoteS l = quoteL l ++ [34#8] := rfl
      have HQS := Lib.hid hqs
      clear hqs
      obtain ⟨Q, hQ⟩ : ∃ Q, quoteL l = Q := ⟨_, rfl⟩
      rw [hQ] at HR hql HQS
      clear hQ
      have hcv := fun (A : Option Addr) (n c B : Nat) (W : World) (hn : (Q ++ [34#8]).length = n) (hr : Rd W B A (Q ++ [34#8])) => run_str (P := Tryz.prog) W 38 5 Tryz.underlying38 Tryz.underlying5 (Q ++ [34#8]) n c B A hn hr 9 Tryz.underlying9
      have HCV := Lib.hid hcv
      clear hcv
      go_wp2_with (at_builtin; refine wpList_append_own_string _ rfl (.tmp 23) (.const (.string { data := #[34] })) 38 9 rfl w.heap.size 5 i0 Tryz.underlying38 Tryz.underlying9 hi0 hz0 hz1 hz2 _ Q.length _ rfl HR.out { data := #[34] } rfl ?_ ?_ HB.out.size ?_; (unfold maxLen; show Q.length + 1 ≤ _; omega); (show Q.length + 1 ≤ _; omega); intro v2 w2 hown2 hg2 _; obtain ⟨A, c, rfl⟩ := own_slice hown2; have hcw := HCV.out A (Q.length + 1) c w2.heap.size w2 (by simp) (Rd.of_own (l := Q ++ [34#8]) (by rw [List.map_append]; exact hown2) (Nat.le_refl _)); have HB3 := Lib.hid (HB.out.trans ((But.grown hg2).to_below (n := w.heap.size) HB.out.size (fun b e => (HR.out.lt _ e).1))); clear hown2 hg2)
      go_ret
      exact ⟨by rw [HQS.out]; rfl, HB3.out⟩
end Go.Proofs
