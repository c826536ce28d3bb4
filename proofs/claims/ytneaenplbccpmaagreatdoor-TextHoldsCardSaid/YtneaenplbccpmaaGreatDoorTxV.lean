/-
  behindAts: what its iterator promises: the names behind an @, one behind the other, each as often as it does. Conditions: a text that is not too long, in a box that no round turns.
-/
import Derived.Test.YtneaenplbccpmaaGreatDoorTxU
import Derived.Test.YtneaenplbccpmaaGreatDoorTxCY
namespace Go.Proofs
open Go Go.RowKit Sm Go.Lib
attribute [local go_sem] Oper.semAt_some
set_option maxHeartbeats 400000 in
theorem Sm.behindAts_any (s : ByteArray) (w : World) : Calls Tryz.prog 46 #[.string s] w fun e w' => e = .returned (.func (.func 71) #[] #[.pointer (some ⟨w.heap.size, 0, none⟩)]) ∧ w.alloc (.cells #[.string s] 9) = w' := by
  have hmf : ∀ (fn : Fn) (first cap : Array Value) (w : World), (Instr.makeFunc fn first cap).run Tryz.prog w = .ok (.func fn first cap) w := fun _ _ _ _ => rfl
  go_enter Tryz.func46, Tryz.ntmps46
  go_wp2
  go_ret
  exact ⟨rfl, rfl⟩
/-- the names that are told -/
def Sm.rawS (s : ByteArray) : List (List (BitVec 8)) := rawF false (strL s)
/-- with what name k is told -/
def Sm.HBa (s : ByteArray) (_L k : Nat) (args : Array Value) (_W : World) : Prop := ∃ nm, (rawS s)[k]? = some nm ∧ args = #[.string (strB nm)]
/-- how all stands at sign q -/
structure Sm.BaI (J : Nat → World → Prop) (s : ByteArray) (L0 L Bx q : Nat) (W : World) (n : Nat) (fl : Bool) : Prop where
  j : J n W
  le : q ≤ cntS s
  told : n ≤ (rawS s).length
  rest : (rawS s).drop n = rawF fl ((strL s).drop (posK s q))
  yl : W.heap[L]? = some (.cells #[.func (.yield L0) #[] #[]] 37 (0, 0))
  fl_ : W.heap[L + 1]? = some (.cells #[.bool fl] 4 (0, 0))
  bx : W.heap[Bx]? = some (.cells #[.string s] 9 (0, 0))
theorem Sm.BaI.next {J : Nat → World → Prop} {s : ByteArray} {L0 L Bx q n : Nat} {W W' : World} {fl : Bool} (h : BaI J s L0 L Bx q W n fl) (hj : J n W') (hL : Bx < L) (hq : q < cntS s) (ha : adds s q fl = [])
    (hb : But (fun b => b = L + 1) W W') (hf : W'.heap[L + 1]? = some (.cells #[.bool (nameN (runeK s q))] 4 (0, 0))) : BaI J s L0 L Bx (q + 1) W' n (nameN (runeK s q)) := by
  refine ⟨hj, hq, h.told, ?_, hb.box h.yl (by omega), hf, hb.box h.bx (by omega)⟩
  rw [h.rest, raw_step hq, ha, List.nil_append]
theorem Sm.raw_end {s : ByteArray} {n : Nat} {fl : Bool} (h : (rawS s).drop n = rawF fl ((strL s).drop (posK s (cntS s)))) (hn : n ≤ (rawS s).length) : n = (rawS s).length := by
  have e : (strL s).drop (posK s (cntS s)) = [] := List.drop_of_length_le (by rw [strL_length, cntS_end]; exact Nat.le_refl _)
  rw [e] at h
  have h2 := congrArg List.length h
  rw [List.length_drop] at h2
  simp [rawF] at h2
  omega
theorem Sm.adds_no {s : ByteArray} {q : Nat} {fl : Bool} (h : ¬ (runeK s q = 64 ∧ fl = false ∧ 0 < (((strL s).drop (posK s q + 1)).takeWhile nmB).length ∧ (((strL s).drop (posK s q + 1)).takeWhile nmB).length ≤ 16)) : adds s q fl = [] := if_neg h
/-- a name is told -/
theorem Sm.BaI.tells {J J2 : Nat → World → Prop} {s : ByteArray} {L0 L Bx q n : Nat} {W W' : World} (h : BaI J s L0 L Bx q W n false) (hq : q < cntS s) (h64 : runeK s q = 64) (h0 : 0 < (((strL s).drop (posK s q + 1)).takeWhile nmB).length) (h1 : (((strL s).drop (posK s q + 1)).takeWhile nmB).length ≤ 16) :
    (rawS s)[n]? = some (((strL s).drop (posK s q + 1)).takeWhile nmB) ∧ (J2 (n + 1) W' → W'.heap[L]? = some (.cells #[.func (.yield L0) #[] #[]] 37 (0, 0)) → W'.heap[L + 1]? = some (.cells #[.bool (nameN (runeK s q))] 4 (0, 0)) → W'.heap[Bx]? = some (.cells #[.string s] 9 (0, 0)) → BaI J2 s L0 L Bx (q + 1) W' (n + 1) (nameN (runeK s q))) := by
  have hr := h.rest
  rw [raw_step hq, adds, if_pos ⟨h64, rfl, h0, h1⟩] at hr
  have hn : n < (rawS s).length := by
    have h2 := congrArg List.length hr
    rw [List.length_drop] at h2
    simp at h2
    omega
  have hg : (rawS s)[n]? = some (((strL s).drop (posK s q + 1)).takeWhile nmB) := by
    have := congrArg (fun l => l[0]?) hr
    simpa using this
  refine ⟨hg, fun hj hy hf hb => ⟨hj, hq, hn, ?_, hy, hf, hb⟩⟩
  have := congrArg (List.drop 1) hr
  rw [List.drop_drop] at this
  simpa using this
theorem Sm.slice_from (s : ByteArray) (p : Nat) (hp : p ≤ s.size) (_hm : s.size ≤ 9223372036854775807) (w : World) : (Instr.slice 9 (.string s) (some (.int .i64 (p : Int))) none none).run Tryz.prog w = .ok (.string (s.extract p s.size)) w := by
  have := run_slice_string_l (P := Tryz.prog) w 9 s Tryz.underlying9 .i64 (p : Int) (by omega) (by omega)
  simpa using this
theorem Sm.strL_from (s : ByteArray) (p : Nat) : strL (s.extract p s.size) = (strL s).drop p := by
  conv => lhs; rw [← strB_strL s]
  rw [cut_strB, strL_strB, List.take_of_length_le (by rw [strL_length, strB_strL]; exact Nat.le_refl _)]
theorem Sm.size_from (s : ByteArray) (p : Nat) : (s.extract p s.size).size ≤ s.size := by simp
set_option maxRecDepth 100000 in
set_option maxHeartbeats 4000000 in
theorem Sm.names_seqY (s : ByteArray) (Bx : Nat) (w : World) (X : Nat → Prop) (hbx : w.heap[Bx]? = some (.cells #[.string s] 9 (0, 0))) (hX : ∀ b, X b → b < w.heap.size) (hXB : ¬ X Bx) (hm : s.size ≤ 1000000000) :
    SeqY Tryz.prog 71 #[.pointer (some ⟨Bx, 0, none⟩)] X (HBa s) rowE (fun _ => True) (fun k => k = (rawS s).length) (fun _ => True) w := by
  intro L0 J Jx W hW hJ hJx hY hJ0
  have hBl : Bx < w.heap.size := (Array.getElem?_eq_some_iff.1 hbx).1
  have hbW : W.heap[Bx]? = some (.cells #[.string s] 9 (0, 0)) := (hW.block Bx hBl).trans hbx
  obtain ⟨L, hL⟩ : ∃ L, W.heap.size = L := ⟨_, rfl⟩
  have hwL : w.heap.size ≤ L := by rw [← hL]; exact hW.size
  rw [hL] at hJ hJx hY
  have hmf : ∀ (fn : Fn) (first cap : Array Value) (w : World), (Instr.makeFunc fn first cap).run Tryz.prog w = .ok (.func fn first cap) w := fun _ _ _ _ => rfl
  obtain ⟨V, hV⟩ : ∃ V, (W.alloc (.cells #[.func (.yield L0) #[] #[]] 37)).alloc (.cells #[.bool false] 4) = V := ⟨_, rfl⟩
  have hVs : V.heap.size = L + 2 := by rw [← hV]; simp [hL]
  have hVb : Below W.heap.size W V := by rw [← hV]; exact ((Below.refl _ W).alloc (Nat.le_refl _) _).alloc (by simp) _
  have hV0 : V.heap[L]? = some (.cells #[.func (.yield L0) #[] #[]] 37 (0, 0)) := by
    rw [← hV, ← hL]
    exact (Below.heap_alloc _ _ _ (by simp)).trans (World.alloc_heap_new W _)
  have hV1 : V.heap[L + 1]? = some (.cells #[.bool false] 4 (0, 0)) := by
    have := World.alloc_heap_new (W.alloc (.cells #[.func (.yield L0) #[] #[]] 37)) (.cells #[.bool false] 4)
    rw [World.size_alloc, hL] at this
    rw [← hV]
    exact this
  have hVx : V.heap[Bx]? = some (.cells #[.string s] 9 (0, 0)) := (hVb.block Bx (by omega)).trans hbW
  obtain ⟨V2, hV2⟩ : ∃ V2, V.alloc (.cells #[.string s] 9) = V2 := ⟨_, rfl⟩
  have hV2b : Below V.heap.size V V2 := by rw [← hV2]; exact (Below.refl _ V).alloc (Nat.le_refl _) _
  have hV2s : V2.heap.size = L + 3 := by rw [← hV2]; simp [hVs]
  have hV2x : V2.heap[L + 2]? = some (.cells #[.string s] 9 (0, 0)) := by rw [← hV2, ← hVs]; exact World.alloc_heap_new V _
  have hI0 : BaI (J fun _ => False) s L0 L Bx 0 V2 0 false := ⟨hJ.below hJ0 (fun b e => e.elim) (hVb.trans (hV2b.mono hVb.size)), Nat.zero_le _, Nat.zero_le _, rfl, (hV2b.block _ (by omega)).trans hV0, (hV2b.block _ (by omega)).trans hV1, (hV2b.block _ (by omega)).trans hVx⟩
  have cV : ((W.alloc (.cells #[.func (.yield L0) #[] #[]] 37)).alloc (.cells #[.bool false] 4)).cell? ⟨Bx, 0, none⟩ = some (.string s) := by rw [hV]; exact cell_of_heap hVx 0
  have HI0 := Lib.hid hI0
  have HV := Lib.hid hV
  have HV2 := Lib.hid hV2
  have HL := Lib.hid hL
  have HVs := Lib.hid hVs
  have HV2s := Lib.hid hV2s
  clear hI0 hV0 hV1 hVx hVb hV2b hbW hbx hV2s hV hV2 hL hVs hW
  refine (callsIn_wide (n := 3)).1 ?_
  refine callsIn_of_wp_marks Tryz.func71 rfl trivial ?_ rfl
  simp only [Tryz.ntmps71, List.size_toArray, List.length_cons, List.length_nil, Nat.reduceAdd, Nat.reduceSub, Array.replicate_succ, Array.replicate_zero, List.push_toArray, List.append_toArray, List.nil_append, List.cons_append]
  gi_wp2_with ((try refine ⟨trivial, ?_⟩); gi_at_call 14; refine (callsIn_wide.2 (Each_any s _)).mono ?_; rintro e w' ⟨rfl, rfl⟩)
  simp only [HL.out]
  rw [HV.out, HV2.out]
  clear cV
  refine wpIn_rangeY2 (gf := 33) (lb := #[.pointer (some ⟨L + 1 + 1, 0, none⟩)]) rfl (enters_of Tryz.func33 (by kernel_rfl) rfl)
    (each_seqY s (L + 2) V2 (fun b => X b ∨ (w.heap.size ≤ b ∧ b < L) ∨ b = L + 1) hV2x (fun b e => by have := HV2s.out; rcases e with e | e | e; (have := hX b e; omega); omega; omega))
    (fun b e => by have := HV2s.out; rcases e with e | e | e; (have := hX b e; omega); omega; omega) ?hH ?hrow 10 11 4 5 rfl ?hargs
    (fun M q W => ∃ n fl, BaI (J M) s L0 L Bx q W n fl) (fun c M _ W => c = .ret ∧ ∃ n, Jx M n W) ?hI ?hIx ⟨0, false, HI0.out⟩ ?assign ?body ?done ?stop
  case hH =>
    rintro k args W1 W' h hb
    exact h
  case hrow =>
    rintro k args W1 b _ h
    exact h.elim
  case hargs =>
    rintro k args W1 ⟨_, rfl⟩
    exact ⟨_, _, rfl⟩
  case hI =>
    rintro M k W1 W' ⟨n, fl, h⟩ hM hb
    have hs := HV2s.out
    exact ⟨n, fl, hJ M n _ _ h.j hM (hb.mono (fun b _ e => by rintro (e2 | e2); exact e (.inl (by omega)); exact e (.inr e2))), h.le, h.told, h.rest, hb.box h.yl (fun e => e (.inl (by omega))), hb.box h.fl_ (fun e => e (.inl (by omega))), hb.box h.bx (fun e => e (.inl (by omega)))⟩
  case hIx =>
    rintro c M k W1 W' ⟨e, n, h⟩ hM hb
    have hs := HV2s.out
    exact ⟨e, n, hJx M n _ _ h hM (hb.mono (fun b _ e => by rintro (e2 | e2); exact e (.inl (by omega)); exact e (.inr e2)))⟩
  case assign =>
    intro l0 x v W1 K hK
    simp only [List.setIfInBounds_toArray, List.set_cons_zero, List.set_cons_succ] at hK ⊢
    gi_wp2
    exact hK
  case body =>
    rintro l0 M q x v W1 hsz hM ⟨n, fl, hI⟩ ⟨hq, e⟩
    simp only [Array.mk.injEq, List.cons.injEq, and_true] at e
    obtain ⟨rfl, rfl⟩ := e
    simp only [List.setIfInBounds_toArray, List.set_cons_zero, List.set_cons_succ]
    have n0 := cell_of_heap hI.fl_ 0
    have nf := frozen_of_heap hI.fl_ 0
    have y0 := cell_of_heap hI.yl 0
    have b0 := cell_of_heap hI.bx 0
    simp only [List.getElem?_toArray, List.getElem?_cons_zero] at n0 y0 b0
    have hof := ofName_any (runeK s q)
    have hs2 := HV2s.out
    have hp := cntS_lt hq
    have hbS : But (fun b => b = L + 1) W1 (W1.setCell ⟨L + 1, 0, none⟩ (.bool (nameN (runeK s q)))) := (But.refl _ W1).set ⟨L + 1, 0, none⟩ _ (.inl rfl)
    have hfS := heap_setCells (i := 0) (u := .bool (nameN (runeK s q))) hI.fl_
    have hfS : (W1.setCell ⟨L + 1, 0, none⟩ (.bool (nameN (runeK s q)))).heap[L + 1]? = some (.cells #[.bool (nameN (runeK s q))] 4 (0, 0)) := hfS
    have hMs : ∀ b, M b → b < W1.heap.size := fun b e => (hM b e).2
    have hjs : J M n (W1.setCell ⟨L + 1, 0, none⟩ (.bool (nameN (runeK s q)))) := hJ M n _ _ hI.j hMs (hbS.mono (fun b _ e => by rintro (e2 | e2); omega; have := (hM b e2).1; omega))
    have hno := fun (ha : adds s q fl = []) => hI.next hjs (by omega) hq ha hbS hfS
    have HNO := Lib.hid hno
    have hbS2 : But (fun b => ((X b ∨ (w.heap.size ≤ b ∧ b < L) ∨ b = L + 1) ∨ rowE #[.int .i64 (posK s q : Int), .int .i32 (runeK s q : Int)] b) ∨ M b) W1 (W1.setCell ⟨L + 1, 0, none⟩ (.bool (nameN (runeK s q)))) := hbS.mono (fun b _ e => .inl (.inl (.inr (.inr e))))

    have HBS := Lib.hid hbS2
    by_cases h64 : runeK s q = 64
    · cases fl with
      | true =>
        have HN := Lib.hid (HNO.out (adds_no (fun e => by cases e.2.1)))
        have n64 : ((runeK s q : Int) == 64) = true := by simp; omega
        obtain ⟨r, hr⟩ : ∃ r, runeK s q = r := ⟨_, rfl⟩
        rw [hr] at hof n64 HN HBS ⊢
        clear hbS hfS hno hbS2 HNO hI h64 hr hp hs2
        gi_wp2_with ((try refine ⟨trivial, ?_⟩); gi_at_call 72; refine (CallsIn.inRound l0 (callsIn_wide.2 (hof _))).mono ?_; rintro e w' ⟨rfl, rfl⟩)
        exact ⟨trivial, HBS.out, M, fun _ e => .inl e, _, _, HN.out⟩
      | false =>
        have n64 : ((runeK s q : Int) == 64) = true := by simp; omega
        have hrun := run_any (s.extract (posK s q + 1) s.size) (W1.setCell ⟨L + 1, 0, none⟩ (.bool (nameN (runeK s q)))) (by have := size_from s (posK s q + 1); omega)
        rw [strL_from] at hrun
        have hslc := slice_from s (posK s q + 1) (by omega) (by omega)
        have hsl : ∀ w, (Instr.slice 9 (.string s) (some (.int .i64 ((posK s q : Int) + 1))) none none).run Tryz.prog w = .ok (.string (s.extract (posK s q + 1) s.size)) w := fun w => hslc w
        have htl := fun (M' : Nat → Prop) W' h0 h1 => hI.tells (J2 := J M') (W' := W') hq h64 h0 h1
        have hadd : ¬ (runeK s q = 64 ∧ false = false ∧ 0 < (((strL s).drop (posK s q + 1)).takeWhile nmB).length ∧ (((strL s).drop (posK s q + 1)).takeWhile nmB).length ≤ 16) → BaI (J M) s L0 L Bx (q + 1) (W1.setCell ⟨L + 1, 0, none⟩ (.bool (nameN (runeK s q)))) n (nameN (runeK s q)) := fun h => HNO.out (adds_no h)
        have b1 : (W1.setCell ⟨L + 1, 0, none⟩ (.bool (nameN (runeK s q)))).cell? ⟨Bx, 0, none⟩ = some (.string s) := (hbS.cell (p := ⟨Bx, 0, none⟩) (by show Bx < _; omega) (by show ¬ Bx = _; omega)).trans b0
        obtain ⟨nm, hnm⟩ : ∃ nm, ((strL s).drop (posK s q + 1)).takeWhile nmB = nm := ⟨_, rfl⟩
        rw [hnm] at hrun htl hadd
        have hnl := strB_length nm
        obtain ⟨R, hR⟩ : ∃ R, strB nm = R := ⟨_, rfl⟩
        rw [hR] at hrun hnl
        obtain ⟨W1s, hW1s⟩ : ∃ W1s, W1.setCell ⟨L + 1, 0, none⟩ (.bool (nameN (runeK s q))) = W1s := ⟨_, rfl⟩
        have hs1s : W1s.heap.size = W1.heap.size := by rw [← hW1s]; simp
        have hW1b := hW1s
        have yS : W1s.heap[L]? = some (.cells #[.func (.yield L0) #[] #[]] 37 (0, 0)) := by rw [← hW1s]; exact hbS.box hI.yl (by omega)
        have bS : W1s.heap[Bx]? = some (.cells #[.string s] 9 (0, 0)) := by rw [← hW1s]; exact hbS.box hI.bx (by omega)
        rw [hW1s] at hrun hfS HBS hbS HNO
        have hjS : J M n W1s := by rw [← hW1s]; exact hjs
        have hMS : ∀ b, M b → b < W1s.heap.size := fun b e => by have := hMs b e; omega
        obtain ⟨r, hr⟩ : ∃ r, runeK s q = r := ⟨_, rfl⟩
        obtain ⟨P, hP⟩ : ∃ P, posK s q = P := ⟨_, rfl⟩
        have HTL := Lib.hid htl
        have HR := Lib.hid hr
        have HP := Lib.hid hP
        have HRB := Lib.hid hR
        have hlsz : L + 3 ≤ W1s.heap.size := by omega
        rw [hr] at hof n64 HBS b1 hfS hW1s ⊢
        rw [hP] at hsl hrun HBS hp ⊢
        have hPb : P ≤ 1000000000 := by omega
        have HW1 := Lib.hid hW1s
        have HSZ := Lib.hid hs1s
        by_cases hc : 0 < nm.length ∧ nm.length ≤ 16
        · obtain ⟨c0, c1⟩ := hc
          have d0 : (0 : Int) < (R.size : Int) := by omega
          have d1 : (R.size : Int) ≤ 16 := by omega
          clear hbS hno hbS2 HNO hI h64 hr hP hp hs2 hslc htl hadd hnm hnl hR hs1s hW1s
          gi_wp2_with (first
            | ((try refine ⟨trivial, ?_⟩); gi_at_call 72; refine (CallsIn.inRound l0 (callsIn_wide.2 (hof _))).mono ?_; rintro e w' ⟨rfl, rfl⟩)
            | ((try refine ⟨trivial, ?_⟩); gi_at_call 73; rw [HW1.out]; refine (CallsIn.inRound l0 (callsIn_wide.2 hrun)).mono ?_; rintro e W2 ⟨rfl, hb2⟩; have y2 : W2.cell? ⟨L, 0, none⟩ = some (.func (.yield L0) #[] #[]) := (hb2.cell (p := ⟨L, 0, none⟩) (by show L < _; omega)).trans (cell_of_heap yS 0); obtain ⟨fn, tmps, assign, body, hy, hR⟩ := hY M n #[.string R] W2 (fun b e => by have := HV2s.out; have := (hM b e).1; have := hMS b e; have := hb2.size; omega) (hJ.below hjS hMS hb2) ⟨nm, (HTL.out M W2 c0 c1).1, by rw [HRB.out]⟩))
          refine RoundIn.mono (F := Fence.wide.inRound l0) (show RoundIn (Fence.wide.inRound l0) 0 _ _ _ _ _ _ _ _ from roundIn_any hR) ?_
          clear hR hy
          have hnot : ∀ b, RoundMay X w.heap.size L rowE #[.string R] b → X b ∨ (w.heap.size ≤ b ∧ b < L) ∨ b = L + 1 := fun b e => by
            rcases e with e | e | e
            · exact .inl e
            · exact .inr (.inl e)
            · exact e.elim
          have hnB : ¬ (RoundMay X w.heap.size L rowE #[.string R] Bx ∨ M Bx) := fun e => by
            rcases e with (e | e | e) | e
            · exact hXB e
            · omega
            · exact e
            · have := HV2s.out; have := (hM _ e).1; omega
          have hnL : ∀ b, L ≤ b → b < L + 2 → ¬ (RoundMay X w.heap.size L rowE #[.string R] b ∨ M b) := fun b hb hb2 e => by
            rcases e with (e | e | e) | e
            · have := hX b e; omega
            · omega
            · exact e
            · have := HV2s.out; have := (hM _ e).1; omega
          rintro e W3 (⟨rfl, _, ⟨M', hsub, hJ3⟩, hbut⟩ | ⟨rfl, ⟨M', hsub, hJx3⟩, hbut⟩)
          · have hbt := (HBS.out.trans (But.of_all hb2 (fun _ => False)) (fun b _ e => e.elim)).trans hbut (fun b _ e => e.elim (fun e => .inl (.inl (hnot b e))) .inr)
            have hsb : Sub M M' W1 W3 := fun b e => (hsub b e).imp id (fun e => by have := HSZ.out; have := hb2.size; omega)
            have hnew := (HTL.out M' W3 c0 c1).2 hJ3 (hbut.box ((hb2.block L (by omega)).trans yS) (hnL L (Nat.le_refl _) (by omega))) (by rw [HR.out]; exact hbut.box ((hb2.block (L + 1) (by omega)).trans hfS) (hnL (L + 1) (by omega) (by omega))) (hbut.box ((hb2.block Bx (by omega)).trans bS) hnB)
            have HBT := Lib.hid hbt
            have HNW := Lib.hid hnew
            have HSB := Lib.hid hsb
            clear hbt hnew hbut hsub hsb
            gi_wp2
            exact ⟨trivial, HBT.out, M', HSB.out, _, _, HNW.out⟩
          · have hbt := (HBS.out.trans (But.of_all hb2 (fun _ => False)) (fun b _ e => e.elim)).trans hbut (fun b _ e => e.elim (fun e => .inl (.inl (hnot b e))) .inr)
            have hsb : Sub M M' W1 W3 := fun b e => (hsub b e).imp id (fun e => by have := HSZ.out; have := hb2.size; omega)
            have HBT := Lib.hid hbt
            have HSB := Lib.hid hsb
            clear hbt hbut hsub hsb
            gi_wp2
            exact ⟨HBT.out, M', HSB.out, rfl, _, hJx3⟩
        · have hc' : ¬ (runeK s q = 64 ∧ false = false ∧ 0 < nm.length ∧ nm.length ≤ 16) := fun e => hc ⟨e.2.2.1, e.2.2.2⟩
          have hnx := hadd hc'
          rw [hW1b] at hnx
          have HNX := Lib.hid hnx
          have hd : R.size = 0 ∨ 16 < R.size := by omega
          clear hbS hno hbS2 HNO h64 hr hP hp hs2 hslc htl hnm hnl hR hadd hnx hc hI hW1s hW1b
          rcases hd with d0 | d0
          · have d1 : ¬ (0 : Int) < (R.size : Int) := by omega
            gi_wp2_with (first
              | ((try refine ⟨trivial, ?_⟩); gi_at_call 72; refine (CallsIn.inRound l0 (callsIn_wide.2 (hof _))).mono ?_; rintro e w' ⟨rfl, rfl⟩)
              | ((try refine ⟨trivial, ?_⟩); gi_at_call 73; rw [HW1.out]; refine (CallsIn.inRound l0 (callsIn_wide.2 hrun)).mono ?_; rintro e W2 ⟨rfl, hb2⟩; have HB2 := Lib.hid hb2; clear hb2))
            refine ⟨(fun _ h => by cases h), ?_⟩
            gi_wp2
            have hbt := HBS.out.trans (But.of_all HB2.out (fun _ => False)) (fun b _ e => e.elim)
            exact ⟨trivial, hbt, M, fun _ e => .inl e, n, _, hJ.below HNX.out.j hMS HB2.out, HNX.out.le, HNX.out.told, HNX.out.rest, (HB2.out.block _ (by omega)).trans HNX.out.yl, (HB2.out.block _ (by omega)).trans HNX.out.fl_, (HB2.out.block _ (by omega)).trans HNX.out.bx⟩
          · have d1 : (0 : Int) < (R.size : Int) := by omega
            have d2 : ¬ (R.size : Int) ≤ 16 := by omega
            gi_wp2_with (first
              | ((try refine ⟨trivial, ?_⟩); gi_at_call 72; refine (CallsIn.inRound l0 (callsIn_wide.2 (hof _))).mono ?_; rintro e w' ⟨rfl, rfl⟩)
              | ((try refine ⟨trivial, ?_⟩); gi_at_call 73; rw [HW1.out]; refine (CallsIn.inRound l0 (callsIn_wide.2 hrun)).mono ?_; rintro e W2 ⟨rfl, hb2⟩; have HB2 := Lib.hid hb2; clear hb2))
            refine ⟨(fun _ h => by cases h), ?_⟩
            gi_wp2
            have hbt := HBS.out.trans (But.of_all HB2.out (fun _ => False)) (fun b _ e => e.elim)
            exact ⟨trivial, hbt, M, fun _ e => .inl e, n, _, hJ.below HNX.out.j hMS HB2.out, HNX.out.le, HNX.out.told, HNX.out.rest, (HB2.out.block _ (by omega)).trans HNX.out.yl, (HB2.out.block _ (by omega)).trans HNX.out.fl_, (HB2.out.block _ (by omega)).trans HNX.out.bx⟩
    · have HN := Lib.hid (HNO.out (adds_no (fun e => h64 e.1)))
      have n64 : ((runeK s q : Int) == 64) = false := by simp; omega
      obtain ⟨r, hr⟩ : ∃ r, runeK s q = r := ⟨_, rfl⟩
      rw [hr] at hof n64 HN HBS ⊢
      clear hbS hfS hno hbS2 HNO hI h64 hr hp hs2
      gi_wp2_with ((try refine ⟨trivial, ?_⟩); gi_at_call 72; refine (CallsIn.inRound l0 (callsIn_wide.2 (hof _))).mono ?_; rintro e w' ⟨rfl, rfl⟩)
      exact ⟨trivial, HBS.out, M, fun _ e => .inl e, _, _, HN.out⟩
  case done =>
    rintro M k W1 rfl hM ⟨n, fl, hI⟩ hD
    have hn : n = (rawS s).length := raw_end hI.rest hI.told
    have hJn : J M n W1 := hI.j
    have HN := Lib.hid hn
    clear hn hI
    gi_wp2
    refine ⟨by simp, .inl ⟨_, _, rfl, run_takeDeferred hD, ?_⟩⟩
    refine ⟨_, results_none rfl _ _ _, ⟨_, rfl⟩, ?_⟩
    have hMW : ∀ b, M b → b < W1.heap.size := fun b e => (hM b e).2
    have hMD : ¬ M V2.heap.size := fun e => by have := (hM _ e).1; omega
    have hMB : ∀ b, M b → W.heap.size ≤ b ∧ b < (W1.putObj V2.heap.size (.deferred none)).heap.size := fun b e => ⟨by have := (hM b e).1; have := HV2s.out; have := HL.out; omega, by have := hMW b e; simpa using this⟩
    have hVL : L ≤ V2.heap.size := by have := HV2s.out; omega
    exact .inl ⟨M, n, HN.out, hMB, hJ.put hJn hMW hVL hMD _⟩
  case stop =>
    rintro c M k W1 _ hM ⟨rfl, n, hx⟩ hD
    gi_wp2
    refine ⟨by simp, .inl ⟨_, _, rfl, run_takeDeferred hD, ?_⟩⟩
    refine ⟨_, results_none rfl _ _ _, ⟨_, rfl⟩, ?_⟩
    have hMW : ∀ b, M b → b < W1.heap.size := fun b e => (hM b e).2
    have hMD : ¬ M V2.heap.size := fun e => by have := (hM _ e).1; omega
    have hMB : ∀ b, M b → W.heap.size ≤ b ∧ b < (W1.putObj V2.heap.size (.deferred none)).heap.size := fun b e => ⟨by have := (hM b e).1; have := HV2s.out; have := HL.out; omega, by have := hMW b e; simpa using this⟩
    have hVL : L ≤ V2.heap.size := by have := HV2s.out; omega
    exact .inr ⟨M, n, trivial, hMB, hJx.put hx hMW hVL hMD _⟩
end Go.Proofs
