/-
  The program's fill: the walk. Conditions: a text that is not too long, with no blank ahead, a width of at least 1; the package variables lie as they are laid.
-/
import Derived.LoopIn
import Derived.Test.YtneaenplbccpmaaGreatDoorTxZ
namespace Go.Proofs
open Go Go.RowKit Sm Go.Lib
attribute [local go_sem] Oper.semAt_some
theorem Sm.FiI.turn {V : World} {l : List (BitVec 8)} {n P : Nat} {M : Nat → Prop} {k : Nat} {W W' : World} {v : Value} {r r' : Int} (h : FiI V l n P M k W v r) (hP : P + 5 ≤ V.heap.size) (hM : ∀ b, M b → V.heap.size ≤ b) (hb : But (fun b => b = P + 1) W W')
    (hr : W'.heap[P + 1]? = some (.cells #[.int .i64 r'] 3 (0, 0))) : FiI V l n P M k W' v r' :=
  ⟨hb.box h.parts (by omega), hr, hb.box h.taken (by omega), hb.row h.row (fun g e1 e2 => by have := hM g (h.inM g e1); omega), h.inM, h.fit, h.keep.trans hb (fun b _ e => .inl (by omega))⟩
structure Sm.FiJ (W1 wr : World) (P It : Nat) (s : ByteArray) (room : Int) (j : Nat) : Prop where
  but : But (fun b => b = P + 1) W1 wr
  it : wr.heap[It]? = some (.stringIter s (posK s j))
  room_ : wr.heap[P + 1]? = some (.cells #[.int .i64 (room - j)] 3 (0, 0))
  le : j ≤ cntS s
  fit : j = 0 ∨ (j : Int) ≤ room
def Sm.sumP (l : List (BitVec 8)) (n : Nat) : Nat → Nat
  | 0 => 0
  | k + 1 => sumP l n k + (pieceL n (leftK l n k)).length
theorem Sm.sum_left (l : List (BitVec 8)) (n : Nat) : ∀ k, sumP l n k + (leftK l n k).length ≤ l.length
  | 0 => by have := bl_len l; show 0 + (bl l).length ≤ _; omega
  | k + 1 => by
    have ih := sum_left l n k
    have h1 := bl_len ((leftK l n k).drop (pieceL n (leftK l n k)).length)
    rw [List.length_drop] at h1
    have h2 := piece_le n (leftK l n k)
    show sumP l n k + (pieceL n (leftK l n k)).length + (bl _).length ≤ _
    omega
theorem Sm.sum_k (l : List (BitVec 8)) (n : Nat) (hn : 0 < n) : ∀ k, (∀ i, i < k → leftK l n i ≠ []) → k ≤ sumP l n k
  | 0, _ => Nat.le_refl _
  | k + 1, h => by
    have ih := sum_k l n hn k (fun i hi => h i (by omega))
    obtain ⟨b, r, hbr⟩ := List.exists_cons_of_ne_nil (h k (by omega))
    have hp := piece_pos (r := r) hn (leftK_head l n k hbr)
    show k + 1 ≤ sumP l n k + (pieceL n (leftK l n k)).length
    rw [hbr]
    omega
theorem Sm.joinL_len : ∀ xs : List (List (BitVec 8)), (joinL xs).length ≤ (xs.map List.length).sum + xs.length
  | [] => by simp [joinL, List.intercalate]
  | [x] => by simp [joinL, List.intercalate]
  | x :: y :: r => by
    have ih := joinL_len (y :: r)
    simp only [joinL, List.intercalate, List.intersperse, List.flatten_cons, List.length_append, List.map_cons, List.sum_cons, List.length_cons, List.length_nil] at ih ⊢
    omega
theorem Sm.pieces_sum (l : List (BitVec 8)) (n : Nat) : ∀ k, ((piecesK l n k).map List.length).sum = sumP l n k
  | 0 => rfl
  | k + 1 => by
    rw [piecesK_succ, List.map_append, List.sum_append, pieces_sum l n k]
    simp [sumP]
theorem Sm.leftK_suf (l : List (BitVec 8)) (n : Nat) : ∀ k, leftK l n k <:+ l
  | 0 => List.dropWhile_suffix _
  | k + 1 => (List.dropWhile_suffix _).trans ((List.drop_suffix _ _).trans (leftK_suf l n k))
/-- what is behind the pieces that were taken -/
theorem Sm.taken_left {l : List (BitVec 8)} {n : Nat} : ∀ {k : Nat}, 0 < k → bl (l.drop (takenK l n k)) = leftK l n k
  | k + 1, _ => by
    have hsuf : restK l n k <:+ l := (List.drop_suffix _ _).trans (leftK_suf l n k)
    have e := List.suffix_iff_eq_drop.1 hsuf
    show bl (l.drop (l.length - (restK l n k).length)) = bl (restK l n k)
    rw [← e]
theorem Sm.fits_zero {l : List (BitVec 8)} {n : Nat} (hl : l ≠ []) (hb : bl l = l) : fits l n 0 := by
  obtain ⟨j, hj, _, hc⟩ := piece_cnt n (leftK l n 0)
  refine ⟨by show bl l ≠ []; rw [hb]; exact hl, ?_⟩
  show (cntS (strB (pieceL n (leftK l n 0))) : Int) ≤ (n : Int)
  omega
theorem Sm.PutQ.wrap {base Bl : Nat} {ls : List (List (BitVec 8))} {x : List (BitVec 8)} {v : Value} {w W1 W2 : World} (h : PutQ base Bl ls x v W1 W2) (hBl : Bl < w.heap.size) (hv : ∀ g, v.ownBlock = some g → g < w.heap.size) (hb : Below w.heap.size w W1) {D : Nat} (hD : w.heap.size ≤ D) (hD2 : D < W1.heap.size) (o : Obj) :
    PutQ base Bl ls x v w (W2.putObj D o) := by
  obtain ⟨v', h1, h2, h3, h4⟩ := h
  have hp := put_but W2 D o
  refine ⟨v', hp.box h1 (by omega), hp.row h2 (fun g e1 e2 => ?_), ?_, h4.after hb.size⟩
  · rcases h4 with e | e
    · rw [e] at e1; have := hv g e1; omega
    · have := e g e1; omega
  · exact (((But.of_all hb _).trans h3 (fun b _ e => e)).trans hp (fun b hl e => by omega))
set_option maxRecDepth 100000 in
set_option maxHeartbeats 1000000 in
theorem Sm.fill_any (l : List (BitVec 8)) (n base Bl : Nat) (ls : List (List (BitVec 8))) (v : Value) (w : World) (hl : l ≠ []) (hbl : bl l = l) (hm : l.length ≤ 400000) (hn : 0 < n) (hn2 : n ≤ 1000000) (hL : LaysT w)
    (hbx : w.heap[Bl]? = some (.cells #[v] 40 (0, 0))) (hv : w.ownsRow base 9 1 v ls.length (strC ls)) (hvB : ∀ g, v.ownBlock = some g → g ≠ Bl) (hbase : base ≤ w.heap.size) (hls : ls.length ≤ 1000000) :
    Calls Tryz.prog 52 #[.string (strB l), .int .i64 (n : Int), .func (.func 49) #[] #[.pointer (some ⟨Bl, 0, none⟩)]] w fun e w' => ∃ m, (∀ i, i < m → fits l n i) ∧ ¬ fits l n m ∧ 0 < m ∧ e = .returned (.string (strB (leftK l n m))) ∧ PutQ base Bl ls (joinL (piecesK l n m)) v w w' := by
  obtain ⟨P, hP⟩ : ∃ P, w.heap.size = P := ⟨_, rfl⟩
  refine (callsIn_wide (n := 3)).1 ?_
  refine callsIn_of_wp_marks Tryz.func52 rfl trivial ?_ rfl
  simp only [Tryz.ntmps52, List.size_toArray, List.length_cons, List.length_nil, Nat.reduceAdd, Nat.reduceSub, Array.replicate_succ, Array.replicate_zero, List.push_toArray, List.append_toArray, List.nil_append, List.cons_append]
  gi_wp2
  refine wpIn_wide.2 (wp_scope_straight ((wpIn_wide (n := 3)).1 ?_))
  gi_wp2
  refine wpIn_label ?_
  gi_wp2_with ((try refine ⟨trivial, ?_⟩); gi_at_call 78; refine (callsIn_wide.2 (words_any _ _ _)).mono ?_; rintro e w' ⟨rfl, rfl⟩)
  try rw [hP]
  obtain ⟨V, hV⟩ : ∃ V, ((((w.alloc (.cells #[.slice none 0 0] 40)).alloc (.cells #[.int .i64 (n : Int)] 3)).alloc (.cells #[.int .i64 0] 3)).alloc (.cells #[.string (strB l)] 9)).alloc (.cells #[.int .i64 (n : Int)] 3) = V := ⟨_, rfl⟩
  have hVs : V.heap.size = P + 5 := by rw [← hV]; simp [hP]
  have hP5 : 5 ≤ P := hP ▸ hL.size
  have hVB : Below w.heap.size w V := by rw [← hV]; exact (((((Below.refl _ w).alloc (Nat.le_refl _) _).alloc (by simp) _).alloc (by simp; omega) _).alloc (by simp; omega) _).alloc (by simp; omega) _
  have z1 : (w.alloc (.cells #[.slice none 0 0] 40)).heap.size = P + 1 := by simp [hP]
  have z2 : ((w.alloc (.cells #[.slice none 0 0] 40)).alloc (.cells #[.int .i64 (n : Int)] 3)).heap.size = P + 1 + 1 := by simp [hP]
  have z3 : (((w.alloc (.cells #[.slice none 0 0] 40)).alloc (.cells #[.int .i64 (n : Int)] 3)).alloc (.cells #[.int .i64 0] 3)).heap.size = P + 1 + 1 + 1 := by simp [hP]
  have z4 : ((((w.alloc (.cells #[.slice none 0 0] 40)).alloc (.cells #[.int .i64 (n : Int)] 3)).alloc (.cells #[.int .i64 0] 3)).alloc (.cells #[.string (strB l)] 9)).heap.size = P + 1 + 1 + 1 + 1 := by simp [hP]
  have v4 : V.heap[P + 1 + 1 + 1 + 1]? = some (.cells #[.int .i64 (n : Int)] 3 (0, 0)) := by rw [← hV, ← z4]; exact World.alloc_heap_new _ _
  have v3 : V.heap[P + 1 + 1 + 1]? = some (.cells #[.string (strB l)] 9 (0, 0)) := by
    rw [← hV]
    refine (Below.heap_alloc _ _ _ (by rw [z4]; omega)).trans ?_
    rw [← z3]; exact World.alloc_heap_new _ _
  have v2 : V.heap[P + 1 + 1]? = some (.cells #[.int .i64 ((takenK l n 0 : Nat) : Int)] 3 (0, 0)) := by
    rw [← hV]
    refine (Below.heap_alloc _ _ _ (by rw [z4]; omega)).trans ((Below.heap_alloc _ _ _ (by rw [z3]; omega)).trans ?_)
    rw [← z2]; exact World.alloc_heap_new _ _
  have v1 : V.heap[P + 1]? = some (.cells #[.int .i64 (roomK l n 0)] 3 (0, 0)) := by
    rw [← hV]
    refine (Below.heap_alloc _ _ _ (by rw [z4]; omega)).trans ((Below.heap_alloc _ _ _ (by rw [z3]; omega)).trans ((Below.heap_alloc _ _ _ (by rw [z2]; omega)).trans ?_))
    rw [← z1]; exact World.alloc_heap_new _ _
  have v0 : V.heap[P]? = some (.cells #[.slice none 0 0] 40 (0, 0)) := by
    rw [← hV]
    refine (Below.heap_alloc _ _ _ (by rw [z4]; omega)).trans ((Below.heap_alloc _ _ _ (by rw [z3]; omega)).trans ((Below.heap_alloc _ _ _ (by rw [z2]; omega)).trans ((Below.heap_alloc _ _ _ (by rw [z1]; omega)).trans ?_)))
    rw [← hP]; exact World.alloc_heap_new _ _
  rw [hV]
  have hI0 : FiI V l n P (fun _ => False) 0 V (.slice none 0 0) (roomK l n 0) := ⟨v0, v1, v2, World.ownsRow_nil _ _ _ _, (fun g e => by cases e), (fun i hi => by omega), But.refl _ V⟩
  have HI0 := Lib.hid hI0
  have HVs := Lib.hid hVs
  have HVB := Lib.hid hVB
  have HP := Lib.hid hP
  have HF0 := Lib.hid (fits_zero (n := n) hl hbl)
  have HBX := Lib.hid hbx
  have HBl : Hid (Bl < w.heap.size) := Lib.hid (Array.getElem?_eq_some_iff.1 hbx).1
  have HV := Lib.hid hv
  have HvB := Lib.hid hvB
  have HvL : Hid (∀ g, v.ownBlock = some g → g < w.heap.size) := Lib.hid (fun g e => (hv.lt g e).2)
  have hLV := hL.keep hVB
  clear hI0 hVs hV hVB z1 z2 z3 z4 v0 v1 v2 hbx hv hvB hP
  refine wpIn_rangeY2 (gf := 91) (lb := #[.pointer (some ⟨P + 1 + 1 + 1, 0, none⟩), .pointer (some ⟨P + 1 + 1 + 1 + 1, 0, none⟩)]) rfl (enters_of Tryz.func91 (by kernel_rfl) rfl)
    (words_seqY l n (P + 1 + 1 + 1) (P + 1 + 1 + 1 + 1) V (fun b => P ≤ b ∧ b < P + 3) v3 v4 (fun b e => by have := HVs.out; omega) (fun b e => by omega) (by omega) (by omega) (by omega) hn hn2 hLV)
    (fun b e => by have := HVs.out; omega) ?hH ?hrow 16 17 10 11 rfl ?hargs
    (fun M k W => ∃ v, FiI V l n P M k W v (roomK l n k)) (fun c M q W => ∃ k v r, q = k + 1 ∧ c = .exit 0 ∧ ¬ fits l n k ∧ FiI V l n P M k W v r) ?hI ?hIx ⟨_, HI0.out⟩ ?assign ?body ?done ?stop
  case hH =>
    rintro k args W1 W' h hb
    exact h
  case hrow =>
    rintro k args W1 b _ h
    exact h.elim
  case hargs =>
    rintro k args W1 ⟨_, rfl⟩
    exact ⟨_, _, rfl⟩
  case hI =>
    rintro M k W1 W' ⟨v, h⟩ hM hb
    exact ⟨v, h.low (by have := HVs.out; omega) hb⟩
  case hIx =>
    rintro c M q W1 W' ⟨k, v, r, e1, e2, e3, h⟩ hM hb
    exact ⟨k, v, r, e1, e2, e3, h.low (by have := HVs.out; omega) hb⟩
  case assign =>
    intro l0 x y W1 K hK
    simp only [List.setIfInBounds_toArray, List.set_cons_zero, List.set_cons_succ] at hK ⊢
    gi_wp2
    exact hK
  case body =>
    rintro l0 M k x y W1 hsz hM ⟨v1, hI⟩ ⟨hne, e⟩
    simp only [Array.mk.injEq, List.cons.injEq, and_true] at e
    obtain ⟨rfl, rfl⟩ := e
    simp only [List.setIfInBounds_toArray, List.set_cons_zero, List.set_cons_succ]
    have hV5 := HVs.out
    obtain ⟨A1, c1, rfl⟩ := own_slice hI.row
    obtain ⟨i9, hi9, hs0, hs1, hs2⟩ := info_parts info9
    have hkb : k ≤ 400000 := by
      have h1 := sum_k l n hn k (fun i hi => (hI.fit i hi).1)
      have h2 := sum_left l n k
      omega
    have hRb := room_lo l n k hI.fit
    have hE2 : takenK l n (k + 1) = l.length - (restK l n k).length := rfl
    obtain ⟨E, hE⟩ : ∃ E : Nat, l.length - (restK l n k).length = E := ⟨_, rfl⟩
    rw [hE] at hE2 ⊢
    have hr6 : roomK l n (k + 1) = roomK l n k - (cntP l n k : Int) - 1 := rfl
    have hfit : leftK l n k ≠ [] ∧ (cntP l n k : Int) ≤ roomK l n k → fits l n k := fun h => h
    have hnfit : roomK l n k < (cntP l n k : Int) → ¬ fits l n k := fun h h2 => by have := h2.2; omega
    have hcs : cntP l n k = cntS (strB (pieceL n (leftK l n k))) := rfl
    have hcp : 0 < cntP l n k := by
      rw [hcs]
      obtain ⟨b, r, hbr⟩ := List.exists_cons_of_ne_nil hne
      have hp := piece_pos (r := r) hn (leftK_head l n k hbr)
      rw [← hbr] at hp
      rcases Nat.eq_zero_or_pos (cntS (strB (pieceL n (leftK l n k)))) with e | e
      · have h0 := cntS_end (strB (pieceL n (leftK l n k)))
        rw [e] at h0
        have : posK (strB (pieceL n (leftK l n k))) 0 = 0 := rfl
        rw [strB_length] at h0
        omega
      · exact e
    obtain ⟨S, hS⟩ : ∃ S, strB (pieceL n (leftK l n k)) = S := ⟨_, rfl⟩
    have hpush := fun W5 W6 v6 r5 r6 (hb : But (fun b => b = P + 1) W1 W5) hr5 hg ho hat hr6 e he Wf hWf hf => hI.push (W5 := W5) (W6 := W6) (v6 := v6) (r5 := r5) (r6 := r6) (args := #[.int .i64 (E : Int), .string S]) hf (by omega) (fun b e => ⟨by have := (hM b e).1; omega, (hM b e).2⟩) hb hr5 hg ho hat hr6 e he Wf hWf
    rw [hS] at hcs hpush ⊢
    obtain ⟨R, hR⟩ : ∃ R, roomK l n k = R := ⟨_, rfl⟩
    obtain ⟨C, hC⟩ : ∃ C, cntP l n k = C := ⟨_, rfl⟩
    have hI' := hI
    rw [hR] at hRb hr6 hfit hnfit hI'
    rw [hC] at hr6 hfit hnfit hcs hcp
    obtain ⟨It, hIt⟩ : ∃ It, W1.heap.size = It := ⟨_, rfl⟩
    obtain ⟨Wi, hWi⟩ : ∃ Wi, W1.alloc (.stringIter S 0) = Wi := ⟨_, rfl⟩
    have hbi : But (fun b => b = P + 1) W1 Wi := by rw [← hWi]; exact (But.refl _ W1).alloc _
    have hJ0 : FiJ W1 Wi P It S R 0 := by
      refine ⟨hbi, ?_, ?_, Nat.zero_le _, .inl rfl⟩
      · rw [← hWi, ← hIt]; exact World.alloc_heap_new W1 _
      · rw [← hWi, show R - ((0 : Nat) : Int) = R by omega]
        exact (Below.heap_alloc _ _ _ (Array.getElem?_eq_some_iff.1 hI'.room_).1).trans hI'.room_
    have HJ0 := Lib.hid hJ0
    have HI := Lib.hid hI'
    have HPU := Lib.hid hpush
    have HR6 := Lib.hid hr6
    have HFI := Lib.hid hfit
    have HNF := Lib.hid hnfit
    have HNE := Lib.hid hne
    have HE2 := Lib.hid hE2
    have HRR := Lib.hid hR
    have HS := Lib.hid hS
    have hit5 : P + 7 ≤ It := by omega
    have hEb : E ≤ 400000 := by omega
    clear hI hI' hpush hr6 hfit hnfit hE2 hJ0 hbi hR hC hE hS hne
    have b8 : W1.heap.size = It := hIt
    gi_wp2
    rw [show W1.iter S 0 = Wi from hWi]
    try rw [hIt]
    clear hWi
    gi_loopw [22] (fun _ wr => ∃ j : Nat, Hid (FiJ W1 wr P It S R j)) (fun _ wr => S.size - wr.iterPos It)
    case atStart => exact ⟨0, HJ0⟩
    case round =>
      obtain ⟨wo, rfl⟩ : ∃ wo : World, wo = wr := ⟨_, rfl⟩
      obtain ⟨j, HJ⟩ := hrel
      clear HJ0
      by_cases hlt : posK S j < S.size
      · have hnx : ∀ ty, (Instr.next (.pointer (some ⟨It, 0, none⟩)) true ty).run Tryz.prog wo = _ := fun ty => run_next_at wo It S (posK S j) ty HJ.out.it hlt
        have hIo : It < wo.heap.size := (Array.getElem?_eq_some_iff.1 HJ.out.it).1
        obtain ⟨w1, hw1⟩ : ∃ w1, wo.putObj It (.stringIter S (posK S j + (Utf8.decode S (posK S j)).2)) = w1 := ⟨_, rfl⟩
        have hbp : But (fun b => b = It) wo w1 := by rw [← hw1]; exact put_but _ _ _
        have hit1 : w1.heap[It]? = some (.stringIter S (posK S (j + 1))) := by rw [← hw1, posK_succ hlt]; simp [World.putObj, hIo]
        have hj1 : j < cntS S := posK_cnt hlt
        have hr1 := hbp.box HJ.out.room_ (by omega)
        have q1 := cell_of_heap hr1 0
        have q2 := frozen_of_heap hr1 0
        simp only [List.getElem?_toArray, List.getElem?_cons_zero] at q1
        have hbt : But (fun b => b = P + 1) W1 w1 := HJ.out.but.trans hbp (fun b hl e => by omega)
        have hfj := HJ.out.fit
        have hstep := posK_step hlt
        have hle := posK_le S (j + 1)
        have hpo := iterPos_at HJ.out.it
        have hRj : -2 ≤ R - (j : Int) ∧ R - (j : Int) ≤ 1000000 := by omega
        obtain ⟨D, hD⟩ : ∃ D : Int, R - (j : Int) = D := ⟨_, rfl⟩
        rw [hD] at q1 hr1 hRj
        have HD := Lib.hid hD
        have HBT := Lib.hid hbt
        have HR1 := Lib.hid hr1
        have HIT1 := Lib.hid hit1
        have HCS := Lib.hid hcs
        rw [hw1] at hnx
        clear hw1 hbp hit1 hr1 hbt hD hcs
        by_cases hrm : D ≤ 0
        · gi_wp2
          refine ⟨HBT.out.mono (fun b _ e => .inl (.inl (by omega))), M, (fun b e => .inl e), k, _, _, rfl, rfl, HNF.out (by have := HCS.out; have := HD.out; omega), HI.out.turn (by omega) (fun b e => by have := (hM b e).1; omega) HBT.out HR1.out⟩
        · gi_wp2
          have hnew : FiJ W1 (w1.setCell ⟨P + 1, 0, none⟩ (.int .i64 (D - 1))) P It S R (j + 1) := by
            refine ⟨HBT.out.set ⟨P + 1, 0, none⟩ _ (.inl rfl), ?_, ?_, by omega, .inr (by have := HD.out; omega)⟩
            · exact (Below.heap_setCell w1 ⟨P + 1, 0, none⟩ _ It (by show It ≠ P + 1; omega)).trans HIT1.out
            · rw [show R - ((j + 1 : Nat) : Int) = D - 1 by have := HD.out; omega]
              exact heap_setCells (i := 0) (u := .int .i64 (D - 1)) HR1.out
          refine ⟨⟨j + 1, Lib.hid hnew⟩, ?_⟩
          rw [iterPos_at hnew.it, hpo]
          omega
      · have hnx : ∀ ty, (Instr.next (.pointer (some ⟨It, 0, none⟩)) true ty).run Tryz.prog wo = _ := fun ty => run_next_stop wo It S (posK S j) ty HJ.out.it hlt
        have hke : j = cntS S := by
          have := HJ.out.le
          by_cases h : j < cntS S
          · exact absurd (cntS_lt h) hlt
          · omega
        have hjC : j = C := by omega
        have hfj : (j : Int) ≤ R := by
          have := HJ.out.fit
          omega
        have hbo := HJ.out.but
        have p0 := cell_of_heap (hbo.box HI.out.parts (by omega)) 0
        simp only [List.getElem?_toArray, List.getElem?_cons_zero] at p0
        have hrow5 : (wo.alloc (.cells #[.string S] 9)).ownsRow P 9 1 (.slice A1 k c1) k (strC (piecesK l n k)) := (hbo.row HI.out.row (fun g e1 e2 => by have := (hM g (HI.out.inM g e1)).1; omega)).alloc _
        have hvM : ∀ b, (Value.slice A1 k c1).ownBlock = some b → V.heap.size + 2 ≤ b := fun b e => (hM b (HI.out.inM b e)).1
        have hz5 := hbo.size
        have h56 := fun W6 (hg : (wo.alloc (.cells #[.string S] 9)).grownBy W6 (Value.slice A1 k c1).ownBlock) => (((But.refl _ wo).alloc _).trans (But.grown hg) (fun b _ e => e) : But (fun b => (Value.slice A1 k c1).ownBlock = some b) wo W6)
        have x0 := fun W6 hg => (h56 W6 hg).box (hbo.box HI.out.parts (by omega)) (fun e => by have := hvM _ e; omega)
        have x1 := fun W6 hg => (h56 W6 hg).box HJ.out.room_ (fun e => by have := hvM _ e; omega)
        have x2 := fun W6 hg => (h56 W6 hg).box (hbo.box HI.out.taken (by omega)) (fun e => by have := hvM _ e; omega)
        have X0 := Lib.hid x0
        have X1 := Lib.hid x1
        have X2 := Lib.hid x2
        have hRj : 0 ≤ R - (j : Int) ∧ R - (j : Int) ≤ 1000000 := by omega
        have hpu := fun W6 v6 hg ho hat Wf hWf => HPU.out wo W6 v6 (R - (j : Int)) (R - (j : Int) - 1) hbo HJ.out.room_ hg ho hat (by rw [HR6.out, hjC]) E HE2.out.symm Wf hWf (HFI.out ⟨HNE.out, by omega⟩)
        have HPU2 := Lib.hid hpu
        have hwz : P ≤ (wo.alloc (.cells #[.string S] 9)).heap.size := by simp; omega
        obtain ⟨D, hD⟩ : ∃ D : Int, R - (j : Int) = D := ⟨_, rfl⟩
        have HD := Lib.hid hD
        rw [hD] at hRj
        clear hbo hvM hz5 h56 x0 x1 x2 hke hcs hpu hD
        gi_wp2_with (gi_at_builtin; refine wpListIn_append_own_at _ rfl (.tmp 26) (.tmp 28) 40 rfl P 9 i9 _ 1 16 Tryz.underlying40 hi9 hs0 hs1 hs2 rfl (by decide) _ k (strC (piecesK l n k)) rfl hrow5 ⟨wo.heap.size, 0, none⟩ 1 1 [.string S] rfl rfl (cell_one_new _ _ _) (by simp [Value.oneCell']) (by unfold maxLen; omega) (by omega) hwz ?_; intro v6 W6 hown6 hg6 _ hat6
                     obtain ⟨A6, c6, rfl⟩ := own_slice hown6
                     have y0 := cell_of_heap (X0.out W6 hg6) 0
                     have y1 := cell_of_heap (X1.out W6 hg6) 0
                     have y2 := cell_of_heap (X2.out W6 hg6) 0
                     have f0 := frozen_of_heap (X0.out W6 hg6) 0
                     have f1 := frozen_of_heap (X1.out W6 hg6) 0
                     have f2 := frozen_of_heap (X2.out W6 hg6) 0
                     simp only [List.getElem?_toArray, List.getElem?_cons_zero] at y0 y1 y2
                     rw [HD.out] at y1
                     have HP6 := Lib.hid (HPU2.out W6 _ hg6 hown6 hat6)
                     clear hown6 hg6 hat6)
        have hfin := HP6.out _ rfl
        rw [HD.out] at hfin
        exact ⟨trivial, hfin.2, _, (fun b e => e), _, hfin.1⟩
  case done =>
    rintro M k W1 hSk hM ⟨v1, hI⟩ hD
    have hnf : ¬ fits l n k := fun h => h.1 hSk
    clear hSk
    have hV5 := HVs.out
    have hk0 : 0 < k := by
      rcases Nat.eq_zero_or_pos k with e | e
      · exact absurd (e ▸ HF0.out) hnf
      · exact e
    obtain ⟨A, c, rfl⟩ := own_slice hI.row
    have hkb : k ≤ 400000 := by
      have h1 := sum_k l n hn k (fun i hi => (hI.fit i hi).1)
      have h2 := sum_left l n k
      omega
    have hpl := piecesK_len l n k
    have hbw : Below w.heap.size w W1 := HVB.out.trans (hI.keep.to_below (n := w.heap.size) HVB.out.size (fun b e => by have := HP.out; omega))
    have hbx1 := (hbw.block Bl HBl.out).trans HBX.out
    have hp1 : W1.ownsRow P 9 1 (.slice A (piecesK l n k).length c) (piecesK l n k).length (strC (piecesK l n k)) := by rw [hpl]; exact hI.row
    have hjb : (joinL (piecesK l n k)).length ≤ 1000000 := by
      have h1 := joinL_len (piecesK l n k)
      rw [pieces_sum, hpl] at h1
      have h2 := sum_left l n k
      omega
    have hput := put_any (piecesK l n k) A c P base Bl ls v W1 hp1 (by omega) (by omega) hbx1 (own_below HV.out hbw) HvB.out (by have := hbw.size; omega) hls hjb
    rw [hpl] at hput
    obtain ⟨T, hT⟩ : ∃ T : Nat, takenK l n k = T := ⟨_, rfl⟩
    have hTl : T ≤ l.length := by
      rw [← hT]
      cases k with
      | zero => exact Nat.zero_le _
      | succ k => exact Nat.sub_le _ _
    have htl := taken_left (l := l) (n := n) hk0
    rw [hT] at htl
    have hbb := fun W => behindBlanks_any (l.drop T) W
    rw [htl] at hbb
    have hszl := strB_length l
    have hext : (strB l).extract T (strB l).size = strB (l.drop T) := by
      rw [cut_strB, List.take_of_length_le (by rw [strB_length]; exact Nat.le_refl _)]
    have hsl2 : ∀ w, (Instr.slice 9 (.string (strB l)) (some (.int .i64 (T : Int))) none none).run Tryz.prog w = .ok (.string (strB (l.drop T))) w := fun w => by
      rw [slice_from (strB l) T (by omega) (by omega), hext]
    have b0 := cell_of_heap hI.parts 0
    have b2 := cell_of_heap hI.taken 0
    simp only [List.getElem?_toArray, List.getElem?_cons_zero] at b0 b2
    rw [hT] at b2
    have HFIT := Lib.hid hI.fit
    have HNF := Lib.hid hnf
    have HBW := Lib.hid hbw
    have HHD := Lib.hid hD
    have HK0 := Lib.hid hk0
    have hDl := (Array.getElem?_eq_some_iff.1 hD).1
    clear hI hnf hbw hbx1 hp1 hjb hext hszl htl hTl hD hk0 hkb hpl hT
    gi_wp2_with (first
      | (refine ⟨trivial, ?_⟩; refine (callsIn_wide.2 hput).mono ?_; clear hput; rintro e W2 ⟨⟨u, rfl⟩, hq⟩
         have b2' : W2.cell? ⟨P + 1 + 1, 0, none⟩ = some (.int .i64 (T : Int)) := by
           obtain ⟨v', _, _, h3, _⟩ := hq
           have := HP.out
           exact (h3.cell (p := ⟨P + 1 + 1, 0, none⟩) (by show P + 1 + 1 < _; omega) (fun e => by have h5 := HBl.out; have h6 := HvL.out; rcases e with e | e; (have : P + 1 + 1 = Bl := e; omega); (have := h6 _ e; have : (⟨P + 1 + 1, 0, none⟩ : Addr).block = P + 1 + 1 := rfl; omega))).trans b2
         have HQ := Lib.hid hq
         clear hq)
      | (refine ⟨trivial, ?_⟩; refine (callsIn_wide.2 (hbb _)).mono ?_; rintro e w' ⟨rfl, rfl⟩))
    have hD2 : W2.heap[P + 5]? = some (.deferred (some [])) := by
      obtain ⟨v', _, _, h3, _⟩ := HQ.out
      have hh := HHD.out
      rw [HVs.out] at hh
      have := HP.out
      exact h3.box hh (fun e => by have h5 := HBl.out; rcases e with e | e; omega; (have := HvL.out _ e; omega))
    have hfin := HQ.out.wrap HBl.out HvL.out HBW.out (D := P + 5) (by have := HP.out; omega) (by omega) (.deferred none)
    exact retM1 (v := .string (strB (leftK l n k))) rfl hD2 (by simp [results, Tryz.results52, go_sem]) ⟨k, HFIT.out, HNF.out, HK0.out, rfl, hfin⟩
  case stop =>
    rintro c M q W1 _ hM ⟨k, v1, r, _, rfl, hnf, hI⟩ hD
    have hV5 := HVs.out
    have hk0 : 0 < k := by
      rcases Nat.eq_zero_or_pos k with e | e
      · exact absurd (e ▸ HF0.out) hnf
      · exact e
    obtain ⟨A, c, rfl⟩ := own_slice hI.row
    have hkb : k ≤ 400000 := by
      have h1 := sum_k l n hn k (fun i hi => (hI.fit i hi).1)
      have h2 := sum_left l n k
      omega
    have hpl := piecesK_len l n k
    have hbw : Below w.heap.size w W1 := HVB.out.trans (hI.keep.to_below (n := w.heap.size) HVB.out.size (fun b e => by have := HP.out; omega))
    have hbx1 := (hbw.block Bl HBl.out).trans HBX.out
    have hp1 : W1.ownsRow P 9 1 (.slice A (piecesK l n k).length c) (piecesK l n k).length (strC (piecesK l n k)) := by rw [hpl]; exact hI.row
    have hjb : (joinL (piecesK l n k)).length ≤ 1000000 := by
      have h1 := joinL_len (piecesK l n k)
      rw [pieces_sum, hpl] at h1
      have h2 := sum_left l n k
      omega
    have hput := put_any (piecesK l n k) A c P base Bl ls v W1 hp1 (by omega) (by omega) hbx1 (own_below HV.out hbw) HvB.out (by have := hbw.size; omega) hls hjb
    rw [hpl] at hput
    obtain ⟨T, hT⟩ : ∃ T : Nat, takenK l n k = T := ⟨_, rfl⟩
    have hTl : T ≤ l.length := by
      rw [← hT]
      cases k with
      | zero => exact Nat.zero_le _
      | succ k => exact Nat.sub_le _ _
    have htl := taken_left (l := l) (n := n) hk0
    rw [hT] at htl
    have hbb := fun W => behindBlanks_any (l.drop T) W
    rw [htl] at hbb
    have hszl := strB_length l
    have hext : (strB l).extract T (strB l).size = strB (l.drop T) := by
      rw [cut_strB, List.take_of_length_le (by rw [strB_length]; exact Nat.le_refl _)]
    have hsl2 : ∀ w, (Instr.slice 9 (.string (strB l)) (some (.int .i64 (T : Int))) none none).run Tryz.prog w = .ok (.string (strB (l.drop T))) w := fun w => by
      rw [slice_from (strB l) T (by omega) (by omega), hext]
    have b0 := cell_of_heap hI.parts 0
    have b2 := cell_of_heap hI.taken 0
    simp only [List.getElem?_toArray, List.getElem?_cons_zero] at b0 b2
    rw [hT] at b2
    have HFIT := Lib.hid hI.fit
    have HNF := Lib.hid hnf
    have HBW := Lib.hid hbw
    have HHD := Lib.hid hD
    have HK0 := Lib.hid hk0
    have hDl := (Array.getElem?_eq_some_iff.1 hD).1
    clear hI hnf hbw hbx1 hp1 hjb hext hszl htl hTl hD hk0 hkb hpl hT
    gi_wp2_with (first
      | (refine ⟨trivial, ?_⟩; refine (callsIn_wide.2 hput).mono ?_; clear hput; rintro e W2 ⟨⟨u, rfl⟩, hq⟩
         have b2' : W2.cell? ⟨P + 1 + 1, 0, none⟩ = some (.int .i64 (T : Int)) := by
           obtain ⟨v', _, _, h3, _⟩ := hq
           have := HP.out
           exact (h3.cell (p := ⟨P + 1 + 1, 0, none⟩) (by show P + 1 + 1 < _; omega) (fun e => by have h5 := HBl.out; have h6 := HvL.out; rcases e with e | e; (have : P + 1 + 1 = Bl := e; omega); (have := h6 _ e; have : (⟨P + 1 + 1, 0, none⟩ : Addr).block = P + 1 + 1 := rfl; omega))).trans b2
         have HQ := Lib.hid hq
         clear hq)
      | (refine ⟨trivial, ?_⟩; refine (callsIn_wide.2 (hbb _)).mono ?_; rintro e w' ⟨rfl, rfl⟩))
    have hD2 : W2.heap[P + 5]? = some (.deferred (some [])) := by
      obtain ⟨v', _, _, h3, _⟩ := HQ.out
      have hh := HHD.out
      rw [HVs.out] at hh
      have := HP.out
      exact h3.box hh (fun e => by have h5 := HBl.out; rcases e with e | e; omega; (have := HvL.out _ e; omega))
    have hfin := HQ.out.wrap HBl.out HvL.out HBW.out (D := P + 5) (by have := HP.out; omega) (by omega) (.deferred none)
    exact retM1 (v := .string (strB (leftK l n k))) rfl hD2 (by simp [results, Tryz.results52, go_sem]) ⟨k, HFIT.out, HNF.out, HK0.out, rfl, hfin⟩
end Go.Proofs
