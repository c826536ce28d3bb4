/-
  The contract of unspelled.
-/
import Derived.Test.YtbnemingkdofmaaDoorQ27
namespace Go.Proofs
open Go.RowKit Sm
attribute [local go_sem] Oper.semAt_some
set_option maxHeartbeats 1000000 in
/-- **the law of a loop of two variables, where a round may give up** -/
theorem Sm.wpE_range2P {P : Program} {g : Operand} {ps : Array Tmp} {assign body : Code} {Q : Exit → Act → World → Prop} {a : Act} {w : World} (n : Nat) {gf : Nat} {lb : Array Value}
    (hg : a.eval g = .func (.func gf) #[] lb) (eg : ∀ args w, (callFunc gf args).run P w = .ok (.enter gf args) w)
    {X : Nat → Prop} {H : Nat → Nat → Array Value → World → Prop} {row : Array Value → Nat → Prop} {Go S Sp : Nat → Prop} (hseq : SeqXP P gf lb X H row Go S Sp w)
    (hX : ∀ b, X b → b < w.heap.size) (hH : ∀ k args W W', H (w.heap.size + 2) k args W → But (fun b => b < w.heap.size + 2) W W' → H (w.heap.size + 2) k args W')
    (hrow : ∀ k args W b, H (w.heap.size + 2) k args W → row args b → w.heap.size + 2 ≤ b) (p1 p2 q1 q2 : Nat) (hps : ps = #[p1, p2]) (hargs : ∀ k args W, H (w.heap.size + 2) k args W → ∃ x v, args = #[x, v])
    (I : Nat → World → Prop) (Ix : Code → Nat → World → Prop) (Ip : List PanicEntry → World → Prop) (hI : LowJ w.heap.size I) (hIx : ∀ c, LowJ w.heap.size (Ix c)) (h0 : I 0 w)
    (hassign : ∀ (l : Nat) (x v : Value) (W : World) (K : Act → World → Prop), K { tmps := (((a.tmps.setIfInBounds p1 x).setIfInBounds p2 v).setIfInBounds q1 x).setIfInBounds q2 v, defers := [] } W →
      assign.wpIn (Fence.wide.inRound l) (n - 1 - 1) P (Exit.then K (fun _ _ _ => False)) { tmps := (a.tmps.setIfInBounds p1 x).setIfInBounds p2 v, defers := [] } W)
    (hbody : ∀ (l k : Nat) (x v : Value) (W : World), w.heap.size + 2 ≤ W.heap.size → I k W → H (w.heap.size + 2) k #[x, v] W → body.wpIn (Fence.wide.inRound l) (n - 1 - 1) P (postXP Go X row #[x, v] I Ix Ip k W) { tmps := (((a.tmps.setIfInBounds p1 x).setIfInBounds p2 v).setIfInBounds q1 x).setIfInBounds q2 v, defers := [] } W)
    (hdone : ∀ (k : Nat) (W : World), S k → I k W → W.heap[w.heap.size]? = some (.deferred (some [])) → Q .normal { a with defers := { target := .collected w.heap.size, args := #[] } :: a.defers } W)
    (hstop : ∀ (c : Code) (k : Nat) (W : World), Sp k → Ix c k W → W.heap[w.heap.size]? = some (.deferred (some [])) → c.wpIn Fence.wide n P Q { a with defers := { target := .collected w.heap.size, args := #[] } :: a.defers } W)
    (hpanic : ∀ (ch : List PanicEntry) (W : World), Ip ch W → W.heap[w.heap.size]? = some (.deferred (some [])) → Q (.panic ch) { a with defers := { target := .collected w.heap.size, args := #[] } :: a.defers } W) :
    WpE P (Code.rangeFunc g ps assign body) Q a w := by
  subst hps
  refine wpIn_rangeP (n := n) hg eg hseq hX hH hrow (fun k args W h => by obtain ⟨x, v, rfl⟩ := hargs k args W h; rfl) I Ix Ip hI hIx h0
    (fun args a' _ => ∀ x v, args = #[x, v] → a' = { tmps := (((a.tmps.setIfInBounds p1 x).setIfInBounds p2 v).setIfInBounds q1 x).setIfInBounds q2 v, defers := [] }) (fun _ _ _ _ h _ => h) ?_ ?_ hdone hstop hpanic
  · intro l k args W K _ _ hh hK
    obtain ⟨x, v, rfl⟩ := hargs k args W hh
    have := hassign l x v W K (hK _ _ (Below.refl _ _) (fun x' v' e => by simp at e; obtain ⟨rfl, rfl⟩ := e; rfl))
    simpa using this
  · intro l k args a' W hs hi hh hax
    obtain ⟨x, v, rfl⟩ := hargs k args W hh
    rw [hax x v rfl]
    exact hbody l k x v W hs hi hh
def Sm.sgnV (u : UInt8) : Int := match sgnN u.toBitVec with
  | some k => k
  | none => -1
theorem Sm.idx_sgn (u : UInt8) : Lib.indexByte ({ data := #[97, 98, 99, 100, 101, 102, 103, 104, 105, 106, 107, 108, 109, 110, 111, 112, 113, 114, 115, 116, 117, 118, 119, 120, 121, 122, 50, 51, 52, 53, 54, 55] } : ByteArray).data.toList u = sgnV u := by
  have h : ∀ k : Fin 256, Lib.indexByte ({ data := #[97, 98, 99, 100, 101, 102, 103, 104, 105, 106, 107, 108, 109, 110, 111, 112, 113, 114, 115, 116, 117, 118, 119, 120, 121, 122, 50, 51, 52, 53, 54, 55] } : ByteArray).data.toList (UInt8.ofNat k.val) = sgnV (UInt8.ofNat k.val) := by decide +kernel
  have := h ⟨u.toNat, u.toNat_lt⟩
  simpa using this
theorem Sm.index_any (u : UInt8) (w : World) : Calls Tryd.prog 36 #[.string { data := #[97, 98, 99, 100, 101, 102, 103, 104, 105, 106, 107, 108, 109, 110, 111, 112, 113, 114, 115, 116, 117, 118, 119, 120, 121, 122, 50, 51, 52, 53, 54, 55] }, .int .u8 (u.toNat : Int)] w fun e w' => e = .returned (.int .i64 (sgnV u)) ∧ w = w' := by
  refine (Tryd.strings_IndexByte _ _ w).mono ?_
  rintro e w' ⟨rfl, rfl⟩
  refine ⟨?_, rfl⟩
  rw [← idx_sgn]
  simp
theorem Sm.sB_get (s : ByteArray) (k : Nat) (hk : k < s.size) : (sB s)[k]? = some s[k].toBitVec := by
  unfold sB
  rw [List.getElem?_map, List.getElem?_eq_getElem (by simpa using hk)]
  rfl
/-- what unspelled answers -/
def Sm.UnPost (l : List (BitVec 8)) (w : World) (e : Ending) (w' : World) : Prop :=
  Below w.heap.size w w' ∧ match unspellS l with
  | some b => ∃ v, e = .returned v ∧ w'.ownsRow w.heap.size 5 1 v b.length (b.map byteCell)
  | none => e = .panicked [pE 160]
theorem Sm.fivesOf_snoc {l : List (BitVec 8)} {k x : Nat} {xs : List Nat} {c : BitVec 8} (h : fivesOf (l.take k) = some xs) (hc : l[k]? = some c) (hx : sgnN c = some x) : fivesOf (l.take (k + 1)) = some (xs ++ [x]) := by
  rw [List.take_add_one, hc]
  exact fivesOf_append _ _ _ _ h (by simp [fivesOf, hx])
def Sm.b8 (xs : List Nat) : List (BitVec 8) := xs.map (BitVec.ofNat 8)
theorem Sm.nat8_b8 {xs : List Nat} (h : ∀ x ∈ xs, x < 32) : nat8 (b8 xs) = xs := by
  unfold nat8 b8
  rw [List.map_map]
  conv => rhs; rw [← List.map_id xs]
  refine List.map_congr_left fun x hx => ?_
  have := h x hx
  simp
  omega
theorem Sm.retP0 {n : Nat} {P : Program} {fn : Func} {R : Ending → World → Prop} {a : Act} {w : World} {ch : List PanicEntry} (hd : a.defers = []) (hR : R (.panicked ch) w) : bodyPostM Fence.wide n P fn R (.panic ch) a w := by
  show LeavesInM Fence.wide n P fn a.tmps R a.defers (.panicking ch) w
  rw [hd]
  exact hR
theorem Sm.u8_small (x : Nat) : IntKind.u8.wrap (x : Int) = ib (BitVec.ofNat 8 x) := by
  unfold ib
  rw [BitVec.toNat_ofNat]
  simp [IntKind.wrap, IntKind.signed, IntKind.bits]
theorem Sm.rds_row {w : World} {base n c : Nat} {A : Option Addr} {l : List (BitVec 8)} (h : w.ownsRow base 5 1 (.slice A n c) n (l.map byteCell)) (S : Nat → Prop) (hS : ∀ g, g < w.heap.size → ¬ S g) : Rds w S A (l.map byteCell) := fun h0 => by
  have hn : 0 < n := by have := h.1; omega
  obtain ⟨g, cap, hv, hb, hlt⟩ := h.form hn
  obtain rfl : A = some ⟨g, 0, none⟩ := by injection hv
  refine ⟨g, 0, rfl, hlt, hS g hlt, fun j v hj => ?_⟩
  have hjl := (List.getElem?_eq_some_iff.1 hj).1
  rw [Nat.zero_add, h.cellAt j (by have := h.1; omega), hj]
/-- how the bytes stand behind k groups -/
structure Sm.UnI (base : Nat) (w5 W : World) (Db Rb M k : Nat) (xs : List Nat) : Prop where
  le : k ≤ M
  db : Blk W Db 0x16 #[.slice (some ⟨Rb, 0, none⟩) k M]
  own : W.ownsRow base 5 1 (.slice (some ⟨Rb, 0, none⟩) k M) k (((byteS xs).take k).map byteCell)
  but : But (fun b => b = Db ∨ b = Rb) w5 W
/-- how all stands where the loop is left -/
def Sm.UnX (base : Nat) (w5 : World) (c : Code) (W : World) (Db Rb M : Nat) (xs : List Nat) : Prop := c = .exit 2 ∧ restS xs = true ∧ UnI base w5 W Db Rb M M xs
/-- how all stands where it gives up -/
def Sm.UnP (w5 : World) (ch : List PanicEntry) (W : World) (Db Rb : Nat) (xs : List Nat) : Prop := ch = [pE 160] ∧ restS xs = false ∧ But (fun b => b = Db ∨ b = Rb) w5 W
set_option maxRecDepth 100000 in
set_option maxHeartbeats 4000000 in
theorem Sm.unspelled_any (s : ByteArray) (w : World) (hs : s.size ≤ 100000) : Calls Tryd.prog 21 #[.string s] w (UnPost (sB s) w) := by
  obtain ⟨i0, hi, hz0, hz1, hz2⟩ := info_parts info5
  obtain ⟨n, hn⟩ : ∃ n, s.size = n := ⟨_, rfl⟩
  have hs' : n ≤ 100000 := by omega
  have hln : (sB s).length = n := by rw [sB_length, hn]
  have HLN := Lib.hid hln
  have HN := Lib.hid hn
  clear hln hs
  refine calls_of_wpE (n := 3) Tryd.func21 rfl ?_
  simp only [Tryd.ntmps21, List.size_toArray, List.length_cons, List.length_nil, Nat.reduceAdd, Nat.reduceSub, Array.replicate_succ, Array.replicate_zero, List.push_toArray, List.append_toArray, List.nil_append, List.cons_append]
  refine wpE_seq (wpE_of ?_)
  go_wp2
  refine wpE_scope (wpE_seq (wpE_of ?_))
  go_wp2_with (at_make; refine wpList_make_own _ rfl _ _ 0x16 rfl w.heap.size 5 i0 (.int .u8 0) 1 Tryd.underlying22 hi hz0 hz1 .i64 .i64 _ n rfl rfl rfl (by rw [hz2]; omega) (by unfold maxLen; omega) (Nat.le_refl _) ?_; intro w2 hown2 hg2)
  have hb2 : Below w.heap.size w w2 := (Below.refl _ _).grown hg2 (Nat.le_refl _) (fun g e => by cases e)
  have HO2 := Lib.hid hown2
  have HB2 := Lib.hid hb2
  clear hown2 hg2 hb2
  refine wpE_seq (wpE_of ?_)
  go_wp2
  go_loopw [3, 14] (fun s3 s14 wr => ∃ (k : Nat) (xs : List Nat) (v : Value), k ≤ n ∧ s14 = .int .i64 (k : Int) ∧ s3 = v ∧ Hid (fivesOf ((sB s).take k) = some xs) ∧ Hid (xs.length = k) ∧ Hid (wr.ownsRow w.heap.size 5 1 v k ((b8 xs).map byteCell)) ∧ Hid (Below w.heap.size w wr)) (fun _ s14 _ => n - (intOf s14).toNat)
  case atStart => exact ⟨0, [], _, by omega, rfl, rfl, Lib.hid rfl, Lib.hid rfl, HO2, HB2⟩
  case round =>
    obtain ⟨wo, rfl⟩ : ∃ wo : World, wo = wr := ⟨_, rfl⟩
    obtain ⟨k, xs, v, hk, rfl, rfl, HX, HXL, HO, HB⟩ := hrel
    clear HO2 HB2
    by_cases hlt : k < n
    · have hls : k < s.size := by rw [HN.out]; exact hlt
      have hsk := sB_get s k hls
      obtain ⟨u, hu⟩ : ∃ u, s[k] = u := ⟨_, rfl⟩
      rw [hu] at hsk
      have HSK := Lib.hid hsk
      have hsz := HB.out.size
      clear hsk
      cases hsg : sgnN u.toBitVec with
      | none =>
        have hsv : sgnV u = -1 := by unfold sgnV; rw [hsg]
        have hix := fun (w : World) => index_any u w
        rw [hsv] at hix
        have HIX := Lib.hid hix
        have HSG := Lib.hid hsg
        clear hsv hsg hix
        go_wp2_with (first
          | (go_at_call 36; (with_reducible refine (HIX.out _).mono ?_); rintro e w3 ⟨rfl, rfl⟩)
          | (go_at_call 26; (with_reducible refine (must_no _ _ _ _ (World.cell?_alloc_new wo #[.bool false] 4 0)).mono ?_); rintro e w4 ⟨rfl, rfl⟩))
        simp only [Exit.noGoto]
        refine retP0 rfl ⟨HB.out.alloc hsz _, ?_⟩
        have hnone : unspellS (sB s) = none := by
          unfold unspellS
          rw [fivesOf_none k _ HSK.out HSG.out]
        rw [hnone]
      | some x =>
        have hx := (sgn_of hsg).1
        have hsv : sgnV u = (x : Int) := by unfold sgnV; rw [hsg]
        have hix := fun (w : World) => index_any u w
        rw [hsv] at hix
        have HIX := Lib.hid hix
        have hx8 := u8_small x
        obtain ⟨q, hq⟩ : ∃ q, BitVec.ofNat 8 x = q := ⟨_, rfl⟩
        rw [hq] at hx8
        have HNX := Lib.hid (fivesOf_snoc HX.out HSK.out hsg)
        have HQ := Lib.hid hq
        have hx0 : (0 : Int) ≤ (x : Int) := by omega
        clear hsv hsg hix hq
        go_upto_region 7 with (first
          | (go_at_call 36; (with_reducible refine (HIX.out _).mono ?_); rintro e w3 ⟨rfl, rfl⟩)
          | (go_at_call 26; (with_reducible refine (must_yes _ _ _ _ (World.cell?_alloc_new wo #[.bool true] 4 0)).mono ?_); rintro e w4 ⟨⟨v4, rfl⟩, rfl⟩))
        obtain ⟨w3, hw3⟩ : ∃ v, wo.alloc (.cells #[.bool true] 4) = v := ⟨_, rfl⟩
        have hb3 : Below w.heap.size w w3 := by rw [← hw3]; exact HB.out.alloc hsz _
        have ho3 : w3.ownsRow w.heap.size 5 1 u3 k ((b8 xs).map byteCell) := by rw [← hw3]; exact own_below HO.out ((Below.refl _ _).alloc (Nat.le_refl _) _)
        have hsz3 := hb3.size
        have HB3 := Lib.hid hb3
        have HO3 := Lib.hid ho3
        rw [hw3]
        clear hb3 ho3 hw3 hsz
        go_wp2_with (at_builtin; refine wpList_append_rd _ rfl (.tmp 25) (.tmp 28) 0x16 rfl w.heap.size 5 i0 _ Tryd.underlying22 hi hz0 hz1 hz2 rfl u3 k _ rfl (own_below HO3.out ((Below.refl _ _).alloc (Nat.le_refl _) _)) (w3.heap.size + 1) (some ⟨w3.heap.size, 0, none⟩) 1 1 [q] rfl rfl (rd_one _ _ rfl _) (by omega) (by simp; omega) ?_; intro v5 w5 hown5 hg5 _)
        have hb8 : (b8 xs).map byteCell ++ [q].map byteCell = (b8 (xs ++ [x])).map byteCell := by
          have e : b8 (xs ++ [x]) = b8 xs ++ [q] := by
            unfold b8
            rw [List.map_append, List.map_cons, List.map_nil, HQ.out]
          rw [e, List.map_append]
        rw [hb8] at hown5
        have hb5 : Below w.heap.size w w5 := (HB3.out.alloc hsz3 _).grown hg5 (by simp; omega) (fun g e => own_ge HO3.out g e)
        exact ⟨⟨k + 1, xs ++ [x], v5, by omega, by go_num, rfl, HNX, Lib.hid (by rw [List.length_append, HXL.out]; rfl), Lib.hid hown5, Lib.hid hb5⟩, by simp [intOf]; omega⟩
    · obtain rfl : k = n := by omega
      have hxl := (fivesOf_some HX.out).2
      have hlf : fivesOf (sB s) = some xs := by
        have := HX.out
        rwa [List.take_of_length_le (by rw [HLN.out]; exact Nat.le_refl _)] at this
      have HLF := Lib.hid hlf
      have HLT := Lib.hid hxl
      clear HX hlf hxl
      go_wp2_with fail
      obtain ⟨M, hM⟩ : ∃ M, 5 * k / 8 = M := ⟨_, rfl⟩
      have HQM : Hid (((k : Int) * 5) / 8 = (M : Int)) := Lib.hid (by omega)
      have HM := Lib.hid hM
      have hMk : M ≤ k := by omega
      clear hM
      have hszo := HB.out.size
      refine wpE_seq (wpE_of ?_)
      go_wp2_with (at_make; refine wpList_make_own _ rfl _ _ 0x16 rfl w.heap.size 5 i0 (.int .u8 0) 1 Tryd.underlying22 hi hz0 hz1 .i64 .i64 _ M rfl rfl HQM.out (by rw [hz2]; omega) (by unfold maxLen; omega) hszo ?_; intro w3 hown3 hg3)
      obtain ⟨A3, c3, rfl⟩ := own_slice HO.out
      have hb3 : Below w.heap.size w w3 := HB.out.grown hg3 hszo (fun g e => by cases e)
      have hb03 : Below wo.heap.size wo w3 := (Below.refl _ _).grown hg3 (Nat.le_refl _) (fun g e => by cases e)
      have hrl3 : wo.heap.size < w3.heap.size := (hown3.lt _ rfl).2
      obtain ⟨Rb, hRb⟩ : ∃ b, wo.heap.size = b := ⟨_, rfl⟩
      obtain ⟨Db, hDb⟩ : ∃ b, w3.heap.size = b := ⟨_, rfl⟩
      obtain ⟨w4, hw4⟩ : ∃ v, w3.alloc (.cells #[.slice (some ⟨wo.heap.size, 0, none⟩) 0 M] 0x16) = v := ⟨_, rfl⟩
      have hD4 : Blk w4 Db 0x16 #[.slice (some ⟨Rb, 0, none⟩) 0 M] := by rw [← hw4, ← hDb, ← hRb]; exact Blk.new w3 0x16 _
      have ho4 : w4.ownsRow w.heap.size 5 1 (.slice (some ⟨Rb, 0, none⟩) 0 M) 0 [] := by rw [← hw4, ← hRb]; exact own_below hown3 ((Below.refl _ _).alloc (Nat.le_refl _) _)
      have hb34 : Below w3.heap.size w3 w4 := by rw [← hw4]; exact (Below.refl _ _).alloc (Nat.le_refl _) _
      have hb4 : Below w.heap.size w w4 := hb3.trans (hb34.mono hb3.size)
      have hDl4 := hD4.lt
      have hRl4 : Rb < w4.heap.size := (ho4.lt _ rfl).2
      have hRD : Rb ≠ Db := by omega
      have hwR : w.heap.size ≤ Rb := by omega
      have hwD : w.heap.size ≤ Db := by omega
      have hrd0 := rds_row HO.out (fun b => b = Db ∨ b = Rb) (fun g hg e => by rcases e with e | e <;> omega)
      have hrd4 : Rds w4 (fun b => b = Db ∨ b = Rb) A3 ((b8 xs).map byteCell) := hrd0.but (But.of_all (hb03.trans (hb34.mono hb03.size)) (fun _ => False)) (fun b e => e.elim)
      have hcap := grpW_cap w4 (fun b => b = Db ∨ b = Rb) A3 k c3 (b8 xs) 5 8 (fun b e => by rcases e with e | e <;> omega) hrd4
      rw [hw4, hDb]
      refine wpE_seq (wpE_of (wp_label ?_))
      show WpE _ _ _ _ _
      refine wpE_seq (wpE_seq (wpE_of ?_))
      go_wp2_with (go_at_call 18; (with_reducible refine (groups_any k c3 A3 5 8 w4).mono ?_); rintro e w5 ⟨rfl, hw5⟩)
      have hs5 : w4.heap.size + 3 = w5.heap.size := by rw [← hw5, grpW_size]
      rw [show (8 : Int) = ((8 : Nat) : Int) from rfl, show (5 : Int) = ((5 : Nat) : Int) from rfl] at hw5
      have hb45 : Below w4.heap.size w4 w5 := by rw [← hw5]; exact grpW_below _ _ _ _ _ _
      rw [hw5] at hcap
      have hbl : (b8 xs).length = k := by unfold b8; rw [List.length_map, HXL.out]
      have hn8 := nat8_b8 HLT.out
      have hseq := groups_seqP w4.heap.size (w4.heap.size + 1) (w4.heap.size + 1 + 1) A3 k c3 (b8 xs) 5 8 w5 (fun b => b = Db ∨ b = Rb) hcap hbl (by omega) (by omega) (by omega) (by omega) (by omega) (fun j => by
        rw [hn8, List.getD_eq_getElem?_getD]
        cases h : xs[j]? with
        | none => simp
        | some x => exact HLT.out x (List.mem_of_getElem? h))
      have hb05 : Below w.heap.size w w5 := hb4.trans (hb45.mono hb4.size)
      have hI0 : UnI w.heap.size w5 w5 Db Rb M 0 xs := ⟨by omega, hD4.keep hb45, own_below ho4 hb45, But.refl _ _⟩
      have HSEQ := Lib.hid hseq
      have HI0 := Lib.hid hI0
      have HB05 := Lib.hid hb05
      have HN8 := Lib.hid hn8
      have HBL := Lib.hid hbl
      have hRl5 : Rb < w5.heap.size := by omega
      have hDl5 : Db < w5.heap.size := by omega
      clear hseq hI0 hb05 hb45 hcap hrd4 hrd0 hD4 ho4 hb4 hb34 hw4 hDb hb3 hb03 hown3 hg3 hw5 hn8 hbl hRb hrl3
      refine wpE_block ?_
      refine wpE_range2P 3 (gf := 34) (lb := #[.pointer (some ⟨w4.heap.size, 0, none⟩), .pointer (some ⟨w4.heap.size + 1, 0, none⟩), .pointer (some ⟨w4.heap.size + 1 + 1, 0, none⟩)]) rfl (enters_of Tryd.func34 (by kernel_rfl) rfl)
        HSEQ.out (by rintro b (rfl | rfl) <;> omega) ?hH ?hrow 38 39 7 8 rfl ?hps
        (fun k W => UnI w.heap.size w5 W Db Rb M k xs) (fun c _ W => UnX w.heap.size w5 c W Db Rb M xs) (fun ch W => UnP w5 ch W Db Rb xs) ?hI ?hIx HI0.out ?assign ?body ?done ?stop ?panic
      case hH => exact fun k args W W' hh _ => hh
      case hrow => exact fun k args W b _ e => e.elim
      case hps =>
        rintro k args W ⟨_, rfl⟩
        exact ⟨_, _, rfl⟩
      case hI =>
        rintro k W W' ⟨i0, i1, i2, i3⟩ hb
        exact ⟨i0, i1.but (But.of_below hb) (by omega), (But.of_below hb).row i2 (fun g e => by cases e; exact Nat.not_le.2 hRl5), i3.trans (But.of_below hb) (fun b hb' e => absurd hb' (Nat.not_lt.2 e))⟩
      case hIx =>
        rintro c k W W' ⟨h1, h2, i0, i1, i2, i3⟩ hb
        exact ⟨h1, h2, i0, i1.but (But.of_below hb) (by omega), (But.of_below hb).row i2 (fun g e => by cases e; exact Nat.not_le.2 hRl5), i3.trans (But.of_below hb) (fun b hb' e => absurd hb' (Nat.not_lt.2 e))⟩
      case assign =>
        intro l0 x v W K hK
        gi_wp2
        exact hK
      case body =>
        rintro l0 k2 x v W hsz ⟨j0, i1, i2, i3⟩ ⟨hk, e1⟩
        simp only [Array.mk.injEq, List.cons.injEq, and_true] at e1
        obtain ⟨rfl, rfl⟩ := e1
        rw [HN8.out, HBL.out]
        have hyl := valW_lt 5 xs (8 * k2) 8
        have hdb := i1.cell 0
        have hdf := i1.frozen 0
        simp only [List.getElem?_toArray, List.getElem?_cons_zero] at hdb
        have hDW := i1.lt
        have hbtW := i3.size
        have hMM := HM.out
        by_cases hwh : 8 * (k2 + 1) ≤ 5 * k
        · rw [show min 8 (5 * k - 8 * k2) = 8 by omega]
          have hkM : k2 < M := by omega
          have hqs : (byteS xs)[k2]? = some (BitVec.ofNat 8 (valW 5 xs (8 * k2) 8)) := by
            unfold byteS
            rw [List.getElem?_map, List.getElem?_range (by rw [HXL.out]; omega)]
            rfl
          obtain ⟨y, hy0⟩ : ∃ y, valW 5 xs (8 * k2) 8 = y := ⟨_, rfl⟩
          rw [hy0] at hyl hqs ⊢
          obtain ⟨q, hq⟩ : ∃ q, BitVec.ofNat 8 y = q := ⟨_, rfl⟩
          have hyq : (y : Int) = ib q := by
            rw [← hq]
            unfold ib
            rw [BitVec.toNat_ofNat, Nat.mod_eq_of_lt (by omega)]
          rw [hq] at hqs
          rw [hyq]
          have HQS := Lib.hid hqs
          have HO2 := Lib.hid (own_below i2 ((Below.refl _ W).alloc (Nat.le_refl _) (.cells #[.int .u8 (ib q)] 5)))
          have HD2 := Lib.hid (i1.alloc (.cells #[.int .u8 (ib q)] 5))
          have hal : Below W.heap.size W (W.alloc (.cells #[.int .u8 (ib q)] 5)) := (Below.refl _ W).alloc (Nat.le_refl _) _
          have HBA : Hid (But (fun b => b = Db ∨ b = Rb) W (W.alloc (.cells #[.int .u8 (ib q)] 5))) := Lib.hid (But.of_all hal _)
          have HB5 := Lib.hid i3
          have hnc : ∀ j u, [Value.int .u8 (ib q)][j]? = some u → (W.alloc (.cells #[.int .u8 (ib q)] 5)).cell? ((⟨W.heap.size, 0, none⟩ : Addr).add j) = some u := fun j u hj => by
            rcases j with _ | j <;> simp at hj
            subst hj
            exact World.cell?_alloc_new W #[.int .u8 (ib q)] 5 0
          have HNC := Lib.hid hnc
          clear hyl hy0 hq hyq hqs hnc hal i1 i2 i3 hMM
          gi_wp2_with (gi_at_builtin; refine wpListIn_append_fits _ rfl (.tmp 44) (.tmp 46) 0x16 rfl w.heap.size 5 i0 1 Tryd.underlying22 hi hz1 Rb k2 M _ rfl HO2.out ⟨W.heap.size, 0, none⟩ 1 1 [.int .u8 (ib q)] rfl rfl HNC.out (fun u hu => by simp at hu; subst hu; rfl) (by omega) ?_; intro w9 hown9 hg9; have HD9 := Lib.hid (HD2.out.but (But.grown hg9) (fun e => hRD (Option.some.inj e))); have hdb9 := HD9.out.cell 0; have hdf9 := HD9.out.frozen 0; simp only [List.getElem?_toArray, List.getElem?_cons_zero] at hdb9)
          have hb9 : But (fun b => b = Db ∨ b = Rb) W w9 := HBA.out.trans (But.grown hg9) (fun b _ e => by cases e; exact .inr rfl)
          have hsd : But (fun b => b = Db) w9 (w9.setCell ⟨Db, 0, none⟩ (.slice (some ⟨Rb, 0, none⟩) (k2 + 1) M)) := (But.refl _ w9).set _ _ (.inl rfl)
          have hblk := heap_setCell_same w9 Db 0 _ 0x16 (.slice (some ⟨Rb, 0, none⟩) (k2 + 1) M) HD9.out
          simp only [List.setIfInBounds_toArray, List.set_cons_zero] at hblk
          have hrow := hsd.row hown9 (fun g e => by cases e; exact hRD)
          have hfin := hb9.trans hsd (fun b _ e => .inl e)
          have htk : ((byteS xs).take k2).map byteCell ++ [Value.int .u8 (ib q)] = ((byteS xs).take (k2 + 1)).map byteCell := by
            rw [List.take_add_one, HQS.out, List.map_append]
            rfl
          rw [htk] at hrow
          exact ⟨trivial, hfin.mono (fun b _ e => .inl e), by omega, hblk, hrow, HB5.out.trans hfin (fun _ _ e => e)⟩
        · obtain ⟨r, hr⟩ : ∃ r, 5 * k - 8 * k2 = r := ⟨_, rfl⟩
          have hck : k2 < (8 * 5 * k + 0) / 8 + 1 ∨ True := .inr trivial
          have hkM : k2 = M := by omega
          have hr8 : r < 8 := by omega
          rw [hr, show min 8 r = r by omega]
          have hbits : 5 * xs.length % 8 = r := by rw [HXL.out]; omega
          have hdivM : 5 * xs.length / 8 = k2 := by rw [HXL.out, hkM, hMM]
          have hval : valW 5 xs (8 * k2) 8 = valW 5 xs (8 * k2) r * 2 ^ (8 - r) := by
            obtain ⟨d, hd⟩ : ∃ d, 8 = r + d := ⟨8 - r, by omega⟩
            have hd2 : valW 5 xs (8 * k2) 8 = valW 5 xs (8 * k2) (r + d) := by rw [← hd]
            rw [hd2, valW_add, valW_beyond (xs := xs) (a := 8 * k2 + r) (by omega) (by rw [HXL.out]; omega), Nat.add_zero, show 8 - r = d by omega]
          have hrest : restS xs = (decide (r < 5) && decide (valW 5 xs (8 * k2) 8 = 0)) := by
            unfold restS
            rw [hbits, hdivM, hval]
            congr 2
            rw [eq_iff_iff, Nat.mul_eq_zero]
            constructor
            · exact fun h => .inl h
            · rintro (h | h)
              · exact h
              · exact absurd h (by simp)
          obtain ⟨y, hy0⟩ : ∃ y, valW 5 xs (8 * k2) 8 = y := ⟨_, rfl⟩
          rw [hy0] at hyl hrest ⊢
          have hr8b : ((r : Int) == 8) = false := by simp; omega
          subst hkM
          have HRS := Lib.hid hrest
          have HB5 := Lib.hid i3
          have HI := Lib.hid i2
          have HD1 := Lib.hid i1
          clear hval hbits hdivM hrest hck hr hy0 i1 i2 i3 hMM hdb hdf
          by_cases h5 : r < 5
          · by_cases hy : y = 0
            · subst hy
              gi_wp2
              exact ⟨But.refl _ _, rfl, by rw [HRS.out]; simp [h5], Nat.le_refl _, HD1.out, HI.out, HB5.out⟩
            · have hyb : ((y : Int) == 0) = false := by simp; omega
              gi_wp2
              exact ⟨rfl, But.refl _ _, rfl, by rw [HRS.out]; simp [hy], HB5.out⟩
          · gi_wp2
            exact ⟨rfl, But.refl _ _, rfl, by rw [HRS.out]; simp [h5], HB5.out⟩
      case done =>
        rintro k2 W hk2 ⟨j0, i1, i2, i3⟩ hD
        have hMM := HM.out
        unfold cntW at hk2
        have hkM : k2 = M := by omega
        have hr : restS xs = true := by
          unfold restS
          rw [HXL.out, show 5 * k % 8 = 0 by omega]
          simp [valW]
        subst hkM
        clear hk2 hMM j0
        simp only [Exit.inBlock, Exit.then]
        have hun : unspellS (sB s) = some (byteS xs) := by
          unfold unspellS
          rw [HLF.out]
          simp only [hr, if_true]
        have hbyl : (byteS xs).length = k2 := by rw [byteS_length, HXL.out, HM.out]
        rw [List.take_of_length_le (by rw [hbyl]; exact Nat.le_refl _)] at i2
        have hdc := i1.cell 0
        simp only [List.getElem?_toArray, List.getElem?_cons_zero] at hdc
        have hbw : Below w.heap.size w W := HB05.out.trans (i3.to_below (n := w.heap.size) (by omega) (fun b e => by rcases e with e | e <;> omega))
        have HBW := Lib.hid hbw
        have HDD := Lib.hid hD
        have HI := Lib.hid i2
        have HUN := Lib.hid hun
        have HBY := Lib.hid hbyl
        clear hbw hD i1 i2 i3 hun hbyl
        refine wpE_of ?_
        go_wp2
        try simp only [Exit.noGoto]
        have hput := put_but W w5.heap.size (.deferred none)
        refine retM1 (D := w5.heap.size) (v := .slice (some ⟨Rb, 0, none⟩) k2 k2) rfl HDD.out ?_ ⟨But.below HBW.out hput (fun b e => by have e : b = w5.heap.size := e; omega), ?_⟩
        · simp [results, Tryd.results21, go_sem]
        · rw [HUN.out]
          refine ⟨_, rfl, ?_⟩
          rw [HBY.out]
          exact hput.row HI.out (fun g e => by cases e; exact Nat.ne_of_lt hRl5)
      case stop =>
        rintro c k2 W _ ⟨rfl, hr, j0, i1, i2, i3⟩ hD
        refine wpIn_exit ?_
        simp only [Exit.inBlock, if_true, Exit.then]
        have hun : unspellS (sB s) = some (byteS xs) := by
          unfold unspellS
          rw [HLF.out]
          simp only [hr, if_true]
        have hbyl : (byteS xs).length = M := by rw [byteS_length, HXL.out, HM.out]
        rw [List.take_of_length_le (by rw [hbyl]; exact Nat.le_refl _)] at i2
        have hdc := i1.cell 0
        simp only [List.getElem?_toArray, List.getElem?_cons_zero] at hdc
        have hbw : Below w.heap.size w W := HB05.out.trans (i3.to_below (n := w.heap.size) (by omega) (fun b e => by rcases e with e | e <;> omega))
        have HBW := Lib.hid hbw
        have HDD := Lib.hid hD
        have HI := Lib.hid i2
        have HUN := Lib.hid hun
        have HBY := Lib.hid hbyl
        clear hbw hD i1 i2 i3 hun hbyl
        refine wpE_of ?_
        go_wp2
        try simp only [Exit.noGoto]
        have hput := put_but W w5.heap.size (.deferred none)
        refine retM1 (D := w5.heap.size) (v := .slice (some ⟨Rb, 0, none⟩) M M) rfl HDD.out ?_ ⟨But.below HBW.out hput (fun b e => by have e : b = w5.heap.size := e; omega), ?_⟩
        · simp [results, Tryd.results21, go_sem]
        · rw [HUN.out]
          refine ⟨_, rfl, ?_⟩
          rw [HBY.out]
          exact hput.row HI.out (fun g e => by cases e; exact Nat.ne_of_lt hRl5)
      case panic =>
        rintro ch W ⟨rfl, hr, hbt⟩ hD
        have hnone : unspellS (sB s) = none := (unspell_none HLF.out hr).2
        simp only [Exit.inBlock, Exit.then, Exit.noGoto]
        refine retP1 (D := w5.heap.size) rfl hD ⟨?_, ?_⟩
        · have hput := put_but W w5.heap.size (.deferred none)
          exact But.below (HB05.out.trans (hbt.to_below (n := w.heap.size) (by omega) (fun b e => by rcases e with e | e <;> omega))) hput (fun b e => by have e : b = w5.heap.size := e; omega)
        · rw [hnone]
end Go.Proofs
