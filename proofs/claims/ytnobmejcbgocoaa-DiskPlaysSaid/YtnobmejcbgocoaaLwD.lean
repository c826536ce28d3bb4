/-
  Which disks are the same. Conditions: as each theorem names them.
-/
import Derived.Maps.RangeWalk
import Derived.Maps.OwnSet
import Derived.StringKeys
import Derived.Lib.SlMapEqual
import Derived.Test.YtnobmejcbgocoaaDkX
namespace Go.Proofs
open Go Go.RowKit Sm Go.Lib Go.Maps Go.WideMaps
attribute [local go_sem] Oper.semAt_some
theorem Sm.bytesOf_ib (a b : List (BitVec 8)) : (Lib.bytesOf (a.map ib) == Lib.bytesOf (b.map ib)) = decide (a = b) := by
  by_cases h : a = b
  · subst h; simp
  · rw [decide_eq_false h, beq_eq_false_iff_ne]
    intro e
    apply h
    unfold Lib.bytesOf at e
    rw [List.map_map, List.map_map] at e
    refine (List.map_inj_right (fun x y e => ?_)).1 e
    have hx := x.isLt
    have hy := y.isLt
    have e2 : (UInt8.ofNat (ib x).toNat).toNat = (UInt8.ofNat (ib y).toNat).toNat := congrArg UInt8.toNat e
    simp [ib] at e2
    exact BitVec.eq_of_toNat_eq (by omega)
/-- two files are the same -/
def Sm.sameF (f g : FileM) : Bool := decide (f.sure = g.sure) && decide (f.bytes = g.bytes)
set_option maxRecDepth 100000 in
set_option maxHeartbeats 1000000 in
theorem Sm.fsame_any {b1 b2 : Nat} (f g : FileM) (w : World) (hf : w.ownsRow b1 5 1 f.sl f.bytes.length (f.bytes.map byteCell)) (hg : w.ownsRow b2 5 1 g.sl g.bytes.length (g.bytes.map byteCell)) :
    Calls Try.prog 56 #[f.val, g.val] w fun e w' => e = .returned (.bool (sameF f g)) ∧ Below w.heap.size w w' := by
  obtain ⟨w2, hw2⟩ : ∃ w2, (w.alloc (.cells #[.slice f.A f.bytes.length f.c, .int .i64 (f.sure : Int)] 79)).alloc (.cells #[.slice g.A g.bytes.length g.c, .int .i64 (g.sure : Int)] 79) = w2 := ⟨_, rfl⟩
  have hb2 : Below w.heap.size w w2 := by rw [← hw2]; exact ((Below.refl _ w).alloc (Nat.le_refl _) _).alloc (by simp) _
  have hx : w2.heap[w.heap.size]? = some (.cells #[.slice f.A f.bytes.length f.c, .int .i64 (f.sure : Int)] 79 (0, 0)) := by
    rw [← hw2]; exact (Below.heap_alloc _ _ _ (by simp)).trans (World.alloc_heap_new w _)
  have hy : w2.heap[w.heap.size + 1]? = some (.cells #[.slice g.A g.bytes.length g.c, .int .i64 (g.sure : Int)] 79 (0, 0)) := by
    rw [← hw2]
    have := World.alloc_heap_new (w.alloc (.cells #[.slice f.A f.bytes.length f.c, .int .i64 (f.sure : Int)] 79)) (.cells #[.slice g.A g.bytes.length g.c, .int .i64 (g.sure : Int)] 79)
    rwa [World.size_alloc] at this
  have x0 := cell_of_heap hx 0
  have x1 := cell_of_heap hx 1
  have y0 := cell_of_heap hy 0
  have y1 := cell_of_heap hy 1
  simp only [List.getElem?_toArray, List.getElem?_cons_succ, List.getElem?_cons_zero] at x0 x1 y0 y1
  have s1 := run_str (P := Try.prog) w2 36 5 Try.underlying36 Try.underlying5 f.bytes f.bytes.length f.c w2.heap.size f.A rfl (Rd.of_own (own_below hf hb2) (Nat.le_refl _)) 9 Try.underlying9
  have s2 := run_str (P := Try.prog) w2 36 5 Try.underlying36 Try.underlying5 g.bytes g.bytes.length g.c w2.heap.size g.A rfl (Rd.of_own (own_below hg hb2) (Nat.le_refl _)) 9 Try.underlying9
  have he := Try.bytes_Equal (.slice f.A f.bytes.length f.c) (.slice g.A g.bytes.length g.c) (f.bytes.map ib) (g.bytes.map ib) w2 s1 s2
  rw [bytesOf_ib] at he
  obtain ⟨bb, hbb⟩ : ∃ bb, decide (f.bytes = g.bytes) = bb := ⟨_, rfl⟩
  have HS : Hid (sameF f g = (decide (f.sure = g.sure) && bb)) := Lib.hid (by unfold sameF; rw [hbb])
  rw [hbb] at he
  have HB2 := Lib.hid hb2
  unfold FileM.val FileM.sl
  clear hf hg s1 s2 hx hy hb2 hbb
  subst hw2
  by_cases h1 : f.sure = g.sure
  · have h1I : ((f.sure : Int) == (g.sure : Int)) = true := by rw [h1]; exact beq_self_eq_true _
    rw [decide_eq_true h1, Bool.true_and] at HS
    clear h1
    go_enter Try.func56, Try.ntmps56
    go_wp2_with (go_at_call 69; go_loud ((with_reducible refine he.mono ?_); rintro e w3 ⟨rfl, rfl⟩))
    go_ret
    exact ⟨by rw [HS.out]; rfl, HB2.out⟩
  · have h1I : ((f.sure : Int) == (g.sure : Int)) = false := by rw [beq_eq_false_iff_ne]; omega
    rw [decide_eq_false h1, Bool.false_and] at HS
    clear h1
    go_enter Try.func56, Try.ntmps56
    go_wp2
    go_ret
    exact ⟨by rw [HS.out]; rfl, HB2.out⟩
/-- the files that were seen are in the other disk -/
def Sm.SeenF (G1 G2 : List FileM) (left : Lit → Bool) : Prop := ∀ f ∈ G1, left (keyN f.name) = false → ∃ g ∈ G2, g.name = f.name ∧ sameF f g = true
def Sm.equalG (G1 G2 : List FileM) : Prop := G1.length = G2.length ∧ ∀ f ∈ G1, ∃ g ∈ G2, g.name = f.name ∧ sameF f g = true
theorem Sm.key_file {D : DataW Value} {G : List FileM} (h : MapIs D G) {x : Value} {kl : Lit} (hk : keyOf Try.prog 9 x = some kl) (hh : Maps.has D kl = true) : ∃ f ∈ G, x = .string (strB f.name) ∧ kl = keyN f.name := by
  obtain ⟨s, rfl, rfl, _⟩ := string_of_keyOf Try.underlying9 hk
  have e : (Lit.string s.data.toList) = keyN (strL s) := by
    unfold keyN nmU
    rw [strB_strL]
  by_cases hf : ∃ f ∈ G, f.name = strL s
  · obtain ⟨f, hf, hn⟩ := hf
    exact ⟨f, hf, by rw [hn, strB_strL], by rw [e, hn]⟩
  · rw [e, h.only _ (fun f h1 h2 => hf ⟨f, h1, h2⟩)] at hh
    cases hh
def Sm.inB (G2 : List FileM) (f : FileM) : Bool := G2.any fun g => decide (g.name = f.name) && sameF f g
def Sm.equalB (G1 G2 : List FileM) : Bool := decide (G1.length = G2.length) && G1.all (inB G2)
def Sm.SeenB (G1 G2 : List FileM) (left : Lit → Bool) : Prop := ∀ f ∈ G1, left (keyN f.name) = false → inB G2 f = true
theorem Sm.in_one {G2 : List FileM} (hs : SortG G2) {f g : FileM} (hg : g ∈ G2) (hn : g.name = f.name) : inB G2 f = sameF f g := by
  unfold inB
  cases h : sameF f g with
  | true => exact List.any_eq_true.2 ⟨g, hg, by rw [h, decide_eq_true hn]; rfl⟩
  | false =>
    refine List.any_eq_false.2 (fun k hk => ?_)
    by_cases e : k.name = f.name
    · obtain rfl := sort_name hs hk hg (e.trans hn.symm)
      rw [h, Bool.and_false]
      decide
    · rw [decide_eq_false e, Bool.false_and]
      decide
theorem Sm.in_none {G2 : List FileM} {f : FileM} (h : ∀ g ∈ G2, g.name ≠ f.name) : inB G2 f = false := by
  unfold inB
  refine List.any_eq_false.2 (fun k hk => ?_)
  rw [decide_eq_false (h k hk), Bool.false_and]
  decide
theorem Sm.equal_no {G1 G2 : List FileM} {f : FileM} (hf : f ∈ G1) (h : inB G2 f = false) : equalB G1 G2 = false := by
  unfold equalB
  have : G1.all (inB G2) = false := List.all_eq_false.2 ⟨f, hf, by rw [h]; decide⟩
  rw [this, Bool.and_false]
theorem Sm.own_kept {w w' : World} {base n : Nat} {v : Value} {xs : List Value} (h : w.ownsRow base 5 1 v n xs) (hg : w.grownBy w' none) : w'.ownsRow base 5 1 v n xs := h.kept hg (by
  cases e : v.ownBlock with
  | none => exact .inl rfl
  | some b => exact .inr (by simp))
set_option maxRecDepth 100000 in
set_option maxHeartbeats 4000000 in
theorem Sm.equalFunc_any {Mb1 Mb2 b1 b2 : Nat} {D1 D2 : DataW Value} {G1 G2 : List FileM} (w : World) (h1 : w.ownsMap Try.prog 9 heldElem Mb1 G1.length D1) (m1 : MapIs D1 G1) (h2 : w.ownsMap Try.prog 9 heldElem Mb2 G2.length D2) (m2 : MapIs D2 G2) (s1 : SortG G1) (s2 : SortG G2)
    (r1 : ∀ f ∈ G1, w.ownsRow b1 5 1 f.sl f.bytes.length (f.bytes.map byteCell)) (r2 : ∀ f ∈ G2, w.ownsRow b2 5 1 f.sl f.bytes.length (f.bytes.map byteCell)) (ok1 : ∀ f ∈ G1, nameOK f.name = true) (hl1 : G1.length ≤ 1000000) (hl2 : G2.length ≤ 1000000) :
    Calls Try.prog 55 #[.map (some Mb1), .map (some Mb2), .func (.func 56) #[] #[]] w fun e w' => e = .returned (.bool (equalB G1 G2)) ∧ w.grownBy w' none := by
  have l1 := fun ty => h1.len Try.underlying33 ty
  have l2 := fun ty => h2.len Try.underlying33 ty
  rw [m1.len] at l1
  rw [m2.len] at l2
  obtain ⟨n1, hn1⟩ : ∃ n1, G1.length = n1 := ⟨_, rfl⟩
  obtain ⟨n2, hn2⟩ : ∃ n2, G2.length = n2 := ⟨_, rfl⟩
  rw [hn1] at h1 l1 hl1
  rw [hn2] at h2 l2 hl2
  have HR1 := Lib.hid r1
  have HR2 := Lib.hid r2
  have HN1 := Lib.hid hn1
  have HN2 := Lib.hid hn2
  have hl1I : (n1 : Int) ≤ 1000000 := by omega
  have hl2I : (n2 : Int) ≤ 1000000 := by omega
  have hb2 := h2.lt
  clear r1 r2 hn1 hn2
  obtain ⟨res, hres⟩ : ∃ res, equalB G1 G2 = res := ⟨_, rfl⟩
  rw [hres]
  have HRES := Lib.hid hres
  clear hres
  by_cases hsz : n1 = n2
  · have hszI : ((n1 : Int) != (n2 : Int)) = false := by rw [hsz]; simp
    have HSZ := Lib.hid hsz
    clear hsz
    go_enter Try.func55, Try.ntmps55
    go_wp2_with (at_range; refine wpList_range_own _ rfl _ 33 rfl 9 79 law9 Try.underlying33 heldElem Mb1 n1 _ rfl h1 ?_; intro w0 hrg0 hg0 hs0)
    go_frame
    go_loopw [18] (fun _ wr => ∃ (left : Lit → Bool) (cnt : Nat), wr.ranges Try.prog 9 heldElem Mb1 w.heap.size n1 D1 left cnt ∧ wr.ownsMap Try.prog 9 heldElem Mb2 n2 D2 ∧ w.grownBy wr none ∧ Hid (SeenB G1 G2 left))
      (fun _ wr => wr.rangeLeft Mb1 w.heap.size)
    case atStart => exact ⟨_, _, hrg0, h2.kept hg0 (by simp), hg0, Lib.hid (fun f hf e => by rw [(m1.here f hf).1] at e; cases e)⟩
    case round =>
      obtain ⟨left, cnt, hrg, h2r, hgw, G⟩ := hrel
      go_wp2_with (at_next; refine wpList_next_ranges _ rfl _ rfl 9 law9 heldElem id id (fun key _ _ => ⟨key, rfl⟩) (fun v _ _ => ⟨v, rfl⟩) Mb1 w.heap.size n1 _ _ _ rfl hrg ?_ ?_)
      · intro _ hl0
        go_wp2
        go_ret
        exact ⟨by
          rw [← HRES.out]
          unfold equalB
          rw [HN1.out, HN2.out, decide_eq_true HSZ.out, Bool.true_and, List.all_eq_true.2 (fun f hf => G.out f hf (hl0 _))]
          rfl, hgw⟩
      · intro x c kl yd yp w1 cnt1 hkey hlx hv hat hrg1 hlt hg1 hs1 hen
        have hgw1 : w.grownBy w1 none := hgw.andThen hg1 (fun j hj => by cases hj; exact Or.inl (Nat.le_refl _))
        have h2w1 := h2r.kept hg1 (fun e => by have := Option.some.inj e; omega)
        obtain ⟨f, hf, rfl, rfl⟩ := key_file m1 hkey (has_true_of_atKey hat)
        have hcv : c = f.val := by
          have e1 := (m1.here f hf).2 .nil
          rw [hat] at e1
          subst e1
          exact held_inj hv
        subst hcv
        have hxz : (strB f.name).size ≤ 1000000 := by
          have h1 := ok1 f hf
          have h3 := strL_length (strB f.name)
          rw [strL_strB] at h3
          unfold nameOK at h1
          simp only [Bool.and_eq_true, decide_eq_true_eq] at h1
          omega
        obtain ⟨W, hW⟩ : ∃ W, w1.alloc (.cells #[.slice f.A f.bytes.length f.c, .int .i64 (f.sure : Int)] 79) = W := ⟨_, rfl⟩
        have hgW : w.grownBy W none := by rw [← hW]; exact hgw1.andThen (grownBy_of_below ((Below.refl _ w1).alloc (Nat.le_refl _) _) none) (fun j hj => by cases hj)
        have h2W : W.ownsMap Try.prog 9 heldElem Mb2 n2 D2 := by rw [← hW]; exact h2w1.alloc _
        have HRG := Lib.hid hrg1
        have HGW1 := Lib.hid hgw1
        have H2W1 := Lib.hid h2w1
        have HGW := Lib.hid hgW
        have hseen : inB G2 f = true → SeenB G1 G2 (fun z => left z && !z.sameKey (keyN f.name)) := fun hin f' hf' e => by
          have e : (left (keyN f'.name) && !(keyN f'.name).sameKey (keyN f.name)) = false := e
          cases hl : left (keyN f'.name) with
          | false => exact G.out f' hf' hl
          | true =>
            rw [hl, Bool.true_and] at e
            have hs : (keyN f'.name).sameKey (keyN f.name) = true := by simpa using e
            have e1 := WideAt.sameKey_eq hs
            have e2 : f'.name = f.name := Classical.byContradiction fun hne => keyN_ne hne e1
            rw [sort_name s1 hf' hf e2]
            exact hin
        have HSEEN := Lib.hid hseen
        have HLT := Lib.hid hlt
        have hrow1 := own_kept (HR1.out f hf) hgW
        simp only [FileM.val, FileM.sl] at hen ⊢
        by_cases hex : ∃ g ∈ G2, g.name = f.name
        · obtain ⟨g, hg, hgn⟩ := hex
          have hlk := look_some h2W m2 hg (x := strB f.name) (by rw [strL_strB, hgn]) hxz true
          obtain ⟨W2, hW2⟩ : ∃ W2, W.alloc (.cells #[.slice g.A g.bytes.length g.c, .int .i64 (g.sure : Int)] 79) = W2 := ⟨_, rfl⟩
          have hbW2 : Below W.heap.size W W2 := by rw [← hW2]; exact (Below.refl _ W).alloc (Nat.le_refl _) _
          have hfs := fsame_any f g W2 (own_below hrow1 hbW2) (own_below (own_kept (HR2.out g hg) hgW) hbW2)
          rw [← in_one s2 hg hgn] at hfs
          have HBW2 := Lib.hid hbW2
          unfold FileM.val FileM.sl at hfs hlk
          obtain ⟨bb, hbb⟩ : ∃ bb, inB G2 f = bb := ⟨_, rfl⟩
          rw [hbb] at hfs
          have HBB := Lib.hid hbb
          have HRGO := Lib.hid hrg
          clear hrg1 hgw1 h2w1 hgW h2W hseen hlt hrow1 hbW2 hbb hv hat hkey hlx hrg h2r hgw hg1
          have hb1W : Below w1.heap.size w1 W2 := by rw [← hW2, ← hW]; exact ((Below.refl _ w1).alloc (Nat.le_refl _) _).alloc (by simp) _
          have HB1W := Lib.hid hb1W
          clear hb1W
          cases bb with
          | false =>
            subst hW2 hW
            go_wp2_with (go_at_call 56; (with_reducible refine hfs.mono ?_); rintro e w2 ⟨rfl, hb2⟩)
            go_ret
            exact ⟨by rw [← HRES.out, equal_no hf HBB.out]; rfl, HGW1.out.andThen (grownBy_of_below (HB1W.out.trans (hb2.mono HB1W.out.size)) none) (fun j hj => by cases hj)⟩
          | true =>
            subst hW2 hW
            go_wp2_with (go_at_call 56; (with_reducible refine hfs.mono ?_); rintro e w2 ⟨rfl, hb2⟩)
            have hg2 : w1.grownBy w2 none := grownBy_of_below (HB1W.out.trans (hb2.mono HB1W.out.size)) none
            have hrg2 := HRG.out.kept hg2 (by simp) (by simp)
            go_roundw
            case rel => exact ⟨_, cnt1, hrg2, H2W1.out.kept hg2 (by simp), HGW1.out.andThen hg2 (fun j hj => by cases hj), Lib.hid (HSEEN.out HBB.out)⟩
            case measure => rw [hrg2.left_eq, HRGO.out.left_eq]; exact HLT.out
        · have hno : ∀ g ∈ G2, g.name ≠ strL (strB f.name) := fun g h1 h2 => hex ⟨g, h1, by rw [h2, strL_strB]⟩
          have hlk := look_none h2W m2 hno hxz true
          have hin : inB G2 f = false := in_none (fun g h1 h2 => hex ⟨g, h1, h2⟩)
          have HIN := Lib.hid hin
          unfold zeroF at hlk
          have HB1W : Hid (Below w1.heap.size w1 ((w1.alloc (.cells #[.slice f.A f.bytes.length f.c, .int .i64 (f.sure : Int)] 79)).alloc (.cells #[.slice none 0 0, .int .i64 0] 79))) := Lib.hid (((Below.refl _ w1).alloc (Nat.le_refl _) _).alloc (by simp) _)
          clear hrg1 hgw1 h2w1 hgW h2W hseen hlt hrow1 hv hat hkey hlx hrg h2r hgw hg1 hno hex hin
          subst hW
          go_wp2
          go_ret
          exact ⟨by rw [← HRES.out, equal_no hf HIN.out]; rfl, HGW1.out.andThen (grownBy_of_below HB1W.out none) (fun j hj => by cases hj)⟩
  · have hszI : ((n1 : Int) == (n2 : Int)) = false := by rw [beq_eq_false_iff_ne]; omega
    go_enter Try.func55, Try.ntmps55
    go_wp2
    go_ret
    exact ⟨by
      rw [← HRES.out]
      unfold equalB
      rw [HN1.out, HN2.out, decide_eq_false hsz, Bool.false_and]
      rfl, World.grownBy.refl _ _⟩
end Go.Proofs
