/-
  with: files with another one, in the place of that of its name. Conditions: as each theorem names them.
-/
import Derived.BigQuiet
import Derived.Laws.Cover1
import Derived.Sort.Walk0
import Derived.Test.YtnobmejcbgocoaaRfA
namespace Go.Proofs
open Go Go.RowKit Sm Go.Lib Go.Maps Go.WideMaps
attribute [local go_sem] Oper.semAt_some
def Sm.insR (f : FileR) : List FileR → List FileR
  | [] => [f]
  | g :: r => if nmU f.t.1 < nmU g.t.1 then f :: g :: r else g :: insR f r
def Sm.putR (f : FileR) (fs : List FileR) : List FileR := insR f (delR f.t.1 fs)
theorem Sm.insR_map (f : FileR) : ∀ fs : List FileR, (insR f fs).map (fun f => f.t) = insL f.t (fs.map fun f => f.t)
  | [] => rfl
  | g :: r => by
    rw [List.map_cons]
    unfold insR insL
    split
    · rfl
    · rw [List.map_cons, insR_map f r]
theorem Sm.putR_map (f : FileR) (fs : List FileR) : (putR f fs).map (fun f => f.t) = putL f.t (fs.map fun f => f.t) := by
  unfold putR putL
  rw [insR_map, delR_map]
theorem Sm.insR_mem {f g : FileR} : ∀ {fs : List FileR}, g ∈ insR f fs → g = f ∨ g ∈ fs
  | [], h => by simpa [insR] using h
  | x :: r, h => by
    unfold insR at h
    split at h
    · simpa using h
    · rcases List.mem_cons.1 h with e | e
      · exact .inr (by simp [e])
      · exact (insR_mem e).imp id (fun e => List.mem_cons_of_mem _ e)
theorem Sm.delR_mem {nm : List (BitVec 8)} {g : FileR} {fs : List FileR} (h : g ∈ delR nm fs) : g ∈ fs := (List.mem_filter.1 h).1
theorem Sm.insR_len (f : FileR) : ∀ fs : List FileR, (insR f fs).length = fs.length + 1
  | [] => rfl
  | g :: r => by
    unfold insR
    split
    · rfl
    · rw [List.length_cons, insR_len f r, List.length_cons]
theorem Sm.name_cmp (a b : List (BitVec 8)) : (Op.bytesLess (strB a).toList (strB b).toList || (strB a).toList == (strB b).toList) = !(decide (nmU b < nmU a)) := by
  rw [bytesLess_eq, ByteArray.toList_eq, ByteArray.toList_eq]
  show (decide (nmU a < nmU b) || nmU a == nmU b) = !(decide (nmU b < nmU a))
  rw [Bool.eq_iff_iff, Bool.or_eq_true, decide_eq_true_iff, beq_iff_eq, Bool.not_eq_true', decide_eq_false_iff_not]
  constructor
  · rintro (h | h) h2
    · exact List.lt_irrefl _ (List.lt_trans h h2)
    · rw [h] at h2
      exact List.lt_irrefl _ h2
  · intro h
    exact List.le_iff_lt_or_eq.1 (List.not_lt.1 h)
set_option maxRecDepth 100000 in
set_option maxHeartbeats 4000000 in
theorem Sm.with_any {S : Nat → Prop} (A : Option Addr) (n c : Nat) (fs : List FileR) (f : FileR) (w : World) (h : FsAt S w A fs) (hn : fs.length = n) (hn2 : n ≤ 1000000) (hS : ∀ b, S b → b < w.heap.size) (hf : FOk S w f) :
    Calls Try.prog 73 #[.slice A n c, .agg f.cells.toArray] w fun e w' => ∃ v, e = .returned v ∧ w'.ownsRow w.heap.size 59 3 v (putR f fs).length ((putR f fs).flatMap FileR.cells) ∧ FsAt S w' (match v with | .slice B _ _ => B | _ => none) (putR f fs) ∧ Below w.heap.size w w' := by
  obtain ⟨nm, hnm⟩ : ∃ nm, strB f.t.1 = nm := ⟨_, rfl⟩
  obtain ⟨lb, hlb⟩ : ∃ lb, f.t.2.1.length = lb := ⟨_, rfl⟩
  obtain ⟨sv, hsv⟩ : ∃ sv, f.t.2.2 = sv := ⟨_, rfl⟩
  have hcells : f.cells = [.string nm, .slice f.A lb f.c, .int .i64 (sv : Int)] := by unfold FileR.cells; rw [hnm, hlb, hsv]
  rw [hcells]
  obtain ⟨w1, hw1⟩ : ∃ w1, w.alloc (.cells #[.string nm, .slice f.A lb f.c, .int .i64 (sv : Int)] 59) = w1 := ⟨_, rfl⟩
  have hb1 : Below w.heap.size w w1 := by rw [← hw1]; exact (Below.refl _ w).alloc (Nat.le_refl _) _
  have hx1 : w1.heap[w.heap.size]? = some (.cells #[.string nm, .slice f.A lb f.c, .int .i64 (sv : Int)] 59 (0, 0)) := by rw [← hw1]; exact World.alloc_heap_new w _
  have q0 := cell_of_heap hx1 0
  simp only [List.getElem?_toArray, List.getElem?_cons_zero] at q0
  have hwo := without_any A n c fs nm w1 (h.keep hb1) hn hn2
  have hsn : strL nm = f.t.1 := by rw [← hnm, strL_strB]
  rw [hsn] at hwo
  obtain ⟨i0, hi, hz⟩ : ∃ i, Try.prog.info? 59 = some i ∧ (i.zero, i.size, i.bytes) = (some (.agg #[.string ByteArray.empty, .slice none 0 0, .int .i64 0]), 3, 48) := by
    have := refInfo59
    obtain ⟨i, h1, h2⟩ := Option.map_eq_some_iff.1 this
    exact ⟨i, h1, h2⟩
  simp only [Prod.mk.injEq] at hz
  obtain ⟨hz0, hz1, hz2⟩ := hz
  have hfin : ∀ W v, Below w.heap.size w W → W.ownsRow w.heap.size 59 3 v (putR f fs).length ((putR f fs).flatMap FileR.cells) → FsAt S W (match v with | .slice B _ _ => B | _ => none) (putR f fs) := fun W v hb ho => by
    obtain ⟨B, cB, rfl⟩ := own3_slice ho
    refine FsAt.of_own ho rfl hS (fun g hg => ?_)
    rcases insR_mem hg with e | e
    · rw [e]; exact hf.but (But.of_all hb (fun _ => False)) (fun _ e => e.elim)
    · exact (h.2 g (delR_mem e)).but (But.of_all hb (fun _ => False)) (fun _ e => e.elim)
  have hlen : (putR f fs).length ≤ n + 1 := by
    unfold putR
    rw [insR_len]
    have : (delR f.t.1 fs).length ≤ fs.length := List.length_filter_le _ _
    omega
  have HFIN := Lib.hid hfin
  have HB1 := Lib.hid hb1
  have HX1 := Lib.hid hx1
  have HF := Lib.hid hf
  have H := Lib.hid h
  have HCELLS := Lib.hid hcells
  have HSN := Lib.hid hsn
  have hdl : (delR f.t.1 fs).length ≤ n := by rw [← hn]; exact List.length_filter_le _ _
  unfold putR at HFIN hlen ⊢
  obtain ⟨gs, hgs⟩ : ∃ gs, delR f.t.1 fs = gs := ⟨_, rfl⟩
  have HGM : Hid (∀ g ∈ gs, FOk S w g) := Lib.hid (fun g hg => h.2 g (by rw [← hgs] at hg; exact delR_mem hg))
  rw [hgs] at hwo HFIN hlen hdl ⊢
  obtain ⟨m, hm⟩ : ∃ m, gs.length = m := ⟨_, rfl⟩
  rw [hm] at hwo hdl
  have HM := Lib.hid hm
  have hmI : (m : Int) ≤ 1000000 := by omega
  clear hb1 hx1 hf h hcells hsn hfin hgs hm hnm hlb hsv
  go_enter Try.func73, Try.ntmps73
  go_wp2_with (go_at_call 72; (with_reducible refine hwo.mono ?_); clear hwo; rintro e w2 ⟨v, rfl, hown, hb2⟩; obtain ⟨B, cB, rfl⟩ := own3_slice hown)
  have hs1 : w.heap.size ≤ w1.heap.size := HB1.out.size
  have hFs2 : FsAt S w2 B gs := FsAt.of_own hown HM.out (fun b e => Nat.lt_of_lt_of_le (hS b e) hs1) (fun g hg => (HGM.out g hg).but (But.of_all (HB1.out.trans (hb2.mono hs1)) (fun _ => False)) (fun _ e => e.elim))
  have hx2 := (hb2.block _ (Array.getElem?_eq_some_iff.1 HX1.out).1).trans HX1.out
  have HFS2 := Lib.hid hFs2
  have HX2 := Lib.hid hx2
  have HB2 := Lib.hid (HB1.out.trans (hb2.mono hs1))
  clear hown hFs2 hx2 hb2 q0
  go_loopw [5, 6, 7] (fun v5 v6 v7 wr => ∃ (k : Nat) (pt : Bool) (o : List FileR) (Ao : Option Addr) (co : Nat), k ≤ m ∧ v5 = .slice Ao o.length co ∧ v6 = .bool pt ∧ v7 = .int .i64 (k : Int) ∧ Hid (insR f gs = o ++ if pt = true then gs.drop k else insR f (gs.drop k)) ∧ Hid (wr.ownsRow w2.heap.size 59 3 (.slice Ao o.length co) o.length (o.flatMap FileR.cells)) ∧ Hid (Below w2.heap.size w2 wr)) (fun _ _ v7 _ => m - (RowKit.intOf v7).toNat)
  case atStart => exact ⟨0, false, [], none, 0, Nat.zero_le _, rfl, rfl, rfl, Lib.hid rfl, Lib.hid (World.ownsRow_nil _ _ _ _), Lib.hid (Below.refl _ _)⟩
  case round =>
    obtain ⟨wo, rfl⟩ : ∃ wo : World, wo = wr := ⟨_, rfl⟩
    obtain ⟨k, pt, o, Ao, co, hk, rfl, rfl, rfl, HE, HO, HB⟩ := hrel
    by_cases hlt : k < m
    · have hkx : k < gs.length := by rw [HM.out]; exact hlt
      obtain ⟨b, off, rfl, hb, _, hcl⟩ := HFS2.out.1 (by omega)
      obtain ⟨g, hg⟩ : ∃ g, gs[k] = g := ⟨_, rfl⟩
      have hgk : gs[k]? = some g := by rw [List.getElem?_eq_getElem hkx, hg]
      have hcl2 := hcl k g hgk
      have hdrop : gs.drop k = g :: gs.drop (k + 1) := by rw [← hg]; exact List.drop_eq_getElem_cons hkx
      have hol : o.length ≤ n + 1 := by
        have h1 := congrArg List.length HE.out
        rw [List.length_append] at h1
        omega
      obtain ⟨gn, hgn⟩ : ∃ gn, strB g.t.1 = gn := ⟨_, rfl⟩
      obtain ⟨gl, hgl⟩ : ∃ gl, g.t.2.1.length = gl := ⟨_, rfl⟩
      obtain ⟨gv, hgv⟩ : ∃ gv, g.t.2.2 = gv := ⟨_, rfl⟩
      have hgc : g.cells = [.string gn, .slice g.A gl g.c, .int .i64 (gv : Int)] := by unfold FileR.cells; rw [hgn, hgl, hgv]
      have hcmp := name_cmp g.t.1 f.t.1
      rw [hgn, show strB f.t.1 = nm by rw [← HSN.out, strB_strL]] at hcmp
      have hQ : ∀ W, Below w2.heap.size w2 W → (W.cell? ⟨b, off + k * 3, none⟩ = some (.string gn) ∧ W.cell? ⟨b, off + k * 3 + 1, none⟩ = some (.slice g.A gl g.c) ∧ W.cell? ⟨b, off + k * 3 + 2, none⟩ = some (.int .i64 (gv : Int))) ∧
          W.cell? ⟨w.heap.size, 0, none⟩ = some (.string nm) ∧ W.cell? ⟨w.heap.size, 1, none⟩ = some (.slice f.A lb f.c) ∧ W.cell? ⟨w.heap.size, 2, none⟩ = some (.int .i64 (sv : Int)) := fun W hb' => by
        have hx := (hb'.block _ (Array.getElem?_eq_some_iff.1 HX2.out).1).trans HX2.out
        exact ⟨⟨(hb'.cell (p := ⟨b, off + k * 3, none⟩) hb).trans (hcl2 0 _ (by rw [hgc]; rfl)), (hb'.cell (p := ⟨b, off + k * 3 + 1, none⟩) hb).trans (hcl2 1 _ (by rw [hgc]; rfl)), (hb'.cell (p := ⟨b, off + k * 3 + 2, none⟩) hb).trans (hcl2 2 _ (by rw [hgc]; rfl))⟩, cell_of_heap hx 0, cell_of_heap hx 1, cell_of_heap hx 2⟩
      have HQ := Lib.hid hQ
      obtain ⟨⟨q0, q1, q2⟩, y0, y1, y2⟩ := hQ wo HB.out
      have HGC := Lib.hid hgc
      have HDROP := Lib.hid hdrop
      have hbs := HB.out.size
      obtain ⟨M, hM⟩ : ∃ M, o.length = M := ⟨_, rfl⟩
      rw [hM] at HO hol
      have HMM := Lib.hid hM
      rw [hM]
      clear hcl hcl2 hdrop hgn hgl hgv hgc hgk hg hM hQ
      cases pt with
      | true =>
        have hE2 : insR f gs = (o ++ [g]) ++ if true = true then gs.drop (k + 1) else insR f (gs.drop (k + 1)) := by
          have h1 := HE.out
          rw [if_pos rfl, HDROP.out] at h1
          rw [h1, if_pos rfl]
          simp
        have HE2 := Lib.hid hE2
        clear hE2
        go_upto_region 7 with fail
        go_quiet (fail)
        obtain ⟨V, hV⟩ : ∃ V, wo.drewN nq = V := ⟨_, rfl⟩
        have hbV : Below wo.heap.size wo V := by rw [← hV]; exact (Below.refl _ wo).trans ⟨rfl, rfl, rfl, Nat.le_refl _, fun _ _ => rfl⟩
        have hsV : V.heap.size = wo.heap.size := by rw [← hV]; rfl
        have q0V : V.cell? ⟨b, off + k * 3, none⟩ = some (.string gn) := by rw [← hV]; exact q0
        have q1V : V.cell? ⟨b, off + k * 3 + 1, none⟩ = some (.slice g.A gl g.c) := by rw [← hV]; exact q1
        have q2V : V.cell? ⟨b, off + k * 3 + 2, none⟩ = some (.int .i64 (gv : Int)) := by rw [← hV]; exact q2
        have hoV := HO.out.kept (grownBy_of_below hbV none) (by
          cases e : (Value.slice Ao M co).ownBlock with
          | none => exact .inl rfl
          | some b => exact .inr (by simp))
        have HBV := Lib.hid (HB.out.trans (hbV.mono hbs))
        rw [hV]
        clear hV q0 q1 q2 y0 y1 y2 hbV
        have hs3 : w2.heap.size ≤ V.heap.size := HBV.out.size
        clear hsV
        go_wp2_with (at_builtin; refine wpList_append_own_at _ rfl (.tmp 34) (.tmp 39) 26 rfl w2.heap.size 59 i0 _ 3 48 Try.underlying26 hi hz0 hz1 hz2 rfl (by decide) _ M _ rfl (hoV.alloc _) ⟨V.heap.size, 0, none⟩ 1 1 [.string gn, .slice g.A gl g.c, .int .i64 (gv : Int)] rfl rfl (cell_row_new _ _ _) (by simp [Value.oneCell']) (by unfold maxLen; omega) (by omega) (by simp; omega) ?_; intro v3 w3 hown3 hg3 _ _; obtain ⟨A3, c3, rfl⟩ := own3_slice hown3)
        have HO3 : Hid (w3.ownsRow w2.heap.size 59 3 (.slice A3 (o ++ [g]).length c3) (o ++ [g]).length ((o ++ [g]).flatMap FileR.cells)) := Lib.hid (by
          rw [List.length_append, List.flatMap_append, HMM.out]
          show w3.ownsRow w2.heap.size 59 3 (.slice A3 (M + 1) c3) (M + 1) (_ ++ (g.cells ++ []))
          rw [List.append_nil, HGC.out]
          exact hown3)
        have HB3 : Hid (Below w2.heap.size w2 w3) := Lib.hid (HBV.out.trans ((((Below.refl _ V).alloc (Nat.le_refl _) _).mono hs3).trans ((But.grown hg3).to_below (by simp; omega) (fun b e => (hoV.lt b e).1))))
        have HML : Hid ((o ++ [g]).length = M + 1) := Lib.hid (by rw [List.length_append, HMM.out]; rfl)
        clear hoV hown3 hg3 HO q0V q1V q2V
        go_roundw
        case rel => exact ⟨k + 1, true, o ++ [g], A3, c3, by omega, by rw [HML.out], rfl, by go_num, HE2, HO3, HB3⟩
        case measure => simp [RowKit.intOf]; omega
      | false =>
        cases hlt2 : decide (nmU f.t.1 < nmU g.t.1) with
        | true =>
          rw [hlt2] at hcmp
          have hE2 : insR f gs = (o ++ [f, g]) ++ if true = true then gs.drop (k + 1) else insR f (gs.drop (k + 1)) := by
            have h1 := HE.out
            rw [if_neg (by decide), HDROP.out] at h1
            rw [show insR f (g :: gs.drop (k + 1)) = if nmU f.t.1 < nmU g.t.1 then f :: g :: gs.drop (k + 1) else g :: insR f (gs.drop (k + 1)) from rfl] at h1
            rw [if_pos (of_decide_eq_true hlt2)] at h1
            rw [h1, if_pos rfl]
            simp
          have HE2 := Lib.hid hE2
          clear hE2 hlt2
          go_upto_region 7 with fail
          go_quiet (fail)
          obtain ⟨V, hV⟩ : ∃ V, wo.drewN nq = V := ⟨_, rfl⟩
          have hbV : Below wo.heap.size wo V := by rw [← hV]; exact (Below.refl _ wo).trans ⟨rfl, rfl, rfl, Nat.le_refl _, fun _ _ => rfl⟩
          have hoV := HO.out.kept (grownBy_of_below hbV none) (by
            cases e : (Value.slice Ao M co).ownBlock with
            | none => exact .inl rfl
            | some b => exact .inr (by simp))
          have HBV := Lib.hid (HB.out.trans (hbV.mono hbs))
          obtain ⟨⟨q0V, q1V, q2V⟩, y0V, y1V, y2V⟩ := HQ.out V HBV.out
          rw [hV]
          clear hV q0 q1 q2 y0 y1 y2 hbV
          have hs3 : w2.heap.size ≤ V.heap.size := HBV.out.size
          go_upto_region 9 with (at_builtin; refine wpList_append_own_at _ rfl (.tmp 30) (.tmp 32) 26 rfl w2.heap.size 59 i0 _ 3 48 Try.underlying26 hi hz0 hz1 hz2 rfl (by decide) _ M _ rfl (hoV.alloc _) ⟨V.heap.size, 0, none⟩ 1 1 [.string nm, .slice f.A lb f.c, .int .i64 (sv : Int)] rfl rfl (cell_row_new _ _ _) (by simp [Value.oneCell']) (by unfold maxLen; omega) (by omega) (by simp; omega) ?_; intro v3 w3 hown3 hg3 _ _; obtain ⟨A3, c3, rfl⟩ := own3_slice hown3)
          have hB3 : Below w2.heap.size w2 w3 := HBV.out.trans ((((Below.refl _ V).alloc (Nat.le_refl _) _).mono hs3).trans ((But.grown hg3).to_below (by simp; omega) (fun b e => (hoV.lt b e).1)))
          obtain ⟨⟨q0W, q1W, q2W⟩, _⟩ := HQ.out w3 hB3
          have HB3 := Lib.hid hB3
          have hs4 : w2.heap.size ≤ w3.heap.size := hB3.size
          have hoW := hown3
          clear hoV hown3 hg3 HO q0V q1V q2V y0V y1V y2V hB3
          go_wp2_with (at_builtin; refine wpList_append_own_at _ rfl (.tmp 34) (.tmp 39) 26 rfl w2.heap.size 59 i0 _ 3 48 Try.underlying26 hi hz0 hz1 hz2 rfl (by decide) _ (M + 1) _ rfl (hoW.alloc _) ⟨w3.heap.size, 0, none⟩ 1 1 [.string gn, .slice g.A gl g.c, .int .i64 (gv : Int)] rfl rfl (cell_row_new _ _ _) (by simp [Value.oneCell']) (by unfold maxLen; omega) (by omega) (by simp; omega) ?_; intro v5 w5 hown5 hg5 _ _; obtain ⟨A5, c5, rfl⟩ := own3_slice hown5)
          have HO5 : Hid (w5.ownsRow w2.heap.size 59 3 (.slice A5 (o ++ [f, g]).length c5) (o ++ [f, g]).length ((o ++ [f, g]).flatMap FileR.cells)) := Lib.hid (by
            rw [List.length_append, List.flatMap_append, HMM.out]
            show w5.ownsRow w2.heap.size 59 3 (.slice A5 (M + 2) c5) (M + 2) (_ ++ (f.cells ++ (g.cells ++ [])))
            rw [List.append_nil, HGC.out, HCELLS.out, ← List.append_assoc]
            exact hown5)
          have HB5 : Hid (Below w2.heap.size w2 w5) := Lib.hid (HB3.out.trans ((((Below.refl _ w3).alloc (Nat.le_refl _) _).mono hs4).trans ((But.grown hg5).to_below (by simp; omega) (fun b e => (hoW.lt b e).1))))
          have HML : Hid ((o ++ [f, g]).length = M + 1 + 1) := Lib.hid (by rw [List.length_append, HMM.out]; rfl)
          clear hoW hown5 hg5 q0W q1W q2W
          go_roundw
          case rel => exact ⟨k + 1, true, o ++ [f, g], A5, c5, by omega, by rw [HML.out], rfl, by go_num, HE2, HO5, HB5⟩
          case measure => simp [RowKit.intOf]; omega

        | false =>
          rw [hlt2] at hcmp
          have hE2 : insR f gs = (o ++ [g]) ++ if false = true then gs.drop (k + 1) else insR f (gs.drop (k + 1)) := by
            have h1 := HE.out
            rw [if_neg (by decide), HDROP.out] at h1
            rw [show insR f (g :: gs.drop (k + 1)) = if nmU f.t.1 < nmU g.t.1 then f :: g :: gs.drop (k + 1) else g :: insR f (gs.drop (k + 1)) from rfl] at h1
            rw [if_neg (of_decide_eq_false hlt2)] at h1
            rw [h1, if_neg (by decide)]
            simp
          have HE2 := Lib.hid hE2
          clear hE2 hlt2
          go_upto_region 7 with fail
          go_quiet (fail)
          obtain ⟨V, hV⟩ : ∃ V, wo.drewN nq = V := ⟨_, rfl⟩
          have hbV : Below wo.heap.size wo V := by rw [← hV]; exact (Below.refl _ wo).trans ⟨rfl, rfl, rfl, Nat.le_refl _, fun _ _ => rfl⟩
          have hoV := HO.out.kept (grownBy_of_below hbV none) (by
            cases e : (Value.slice Ao M co).ownBlock with
            | none => exact .inl rfl
            | some b => exact .inr (by simp))
          have HBV := Lib.hid (HB.out.trans (hbV.mono hbs))
          obtain ⟨⟨q0V, q1V, q2V⟩, y0V, y1V, y2V⟩ := HQ.out V HBV.out
          rw [hV]
          clear hV q0 q1 q2 y0 y1 y2 hbV
          have hs3 : w2.heap.size ≤ V.heap.size := HBV.out.size
          go_wp2_with (at_builtin; refine wpList_append_own_at _ rfl (.tmp 34) (.tmp 39) 26 rfl w2.heap.size 59 i0 _ 3 48 Try.underlying26 hi hz0 hz1 hz2 rfl (by decide) _ M _ rfl (hoV.alloc _) ⟨V.heap.size, 0, none⟩ 1 1 [.string gn, .slice g.A gl g.c, .int .i64 (gv : Int)] rfl rfl (cell_row_new _ _ _) (by simp [Value.oneCell']) (by unfold maxLen; omega) (by omega) (by simp; omega) ?_; intro v3 w3 hown3 hg3 _ _; obtain ⟨A3, c3, rfl⟩ := own3_slice hown3)
          have HO3 : Hid (w3.ownsRow w2.heap.size 59 3 (.slice A3 (o ++ [g]).length c3) (o ++ [g]).length ((o ++ [g]).flatMap FileR.cells)) := Lib.hid (by
            rw [List.length_append, List.flatMap_append, HMM.out]
            show w3.ownsRow w2.heap.size 59 3 (.slice A3 (M + 1) c3) (M + 1) (_ ++ (g.cells ++ []))
            rw [List.append_nil, HGC.out]
            exact hown3)
          have HB3 : Hid (Below w2.heap.size w2 w3) := Lib.hid (HBV.out.trans ((((Below.refl _ V).alloc (Nat.le_refl _) _).mono hs3).trans ((But.grown hg3).to_below (by simp; omega) (fun b e => (hoV.lt b e).1))))
          have HML : Hid ((o ++ [g]).length = M + 1) := Lib.hid (by rw [List.length_append, HMM.out]; rfl)
          clear hoV hown3 hg3 HO q0V q1V q2V
          go_roundw
          case rel => exact ⟨k + 1, false, o ++ [g], A3, c3, by omega, by rw [HML.out], rfl, by go_num, HE2, HO3, HB3⟩
          case measure => simp [RowKit.intOf]; omega

    · obtain rfl : k = m := by omega
      have hdr : gs.drop k = [] := List.drop_of_length_le (by rw [HM.out]; exact Nat.le_refl _)
      have hE3 := HE.out
      rw [hdr] at hE3
      have hsw := HB2.out.size
      have hbs := HB.out.size
      have HBT := Lib.hid (HB2.out.trans (HB.out.mono hsw))
      obtain ⟨M, hM⟩ : ∃ M, o.length = M := ⟨_, rfl⟩
      rw [hM] at HO
      rw [hM]
      have hMn : M ≤ n + 1 := by
        have h1 := congrArg List.length hE3
        rw [List.length_append] at h1
        omega
      have HMM := Lib.hid hM
      clear hM hdr
      cases pt with
      | true =>
        rw [if_pos rfl, List.append_nil] at hE3
        have HE3 := Lib.hid hE3
        clear hE3
        go_wp2
        go_ret
        have ho : wo.ownsRow w.heap.size 59 3 (.slice Ao M co) (insR f gs).length ((insR f gs).flatMap FileR.cells) := by
          rw [HE3.out, HMM.out]
          exact HO.out.mono hsw
        exact ⟨_, rfl, ho, HFIN.out wo _ HBT.out ho, HBT.out⟩
      | false =>
        have HE3 : Hid (insR f gs = o ++ [f]) := Lib.hid (by rw [hE3, if_neg (by decide)]; rfl)
        have hx := (HB.out.block _ (Array.getElem?_eq_some_iff.1 HX2.out).1).trans HX2.out
        have y0 := cell_of_heap hx 0
        have y1 := cell_of_heap hx 1
        have y2 := cell_of_heap hx 2
        simp only [List.getElem?_toArray, List.getElem?_cons_succ, List.getElem?_cons_zero] at y0 y1 y2
        have hoV := HO.out
        clear hE3 hx
        go_wp2_with (at_builtin; refine wpList_append_own_at _ rfl (.tmp 43) (.tmp 45) 26 rfl w2.heap.size 59 i0 _ 3 48 Try.underlying26 hi hz0 hz1 hz2 rfl (by decide) _ M _ rfl (hoV.alloc _) ⟨wo.heap.size, 0, none⟩ 1 1 [.string nm, .slice f.A lb f.c, .int .i64 (sv : Int)] rfl rfl (cell_row_new _ _ _) (by simp [Value.oneCell']) (by unfold maxLen; omega) (by omega) (by simp; omega) ?_; intro v3 w3 hown3 hg3 _ _; obtain ⟨A3, c3, rfl⟩ := own3_slice hown3)
        go_ret
        have hB3 : Below w2.heap.size w2 w3 := HB.out.trans ((((Below.refl _ wo).alloc (Nat.le_refl _) _).mono hbs).trans ((But.grown hg3).to_below (by simp; omega) (fun b e => (hoV.lt b e).1)))
        have hBT : Below w.heap.size w w3 := HB2.out.trans (hB3.mono hsw)
        have ho : w3.ownsRow w.heap.size 59 3 (.slice A3 (M + 1) c3) (insR f gs).length ((insR f gs).flatMap FileR.cells) := by
          rw [HE3.out, List.length_append, List.flatMap_append, HMM.out]
          show w3.ownsRow w.heap.size 59 3 (.slice A3 (M + 1) c3) (M + 1) (_ ++ (f.cells ++ []))
          rw [List.append_nil, HCELLS.out]
          exact hown3.mono hsw
        exact ⟨_, rfl, ho, HFIN.out w3 _ hBT ho, hBT⟩
end Go.Proofs
