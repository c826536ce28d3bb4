/-
  Bytes are put behind a file. Conditions: as each theorem names them.
-/
import Derived.Test.YtnobmejcbgocoaaApp
import Derived.Test.YtnobmejcbgocoaaDkI
namespace Go.Proofs
open Go Go.RowKit Sm Go.Lib Go.Maps Go.WideMaps
attribute [local go_sem] Oper.semAt_some
theorem Sm.app2 (A : Option Addr) (n c : Nat) (u : Value) (w : World) : (Builtin.append_ #[77, 36] 77 #[.slice A n c, u]).run Try.prog w = (Builtin.append_ #[77, 77] 77 #[.slice A n c, u]).run Try.prog w := by
  have e1 : (underlying 77).run Try.prog w = .ok (.slice 5) w := run_underlying Try.underlying77 w
  have e2 : (underlying 36).run Try.prog w = .ok (.slice 5) w := run_underlying Try.underlying36 w
  simp [Builtin.append_, Sem.run_bind, e1, sizeOf, typeInfo]
theorem Sm.run_append_rdo {P : Program} (w : World) (base : Nat) (t ty e : TypeId) (i : TypeInfo) (z : Value) (ht : P.underlying t = some (.slice e)) (hi : P.info? e = some i) (hz : i.zero = some z)
    (hsize : i.size = 1) (hby : i.bytes = 1) (hzs : z.cells.size = 1)
    (v : Value) (n : Nat) (xs : List Value) (hown : w.ownsRow base e 1 v n xs)
    (B : Nat) (A : Option Addr) (m c : Nat) (l : List (BitVec 8)) (hl : l.length = m) (hr : Rd w B A l) (hnm : n + m ≤ 1000000000) (hbase : base ≤ w.heap.size) :
    ∃ v' w', (Builtin.append_ #[t, t] ty #[v, .slice A m c]).run P w = .ok v' w' ∧ w'.ownsRow base e 1 v' (n + m) (xs ++ l.map byteCell) ∧ w.grownBy w' v.ownBlock ∧
      (v'.ownBlock = v.ownBlock ∨ v'.ownBlock = some w.heap.size) ∧ w'.ownsRow base e 1 v n xs := by
  subst hl
  rcases A with _ | ad
  · have hn : l = [] := by
      cases l with
      | nil => rfl
      | cons x r =>
        obtain ⟨b, off, h, _⟩ := hr (by simp)
        cases h
    subst hn
    refine ⟨v, w, ?_, by simpa using hown, World.grownBy.refl w _, .inl rfl, hown⟩
    rcases hown.2 with ⟨rfl, rfl⟩ | ⟨g, cap, cur, rfl, _, _, hnc, _⟩
    · simp [Builtin.append_, run_underlying ht, sizeOf, typeInfo, hi, Builtin.lenOf, Builtin.firstCells]
    · simp [Builtin.append_, run_underlying ht, sizeOf, typeInfo, hi, Builtin.lenOf, Builtin.firstCells, hnc, storeCells]
  · obtain ⟨v', w', h1, h2, h3, _, h5⟩ := run_append_own_at (P := P) w base t ty e i z 1 1 ht hi hz hsize hby hzs (by decide) v n xs hown ad l.length c (l.map byteCell) (by simp) hr.news (byteCell_one l)
      (by unfold maxLen; omega) (by omega) hbase
    refine ⟨v', w', h1, h2, h3, h5, ?_⟩
    rcases hown.2 with ⟨rfl, rfl⟩ | ⟨g, cap, cur, rfl, hbg, hg, hnc, hcm, hcs, htake⟩
    · have hx : xs = [] := List.eq_nil_of_length_eq_zero (by simpa using hown.1)
      subst hx
      exact World.ownsRow_nil _ _ _ _
    · by_cases hroom : n + l.length ≤ cap
      · have hfit : n * i.size + (l.map byteCell).length ≤ cur.size := by rw [List.length_map, hsize]; omega
        have hq := run_append_room (P := P) w t ty e i ht hi g n cap cur hg ad l.length c (l.map byteCell) (by simp [hsize]) hr.news (byteCell_one l) hroom hfit
        rw [h1] at hq
        injection hq with e1 e2
        subst e2
        rw [hsize] at hfit ⊢
        refine ⟨hown.1, .inr ⟨g, cap, _, rfl, hbg, setRow_heap w g cur _ e _ hg, hnc, hcm, ?_, ?_⟩⟩
        · simp only [List.size_toArray, List.length_append, List.length_take, List.length_drop, Array.length_toList]
          omega
        · show List.take (n * 1) (cur.toList.take (n * 1) ++ l.map byteCell ++ cur.toList.drop (n * 1 + (l.map byteCell).length)) = xs
          rw [htake, List.append_assoc, ← hown.1]
          exact List.take_left
      · have hq := run_append_grow (P := P) w t ty e i z ht hi hz ⟨g, 0, none⟩ n cap xs (by rw [hsize]; exact hown.1) (hown.cells (g := g) rfl) ad l.length c (l.map byteCell) (by simp [hsize]) hr.news (by omega) (by omega) (growslice_fits (by omega) (by rw [hby]; omega))
        rw [h1] at hq
        injection hq with e1 e2
        subst e2
        exact own_below hown (((Below.refl _ w).drew).alloc (Nat.le_refl _) _)
theorem Sm.diskInfo5 : (Try.prog.info? 5).map (fun i => (i.zero, i.size, i.bytes)) = some (some (.int .u8 0), 1, 1) := by kernel_rfl
theorem Sm.wpList_append_file (w : World) {ops : Array Oper} {rest : List Oper} {o : Oper} {a : Act} {Q : Exit → Act → World → Prop} (hgd : o.guard = none) (s x : Operand)
    (ho : o.op = .call { callee := .builtin .append, args := #[s, x], argTypes := #[77, 36] }) (hty : o.type = 77)
    (base : Nat) (i : TypeInfo) (z : Value) (hi : Try.prog.info? 5 = some i) (hz : i.zero = some z) (hsize : i.size = 1) (hby : i.bytes = 1) (hzs : z.cells.size = 1)
    (A0 : Option Addr) (n c0 : Nat) (xs : List Value) (hs : a.eval s = .slice A0 n c0) (hown : w.ownsRow base 5 1 (.slice A0 n c0) n xs)
    (B : Nat) (A : Option Addr) (m c : Nat) (l : List (BitVec 8)) (hx : a.eval x = .slice A m c) (hl : l.length = m) (hr : Rd w B A l) (hnm : n + m ≤ 1000000000) (hbase : base ≤ w.heap.size)
    (h : ∀ A' c' w', w'.ownsRow base 5 1 (.slice A' (n + m) c') (n + m) (xs ++ l.map byteCell) → w'.ownsRow base 5 1 (.slice A0 n c0) n xs → w.grownBy w' (Value.slice A0 n c0).ownBlock → ((Value.slice A' (n + m) c').ownBlock = (Value.slice A0 n c0).ownBlock ∨ (Value.slice A' (n + m) c').ownBlock = some w.heap.size) → wpList Try.prog ops Q rest (a.put o.dst (.slice A' (n + m) c')) w') :
    wpList Try.prog ops Q (o :: rest) a w := by
  refine wpList_plain hgd fun K hK => ?_
  obtain ⟨v', w', hr', h2, h3, h4, h5⟩ := run_append_rdo (P := Try.prog) w base 77 77 5 i z Try.underlying77 hi hz hsize hby hzs _ n xs hown B A m c l hl hr hnm hbase
  obtain ⟨A', c', rfl⟩ := own_slice h2
  rw [← app2] at hr'
  unfold Oper.wp execOp
  simp only [ho, hty, resolve, invoke, builtin, Sem.run_bind, Sem.run_pure, Result.andThen_ok, List.map_toArray, List.map_cons, List.map_nil, hs, hx, hr']
  exact hK _ _ (h A' c' w' h2 h5 h3 h4)
/-- the file of a name, or none -/
def Sm.fileOr (G : List FileM) (nm : List (BitVec 8)) (f : FileM) : Prop := f.name = nm ∧ (f ∈ G ∨ ((∀ g ∈ G, g.name ≠ nm) ∧ f.bytes = [] ∧ f.sure = 0 ∧ f.A = none ∧ f.c = 0))
theorem Sm.fileOr_any (G : List FileM) (nm : List (BitVec 8)) : ∃ f, fileOr G nm f := by
  by_cases e : ∃ f ∈ G, f.name = nm
  · obtain ⟨f, hf, e⟩ := e
    exact ⟨f, e, .inl hf⟩
  · exact ⟨⟨nm, [], 0, none, 0⟩, rfl, .inr ⟨fun g h1 h2 => e ⟨g, h1, h2⟩, rfl, rfl, rfl, rfl⟩⟩
theorem Sm.fileOr_look {G : List FileM} {x : ByteArray} {f : FileM} (hf : fileOr G (strL x) f) (hxz : x.size ≤ 1000000) {W : World} {p Mb base : Nat} {s : DSt} (h : DAt W p Mb base s G) :
    (Instr.lookup 33 (.map (some Mb)) (.string x) false).run Try.prog W = .ok (.agg #[.slice f.A f.bytes.length f.c, .int .i64 (f.sure : Int)]) W := by
  obtain ⟨D, hD1, hD2⟩ := h.map
  rcases hf.2 with hm | ⟨hno, h1, h2, h3, h4⟩
  · exact look_some hD1 hD2 hm hf.1.symm hxz false
  · rw [h1, h2, h3, h4]
    exact look_none hD1 hD2 hno hxz false
theorem Sm.fileOr_row {G : List FileM} {nm : List (BitVec 8)} {f : FileM} (hf : fileOr G nm f) {W : World} {p Mb base : Nat} {s : DSt} (h : DAt W p Mb base s G) : W.ownsRow base 5 1 (.slice f.A f.bytes.length f.c) f.bytes.length (f.bytes.map byteCell) ∧ f.sure ≤ f.bytes.length ∧ usedG (delG nm G) + f.bytes.length = usedG G := by
  rcases hf.2 with hm | ⟨hno, h1, h2, h3, h4⟩
  · exact ⟨h.row f hm, (h.ok f hm).2, used_del h.sort hm hf.1⟩
  · rw [h1, h2, h3, h4]
    exact ⟨World.ownsRow_nil _ _ _ _, Nat.le_refl _, by rw [del_none hno]; rfl⟩
theorem Sm.fileOr_sep {G : List FileM} {nm : List (BitVec 8)} {f : FileM} (hf : fileOr G nm f) {W : World} {p Mb base : Nat} {s : DSt} (h : DAt W p Mb base s G) {g : FileM} (hg : g ∈ G) (hne : g.name ≠ nm) {b : Nat} (e : f.sl.ownBlock = some b) : g.sl.ownBlock ≠ some b := by
  rcases hf.2 with hm | ⟨hno, h1, h2, h3, h4⟩
  · exact h.sep f hm g hg (fun e2 => hne (by rw [← e2]; exact hf.1)) b e
  · unfold FileM.sl at e
    rw [h3] at e
    cases e
theorem Sm.DAt.rows {w W : World} {p Mb base : Nat} {s : DSt} {G : List FileM} {S : Nat → Prop} (h : DAt w p Mb base s G) (hb : But S w W) (hp : ¬ S p) (hM : ¬ S Mb) (hr : ∀ f ∈ G, W.ownsRow base 5 1 f.sl f.bytes.length (f.bytes.map byteCell)) : DAt W p Mb base s G :=
  ⟨hb.box h.blk hp, h.map.imp fun _ hD => ⟨map_keep hD.1 (hb.block _ hD.1.lt hM), hD.2⟩, h.sort, hr, h.sep, ⟨h.low.1, h.low.2.1, h.low.2.2.1, Nat.le_trans h.low.2.2.2 hb.size⟩, h.room_, h.aft, h.ok⟩
set_option maxRecDepth 100000 in
set_option maxHeartbeats 2000000 in
theorem Sm.step_47 {p Mb base bd bn bb : Nat} {s : DSt} {G : List FileM} (x : ByteArray) (f : FileM) (B : Nat) (Ab : Option Addr) (m cb : Nat) (l : List (BitVec 8)) (w : World) (h : DAt w p Mb base s G) (hd : w.heap[bd]? = some (.cells #[.pointer (some ⟨p, 0, none⟩)] 25 (0, 0))) (hn : w.heap[bn]? = some (.cells #[.string x] 9 (0, 0))) (hb : w.heap[bb]? = some (.cells #[.slice Ab m cb] 36 (0, 0)))
    (_hlo : base ≤ bd ∧ base ≤ bn ∧ base ≤ bb) (hown : f.sl.ownBlock ≠ some bd ∧ f.sl.ownBlock ≠ some bn ∧ f.sl.ownBlock ≠ some bb) (hB : B ≤ w.heap.size) (hrd : Rd w B Ab l) (hl : l.length = m) (hxz : x.size ≤ 1000000) (hf : fileOr G (strL x) f) (hok : nameOK (strL x) = true) (hroom : (usedG G + m : Int) ≤ s.room) (hGl : G.length ≤ 1000000) :
    Calls Try.prog 47 #[.pointer (some ⟨bd, 0, none⟩), .pointer (some ⟨bn, 0, none⟩), .pointer (some ⟨bb, 0, none⟩)] w fun e w' => e = .returned (.tuple #[]) ∧ ∃ A' c', (DAt w' p Mb base s (putG { f with bytes := f.bytes ++ l, A := A', c := c' } G) ∧ (∀ b, (Value.slice A' (f.bytes.length + m) c').ownBlock = some b → f.sl.ownBlock = some b ∨ w.heap.size ≤ b)) ∧ But (fun b => DMay p Mb b ∨ f.sl.ownBlock = some b) w w' := by
  have hlow := h.low
  have hrm := h.room_
  have hrow := fileOr_row hf h
  have hS : ∀ W, Below w.heap.size w W → W.cell? ⟨bd, 0, none⟩ = some (.pointer (some ⟨p, 0, none⟩)) ∧ W.cell? ⟨bn, 0, none⟩ = some (.string x) ∧ W.cell? ⟨p, 5, none⟩ = some (.map (some Mb)) ∧ (Instr.lookup 33 (.map (some Mb)) (.string x) false).run Try.prog W = .ok (.agg #[.slice f.A f.bytes.length f.c, .int .i64 (f.sure : Int)]) W := fun W hb => by
    have hW := h.keep hb
    exact ⟨cell_of_heap ((hb.block _ (Array.getElem?_eq_some_iff.1 hd).1).trans hd) 0, cell_of_heap ((hb.block _ (Array.getElem?_eq_some_iff.1 hn).1).trans hn) 0, cell_of_heap hW.blk 5, fileOr_look hf hxz hW⟩
  have q0 := hS w (Below.refl _ _)
  have HS := Lib.hid hS
  have H := Lib.hid h
  have HD := Lib.hid hd
  have HN := Lib.hid hn
  have HBB := Lib.hid hb
  have HRD := Lib.hid hrd
  have HROW := Lib.hid hrow
  clear hS h hd hn hb hrd hrow
  go_enter Try.func47, Try.ntmps47
  go_upto_region 0 with fail
  go_region_held_law (fun W => W.cell? ⟨bd, 0, none⟩ = some (.pointer (some ⟨p, 0, none⟩)) ∧ W.cell? ⟨bn, 0, none⟩ = some (.string x) ∧ W.cell? ⟨p, 5, none⟩ = some (.map (some Mb)) ∧ (Instr.lookup 33 (.map (some Mb)) (.string x) false).run Try.prog W = .ok (.agg #[.slice f.A f.bytes.length f.c, .int .i64 (f.sure : Int)]) W)
    (first | exact q0 | (refine HS.out _ ?_; repeat' (first | exact Below.refl _ _ | refine Below.drew ?_ | refine Below.alloc ?_ ?_ _ | refine Below.setCell ?_ ?_ _ | (simp; done) | (simp; omega) | omega)))
    (fail)
  all_goals
    obtain ⟨w1, hw1⟩ : ∃ w1, (w.alloc (.cells #[.slice f.A f.bytes.length f.c, .int .i64 (f.sure : Int)] 79)).drew = w1 := ⟨_, rfl⟩
    have hb1 : Below w.heap.size w w1 := by rw [← hw1]; exact ((Below.refl _ w).alloc (Nat.le_refl _) _).drew
    have hx1 : w1.heap[w.heap.size]? = some (.cells #[.slice f.A f.bytes.length f.c, .int .i64 (f.sure : Int)] 79 (0, 0)) := by rw [← hw1]; exact World.alloc_heap_new w _
    have hd1 := (hb1.block _ (Array.getElem?_eq_some_iff.1 HD.out).1).trans HD.out
    have hn1 := (hb1.block _ (Array.getElem?_eq_some_iff.1 HN.out).1).trans HN.out
    have hbb1 := (hb1.block _ (Array.getElem?_eq_some_iff.1 HBB.out).1).trans HBB.out
    have x0 := cell_of_heap hx1 0
    have b0 := cell_of_heap hbb1 0
    have f0 := frozen_of_heap hx1 0
    simp only [List.getElem?_toArray, List.getElem?_cons_zero] at x0 b0
    have hrow1 := own_below HROW.out.1 hb1
    have hrd1 : Rd w1 B Ab l := HRD.out.keep fun p hp => hb1.cell (by omega)
    rw [hw1]
    have hwl : w.heap.size < w1.heap.size := (Array.getElem?_eq_some_iff.1 hx1).1
    have hx0w : (Value.slice f.A f.bytes.length f.c).ownBlock ≠ some w.heap.size := fun e => by
      have := (HROW.out.1.lt _ e).2
      omega
    have hD1 := H.out.keep hb1
    clear hw1
    obtain ⟨i0, hi, hz0, hz1, hz2⟩ := info_parts diskInfo5
    have HX1 := Lib.hid hx1
    have HD1 := Lib.hid hd1
    have HN1 := Lib.hid hn1
    have HB1 := Lib.hid hb1
    have HDA := Lib.hid hD1
    clear hx1 hd1 hn1 hbb1 hb1 hD1
    go_upto_region 2 with (at_builtin; refine wpList_append_file _ rfl (.tmp 11) (.tmp 12) rfl rfl base i0 _ hi hz0 hz1 hz2 rfl f.A f.bytes.length f.c (f.bytes.map byteCell) rfl hrow1 B Ab m cb l rfl hl hrd1 ?_ ?_ ?_; rotate_left 2; intro A' c' w2 hnew hold hgr hat; have hb12 := But.grown hgr; have hx2 := hb12.box HX1.out hx0w; have x2 := cell_of_heap hx2 0; have f2 := frozen_of_heap hx2 0; simp only [List.getElem?_toArray, List.getElem?_cons_zero] at x2; clear f0 x0)
    any_goals (first | (have := HROW.out; omega) | skip)
    obtain ⟨w3, hw3⟩ : ∃ w3, w2.setCell ⟨w.heap.size, 0, none⟩ (.slice A' (f.bytes.length + m) c') = w3 := ⟨_, rfl⟩
    have hb23 : But (fun b => b = w.heap.size) w2 w3 := by rw [← hw3]; exact (But.refl _ w2).set ⟨w.heap.size, 0, none⟩ _ (.inl rfl)
    have hx3 : w3.heap[w.heap.size]? = some (.cells #[.slice A' (f.bytes.length + m) c', .int .i64 (f.sure : Int)] 79 (0, 0)) := by rw [← hw3]; exact heap_setCells (i := 0) hx2
    have hb13 : But (fun b => f.sl.ownBlock = some b ∨ b = w.heap.size) w1 w3 := (hb12.mono (fun b _ e => .inl e)).trans hb23 (fun b _ e => .inr e)
    have hw1s := HB1.out.size
    have hbdl := (Array.getElem?_eq_some_iff.1 HD.out).1
    have hbnl := (Array.getElem?_eq_some_iff.1 HN.out).1
    have hd3 := hb13.box HD1.out (fun e => by rcases e with e | e; exact hown.1 e; omega)
    have hn3 := hb13.box HN1.out (fun e => by rcases e with e | e; exact hown.2.1 e; omega)
    have d3 := cell_of_heap hd3 0
    have n3 := cell_of_heap hn3 0
    have y0 := cell_of_heap hx3 0
    have y1 := cell_of_heap hx3 1
    simp only [List.getElem?_toArray, List.getElem?_cons_zero, List.getElem?_cons_succ] at d3 n3 y0 y1
    have hnewn : ∀ b, (Value.slice A' (f.bytes.length + m) c').ownBlock = some b → f.sl.ownBlock = some b ∨ b = w1.heap.size := fun b e => by
      rcases hat with e2 | e2
      · exact .inl (by rw [← e]; exact e2.symm)
      · rw [e2] at e
        injection e with e
        exact .inr e.symm
    have hnew3 := hb23.row hnew (fun g e1 e2 => by
      rcases hnewn g e1 with e | e
      · subst e2; exact hx0w e
      · omega)
    have hold3 := hb23.row hold (fun g e1 e2 => by subst e2; exact hx0w e1)
    have hown2 : ∀ b, f.sl.ownBlock = some b → base ≤ b := fun b e => (HROW.out.1.lt b e).1
    have hD3 : DAt w3 p Mb base s G := by
      refine HDA.out.rows hb13 (fun e => ?_) (fun e => ?_) (fun g hg => ?_)
      · rcases e with e | e
        · have := hown2 _ e; omega
        · omega
      · rcases e with e | e
        · have := hown2 _ e; omega
        · omega
      · by_cases e : g.name = strL x
        · rcases hf.2 with hm | ⟨hno, _⟩
          · have := sort_name H.out.sort hg hm (e.trans hf.1.symm)
            subst this
            exact hold3
          · exact absurd e (hno g hg)
        · refine hb13.row (HDA.out.row g hg) (fun b e1 e2 => ?_)
          rcases e2 with e2 | e2
          · exact fileOr_sep hf H.out hg e e2 e1
          · have := ((H.out.row g hg).lt b e1).2
            omega
    obtain ⟨f', hf'⟩ : ∃ f' : FileM, { f with bytes := f.bytes ++ l, A := A', c := c' } = f' := ⟨_, rfl⟩
    have hlen' : f'.bytes.length = f.bytes.length + m := by rw [← hf', ← hl]; exact List.length_append
    have hsl' : f'.sl = .slice A' (f.bytes.length + m) c' := by
      unfold FileM.sl
      rw [hlen', ← hf']
    have hset := set_any x f' w3 hD3 hxz (by rw [← hf']; exact hf.1)
      (by
        rw [hsl', hlen']
        have : f'.bytes.map byteCell = f.bytes.map byteCell ++ l.map byteCell := by rw [← hf']; exact List.map_append
        rw [this]
        exact hnew3)
      (fun g hg hne b e1 e2 => by
        rw [hsl'] at e1
        have hne2 : g.name ≠ strL x := by rw [← hf.1]; rw [← hf'] at hne; exact hne
        rcases hnewn b e1 with e | e
        · exact fileOr_sep hf H.out hg hne2 e e2
        · have := ((H.out.row g hg).lt b e2).2
          omega)
      (by
        have h3 := HROW.out.2.2
        have hnm : f'.name = strL x := by rw [← hf']; exact hf.1
        rw [hlen', hnm]
        omega)
      ⟨by rw [← hf']; show nameOK f.name = true; rw [hf.1]; exact hok, by rw [hlen', ← hf']; have := HROW.out.2.1; show f.sure ≤ _; omega⟩ hGl
    have hv' : f'.val = .agg #[.slice A' (f.bytes.length + m) c', .int .i64 (f.sure : Int)] := by
      unfold FileM.val
      rw [hsl', ← hf']
    rw [hv'] at hset
    rw [hw3]
    have HB13 := Lib.hid hb13
    have HF := Lib.hid hf'
    clear hw3 hb23 hx3 hb13 hd3 hn3 hnew3 hold3 hD3 hnew hold hgr hat hb12 hx2 x2 f2 hf' hlen' hsl' hv' b0 hrow1 hrd1
    go_wp2_with (go_at_call 41; (with_reducible refine hset.mono ?_); clear hset; rintro e w5 ⟨rfl, hD5, hb5⟩)
    go_end0
    refine ⟨rfl, A', c', ⟨by rw [HF.out]; exact hD5, fun b e => (hnewn b e).imp id (fun e => by omega)⟩, ?_⟩
    have h1 : But (fun b => DMay p Mb b ∨ f.sl.ownBlock = some b) w w1 := But.of_all HB1.out _
    exact (h1.trans HB13.out (fun b hb e => by rcases e with e | e; exact .inr e; omega)).trans hb5 (fun b _ e => .inl e)
end Go.Proofs
