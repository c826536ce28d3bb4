/-
  Down. Conditions: as each theorem names them.
-/
import Derived.Test.YtkipjlcbmiagcaaBut
import Derived.Test.YtkipjlcbmiagcaaNtE
namespace Go.Proofs
open Go Go.RowKit Sm Go.Lib Go.Maps Go.WideMaps
attribute [local go_sem] Oper.semAt_some
theorem Sm.NoNet.ptr {w : World} {v : Value} (h : NoNet w v) : ∃ r, v = .pointer r := by
  rcases h with rfl | ⟨q, rfl, _⟩
  · exact ⟨_, rfl⟩
  · exact ⟨_, rfl⟩
def Sm.cellsF (F : List FlW) : List Value := F.flatMap fun f => [.func (.func f.fn) #[] f.caps, .int .i64 f.why]
theorem Sm.cellsF_at : ∀ (F : List FlW) (j : Nat) (h : j < F.length), (cellsF F)[j * 2]? = some (.func (.func F[j].fn) #[] F[j].caps) ∧ (cellsF F)[j * 2 + 1]? = some (.int .i64 F[j].why)
  | f :: r, 0, _ => ⟨rfl, rfl⟩
  | f :: r, j + 1, h => by
    have ih := cellsF_at r j (by simpa using h)
    have e : cellsF (f :: r) = .func (.func f.fn) #[] f.caps :: .int .i64 f.why :: cellsF r := rfl
    rw [e, show (j + 1) * 2 = j * 2 + 1 + 1 by omega]
    exact ih
theorem Sm.first_new (F : List FlW) (v : Int) (hv : firstF F = v) (n : Nat) (w w2 : World) (cs : Array Value) (hcs : cs = (cellsF F).toArray) (hF : F.length = n) (hn : n ≤ 5) (hb : Below w.heap.size w w2) (hfn : ∀ f ∈ F, f.fn ∈ flNums)
    (hcall : ∀ j (h : j < F.length), (∀ f ∈ F.take j, f.is = false) → ∀ W, Below w2.heap.size w2 W → Calls Try.prog F[j].fn F[j].caps W fun e w' => e = .returned (.bool F[j].is) ∧ Below W.heap.size W w') :
    Calls Try.prog 32 #[.slice (some ⟨w2.heap.size, 0, none⟩) n n] (w2.alloc (.cells cs 78 (0, 0))) fun e w' => e = .returned (.int .i64 v) ∧ Below w.heap.size w w' := by
  subst hcs hv
  have hba : Below w2.heap.size w2 (w2.alloc (.cells (cellsF F).toArray 78 (0, 0))) := (Below.refl _ w2).alloc (Nat.le_refl _) _
  have hnew := World.alloc_heap_new w2 (.cells (cellsF F).toArray 78 (0, 0))
  have hsz : w2.heap.size < (w2.alloc (.cells (cellsF F).toArray 78 (0, 0))).heap.size := (Array.getElem?_eq_some_iff.1 hnew).1
  refine (first_any w2.heap.size n n F _ hn hF (Nat.le_refl _) ⟨hsz, fun j hj => ?_⟩ hfn (fun j hj ht W hW => hcall j hj ht W (hba.trans (hW.mono hba.size)))).mono ?_
  · obtain ⟨h1, h2⟩ := cellsF_at F j hj
    exact ⟨(cell_of_heap hnew _).trans (by simpa using h1), (cell_of_heap hnew _).trans (by simpa using h2)⟩
  · rintro e w' ⟨rfl, h⟩
    exact ⟨rfl, hb.trans ((hba.trans (h.mono hba.size)).mono hb.size)⟩
set_option maxRecDepth 100000 in
set_option maxHeartbeats 1000000 in
theorem Sm.down_no {v : Value} (x y : Int) (is : Bool) (w : World) (h : NoNet w v) : Calls Try.prog 18 #[v, .int .i64 x, .int .i64 y, .bool is] w fun e w' => e = .returned (.int .i64 1) ∧ Below w.heap.size w w' := by
  obtain ⟨r, rfl⟩ := h.ptr
  have h0 := none_any r w
  have HH := Lib.hid h
  clear h
  go_enter Try.func18, Try.ntmps18
  go_wp2_with (first
    | (go_at_call 33; (with_reducible refine h0.mono ?_); clear h0; rintro e w1 ⟨rfl, hx1, hb1⟩; have HX1 := Lib.hid hx1; have HB1 := Lib.hid hb1; have h1 := noLink_any r x y w1; clear hx1 hb1)
    | (go_at_call 34; (with_reducible refine h1.mono ?_); clear h1; rintro e w2 ⟨rfl, hn1, hn2, hn3, hb2⟩; have HX2 := Lib.hid hn1; have HX3 := Lib.hid hn2; have HX4 := Lib.hid hn3; have HB2 := Lib.hid hb2; clear hn1 hn2 hn3 hb2;
        have hf := first_new [⟨59, #[.pointer (some ⟨w.heap.size, 0, none⟩)], 1, true⟩, ⟨60, #[.pointer (some ⟨w1.heap.size, 0, none⟩), .pointer (some ⟨w1.heap.size + 1, 0, none⟩), .pointer (some ⟨w1.heap.size + 2, 0, none⟩)], 2, true⟩] 1 rfl 2 w w2 #[.func (.func 59) #[] #[.pointer (some ⟨w.heap.size, 0, none⟩)], .int .i64 1, .func (.func 60) #[] #[.pointer (some ⟨w1.heap.size, 0, none⟩), .pointer (some ⟨w1.heap.size + 1, 0, none⟩), .pointer (some ⟨w1.heap.size + 2, 0, none⟩)], .int .i64 2] rfl rfl (by omega) (HB1.out.trans (HB2.out.mono HB1.out.size)) (by simp [flNums]) (fun j hj ht W hW => by
          have hbW : Below w.heap.size w W := (HB1.out.trans (HB2.out.mono HB1.out.size)).trans (hW.mono (HB1.out.trans (HB2.out.mono HB1.out.size)).size)
          match j, hj, ht with
          | 0, _, _ => exact none1_no w.heap.size W (HH.out.keep hbW) (((HB2.out.trans (hW.mono HB2.out.size)).block _ (Array.getElem?_eq_some_iff.1 HX1.out).1).trans HX1.out)
          | 1, _, ht => exact absurd (ht _ (List.mem_cons_self ..)) (by simp)))
    | (go_at_call 32; (with_reducible refine hf.mono ?_); clear hf; rintro e w3 ⟨rfl, hb3⟩; have HB3 := Lib.hid hb3; clear hb3))
  go_ret
  exact ⟨by rfl, HB3.out⟩
def Sm.downL (is : Bool) (x y : Int) (D : List (Int × Int)) : List (Int × Int) := if is then delL (x, y) D ++ [(x, y)] else delL (x, y) D
def Sm.NMay (p Mb : Nat) : Nat → Prop := fun b => b = p ∨ b = Mb
theorem Sm.lnkB_i64 {s : NSt} {x y : Int} (h : lnkB s x y = true) (hs : s.ends ≤ 64) : 0 ≤ x ∧ x < s.ends ∧ 0 ≤ y ∧ y < s.ends ∧ I64 x ∧ I64 y := by
  unfold lnkB wiB at h
  simp only [Bool.and_eq_true, decide_eq_true_eq] at h
  obtain ⟨⟨h1, h2⟩, h3, h4⟩ := h
  refine ⟨h1, by omega, h3, by omega, ⟨by omega, by omega⟩, ⟨by omega, by omega⟩⟩
set_option maxRecDepth 100000 in
set_option maxHeartbeats 1000000 in
theorem Sm.down_bad {p Mb base : Nat} {s : NSt} {D : List (Int × Int)} {A : Option Addr} {cap : Nat} {L : List MsgM} (x y : Int) (is : Bool) (w : World) (h : NAt w p Mb base s D A cap L) (hl : lnkB s x y = false) :
    Calls Try.prog 18 #[.pointer (some ⟨p, 0, none⟩), .int .i64 x, .int .i64 y, .bool is] w fun e w' => e = .returned (.int .i64 2) ∧ Below w.heap.size w w' := by
  have h0 := none_any (some ⟨p, 0, none⟩) w
  have HH := Lib.hid h
  have HL := Lib.hid hl
  clear h hl
  go_enter Try.func18, Try.ntmps18
  go_wp2_with (first
    | (go_at_call 33; (with_reducible refine h0.mono ?_); clear h0; rintro e w1 ⟨rfl, hx1, hb1⟩; have HX1 := Lib.hid hx1; have HB1 := Lib.hid hb1; have h1 := noLink_any (some ⟨p, 0, none⟩) x y w1; clear hx1 hb1)
    | (go_at_call 34; (with_reducible refine h1.mono ?_); clear h1; rintro e w2 ⟨rfl, hn1, hn2, hn3, hb2⟩; have HX2 := Lib.hid hn1; have HX3 := Lib.hid hn2; have HX4 := Lib.hid hn3; have HB2 := Lib.hid hb2; clear hn1 hn2 hn3 hb2;
        have hf := first_new [⟨59, #[.pointer (some ⟨w.heap.size, 0, none⟩)], 1, false⟩, ⟨60, #[.pointer (some ⟨w1.heap.size, 0, none⟩), .pointer (some ⟨w1.heap.size + 1, 0, none⟩), .pointer (some ⟨w1.heap.size + 2, 0, none⟩)], 2, true⟩] 2 rfl 2 w w2 #[.func (.func 59) #[] #[.pointer (some ⟨w.heap.size, 0, none⟩)], .int .i64 1, .func (.func 60) #[] #[.pointer (some ⟨w1.heap.size, 0, none⟩), .pointer (some ⟨w1.heap.size + 1, 0, none⟩), .pointer (some ⟨w1.heap.size + 2, 0, none⟩)], .int .i64 2] rfl rfl (by omega) (HB1.out.trans (HB2.out.mono HB1.out.size)) (by simp [flNums]) (fun j hj ht W hW => by
          have hbW : Below w.heap.size w W := (HB1.out.trans (HB2.out.mono HB1.out.size)).trans (hW.mono (HB1.out.trans (HB2.out.mono HB1.out.size)).size)
          have hk2 : ∀ {b : Nat} {o : Obj}, w2.heap[b]? = some o → W.heap[b]? = some o := fun {b o} h1 => (hW.block _ (Array.getElem?_eq_some_iff.1 h1).1).trans h1
          match j, hj, ht with
          | 0, _, _ => exact none1_yes w.heap.size W (HH.out.keep hbW) (hk2 ((HB2.out.block _ (Array.getElem?_eq_some_iff.1 HX1.out).1).trans HX1.out))
          | 1, _, _ =>
            have h9 := noLink1_any w1.heap.size (w1.heap.size + 1) (w1.heap.size + 2) x y W (HH.out.keep hbW) (hk2 HX2.out) (hk2 HX3.out) (hk2 HX4.out)
            rw [HL.out] at h9
            exact h9))
    | (go_at_call 32; (with_reducible refine hf.mono ?_); clear hf; rintro e w3 ⟨rfl, hb3⟩; have HB3 := Lib.hid hb3; clear hb3))
  go_ret
  exact ⟨by rfl, HB3.out⟩
theorem Sm.turned_but {w w' : World} {b : Nat} (h : w.mapTurned w' b) : But (fun x => x = b) w w' := by
  have := But.grown h.grown
  exact this.mono (fun x _ e => by injection e with e; exact e.symm)
theorem Sm.len_in : ∀ (U D : List (Int × Int)), D.Nodup → (∀ x ∈ D, x ∈ U) → D.length ≤ U.length
  | [], D, _, h => by
    cases D with
    | nil => exact Nat.le_refl _
    | cons x r => exact absurd (h x (List.mem_cons_self ..)) (by simp)
  | u :: r, D, hn, h => by
    have ih := len_in r (delL u D) (hn.filter _) (fun x hx => by
      obtain ⟨h1, h2⟩ := mem_delL.1 hx
      rcases List.mem_cons.1 (h x h1) with e | e
      · exact absurd e h2
      · exact e)
    have h2 := len_delL (x := u) hn
    rw [List.length_cons]
    split at h2 <;> omega
def Sm.allU : List (Int × Int) := (List.range 64).flatMap fun (i : Nat) => (List.range 64).map fun (j : Nat) => ((i : Int), (j : Int))
theorem Sm.allU_mem {x : Int × Int} (h1 : 0 ≤ x.1) (h2 : x.1 < 64) (h3 : 0 ≤ x.2) (h4 : x.2 < 64) : x ∈ allU := by
  unfold allU
  rw [List.mem_flatMap]
  refine ⟨x.1.toNat, List.mem_range.2 (by omega), List.mem_map.2 ⟨x.2.toNat, List.mem_range.2 (by omega), ?_⟩⟩
  obtain ⟨a, b⟩ := x
  simp only at h1 h3
  simp only [Int.toNat_of_nonneg h1, Int.toNat_of_nonneg h3]
theorem Sm.NAt.many {w : World} {p Mb base : Nat} {s : NSt} {D : List (Int × Int)} {A : Option Addr} {cap : Nat} {L : List MsgM} (h : NAt w p Mb base s D A cap L) : D.length ≤ 4096 := by
  obtain ⟨M, _, hD⟩ := h.map
  have h1 := len_in allU D hD.nodup (fun x hx => by
    have h2 := h.lnk x hx
    have h3 := h.lim.2.1
    exact allU_mem h2.1 (by omega) h2.2.2.1 (by omega))
  have h2 : allU.length = 4096 := by
    unfold allU
    simp only [List.length_flatMap, List.length_map, List.length_range]
    decide
  omega
/-- a net with other links down -/
theorem Sm.NAt.links {w W : World} {p Mb base : Nat} {s : NSt} {D D' : List (Int × Int)} {A : Option Addr} {cap : Nat} {L : List MsgM} (h : NAt w p Mb base s D A cap L) (hb : But (fun b => b = Mb) w W)
    (hmap : ∃ M, W.ownsMap Try.prog 94 heldElem Mb D'.length M ∧ LnkIs M D') (hl : ∀ x ∈ D', 0 ≤ x.1 ∧ x.1 < s.ends ∧ 0 ≤ x.2 ∧ x.2 < s.ends) : NAt W p Mb base s D' A cap L ∧ But (NMay p Mb) w W := by
  obtain ⟨l1, l2, l3, l4⟩ := h.low
  refine ⟨⟨hb.box h.blk (fun e => l3 e), hmap, hb.row h.row (fun g e1 e2 => ?_), fun m hm => hb.row (h.byt m hm) (fun g e1 e2 => ?_), h.sep, ⟨l1, l2, l3, Nat.le_trans l4 hb.size⟩, h.lim, hl, h.msg⟩, hb.mono (fun b _ e => .inr e)⟩
  · have := (h.row.lt g e1).1
    omega
  · have := ((h.byt m hm).lt g e1).1
    omega
set_option maxRecDepth 100000 in
set_option maxHeartbeats 1000000 in
theorem Sm.down_yes {p Mb base : Nat} {s : NSt} {D : List (Int × Int)} {A : Option Addr} {cap : Nat} {L : List MsgM} (x y : Int) (is : Bool) (w : World) (h : NAt w p Mb base s D A cap L) (hl : lnkB s x y = true) :
    Calls Try.prog 18 #[.pointer (some ⟨p, 0, none⟩), .int .i64 x, .int .i64 y, .bool is] w fun e w' => e = .returned (.int .i64 0) ∧ NAt w' p Mb base s (downL is x y D) A cap L ∧ But (NMay p Mb) w w' := by
  have h0 := none_any (some ⟨p, 0, none⟩) w
  have HH := Lib.hid h
  have HL := Lib.hid hl
  clear h hl
  have hcl := (lnkB_i64 HL.out HH.out.lim.2.1)
  obtain ⟨M, hM, hD⟩ := HH.out.map
  have hkey := lnk_key hcl.2.2.2.2.1 hcl.2.2.2.2.2
  have hsz : D.length < maxLen := by have := HH.out.many; unfold maxLen; omega
  have HSZ := Lib.hid hsz
  have HM := Lib.hid hM
  have HD := Lib.hid hD
  have HCL := Lib.hid hcl
  unfold lnkV at hkey
  have HKEY := Lib.hid hkey
  clear hM hD hcl hkey
  cases is with
  | true => 
    go_enter Try.func18, Try.ntmps18
    go_wp2_with (first
      | (go_at_call 33; (with_reducible refine h0.mono ?_); clear h0; rintro e w1 ⟨rfl, hx1, hb1⟩; have HX1 := Lib.hid hx1; have HB1 := Lib.hid hb1; have h1 := noLink_any (some ⟨p, 0, none⟩) x y w1; clear hx1 hb1)
      | (go_at_call 34; (with_reducible refine h1.mono ?_); clear h1; rintro e w2 ⟨rfl, hn1, hn2, hn3, hb2⟩; have HX2 := Lib.hid hn1; have HX3 := Lib.hid hn2; have HX4 := Lib.hid hn3; have HB2 := Lib.hid hb2; clear hn1 hn2 hn3 hb2;
          have hf := first_new [⟨59, #[.pointer (some ⟨w.heap.size, 0, none⟩)], 1, false⟩, ⟨60, #[.pointer (some ⟨w1.heap.size, 0, none⟩), .pointer (some ⟨w1.heap.size + 1, 0, none⟩), .pointer (some ⟨w1.heap.size + 2, 0, none⟩)], 2, false⟩] 0 rfl 2 w w2 #[.func (.func 59) #[] #[.pointer (some ⟨w.heap.size, 0, none⟩)], .int .i64 1, .func (.func 60) #[] #[.pointer (some ⟨w1.heap.size, 0, none⟩), .pointer (some ⟨w1.heap.size + 1, 0, none⟩), .pointer (some ⟨w1.heap.size + 2, 0, none⟩)], .int .i64 2] rfl rfl (by omega) (HB1.out.trans (HB2.out.mono HB1.out.size)) (by simp [flNums]) (fun j hj ht W hW => by
            have hbW : Below w.heap.size w W := (HB1.out.trans (HB2.out.mono HB1.out.size)).trans (hW.mono (HB1.out.trans (HB2.out.mono HB1.out.size)).size)
            have hk2 : ∀ {b : Nat} {o : Obj}, w2.heap[b]? = some o → W.heap[b]? = some o := fun {b o} h1 => (hW.block _ (Array.getElem?_eq_some_iff.1 h1).1).trans h1
            match j, hj, ht with
            | 0, _, _ => exact none1_yes w.heap.size W (HH.out.keep hbW) (hk2 ((HB2.out.block _ (Array.getElem?_eq_some_iff.1 HX1.out).1).trans HX1.out))
            | 1, _, _ =>
              have h9 := noLink1_any w1.heap.size (w1.heap.size + 1) (w1.heap.size + 2) x y W (HH.out.keep hbW) (hk2 HX2.out) (hk2 HX3.out) (hk2 HX4.out)
              rw [HL.out] at h9
              exact h9))
      | (go_at_call 32; (with_reducible refine hf.mono ?_); clear hf; rintro e w3 ⟨rfl, hb3⟩; have HB3 := Lib.hid hb3; have d3 := cell_of_heap ((HH.out.keep hb3).blk) 3; simp only [List.getElem?_toArray, List.getElem?_cons_succ, List.getElem?_cons_zero] at d3; have hM3 := map_keep HM.out (hb3.block _ HM.out.lt); clear hb3)
      | (at_mapUpdate; refine wpList_mapUpdate_own _ rfl _ _ _ 32 rfl 94 92 law94 Try.underlying32 heldElem Mb _ M rfl hM3 HSZ.out _ _ _ rfl rfl HKEY.out (.held unitV) [] rfl ?_; intro w4 hown4 hgrow4))
    have hb34 : But (fun b => b = Mb) w3 w4 := (But.grown hgrow4).mono (fun x _ e => by injection e with e; exact e.symm)
    have hb04 : But (fun b => b = Mb) w w4 := (But.of_all HB3.out _).trans hb34 (fun b _ e => e)
    have hM4 := HD.out.put HCL.out.2.2.2.2.1 HCL.out.2.2.2.2.2
    have ho4 := map_tight hown4
    rw [hM4.len] at ho4
    have hfin := HH.out.links hb04 ⟨_, ho4, hM4⟩ (fun z hz => by
      rw [List.mem_append, mem_delL, List.mem_singleton] at hz
      rcases hz with hz | rfl
      · exact HH.out.lnk z hz.1
      · exact ⟨HCL.out.1, HCL.out.2.1, HCL.out.2.2.1, HCL.out.2.2.2.1⟩)
    go_ret
    exact ⟨by rfl, hfin⟩
  | false =>
    go_enter Try.func18, Try.ntmps18
    go_wp2_with (first
      | (go_at_call 33; (with_reducible refine h0.mono ?_); clear h0; rintro e w1 ⟨rfl, hx1, hb1⟩; have HX1 := Lib.hid hx1; have HB1 := Lib.hid hb1; have h1 := noLink_any (some ⟨p, 0, none⟩) x y w1; clear hx1 hb1)
      | (go_at_call 34; (with_reducible refine h1.mono ?_); clear h1; rintro e w2 ⟨rfl, hn1, hn2, hn3, hb2⟩; have HX2 := Lib.hid hn1; have HX3 := Lib.hid hn2; have HX4 := Lib.hid hn3; have HB2 := Lib.hid hb2; clear hn1 hn2 hn3 hb2;
          have hf := first_new [⟨59, #[.pointer (some ⟨w.heap.size, 0, none⟩)], 1, false⟩, ⟨60, #[.pointer (some ⟨w1.heap.size, 0, none⟩), .pointer (some ⟨w1.heap.size + 1, 0, none⟩), .pointer (some ⟨w1.heap.size + 2, 0, none⟩)], 2, false⟩] 0 rfl 2 w w2 #[.func (.func 59) #[] #[.pointer (some ⟨w.heap.size, 0, none⟩)], .int .i64 1, .func (.func 60) #[] #[.pointer (some ⟨w1.heap.size, 0, none⟩), .pointer (some ⟨w1.heap.size + 1, 0, none⟩), .pointer (some ⟨w1.heap.size + 2, 0, none⟩)], .int .i64 2] rfl rfl (by omega) (HB1.out.trans (HB2.out.mono HB1.out.size)) (by simp [flNums]) (fun j hj ht W hW => by
            have hbW : Below w.heap.size w W := (HB1.out.trans (HB2.out.mono HB1.out.size)).trans (hW.mono (HB1.out.trans (HB2.out.mono HB1.out.size)).size)
            have hk2 : ∀ {b : Nat} {o : Obj}, w2.heap[b]? = some o → W.heap[b]? = some o := fun {b o} h1 => (hW.block _ (Array.getElem?_eq_some_iff.1 h1).1).trans h1
            match j, hj, ht with
            | 0, _, _ => exact none1_yes w.heap.size W (HH.out.keep hbW) (hk2 ((HB2.out.block _ (Array.getElem?_eq_some_iff.1 HX1.out).1).trans HX1.out))
            | 1, _, _ =>
              have h9 := noLink1_any w1.heap.size (w1.heap.size + 1) (w1.heap.size + 2) x y W (HH.out.keep hbW) (hk2 HX2.out) (hk2 HX3.out) (hk2 HX4.out)
              rw [HL.out] at h9
              exact h9))
      | (go_at_call 32; (with_reducible refine hf.mono ?_); clear hf; rintro e w3 ⟨rfl, hb3⟩; have HB3 := Lib.hid hb3; have d3 := cell_of_heap ((HH.out.keep hb3).blk) 3; simp only [List.getElem?_toArray, List.getElem?_cons_succ, List.getElem?_cons_zero] at d3; have hM3 := map_keep HM.out (hb3.block _ HM.out.lt); clear hb3)
      | (at_delete; refine wpList_delete_own _ rfl _ _ 32 94 rfl 92 law94 Try.underlying32 heldElem Mb _ M rfl hM3 _ _ rfl HKEY.out ?_; intro w4 hown4 hturn4))
    have hb34 := turned_but hturn4
    have hb04 : But (fun b => b = Mb) w w4 := (But.of_all HB3.out _).trans hb34 (fun b _ e => e)
    have hM4 := HD.out.del HCL.out.2.2.2.2.1 HCL.out.2.2.2.2.2
    have ho4 := map_tight hown4
    rw [hM4.len] at ho4
    have hfin := HH.out.links hb04 ⟨_, ho4, hM4⟩ (fun z hz => HH.out.lnk z (mem_delL.1 hz).1)
    go_ret
    exact ⟨by rfl, hfin⟩
end Go.Proofs
