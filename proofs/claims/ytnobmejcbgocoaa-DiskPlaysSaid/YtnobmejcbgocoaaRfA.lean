/-
  The document's files in memory: a row, each file's bytes outside what the program's disk may turn; without: files but that of a name. Conditions: as each theorem names them.
-/
import Derived.Deep.CutRange
import Derived.Deep.DeepCutAuto
import Derived.Maps.AppendAt
import Derived.Test.YtnobmejcbgocoaaLwE
namespace Go.Proofs
open Go Go.RowKit Sm Go.Lib Go.Maps Go.WideMaps
attribute [local go_sem] Oper.semAt_some
/-- a file of the document's: its data, where the bytes lie -/
structure Sm.FileR where
  t : List (BitVec 8) × List (BitVec 8) × Nat
  A : Option Addr
  c : Nat
def Sm.FileR.cells (f : FileR) : List Value := [.string (strB f.t.1), .slice f.A f.t.2.1.length f.c, .int .i64 (f.t.2.2 : Int)]
def Sm.FOk (S : Nat → Prop) (W : World) (f : FileR) : Prop := Rds W S f.A (f.t.2.1.map byteCell) ∧ f.t.2.1.length ≤ f.c ∧ f.c ≤ 9223372036854775807
def Sm.FsAt (S : Nat → Prop) (W : World) (A : Option Addr) (fs : List FileR) : Prop :=
  (0 < fs.length → ∃ b off, A = some ⟨b, off, none⟩ ∧ b < W.heap.size ∧ ¬ S b ∧ ∀ j f, fs[j]? = some f → ∀ i v, f.cells[i]? = some v → W.cell? ⟨b, off + j * 3 + i, none⟩ = some v) ∧ ∀ f ∈ fs, FOk S W f
theorem Sm.Rds.less {W : World} {S S' : Nat → Prop} {A : Option Addr} {cs : List Value} (h : Rds W S A cs) (hS : ∀ b, b < W.heap.size → S' b → S b) : Rds W S' A cs := fun h0 => by
  obtain ⟨b, off, e, hb, hn, hc⟩ := h h0
  exact ⟨b, off, e, hb, fun e2 => hn (hS b hb e2), hc⟩
theorem Sm.FOk.but {S S' : Nat → Prop} {W W' : World} {f : FileR} (h : FOk S W f) (hb : But S' W W') (hS : ∀ b, S' b → S b) : FOk S W' f := ⟨h.1.but hb hS, h.2⟩
theorem Sm.FOk.less {S S' : Nat → Prop} {W : World} {f : FileR} (h : FOk S W f) (hS : ∀ b, b < W.heap.size → S' b → S b) : FOk S' W f := ⟨h.1.less hS, h.2⟩
theorem Sm.FsAt.but {S S' : Nat → Prop} {W W' : World} {A : Option Addr} {fs : List FileR} (h : FsAt S W A fs) (hb : But S' W W') (hS : ∀ b, S' b → S b) : FsAt S W' A fs :=
  ⟨fun h0 => by
    obtain ⟨b, off, e, hlt, hn, hc⟩ := h.1 h0
    exact ⟨b, off, e, Nat.lt_of_lt_of_le hlt hb.size, hn, fun j f hj i v hi => (hb.cell (p := ⟨b, off + j * 3 + i, none⟩) hlt (fun e2 => hn (hS _ e2))).trans (hc j f hj i v hi)⟩, fun f hf => (h.2 f hf).but hb hS⟩
theorem Sm.FsAt.keep {S : Nat → Prop} {W W' : World} {A : Option Addr} {fs : List FileR} (h : FsAt S W A fs) (hb : Below W.heap.size W W') : FsAt S W' A fs := h.but (But.of_all hb (fun _ => False)) (fun _ e => e.elim)
theorem Sm.FsAt.less {S S' : Nat → Prop} {W : World} {A : Option Addr} {fs : List FileR} (h : FsAt S W A fs) (hS : ∀ b, b < W.heap.size → S' b → S b) : FsAt S' W A fs :=
  ⟨fun h0 => by
    obtain ⟨b, off, e, hlt, hn, hc⟩ := h.1 h0
    exact ⟨b, off, e, hlt, fun e2 => hn (hS b hlt e2), hc⟩, fun f hf => (h.2 f hf).less hS⟩
theorem Sm.flat_get : ∀ (fs : List FileR) (j : Nat) (f : FileR), fs[j]? = some f → ∀ (i : Nat) (v : Value), f.cells[i]? = some v → (fs.flatMap FileR.cells)[j * 3 + i]? = some v
  | [], _, _, h, _, _, _ => by simp at h
  | g :: r, 0, f, h, i, v, hi => by
    simp only [List.getElem?_cons_zero, Option.some.injEq] at h
    subst h
    have hl : i < g.cells.length := (List.getElem?_eq_some_iff.1 hi).1
    rw [List.flatMap_cons, Nat.zero_mul, Nat.zero_add, List.getElem?_append_left hl]
    exact hi
  | g :: r, j + 1, f, h, i, v, hi => by
    rw [List.getElem?_cons_succ] at h
    have ih := flat_get r j f h i v hi
    rw [List.flatMap_cons, List.getElem?_append_right (by show 3 ≤ _; omega)]
    show (r.flatMap FileR.cells)[(j + 1) * 3 + i - 3]? = _
    rw [show (j + 1) * 3 + i - 3 = j * 3 + i by omega]
    exact ih
/-- a row of its own is read -/
theorem Sm.FsAt.of_own {S : Nat → Prop} {W : World} {base n c : Nat} {A : Option Addr} {fs : List FileR} (h : W.ownsRow base 59 3 (.slice A n c) n (fs.flatMap FileR.cells)) (hn : fs.length = n) (hS : ∀ b, S b → b < base) (hf : ∀ f ∈ fs, FOk S W f) : FsAt S W A fs := by
  refine ⟨fun h0 => ?_, hf⟩
  obtain ⟨g, cap, hv, _⟩ := h.form (by omega)
  injection hv with hv1 hv2 hv3
  subst hv1
  have hlt := h.lt g rfl
  refine ⟨g, 0, rfl, hlt.2, fun e => by have := hS g e; omega, fun j f hj i v hi => ?_⟩
  have h1 := flat_get fs j f hj i v hi
  have hjl := (List.getElem?_eq_some_iff.1 hj).1
  have hil : i < 3 := (List.getElem?_eq_some_iff.1 hi).1
  rw [Nat.zero_add, h.cellAt (j * 3 + i) (by omega)]
  exact h1
theorem Sm.cell_row_new (w : World) (cs : List Value) (t : TypeId) : ∀ (j : Nat) (u : Value), cs[j]? = some u → (w.alloc (.cells cs.toArray t)).cell? ((⟨w.heap.size, 0, none⟩ : Addr).add j) = some u := fun j u hj => by
  have h := cell_of_heap (World.alloc_heap_new w (.cells cs.toArray t)) j
  rw [List.getElem?_toArray, hj] at h
  have e : ((⟨w.heap.size, 0, none⟩ : Addr).add j) = ⟨w.heap.size, j, none⟩ := by rw [Go.WideShapes.add_plain, Nat.zero_add]
  rw [e]
  exact h
theorem Sm.refInfo59 : (Try.prog.info? 59).map (fun i => (i.zero, i.size, i.bytes)) = some (some (.agg #[.string ByteArray.empty, .slice none 0 0, .int .i64 0]), 3, 48) := by kernel_rfl
theorem Sm.own3_slice {w : World} {base : Nat} {e : TypeId} {s : Nat} {v : Value} {n : Nat} {xs : List Value} (h : w.ownsRow base e s v n xs) : ∃ A c, v = .slice A n c := by
  rcases h.2 with ⟨h1, h2⟩ | ⟨g, cap, cur, h1, _⟩
  · subst h2; exact ⟨none, 0, h1⟩
  · exact ⟨_, _, h1⟩
def Sm.delR (nm : List (BitVec 8)) (fs : List FileR) : List FileR := fs.filter fun f => !(decide (f.t.1 = nm))
theorem Sm.delR_map (nm : List (BitVec 8)) (fs : List FileR) : (delR nm fs).map (fun f => f.t) = delL nm (fs.map fun f => f.t) := by
  unfold delR delL
  rw [List.filter_map]
  rfl
set_option maxRecDepth 100000 in
set_option maxHeartbeats 2000000 in
theorem Sm.without_any {S : Nat → Prop} (A : Option Addr) (n c : Nat) (fs : List FileR) (x : ByteArray) (w : World) (h : FsAt S w A fs) (hn : fs.length = n) (hn2 : n ≤ 1000000) :
    Calls Try.prog 72 #[.slice A n c, .string x] w fun e w' => ∃ v, e = .returned v ∧ w'.ownsRow w.heap.size 59 3 v (delR (strL x) fs).length ((delR (strL x) fs).flatMap FileR.cells) ∧ Below w.heap.size w w' := by
  have H := Lib.hid h
  have HN := Lib.hid hn
  have hnI : (n : Int) ≤ 1000000 := by omega
  obtain ⟨i0, hi, hz⟩ : ∃ i, Try.prog.info? 59 = some i ∧ (i.zero, i.size, i.bytes) = (some (.agg #[.string ByteArray.empty, .slice none 0 0, .int .i64 0]), 3, 48) := by
    have := refInfo59
    obtain ⟨i, h1, h2⟩ := Option.map_eq_some_iff.1 this
    exact ⟨i, h1, h2⟩
  simp only [Prod.mk.injEq] at hz
  obtain ⟨hz0, hz1, hz2⟩ := hz
  clear h hn
  go_enter Try.func72, Try.ntmps72
  go_wp2
  go_loopw [5, 6] (fun v5 v6 wr => ∃ (k : Nat) (vd : Value), k ≤ n ∧ v5 = vd ∧ v6 = .int .i64 (k : Int) ∧ Hid (wr.ownsRow w.heap.size 59 3 vd (delR (strL x) (fs.take k)).length ((delR (strL x) (fs.take k)).flatMap FileR.cells)) ∧ Hid (Below w.heap.size w wr)) (fun _ v6 _ => n - (RowKit.intOf v6).toNat)
  case atStart => exact ⟨0, _, Nat.zero_le _, rfl, rfl, Lib.hid (World.ownsRow_nil _ _ _ _), Lib.hid (Below.refl _ _)⟩
  case round =>
    obtain ⟨wo, rfl⟩ : ∃ wo : World, wo = wr := ⟨_, rfl⟩
    obtain ⟨k, vd, hk, e5, rfl, HO, HB⟩ := hrel
    obtain ⟨Ao, co, rfl⟩ := own3_slice HO.out
    subst e5
    by_cases hlt : k < n
    · have hkx : k < fs.length := by rw [HN.out]; exact hlt
      obtain ⟨b, off, rfl, hb, _, hcl⟩ := (H.out.keep HB.out).1 (by omega)
      obtain ⟨f, hf⟩ : ∃ f, fs[k] = f := ⟨_, rfl⟩
      have hfk : fs[k]? = some f := by rw [List.getElem?_eq_getElem hkx, hf]
      have hcl2 := hcl k f hfk
      have q0 : wo.cell? ⟨b, off + k * 3, none⟩ = some (.string (strB f.t.1)) := hcl2 0 _ rfl
      have q1 : wo.cell? ⟨b, off + k * 3 + 1, none⟩ = some (.slice f.A f.t.2.1.length f.c) := hcl2 1 _ rfl
      have q2 : wo.cell? ⟨b, off + k * 3 + 2, none⟩ = some (.int .i64 (f.t.2.2 : Int)) := hcl2 2 _ rfl
      have htk : fs.take (k + 1) = fs.take k ++ [f] := by rw [← hf]; exact List.take_succ_eq_append_getElem hkx
      have hcmp : ((strB f.t.1).toList == x.toList) = decide (f.t.1 = strL x) := by rw [str_cmp, strL_strB]
      have HYES : Hid (decide (f.t.1 = strL x) = true → delR (strL x) (fs.take (k + 1)) = delR (strL x) (fs.take k)) := Lib.hid fun e => by
        unfold delR
        rw [htk, List.filter_append, List.filter_cons_of_neg (by rw [e]; decide), List.filter_nil, List.append_nil]
      have HNO : Hid (decide (f.t.1 = strL x) = false → delR (strL x) (fs.take (k + 1)) = delR (strL x) (fs.take k) ++ [f]) := Lib.hid fun e => by
        unfold delR
        rw [htk, List.filter_append, List.filter_cons_of_pos (by rw [e]; decide), List.filter_nil]
      obtain ⟨nm, hnm⟩ : ∃ nm, strB f.t.1 = nm := ⟨_, rfl⟩
      obtain ⟨lb, hlb⟩ : ∃ lb, f.t.2.1.length = lb := ⟨_, rfl⟩
      obtain ⟨sv, hsv⟩ : ∃ sv, f.t.2.2 = sv := ⟨_, rfl⟩
      have hcells : f.cells = [.string nm, .slice f.A lb f.c, .int .i64 (sv : Int)] := by unfold FileR.cells; rw [hnm, hlb, hsv]
      have HCELLS := Lib.hid hcells
      rw [hnm] at q0 hcmp
      rw [hlb] at q1
      rw [hsv] at q2
      have hlen : (delR (strL x) (fs.take k)).length ≤ n := Nat.le_trans (List.length_filter_le _ _) (by rw [List.length_take]; omega)
      clear hcl hcl2 htk hnm hlb hsv hcells hfk hf
      cases hd : decide (f.t.1 = strL x) with
      | true =>
        rw [hd] at hcmp
        have HO2 : Hid (wo.ownsRow w.heap.size 59 3 (.slice Ao (delR (strL x) (fs.take k)).length co) (delR (strL x) (fs.take (k + 1))).length ((delR (strL x) (fs.take (k + 1))).flatMap FileR.cells)) := Lib.hid (by rw [HYES.out hd]; exact HO.out)
        clear hd
        go_wp2
        go_roundw
        case rel => exact ⟨k + 1, _, by omega, rfl, by go_num, HO2, HB⟩
        case measure => simp [RowKit.intOf]; omega
      | false =>
        rw [hd] at hcmp
        have hbs := HB.out.size
        obtain ⟨m, hm⟩ : ∃ m, (delR (strL x) (fs.take k)).length = m := ⟨_, rfl⟩
        rw [hm] at HO hlen
        have hown := HO.out
        have HM := Lib.hid hm
        clear hm
        rw [HM.out]
        go_wp2_with (at_builtin; refine wpList_append_own_at _ rfl (.tmp 20) (.tmp 25) 26 rfl w.heap.size 59 i0 _ 3 48 Try.underlying26 hi hz0 hz1 hz2 rfl (by decide) _ m _ rfl (hown.alloc _) ⟨wo.heap.size, 0, none⟩ 1 1 [.string nm, .slice f.A lb f.c, .int .i64 (sv : Int)] rfl rfl (cell_row_new _ _ _) (by simp [Value.oneCell']) (by unfold maxLen; omega) (by omega) (by simp; omega) ?_; intro v3 w3 hown3 hg3 _ _)
        have HO3 : Hid (w3.ownsRow w.heap.size 59 3 v3 (delR (strL x) (fs.take (k + 1))).length ((delR (strL x) (fs.take (k + 1))).flatMap FileR.cells)) := Lib.hid (by
          rw [HNO.out hd, List.length_append, List.flatMap_append, HM.out]
          show w3.ownsRow w.heap.size 59 3 v3 (m + 1) (_ ++ (f.cells ++ []))
          rw [List.append_nil, HCELLS.out]
          exact hown3)
        have HB3 : Hid (Below w.heap.size w w3) := Lib.hid (HB.out.trans ((((Below.refl _ wo).alloc (Nat.le_refl _) _).mono hbs).trans ((But.grown hg3).to_below (by simp; omega) (fun b e => (hown.lt b e).1))))
        clear hown hown3 hg3 HO hd
        go_roundw
        case rel => exact ⟨k + 1, _, by omega, rfl, by go_num, HO3, HB3⟩
        case measure => simp [RowKit.intOf]; omega
    · obtain rfl : k = n := by omega
      have hdel : delR (strL x) (fs.take k) = delR (strL x) fs := by rw [List.take_of_length_le (by rw [HN.out]; exact Nat.le_refl _)]
      rw [hdel] at HO
      obtain ⟨m, hm⟩ : ∃ m, (delR (strL x) (fs.take k)).length = m := ⟨_, rfl⟩
      rw [hm]
      rw [hdel] at hm
      have HM := Lib.hid hm
      clear hdel hm
      go_wp2
      go_ret
      refine ⟨_, rfl, ?_, HB.out⟩
      have := HO.out
      rw [HM.out] at this ⊢
      exact this
end Go.Proofs
