/-
  The walk of the law WireLays: at every readable calls of a writer it returns true and nothing that lay has turned, where the table lies in memory.
-/
import Derived.Deep.RegionHeldLaw
import Derived.Deep.DrawnRows
import Derived.Test.YteeponciegmlcaaDoorLawF
import Derived.Test.YteeponciegmlcaaDoorLawN
import Derived.Test.YteeponciegmlcaaDoorLawM
import Derived.Test.YteeponciegmlcaaDoorFew
namespace Go.Proofs
open Go.RowKit Go.Shelf Sm
attribute [local go_sem ↓] Go.wp_at_zero Go.wp_at_succ
/-- the bytes of calls -/
def Sm.layL (xs : List ActD) : List (BitVec 8) := xs.flatMap fun x => x.laid.1
theorem Sm.layL_snoc {xs : List ActD} {k : Nat} (hk : k < xs.length) : layL (xs.take (k + 1)) = layL (xs.take k) ++ xs[k].laid.1 := by
  unfold layL
  rw [List.take_succ_eq_append_getElem hk, List.flatMap_append]
  simp
theorem Sm.layL_len {w : World} : ∀ (xs : List ActD), (∀ x ∈ xs, ActD.ok x w) → (layL xs).length ≤ 300 * xs.length
  | [], _ => by simp [layL]
  | x :: r, h => by
    have h1 := ActD.laid_len (h x (by simp))
    have h2 := layL_len r (fun y hy => h y (by simp [hy]))
    unfold layL at *
    rw [List.flatMap_cons, List.length_append, List.length_cons]
    omega
theorem Sm.layL_take {w : World} {xs : List ActD} (h : ∀ x ∈ xs, ActD.ok x w) (hx : xs.length ≤ 40) (k : Nat) : (layL (xs.take k)).length ≤ 12000 := by
  have h1 := layL_len (xs.take k) (fun x hx => h x (List.mem_of_mem_take hx))
  have h2 : (xs.take k).length ≤ xs.length := by rw [List.length_take]; omega
  omega
/-- how writer and wanted bytes stand -/
structure Sm.LaysAt (w wr : World) (v vw : Value) (L : List (BitVec 8)) : Prop where
  wr_ : Wr wr w.heap.size v L
  apart : ∀ g, vw.ownBlock = some g → v.ownBlock ≠ some g
  row : wr.ownsRow (w.heap.size + 1) 5 1 vw L.length (L.map byteCell)
  below : Below w.heap.size w wr
theorem Sm.row_block {w : World} {base : Nat} {e : TypeId} {size n : Nat} {v : Value} {xs : List Value} (h : w.ownsRow base e size v n xs) : ∀ g, v.ownBlock = some g → base ≤ g ∧ g < w.heap.size := fun g hg => h.lt g hg
theorem Sm.LaysAt.on {w wr w' : World} {v vw : Value} {L : List (BitVec 8)} (h : LaysAt w wr v vw L) (hb : Below wr.heap.size wr w') : LaysAt w w' v vw L :=
  ⟨h.wr_.below hb, h.apart, own_below h.row hb, h.below.trans (hb.mono h.below.size)⟩
theorem Sm.LaysAt.set {w wr : World} {v vw : Value} {L : List (BitVec 8)} (h : LaysAt w wr v vw L) {g : Nat} (hg : w.heap.size < g) (h1 : v.ownBlock ≠ some g) (h2 : vw.ownBlock ≠ some g) (i : Nat) (u : Value) : LaysAt w (wr.setCell ⟨g, i, none⟩ u) v vw L := by
  have hbut : But (fun b => b = g) wr (wr.setCell ⟨g, i, none⟩ u) := (But.refl _ wr).set ⟨g, i, none⟩ u (.inl rfl)
  refine ⟨h.wr_.but hbut (fun e => ?_) (fun q hq e => ?_), h.apart, hbut.row h.row (fun q hq e => ?_), h.below.trans (hbut.to_below (n := w.heap.size) h.below.size (fun b e => ?_))⟩
  · omega
  · subst e; exact h1 hq
  · subst e; exact h2 hq
  · omega
/-- a call that was laid: the wanted bytes stand, and so do those of the call -/
theorem Sm.LaysAt.lay {w w1 w2 : World} {v v' vw : Value} {L : List (BitVec 8)} (h : LaysAt w w1 v vw L) (hg : WrGo w.heap.size v v' w1 w2) :
    w2.ownsRow (w.heap.size + 1) 5 1 vw L.length (L.map byteCell) ∧ Below w.heap.size w w2 ∧ (∀ g, vw.ownBlock = some g → v'.ownBlock ≠ some g) ∧
      (∀ (base : Nat) (u : Value) (m : Nat) (ys : List (BitVec 8)), w1.ownsRow base 5 1 u m (ys.map byteCell) → w.heap.size < base → (∀ g, v.ownBlock = some g → g < base) → w2.ownsRow base 5 1 u m (ys.map byteCell)) := by
  have hblk := h.wr_.block
  refine ⟨hg.but.row h.row (fun g e => ?_), h.below.trans (hg.but.to_below (n := w.heap.size) h.below.size (fun b e => ?_)), fun g e e' => ?_, fun base u m ys hu h1 h2 => hg.but.row hu (fun g e => ?_)⟩
  · rintro (rfl | h')
    · have := (row_block h.row _ e).1; omega
    · exact h.apart g e h'
  · rcases e with rfl | e
    · omega
    · have := (hblk b e).1; omega
  · have h1 := row_block h.row g e
    rcases hg.row with h2 | h2
    · exact h.apart g e (h2 ▸ e')
    · have := h2 g e'; omega
  · have h3 := (row_block hu g e).1
    rintro (rfl | h')
    · omega
    · have := h2 g h'; omega
theorem Sm.lays_push {w w2 w3 : World} {v' vw v3 : Value} {L l LL : List (BitVec 8)} (hLL : L ++ l = LL) (hl : Wr w2 w.heap.size v' LL) (hr : w2.ownsRow (w.heap.size + 1) 5 1 vw L.length (L.map byteCell)) (hb : Below w.heap.size w w2) (hn : ∀ g, vw.ownBlock = some g → v'.ownBlock ≠ some g)
    (h3 : w3.ownsRow (w.heap.size + 1) 5 1 v3 LL.length (L.map byteCell ++ l.map byteCell)) (hg : w2.grownBy w3 vw.ownBlock) (ha : v3.ownBlock = vw.ownBlock ∨ v3.ownBlock = some w2.heap.size) : LaysAt w w3 v' v3 LL := by
  subst hLL
  have hblk := hl.block
  have hlt := hl.lt
  refine ⟨hl.but (But.grown hg) ?_ ?_, fun g e e' => ?_, by rw [List.map_append]; exact h3, hb.trans ((But.grown hg).to_below (n := w.heap.size) hb.size (fun b e => ?_))⟩
  · intro e; have := (row_block hr _ e).1; omega
  · intro g e e'; exact hn g e' e
  · rcases ha with h | h
    · exact hn g (h ▸ e) e'
    · rw [h] at e; cases e; have := (hblk _ e').2; omega
  · have := (row_block hr _ e).1; omega
theorem Sm.NoWr.on {w w' : World} {v : Value} (h : NoWr w v) (hb : Below w.heap.size w w') : NoWr w' v := by
  rcases h with h | ⟨B, h, hc⟩
  · exact .inl h
  · exact .inr ⟨B, h, (hb.cell (p := ⟨B, 1, none⟩) (World.block_lt_of_cell? w _ hc)).trans hc⟩
set_option maxRecDepth 100000 in
set_option maxHeartbeats 4000000 in
theorem Sm.lays_walk (A : Option Addr) (n c : Nat) (xs : List ActD) (w : World) (hn : xs.length = n) (hm : n ≤ 9223372036854775807) (hr : RdActs w A xs) (hc : ∀ x ∈ xs, ActD.came x w) (ht : Tab w) :
    Calls Tryd.prog 3 #[.slice A n c] w fun e w' => e = .returned (.bool true) ∧ Below w.heap.size w w' := by
  obtain ⟨i0, hi, hz0, hz1, hz2⟩ := info_parts info5
  have hcf := few_any A n c xs w hr hn hm
  by_cases hf : fewB xs = true
  · rw [hf] at hcf
    obtain ⟨h40, hok⟩ := few_ok hf hc
    have HOK := Lib.hid hok
    have HLEN := Lib.hid (layL_take hok h40)
    clear hok hc hf
    have h40n : n ≤ 40 := by omega
    have hw0 : LaysAt w (w.alloc (.cells #[.slice none 0 0, .bool true] 38)) (.slice none 0 0) (.slice none 0 0) (layL (xs.take 0)) :=
      ⟨Wr.new w, fun g e => by simp [Value.ownBlock] at e, World.ownsRow_nil _ _ _ _, (Below.refl _ _).alloc (Nat.le_refl _) _⟩
    have HW0 := Lib.hid hw0
    clear hw0
    have HN := Lib.hid hn
    clear hn
    go_enter Tryd.func3, Tryd.ntmps3
    go_wp2_with (first
      | (go_at_call 11; (with_reducible refine hcf.mono ?_); rintro e w' ⟨rfl, rfl⟩)
      | (go_at_call 13; (with_reducible refine (New_any _).mono ?_); rintro e w' ⟨rfl, rfl⟩))
    clear hcf
    go_loopw [4, 5] (fun vw vi wr => ∃ (k : Nat) (v : Value), k ≤ n ∧ vi = .int .i64 (k : Int) ∧ Hid (LaysAt w wr v vw (layL (xs.take k))))
      (fun _ vi _ => n - (intOf vi).toNat)
    case atStart => exact ⟨0, _, Nat.zero_le _, rfl, HW0⟩
    case round =>
      obtain ⟨k, v, hk, rfl, HA⟩ := hrel
      clear HW0
      by_cases hlt : k < n
      · have hkx : k < xs.length := by have := HN.out; omega
        obtain ⟨x, hxe⟩ : ∃ x, x = xs[k] := ⟨_, rfl⟩
        have hxok : x.ok w := by rw [hxe]; exact HOK.out _ (List.getElem_mem _)
        obtain ⟨b, off, rfl, hbw, c0, c1, c2, c3⟩ := hr.at hkx
        rw [← hxe] at c0 c1 c2 c3
        obtain ⟨l, no, hL⟩ : ∃ l no, x.laid = (l, no) := ⟨_, _, rfl⟩
        have hsn := layL_snoc hkx
        rw [← hxe, hL] at hsn
        obtain ⟨L, hLk⟩ : ∃ L, layL (xs.take k) = L := ⟨_, rfl⟩
        have hLl : L.length ≤ 12000 := by rw [← hLk]; exact HLEN.out k
        have hLl2 : (L ++ l).length ≤ 12000 := by rw [← hLk, ← hsn]; exact HLEN.out (k + 1)
        rw [hLk] at hsn HA
        obtain ⟨LL, hLL⟩ : ∃ LL, L ++ l = LL := ⟨_, rfl⟩
        rw [hLL] at hsn hLl2
        have hMM : Hid (L.length + l.length = LL.length) := Lib.hid (by rw [← hLL, List.length_append])
        have HLL := Lib.hid hLL
        have HSN := Lib.hid hsn
        have hlaid : Calls Tryd.prog 14 #[.agg #[.int .i64 x.what, .slice x.A x.n x.c, .string x.s, .bool x.b]] wr fun e w1 => ∃ A1 c1, e = .returned (.tuple #[.slice A1 l.length c1, .int .i64 no]) ∧ w1.ownsRow wr.heap.size 5 1 (.slice A1 l.length c1) l.length (l.map byteCell) ∧ Below wr.heap.size wr w1 := by
          refine (laid_any x wr (hxok.below HA.out.below)).mono ?_
          rintro e w1 ⟨⟨v1, rfl, h1⟩, h2⟩
          rw [hL] at h1 ⊢
          obtain ⟨A1, c1, rfl⟩ := own_slice h1
          exact ⟨A1, c1, rfl, h1, h2⟩
        have hwlt : w.heap.size < wr.heap.size := HA.out.wr_.lt
        have hlay : ∀ w1, Below wr.heap.size wr w1 → Calls Tryd.prog 16 #[.pointer (some ⟨w.heap.size, 0, none⟩), .agg #[.int .i64 x.what, .slice x.A x.n x.c, .string x.s, .bool x.b]] w1 fun e w2 => e = .returned (.int .i64 no) ∧ ∃ v', Wr w2 w.heap.size v' LL ∧ WrGo w.heap.size v v' w1 w2 := fun w1 hb1 => by
          have h := layA_any w w1 (HA.out.on hb1).wr_ (by omega) (HA.out.on hb1).below (Nat.le_refl _) x hxok
          refine h.mono ?_
          rintro e w2 ⟨h1, h2⟩
          rw [hL] at h1 h2
          rw [hLL] at h2
          exact ⟨h1, h2⟩
        have hbr : b < wr.heap.size := Nat.lt_of_lt_of_le hbw HA.out.below.size
        have e0 : wr.cell? ⟨b, off + k * 4, none⟩ = some (.int .i64 x.what) := (HA.out.below.cell (p := ⟨b, off + k * 4, none⟩) hbw).trans c0
        have e1 : wr.cell? ⟨b, off + k * 4 + 1, none⟩ = some (.slice x.A x.n x.c) := (HA.out.below.cell (p := ⟨b, off + k * 4 + 1, none⟩) hbw).trans c1
        have e2 : wr.cell? ⟨b, off + k * 4 + 2, none⟩ = some (.string x.s) := (HA.out.below.cell (p := ⟨b, off + k * 4 + 2, none⟩) hbw).trans c2
        have e3 : wr.cell? ⟨b, off + k * 4 + 3, none⟩ = some (.bool x.b) := (HA.out.below.cell (p := ⟨b, off + k * 4 + 3, none⟩) hbw).trans c3
        have HVB : Hid (∀ g, v.ownBlock = some g → g < wr.heap.size) := Lib.hid fun g hg => (HA.out.wr_.block g hg).2
        clear c0 c1 c2 c3 hxok hL hsn hxe hLk hkx hLL
        go_wp2_with (first
          | (go_at_call 14; (with_reducible refine hlaid.mono ?_); clear hlaid; rintro e w1 ⟨A1, cc1, rfl, hown1, hb1⟩; have d0 := (hb1.cell (p := ⟨b, off + k * 4, none⟩) hbr).trans e0; have d1 := (hb1.cell (p := ⟨b, off + k * 4 + 1, none⟩) hbr).trans e1; have d2 := (hb1.cell (p := ⟨b, off + k * 4 + 2, none⟩) hbr).trans e2; have d3 := (hb1.cell (p := ⟨b, off + k * 4 + 3, none⟩) hbr).trans e3)
          | (go_at_call 16; (with_reducible refine (hlay w1 hb1).mono ?_); clear hlay; rintro e w2 ⟨rfl, v', hW2, hG2⟩; clear d0 d1 d2 d3 e0 e1 e2 e3; obtain ⟨hrow2, hb2, hn2, hoth⟩ := (HA.out.on hb1).lay hG2; have hrd2 : Rd w2 w2.heap.size A1 l := Rd.of_own (hoth _ _ _ _ hown1 hwlt HVB.out) (Nat.le_refl _); have hlt2 : w.heap.size + 1 ≤ w2.heap.size := hW2.lt; have Hoth := Lib.hid hn2; clear hoth hn2 hG2 hown1)
          | (go_at_call 15; (with_reducible refine (num_any _ _).mono ?_); rintro e w' ⟨rfl, rfl⟩)
          | (at_builtin; refine wpList_append_rd _ rfl (.tmp 39) (.tmp 40) 27 rfl (w.heap.size + 1) 5 i0 _ Tryd.underlying27 hi hz0 hz1 hz2 rfl _ L.length (L.map byteCell) rfl hrow2 w2.heap.size A1 l.length cc1 l rfl rfl hrd2 ?_ hlt2 ?_; (have := hMM.out; omega); intro v3 w3 h3 hg3 ha3; rw [hMM.out] at h3; have hA3 := lays_push HLL.out hW2 hrow2 hb2 Hoth.out h3 hg3 ha3; clear h3 hg3 ha3 hrow2 hb2 hrd2; have h3 := hA3.row; obtain ⟨A3, c3, rfl⟩ := own_slice h3)
          | (go_at_call 17; (with_reducible refine (All_any w3 hA3.wr_ (by omega)).mono ?_); rintro e w4 ⟨u, rfl, hu, hbu⟩; obtain ⟨A4, c4, rfl⟩ := own_slice hu; have hst4 := run_str (P := Tryd.prog) w4 27 5 Tryd.underlying27 Tryd.underlying5 LL LL.length c4 w4.heap.size A4 rfl (Rd.of_own hu (Nat.le_refl _)) 9 Tryd.underlying9; have hst3 := run_str (P := Tryd.prog) w4 27 5 Tryd.underlying27 Tryd.underlying5 LL LL.length c3 w4.heap.size A3 rfl (Rd.of_own (own_below h3 hbu) (Nat.le_refl _)) 9 Tryd.underlying9))
        clear hst3 hst4
        have HA4 := Lib.hid (hA3.on hbu)
        have h31 : w.heap.size < w3.heap.size := hA3.wr_.lt
        have H3v : Hid (∀ g, v'.ownBlock = some g → g < w3.heap.size) := Lib.hid fun g hg => (hA3.wr_.block g hg).2
        have H3w : Hid (∀ g, (Value.slice A3 LL.length c3).ownBlock = some g → g < w3.heap.size) := Lib.hid fun g hg => (row_block hA3.row g hg).2
        have HU := Lib.hid hu
        clear hu hbu hA3 h3 hW2 hb1 hwlt hlt2 HVB Hoth HA
        go_loopw [9] (fun vi wx => ∃ (j : Nat) (ys : List (BitVec 8)), j ≤ LL.length ∧ vi = .int .i64 (j : Int) ∧ Hid (ys.length = LL.length ∧ wx.ownsRow w3.heap.size 5 1 (.slice A4 LL.length c4) LL.length (ys.map byteCell)) ∧ Hid (LaysAt w wx v' (.slice A3 LL.length c3) LL))
          (fun vi _ => LL.length - (intOf vi).toNat)
        case atStart => exact ⟨0, LL, Nat.zero_le _, rfl, Lib.hid ⟨rfl, HU.out⟩, HA4⟩
        case round =>
          obtain ⟨j, ys, hj, rfl, HY, HX⟩ := hrel
          clear HU HA4
          by_cases hlj : j < LL.length
          · obtain ⟨g, cap, e, hg3, hgl, hcap⟩ := own_form HY.out.2 (by omega)
            injection e with e1 e2 e3
            subst e1
            have hky : j < ys.length := by have := HY.out.1; omega
            have ho1 := HY.out.2
            have hcell : wr.cell? ⟨g, j, none⟩ = some (.int .u8 (ib ys[j])) := by
              rw [ho1.cellAt j (by omega), List.getElem?_map, List.getElem?_eq_getElem hky]
              rfl
            have hfr : wr.frozen? ⟨g, j, none⟩ = false := ho1.frozenAt j
            obtain ⟨y, hy⟩ : ∃ y, y = ys[j] := ⟨_, rfl⟩
            rw [← hy] at hcell
            have HST := Lib.hid (own_set ho1 j (y + 1#8))
            have hinc := byte_inc y
            have hy0 := ib_lo y
            have hy1 := ib_hi y
            have HZ := Lib.hid (HX.out.set (g := g) (by omega) (fun e => by have := H3v.out g e; omega) (fun e => by have := H3w.out g e; omega) j (.int .u8 (ib (y + 1#8))))
            clear hy hky ho1 e2 e3
            go_wp2
            go_roundw
            case rel => exact ⟨j + 1, ys.set j (y + 1#8), by omega, by go_num, Lib.hid ⟨by rw [List.length_set]; exact HY.out.1, HST.out.1⟩, HZ⟩
            case measure => simp [intOf]; omega
          · obtain rfl : j = LL.length := by omega
            clear HY
            go_wp2
            go_roundw
            case rel => exact ⟨k + 1, v', by omega, by go_num, by rw [HSN.out]; exact HX⟩
            case measure => simp [intOf]; omega
      · obtain rfl : k = n := by omega
        obtain ⟨L, hLk⟩ : ∃ L, layL (xs.take k) = L := ⟨_, rfl⟩
        have hLl : L.length ≤ 12000 := by rw [← hLk]; exact HLEN.out k
        rw [hLk] at HA
        obtain ⟨Aw, cw, rfl⟩ := own_slice HA.out.row
        clear hLk
        have hpar : ∃ wz pv, (LaysAt w wz v (.slice Aw L.length cw) L ∧ NoWr wz pv) ∧ ((k % 2 = 1 ∧ wz = wr.alloc (.cells #[.slice none 0 0, .bool false] 38) ∧ pv = .pointer (some ⟨wr.heap.size, 0, none⟩)) ∨ (¬ k % 2 = 1 ∧ wz = wr ∧ pv = .pointer none)) := by
          by_cases hp : k % 2 = 1
          · exact ⟨_, _, ⟨HA.out.on ((Below.refl _ _).alloc (Nat.le_refl _) _), .inr ⟨wr.heap.size, rfl, World.cell?_alloc_new (w := wr) #[.slice none 0 0, .bool false] 38 1⟩⟩, .inl ⟨hp, rfl, rfl⟩⟩
          · exact ⟨_, _, ⟨HA.out, .inl rfl⟩, .inr ⟨hp, rfl, rfl⟩⟩
        obtain ⟨wz, pv, ⟨HZ, hno⟩, hpar⟩ := hpar
        have hD : Below wz.heap.size wz wz.drew := (Below.refl _ _).drew
        have hS : ∀ wx, Below wz.heap.size wz wx → (convert 27 9 (.slice Aw L.length cw)).run Tryd.prog wx = .ok (.string (strB L)) wx := fun wx hx =>
          run_str wx 27 5 Tryd.underlying27 Tryd.underlying5 L L.length cw wz.heap.size Aw rfl ((Rd.of_own HZ.row (Nat.le_refl _) : Rd wz wz.heap.size _ _).below hx) 9 Tryd.underlying9
        have hall : Calls Tryd.prog 17 #[.pointer (some ⟨w.heap.size, 0, none⟩)] wz.drew fun e w7 => ∃ A7 c7, e = .returned (.slice A7 L.length c7) ∧ (convert 27 9 (.slice A7 L.length c7)).run Tryd.prog w7 = .ok (.string (strB L)) w7 ∧ (convert 27 9 (.slice Aw L.length cw)).run Tryd.prog w7 = .ok (.string (strB L)) w7 ∧
            Below wz.heap.size wz (w7.alloc (.cells #[.int .i64 1] 2)) ∧ (convert 27 9 (.slice Aw L.length cw)).run Tryd.prog (w7.alloc (.cells #[.int .i64 1] 2)) = .ok (.string (strB L)) (w7.alloc (.cells #[.int .i64 1] 2)) := by
          refine (All_any _ (HZ.on hD).wr_ (by omega)).mono ?_
          rintro e w7 ⟨u, rfl, hu, hb⟩
          obtain ⟨A7, c7, rfl⟩ := own_slice hu
          have hb7 : Below wz.heap.size wz w7 := hD.trans (hb.mono hD.size)
          have hb8 : Below wz.heap.size wz (w7.alloc (.cells #[.int .i64 1] 2)) := hb7.alloc hb7.size _
          exact ⟨A7, c7, rfl, run_str w7 27 5 Tryd.underlying27 Tryd.underlying5 L L.length c7 w7.heap.size A7 rfl (Rd.of_own hu (Nat.le_refl _)) 9 Tryd.underlying9, hS _ hb7, hb8, hS _ hb8⟩
        have h18 : ∀ wx u, Below wz.heap.size wz wx → Calls Tryd.prog 18 #[pv, u] wx fun e w' => e = .returned (.int .i64 1) ∧ wx = w' := fun wx u hb => WNumber_no wx pv (hno.on hb) u
        have h19 : ∀ wx u, Below wz.heap.size wz wx → Calls Tryd.prog 19 #[pv, u] wx fun e w' => e = .returned (.int .i64 1) ∧ wx = w' := fun wx u hb => WText_no wx pv (hno.on hb) u
        have h20 : ∀ wx b, Below wz.heap.size wz wx → Calls Tryd.prog 20 #[pv, .bool b] wx fun e w' => e = .returned (.int .i64 1) ∧ Below wz.heap.size wz w' ∧ (convert 27 9 (.slice Aw L.length cw)).run Tryd.prog w' = .ok (.string (strB L)) w' := fun wx b hb => (WTruth_no wx pv (hno.on hb) b).mono fun e w' ⟨h1, h2⟩ => ⟨h1, hb.trans (h2.mono hb.size), hS _ (hb.trans (h2.mono hb.size))⟩
        have h17 : ∀ wx, Below wz.heap.size wz wx → Calls Tryd.prog 17 #[pv] wx fun e w' => e = .returned (.slice none 0 0) ∧ wx = w' := fun wx hb => All_no wx pv (hno.on hb)
        have h12 : ∀ wx, Below wz.heap.size wz wx → Calls Tryd.prog 12 #[] wx fun e w' => e = .returned (.bool true) ∧ Below w.heap.size w w' ∧ (convert 27 9 (.slice Aw L.length cw)).run Tryd.prog w' = .ok (.string (strB L)) w' := fun wx hb => by
          have hbz := HZ.below.trans (hb.mono HZ.below.size)
          refine (works_any wx (ht.belowTo hbz ht.1)).mono ?_
          rintro e w' ⟨h1, h2⟩
          exact ⟨h1, hbz.trans (h2.mono hbz.size), hS _ (hb.trans (h2.mono hb.size))⟩
        have sD := hS _ hD
        clear hS hD hno HZ HA ht
        rcases hpar with ⟨hp, rfl, rfl⟩ | ⟨hp, rfl, rfl⟩
        · have p1 : ((k : Int) % 2 == 1) = true := by simp; omega
          go_wp2_with fail
          clear p1
          go_region_held_law (fun wx => (convert 27 9 (.slice Aw L.length cw)).run Tryd.prog wx = .ok (.string (strB L)) wx) (first | exact s10 | exact s9 | exact s8 | exact s7 | exact sD) (first
            | (go_at_call 17; (with_reducible refine hall.mono ?_); clear hall; rintro e w7 ⟨A7, c7, rfl, t7, s7, hb8, s8⟩)
            | (go_at_call 18; (with_reducible refine (h18 _ _ hb8).mono ?_); rintro e w' ⟨rfl, rfl⟩)
            | (go_at_call 19; (with_reducible refine (h19 _ _ hb8).mono ?_); rintro e w' ⟨rfl, rfl⟩)
            | (go_at_call 20; (with_reducible refine (h20 _ _ hb8).mono ?_); rintro e w9 ⟨rfl, hb9, s9⟩)
            | (go_at_call 17; (with_reducible refine (h17 _ hb9).mono ?_); rintro e w' ⟨rfl, rfl⟩)
            | (go_at_call 15; (with_reducible refine (num_any _ _).mono ?_); rintro e w' ⟨rfl, rfl⟩)
            | (go_at_call 12; (with_reducible refine (h12 _ hb9).mono ?_); rintro e w10 ⟨rfl, hb10, s10⟩))
          go_wp2
          go_ret
          exact ⟨rfl, hb10⟩
        · have p1 : ((k : Int) % 2 == 1) = false := by simp; omega
          go_wp2_with fail
          clear p1
          go_region_held_law (fun wx => (convert 27 9 (.slice Aw L.length cw)).run Tryd.prog wx = .ok (.string (strB L)) wx) (first | exact s10 | exact s9 | exact s8 | exact s7 | exact sD) (first
            | (go_at_call 17; (with_reducible refine hall.mono ?_); clear hall; rintro e w7 ⟨A7, c7, rfl, t7, s7, hb8, s8⟩)
            | (go_at_call 18; (with_reducible refine (h18 _ _ hb8).mono ?_); rintro e w' ⟨rfl, rfl⟩)
            | (go_at_call 19; (with_reducible refine (h19 _ _ hb8).mono ?_); rintro e w' ⟨rfl, rfl⟩)
            | (go_at_call 20; (with_reducible refine (h20 _ _ hb8).mono ?_); rintro e w9 ⟨rfl, hb9, s9⟩)
            | (go_at_call 17; (with_reducible refine (h17 _ hb9).mono ?_); rintro e w' ⟨rfl, rfl⟩)
            | (go_at_call 15; (with_reducible refine (num_any _ _).mono ?_); rintro e w' ⟨rfl, rfl⟩)
            | (go_at_call 12; (with_reducible refine (h12 _ hb9).mono ?_); rintro e w10 ⟨rfl, hb10, s10⟩))
          go_wp2
          go_ret
          exact ⟨rfl, hb10⟩
  · have hff : fewB xs = false := by simpa using hf
    rw [hff] at hcf
    have hb := Below.refl w.heap.size w
    clear hf hff hc hr
    go_enter Tryd.func3, Tryd.ntmps3
    go_wp2_with (first
      | (go_at_call 11; (with_reducible refine hcf.mono ?_); rintro e w' ⟨rfl, rfl⟩)
      | (go_at_call 12; (with_reducible refine (works_from hb ht).mono ?_); clear hb; rintro e w1 ⟨rfl, hb⟩))
    go_ret
    exact ⟨rfl, hb⟩
end Go.Proofs
