/-
  The iterator over blocks, round by round. Conditions: what the theorems name.
  A region that draws its order and ends with one operation that waits for all others: it is enough to walk through the others and that one behind them. Conditions: no guard; each operation waits for earlier ones alone.
-/
import Derived.Shelf.Abstract
import Derived.WalkKit
import Derived.OwnWalkIn
import Derived.TacticsInMore
import Derived.LoopNIn
import Derived.LoopIn
import Derived.Outline
import Derived.Deep.WholeRow
import Derived.Deep.CutRange
import Derived.Test.YtbnemingkdofmaaDoorQ04
import Derived.Test.YtbnemingkdofmaaDoorQ06
import Derived.OrdersHeld
import Derived.Test.YtbnemingkdofmaaDoorProg
namespace Go.Proofs
open Go.RowKit Sm
attribute [local go_sem] Oper.semAt_some
set_option maxHeartbeats 400000 in
theorem Sm.blocks_any (B : Array Value) (A : Option Addr) (n c : Nat) (w : World) : Calls Tryd.prog 89 #[.agg B, .slice A n c] w fun e w' => e = .returned (.func (.func 91) #[] #[.pointer (some ⟨w.heap.size, 0, none⟩), .pointer (some ⟨w.heap.size + 1, 0, none⟩)]) ∧ (w.alloc (.cells B 0x89)).alloc (.cells #[.slice A n c] 0x61) = w' := by
  go_enter Tryd.func89, Tryd.ntmps89
  go_wp2
  go_ret
  exact ⟨rfl, rfl⟩
/-- with what block k is told -/
def Sm.HB (all : List (BitVec 8)) (_L k : Nat) (args : Array Value) (_W : World) : Prop :=
  k ≤ cnt all ∧ args = #[.agg (blc (pad (chunk all k)) (chunk all k).length).toArray, .bool (decide (k = cnt all))]
def Sm.rowB (_args : Array Value) (_b : Nat) : Prop := False
/-- what the iterator has captured -/
structure Sm.CapB (w : World) (g Bb Bp : Nat) (cur : List (BitVec 8)) (A : Option Addr) (n c : Nat) (ps : List Pt) : Prop where
  box : Blk w Bb 0x89 (blkV cur)
  pbox : Blk w Bp 0x61 #[.slice A n c]
  ps : PsOK w g A n ps
  room : n ≤ c
theorem Sm.CapB.but {w w' : World} {g Bb Bp : Nat} {cur : List (BitVec 8)} {A : Option Addr} {n c : Nat} {ps : List Pt} (h : CapB w g Bb Bp cur A n c ps) {S : Nat → Prop} (hb : But S w w') (hS : ∀ b, b < w.heap.size → S b → b = g) (h1 : Bb ≠ g) (h2 : Bp ≠ g) : CapB w' g Bb Bp cur A n c ps :=
  ⟨h.box.but hb (fun e => h1 (hS _ h.box.lt e)), h.pbox.but hb (fun e => h2 (hS _ h.pbox.lt e)), h.ps.but hb hS, h.room⟩
theorem Sm.CapB.keep {w w' : World} {g Bb Bp : Nat} {cur : List (BitVec 8)} {A : Option Addr} {n c : Nat} {ps : List Pt} (h : CapB w g Bb Bp cur A n c ps) (hb : Below w.heap.size w w') : CapB w' g Bb Bp cur A n c ps := ⟨h.box.keep hb, h.pbox.keep hb, h.ps.keep hb, h.room⟩
/-- what may turn while the iterator runs -/
def Sm.MayB (g N : Nat) : Nat → Prop := fun b => b = g ∨ N ≤ b
/-- how all stands at the head of a round, s having come so far -/
structure Sm.BkAt (J : Nat → World → Prop) (w wr : World) (g Q : Nat) (s : List (BitVec 8)) : Prop where
  j : J (cnt s) wr
  q : Blk wr Q 0x89 (blkV s)
  keep : But (MayB g w.heap.size) w wr
/-- how all stands where there is room in the block -/
structure Sm.MidB (J : Nat → World → Prop) (w wr : World) (g Q kk : Nat) (cc s : List (BitVec 8)) : Prop where
  j : J kk wr
  q : Blk wr Q 0x89 (blc (pad cc) cc.length).toArray
  keep : But (MayB g w.heap.size) w wr
  lt : cc.length < 64
  step : ∀ d : List (BitVec 8), 0 < d.length → cc.length + d.length ≤ 64 → cnt (s ++ d) = kk ∧ curB (s ++ d) = cc ++ d
theorem Sm.keep_cell {w wr : World} {g : Nat} (h : But (MayB g w.heap.size) w wr) {p : Addr} {v : Value} (hl : p.block < w.heap.size) (hg : p.block ≠ g) (hc : w.cell? p = some v) : wr.cell? p = some v :=
  (h.cell hl (fun e => by rcases e with e | e; exact hg e; omega)).trans hc
theorem Sm.rds_cell {w wr : World} {g b off : Nat} {cs : List Value} (h : Rds w (fun b => b = g) (some ⟨b, off, none⟩) cs) (hk : But (MayB g w.heap.size) w wr) {j : Nat} {v : Value} (hj : cs[j]? = some v) : wr.cell? ⟨b, off + j, none⟩ = some v := by
  obtain ⟨b', off', e, hlt, hns, hc⟩ := h (by have := (List.getElem?_eq_some_iff.1 hj).1; omega)
  cases e
  exact keep_cell hk hlt hns (hc j v hj)
def Sm.sliceLen : Value → Nat
  | .slice _ n _ => n
  | _ => 0
theorem Sm.i50 (l : List (BitVec 8)) (k : Nat) (h : l.length = 64) : (Tryd.prog.info? 0x89).map (·.size) = some (blc l k).length := by rw [blc_length, h]; kernel_rfl
def Sm.z64 : List (BitVec 8) := pad []
theorem Sm.z64_length : z64.length = 64 := by unfold z64; rfl
theorem Sm.blc_set {w : World} {q : Nat} {t : TypeId} {bl : List (BitVec 8)} {a : Nat} (h : Blk w q t (blc bl a).toArray) (hl : bl.length = 64) (b : Nat) : Blk (w.setCell ⟨q, 64, none⟩ (.int .i64 (b : Int))) q t (blc bl b).toArray := by
  have h1 := heap_setCell_same w q 64 (blc bl a).toArray t (.int .i64 (b : Int)) h
  have e : (blc bl a).toArray.setIfInBounds 64 (.int .i64 (b : Int)) = (blc bl b).toArray := by
    simp [blc, hl]
  rw [e] at h1
  exact h1
theorem Sm.slice64_from (b lo : Nat) (l : Int) (el : l = lo) (h1 : lo < 64) (w : World) :
    (Instr.sliceAt 0x68 (.pointer (some ⟨b, 0, none⟩)) (some (.int .i64 l)) none none).run Tryd.prog w = .ok (.slice (some ⟨b, lo, none⟩) (64 - lo) (64 - lo)) w := by
  subst el
  have hu : Tryd.prog.underlying 0x68 = some (.array (Tryd.prog.arrayLen 0x68) (Tryd.prog.elem 0x68)) := by kernel_rfl
  have ha : Tryd.prog.arrayLen 0x68 = 64 := by kernel_rfl
  have he : Tryd.prog.elem 0x68 = 5 := by kernel_rfl
  have hs : ∀ w, (sizeOf 5).run Tryd.prog w = .ok 1 w := fun _ => by kernel_rfl
  rw [run_sliceAt_array_l w 0x68 ⟨b, 0, none⟩ hu .i64 _ (by omega) (by rw [ha]; omega), he, hs]
  simp only [Result.andThen_ok, slicedAt, ha, Int.toNat_natCast, Nat.mul_one]
  rw [if_neg (by omega), Addr.add_mid, Nat.zero_add]
theorem Sm.i5 : (Tryd.prog.info? 5).map (·.size) = some 1 := by kernel_rfl
theorem Sm.z50 : (Tryd.prog.info? 0x89).map (fun i => (i.zero, i.size)) = some (some (.agg (blc z64 0).toArray), 65) := by kernel_rfl
theorem Sm.z50_size {l : List (BitVec 8)} {k : Nat} (h : l.length = 64) : (blc z64 0).toArray.size = (blc l k).toArray.size := by rw [List.size_toArray, List.size_toArray, blc_length, blc_length, h, z64_length]
set_option maxRecDepth 100000 in
set_option maxHeartbeats 4000000 in
theorem Sm.blocks_seq (g Bb Bp : Nat) (cur : List (BitVec 8)) (A : Option Addr) (n c : Nat) (ps : List Pt) (all : List (BitVec 8)) (w : World) (hcur : cur.length ≤ 64) (hall : cur ++ joinP ps = all) (hcap : CapB w g Bb Bp cur A n c ps) (hb2 : Bp ≠ g) (hg : g < w.heap.size) :
    SeqX Tryd.prog 91 #[.pointer (some ⟨Bb, 0, none⟩), .pointer (some ⟨Bp, 0, none⟩)] (fun b => b = g) (HB all) rowB (fun _ => True) (fun k => k = cnt all + 1) (fun _ => True) w := by
  intro L0 J Jx W hW hJ hJx hY hJ0
  have hcapW := hcap.keep hW
  obtain ⟨L, hL⟩ : ∃ L, W.heap.size = L := ⟨_, rfl⟩
  have hgL : g < L := by rw [← hL]; exact Nat.lt_of_lt_of_le hg hW.size
  have hc0 : cnt cur = 0 := by unfold cnt; omega
  have hcb : curB cur = cur := by unfold curB; rw [chunk_last, hc0]; rfl
  have hpl : (pad (curB cur)).length = 64 := pad_length _ (curB_le _)
  rw [hL] at hJ hJx hY
  have hlt1 := hcapW.box.lt
  have hlt2 := hcapW.pbox.lt
  show Calls Tryd.prog 91 #[.func (.yield L0) #[] #[], .pointer (some ⟨Bb, 0, none⟩), .pointer (some ⟨Bp, 0, none⟩)] W _
  have hbx := hcapW.box
  have hpx := hcapW.pbox.cell 0
  simp only [List.getElem?_toArray, List.getElem?_cons_zero] at hpx
  unfold blkV at hbx
  have hz50 := (zero_of_info z50).1
  have HL := Lib.hid hL
  have Hc0 := Lib.hid hc0
  have Hcb := Lib.hid hcb
  have HP := Lib.hid hpl
  have HBX := Lib.hid hbx
  have HALL := Lib.hid hall
  clear hL hc0 hcb hpl hbx hall
  go_enter Tryd.func91, Tryd.ntmps91
  go_upto_region 1 with (first
    | (refine wpList_load_mid rfl 0x89 _ rfl Bb 0 rfl (blc (pad (curB cur)) (curB cur).length) _ HBX.out.range Tryd.underlying137 rfl (i50 _ _ HP.out) ?_)
    | (refine wpList_store_row rfl 0x89 _ _ rfl W.heap.size (blc (pad (curB cur)) (curB cur).length).toArray rfl rfl 0x89 _ (World.alloc_heap_new W _) (by rw [List.size_toArray]; exact i50 _ _ HP.out) (z50_size HP.out) (all_oneCell_toArray (blc_one _ _)) ?_))
  obtain ⟨W1, hW1⟩ : ∃ W1, (W.alloc (.cells (blc z64 0).toArray 0x89)).setRow W.heap.size (blc (pad (curB cur)) (curB cur).length).toArray = W1 := ⟨_, rfl⟩
  have hbW : Below W.heap.size W W1 := by rw [← hW1]; exact below_setRow ((Below.refl _ W).alloc (Nat.le_refl _) _) (Nat.le_refl _) _
  have hq : Blk W1 W.heap.size 0x89 (blkV cur) := by rw [← hW1]; exact setRow_heap _ _ _ _ _ _ (World.alloc_heap_new W _)
  rw [hW1]
  clear hW1
  have hkW : But (MayB g w.heap.size) w W1 := (But.of_below (hW.trans (hbW.mono hW.size))).mono (fun b _ e => .inr e)
  have hB0 : BkAt J w W1 g W.heap.size (cur ++ joinP (ps.take 0)) := by
    have e : cur ++ joinP (ps.take 0) = cur := by simp [joinP]
    rw [e]
    exact ⟨by rw [Hc0.out]; exact hJ 0 W W1 hJ0 (by rw [← HL.out]; exact hbW), hq, hkW⟩
  have hpx1 := keep_cell hkW (p := ⟨Bp, 0, none⟩) hcap.pbox.lt hb2 (by rw [hcap.pbox.cell]; rfl)
  have hps := hcap.ps
  have hplen := hps.len
  have hpmost := hps.most
  have hproom := hcap.room
  have HPL := Lib.hid hplen
  clear hpx hlt1 hlt2 hbW hq hkW HBX hJ0 hplen hcapW
  go_wp2
  go_loopw [11] (fun i wr => ∃ k : Nat, k ≤ n ∧ i = .int .i64 (k : Int) ∧ Hid (BkAt J w wr g W.heap.size (cur ++ joinP (ps.take k)))) (fun i _ => n - (intOf i).toNat)
  case atStart => exact ⟨0, by omega, rfl, Lib.hid hB0⟩
  case round =>
    obtain ⟨wo, rfl⟩ : ∃ wo : World, wo = wr := ⟨_, rfl⟩
    obtain ⟨k, hk, rfl, HR⟩ := hrel
    clear hB0 hpx1
    by_cases hlt : k < n
    · have hkl : k < ps.length := by rw [HPL.out]; exact hlt
      obtain ⟨p, hp⟩ : ∃ p, ps[k] = p := ⟨_, rfl⟩
      have hpo := hps.each p (by rw [← hp]; exact List.getElem_mem hkl)
      obtain ⟨ab, ao, hA, _, _, _⟩ := hps.rd (by simp; omega)
      have hpk : wo.cell? ⟨ab, ao + k, none⟩ = some (.slice p.A p.n p.c) := by
        refine rds_cell (cs := ps.map Pt.val) (by rw [← hA]; exact hps.rd) HR.out.keep ?_
        rw [List.getElem?_map, List.getElem?_eq_getElem hkl, hp]
        rfl
      subst hA
      have hjn : joinP (ps.take (k + 1)) = joinP (ps.take k) ++ p.l := by
        unfold joinP
        rw [List.take_succ_eq_append_getElem hkl, hp, List.flatMap_append]
        simp
      have HJN := Lib.hid hjn
      have HPO := Lib.hid hpo
      have Hp := Lib.hid hp
      clear hp hjn hpo
      obtain ⟨s0, hs0⟩ : ∃ s0, cur ++ joinP (ps.take k) = s0 := ⟨_, rfl⟩
      have hR0 := HR.out
      rw [hs0] at hR0
      have hall0 : ∃ more, all = s0 ++ (p.l ++ more) := by
        refine ⟨joinP (ps.drop (k + 1)), ?_⟩
        have h1 : joinP ps = joinP (ps.take (k + 1)) ++ joinP (ps.drop (k + 1)) := by unfold joinP; rw [← List.flatMap_append, List.take_append_drop]
        rw [← HALL.out, h1, HJN.out, ← hs0]
        simp only [List.append_assoc]
      have HM := Lib.hid hall0
      have HS0 := Lib.hid hs0
      have hI0 : p.l = [] ++ p.l ∧ PtOK w g p.A p.n p.c p.l ∧ BkAt J w wo g W.heap.size (s0 ++ []) := ⟨rfl, HPO.out, by rw [List.append_nil]; exact hR0⟩
      have HI0 := Lib.hid hI0
      clear hs0 hR0 hall0 hI0 HR
      go_wp2
      go_loopw [6] (fun v wi => ∃ (A' : Option Addr) (n' c' : Nat) (dn rs : List (BitVec 8)), v = .slice A' n' c' ∧ Hid (p.l = dn ++ rs ∧ PtOK w g A' n' c' rs ∧ BkAt J w wi g W.heap.size (s0 ++ dn))) (fun v _ => sliceLen v)
      case atStart => exact ⟨p.A, p.n, p.c, [], p.l, rfl, HI0⟩
      case round =>
        obtain ⟨A', n', c', dn, rs, rfl, HR⟩ := hrel
        clear HI0 hpk
        have hpo := HR.out.2.1
        by_cases hn0 : n' = 0
        · subst hn0
          have hr0 : rs = [] := List.eq_nil_of_length_eq_zero hpo.len
          subst hr0
          have hd := HR.out.1
          rw [List.append_nil] at hd
          have HD := Lib.hid hd
          clear hpo hd
          go_wp2
          refine ⟨⟨k + 1, by omega, by go_num, Lib.hid ?_⟩, by simp [intOf]; omega⟩
          rw [HJN.out, ← List.append_assoc, HS0.out, HD.out]
          exact HR.out.2.2
        · have hrl : rs.length = n' := hpo.len
          have hrm := hpo.room
          have hrM := hpo.most
          have hq := HR.out.2.2.q
          obtain ⟨s, hs⟩ : ∃ s, s0 ++ dn = s := ⟨_, rfl⟩
          have hBk := HR.out.2.2
          rw [hs] at hq hBk
          have hcz := blc_size hq (pad_length _ (curB_le s))
          have hcl := curB_le s
          have HSs := Lib.hid hs
          have HBK := Lib.hid hBk
          have HRL := Lib.hid hrl
          obtain ⟨pb, po, rfl⟩ : ∃ b off, A' = some ⟨b, off, none⟩ := by
            obtain ⟨b, off, e, _⟩ := hpo.rd (by rw [List.length_map]; omega)
            exact ⟨b, off, e⟩
          obtain ⟨cl, hcl'⟩ : ∃ cl, (curB s).length = cl := ⟨_, rfl⟩
          rw [hcl'] at hcz hcl
          have HCL := Lib.hid hcl'
          have hpos : 0 < n' := by omega
          clear hpo hs hBk hrl hq hcl'
          go_upto_if 20 with fail
          go_cut [15] from 15 to 39 (fun _ wx => ∃ (kk : Nat) (cc : List (BitVec 8)), Hid (MidB J w wx g W.heap.size kk cc s))
          case first =>
            by_cases hf : cl = 64
            · have hfb : ((cl : Int) == 64) = true := by subst hf; rfl
              obtain ⟨more, hmore⟩ := HM.out
              have hrs : 0 < (rs ++ more).length := by rw [List.length_append, HRL.out]; omega
              have htold := full_told (s := s) (r := rs ++ more) (all := all) (by rw [hmore, HR.out.1, ← HSs.out]; simp only [List.append_assoc]) (by rw [HCL.out, hf]) hrs
              have hHB : HB all L (cnt s) #[.agg (blc (pad (curB s)) cl).toArray, .bool false] wr := by
                refine ⟨by omega, ?_⟩
                rw [htold.2, HCL.out, decide_eq_false (by omega)]
              obtain ⟨fn, tmps, assign, body, hy, hR⟩ := hY (cnt s) _ wr HBK.out.j hHB
              have hq := HBK.out.q
              unfold blkV at hq
              rw [HCL.out] at hq
              have HFS := Lib.hid (step_full (s := s))
              have HF := Lib.hid hf
              have HTO := Lib.hid htold
              have HMO := Lib.hid hmore
              have HQ := Lib.hid hq
              clear hmore hrs htold hHB hf hq
              refine (wpIn_wide (n := 3)).1 ?_
              gi_wp2_with (refine wpListIn_load_mid rfl 0x89 _ rfl W.heap.size 0 rfl (blc (pad (curB s)) cl) _ HQ.out.range Tryd.underlying137 rfl (i50 _ _ (pad_length _ (curB_le s))) ?_)
              refine (roundIn_any hR).mono ?_
              clear hR hy
              rintro e W3 (⟨rfl, _, hJ3, hbut⟩ | ⟨rfl, hJx3, _⟩)
              · have hmay : ∀ b, RoundMay (fun b => b = g) w.heap.size L rowB #[.agg (blc (pad (curB s)) cl).toArray, .bool false] b → MayB g w.heap.size b := fun b e => by
                  rcases e with e | e | e
                  · exact .inl e
                  · exact .inr e.1
                  · exact e.elim
                have hk3 : But (MayB g w.heap.size) w W3 := HBK.out.keep.trans (hbut.mono (fun b _ e => hmay b e)) (fun _ _ e => e)
                have hq3 : Blk W3 W.heap.size 0x89 (blc (pad (curB s)) cl).toArray := HQ.out.but hbut (fun e => by
                  have := HL.out
                  rcases e with e | e | e
                  · omega
                  · omega
                  · exact e.elim)
                have hbt : Tryd.prog.built 0x89 [] = some (blc z64 0).toArray := by kernel_rfl
                have hfin : MidB J w (W3.setRow W.heap.size (blc z64 0).toArray) g W.heap.size (cnt s + 1) [] s :=
                  ⟨hJ _ W3 _ hJ3 (below_setRow (Below.refl _ W3) (by have := HL.out; omega) _), setRow_heap _ _ _ _ _ _ hq3,
                    hk3.trans (But.of_below (below_setRow (Below.refl w.heap.size W3) hW.size _)) (fun b _ e => .inr e), by decide,
                    fun d h0 h1 => by
                      have := HFS.out d (by rw [HCL.out, HF.out]) h0 (by simpa using h1)
                      simpa using this⟩
                have HFIN := Lib.hid hfin
                have HQ3 := Lib.hid hq3
                clear hmay hbut hk3 hq3 hfin hJ3
                gi_wp2_with (refine wpListIn_store_row rfl 0x89 _ _ rfl W.heap.size (blc z64 0).toArray rfl rfl 0x89 _ HQ3.out (i50 z64 0 z64_length) (z50_size (pad_length _ (curB_le s))).symm (all_oneCell_toArray (blc_one _ _)) ?_)
                go_meet
                exact ⟨cnt s + 1, [], HFIN⟩
              · gi_wp2
                exact ⟨rfl, _, results_none rfl _ _ _, ⟨_, rfl⟩, .inr ⟨cnt s + 1, trivial, hJx3⟩⟩
            · have hfb : ((cl : Int) == 64) = false := by simp; omega
              have hq := HBK.out.q
              unfold blkV at hq
              have HF := Lib.hid hf
              clear hf
              go_wp2_with fail
              go_meet
              refine ⟨cnt s, curB s, Lib.hid ⟨HBK.out.j, hq, HBK.out.keep, by have := HF.out; have := HCL.out; omega, fun d _ hd => step_room d hd⟩⟩
          case rest =>
            obtain ⟨kk, cc, HMB⟩ := hcut
            have hqm := HMB.out.q
            have hpc : (pad cc).length = 64 := pad_length cc (by have := HMB.out.lt; omega)
            have hsz := blc_size hqm hpc
            have hszf := hqm.frozen 64
            have hclt := HMB.out.lt
            obtain ⟨c0, hc0⟩ : ∃ c0, cc.length = c0 := ⟨_, rfl⟩
            rw [hc0] at hsz hclt
            have HC0 := Lib.hid hc0
            have hsl := slice64_from W.heap.size c0 (c0 : Int) rfl hclt
            obtain ⟨m, hm⟩ : ∃ m, min n' (64 - c0) = m := ⟨_, rfl⟩
            obtain ⟨X, hX⟩ : ∃ X, (rs.take m).map byteCell = X := ⟨_, rfl⟩
            have hXl : X.length = m := by rw [← hX, List.length_map, List.length_take, HRL.out]; omega
            have HXL := Lib.hid hXl
            have HX := Lib.hid hX
            have HMm := Lib.hid hm
            have HQm := Lib.hid hqm
            have HPC := Lib.hid hpc
            have hm1 : m ≤ n' := by omega
            have hm2 : c0 + m ≤ 64 := by omega
            have hm3 : 0 < m := by omega
            have hcells : ∀ j v, X[j]? = some v → wc.cell? ((⟨pb, po, none⟩ : Addr).add j) = some v := fun j v hj => by
              rw [Addr.add_mid]
              refine rds_cell (cs := rs.map byteCell) HR.out.2.1.rd HMB.out.keep ?_
              rw [← HX.out, List.map_take, List.getElem?_take] at hj
              split at hj
              · exact hj
              · cases hj
            have HCE := Lib.hid hcells
            clear hc0 hm hX hXl hqm hpc hcells hcz
            go_upto_region 9 with (refine wpList_copy_splice rfl (.tmp 29) (.tmp 30) 0x16 0x16 rfl 5 Tryd.underlying22 i5 (some ⟨W.heap.size, c0, none⟩) (some ⟨pb, po, none⟩) (64 - c0) (64 - c0) n' c' rfl rfl W.heap.size c0 (blc (pad cc) c0) 0x89 (by rw [← HC0.out]; exact HQm.out) X (by rw [HXL.out, ← HMm.out]) (fun _ => ⟨rfl, ⟨pb, po, none⟩, rfl, HCE.out⟩) (by rw [HXL.out, blc_length, HPC.out]; omega) (by rw [← HX.out]; intro v hv; simp only [List.mem_map] at hv; obtain ⟨x, _, rfl⟩ := hv; rfl) W.heap.size wc (Below.refl _ wc) (Nat.le_refl _) ?_; intro w5 HG5 hb5)
            have hlen2 : (rs.take m).length = m := by rw [List.length_take, HRL.out]; omega
            have hq5 : Blk w5 W.heap.size 0x89 (blc (pad (cc ++ rs.take m)) c0).toArray := by
              have h1 := HG5.out
              rw [← HX.out, ← HC0.out, splice_pad cc (rs.take m) cc.length (by rw [HC0.out, hlen2]; exact hm2)] at h1
              rw [← HC0.out]
              exact h1
            have hpl5 : (pad (cc ++ rs.take m)).length = 64 := pad_length _ (by rw [List.length_append, HC0.out, hlen2]; exact hm2)
            rw [HXL.out]
            have hz5 := blc_size hq5 hpl5
            have hf5 := hq5.frozen 64
            have hst := HMB.out.step (rs.take m) (by rw [hlen2]; exact hm3) (by rw [HC0.out, hlen2]; exact hm2)
            have hBk6 : BkAt J w (w5.setCell ⟨W.heap.size, 64, none⟩ (.int .i64 ((c0 : Int) + (m : Int)))) g W.heap.size (s ++ rs.take m) := by
              have hlow : Below W.heap.size wc (w5.setCell ⟨W.heap.size, 64, none⟩ (.int .i64 ((c0 : Int) + (m : Int)))) := hb5.setCell (p := ⟨W.heap.size, 64, none⟩) (Nat.le_refl _) _
              refine ⟨?_, ?_, HMB.out.keep.trans (But.of_below hlow) (fun b _ e => .inr (by have := hW.size; omega))⟩
              · rw [hst.1]
                exact hJ _ wc _ HMB.out.j (by rw [← HL.out]; exact hlow)
              · have := blc_set hq5 hpl5 (c0 + m)
                unfold blkV
                rw [hst.2, List.length_append, HC0.out, hlen2]
                exact this
            have HB6 := Lib.hid hBk6
            have HQ5 := Lib.hid hq5
            have hrl' := HRL.out
            clear hlen2 hq5 hpl5 hst hBk6 hsl hsz hszf
            have HPT := Lib.hid HR.out.2.1
            have HDS : Hid (p.l = (dn ++ rs.take m) ++ rs.drop m) := Lib.hid (by rw [HR.out.1, List.append_assoc, List.take_append_drop])
            have HS6 : Hid (s ++ rs.take m = s0 ++ (dn ++ rs.take m)) := Lib.hid (by rw [← HSs.out, List.append_assoc])
            have HRL2 := Lib.hid hrl'
            clear hrl'
            by_cases hmc : c' = m
            · have hnm : n' = m := by omega
              subst hmc
              subst hnm
              go_wp2
              refine ⟨⟨_, _, _, dn ++ rs.take _, rs.drop _, rfl, Lib.hid ⟨HDS.out, ?_, ?_⟩⟩, ?_⟩
              · have := HPT.out.end_ rfl
                simpa using this
              · rw [← HS6.out]; exact HB6.out
              · simp [sliceLen]; omega
            · go_wp2
              refine ⟨⟨_, _, _, dn ++ rs.take m, rs.drop m, rfl, Lib.hid ⟨HDS.out, ?_, ?_⟩⟩, ?_⟩
              · exact HPT.out.drop m hm1
              · rw [← HS6.out]; exact HB6.out
              · simp [sliceLen]; omega
    · obtain rfl : k = n := by omega
      have hsa : cur ++ joinP (ps.take k) = all := by rw [← HPL.out, List.take_length, HALL.out]
      have hB := HR.out
      rw [hsa] at hB
      have hq := hB.q
      unfold blkV at hq
      have hHB : HB all L (cnt all) #[.agg (blc (pad (curB all)) (curB all).length).toArray, .bool true] wo := ⟨Nat.le_refl _, by simp [curB]⟩
      obtain ⟨fn, tmps, assign, body, hy, hR⟩ := hY (cnt all) _ wo hB.j hHB
      have HQ := Lib.hid hq
      clear hsa hB hq hHB HR
      go_upto_region 12 with fail
      refine (wpIn_wide (n := 3)).1 ?_
      gi_wp2_with (refine wpListIn_load_mid rfl 0x89 _ rfl W.heap.size 0 rfl (blc (pad (curB all)) (curB all).length) _ HQ.out.range Tryd.underlying137 rfl (i50 _ _ (pad_length _ (curB_le all))) ?_)
      refine (roundIn_any hR).mono ?_
      clear hR hy
      rintro e W3 (⟨rfl, _, hJ3, _⟩ | ⟨rfl, hJx3, _⟩)
      · gi_wp2
        go_end0
        exact ⟨⟨_, rfl⟩, .inl ⟨cnt all + 1, rfl, hJ3⟩⟩
      · gi_wp2
        go_end0
        exact ⟨⟨_, rfl⟩, .inr ⟨cnt all + 1, trivial, hJx3⟩⟩
end Go.Proofs
namespace Go.Proofs
open Go
theorem Sm.operWp_mono {P : Program} {o : Oper} {a : Act} {w : World} {K K' : Act → World → Prop} {R Q : Exit → Act → World → Prop} (hK : ∀ a w, K a w → K' a w) (hR : ∀ e a w, e ≠ .normal → R e a w → Q e a w) (hL : ¬ LetsOut R)
    (h : o.wp P a w K R) : o.wp P a w K' Q := by
  unfold Oper.wp at *
  generalize (execOp a.eval o).run P w = r at *
  cases r with
  | ok n w' =>
    cases n <;> simp only [Oper.upon] at h ⊢ <;>
      first
        | exact hK _ _ h
        | exact Calls.mono h (fun e w'' he => by
            cases e with
            | returned v => exact hK _ _ he
            | panicked c => exact hR _ _ _ (by simp) he
            | outgrown => exact absurd he hL)
        | exact Rows.mono h (fun _ _ he => hK _ _ he)
  | halt x w' =>
    cases x <;> simp only [Oper.upon] at h ⊢ <;> first | exact hR _ _ _ (by simp) h | exact h
/-- what is asked ahead of the last operation -/
def Sm.tailQ (P : Program) (ops : Array Oper) (Q : Exit → Act → World → Prop) (n : Nat) : Exit → Act → World → Prop
  | .normal, a, w => wpOp P ops Q n (fun a' w' => Q .normal a' w') a w
  | _, _, _ => False
theorem Sm.tailQ_out (P : Program) (ops : Array Oper) (Q : Exit → Act → World → Prop) (n : Nat) : ¬ LetsOut (tailQ P ops Q n) := fun ⟨_, _, h⟩ => h
/-- the shape that is asked, as the kernel looks at it -/
def Sm.popB (md : Region.Mode) (ops : Array Oper) (o : Oper) : Bool :=
  ((List.range ops.size).all fun i => match ops[i]? with
    | some x => x.guard.isNone && x.after.all fun e => decide (e.on < i)
    | none => false) &&
  (o.after.all fun e => decide (e.on < ops.size)) && ((List.range ops.size).all fun i => (o.after.any fun e => Region.binds md e && e.on == i) || (List.range ops.size).any fun k => decide (i < k) && match ops[k]? with
    | some x => x.after.any fun e => Region.binds md e && e.on == i
    | none => false)
section
variable {P : Program} {md : Region.Mode} {ops : Array Oper} {o : Oper} {Q : Exit → Act → World → Prop}
theorem Sm.popB_at (h : popB md ops o = true) {i : Nat} {x : Oper} (hx : ops[i]? = some x) : x.guard = none ∧ ∀ e ∈ x.after, e.on < i := by
  unfold popB at h
  simp only [Bool.and_eq_true, List.all_eq_true, List.mem_range] at h
  have h1 := h.1.1 i (Array.getElem?_eq_some_iff.1 hx).1
  rw [hx] at h1
  simp only [Bool.and_eq_true, Option.isNone_iff_eq_none] at h1
  refine ⟨h1.1, fun e he => ?_⟩
  have := (Array.all_eq_true_iff_forall_mem.1 h1.2) e he
  simpa using this
theorem Sm.popB_last (h : popB md ops o = true) : ∀ e ∈ o.after, e.on < ops.size := by
  unfold popB at h
  simp only [Bool.and_eq_true] at h
  intro e he
  have := (Array.all_eq_true_iff_forall_mem.1 h.1.2) e he
  simpa using this
theorem Sm.popB_waits (h : popB md ops o = true) {i : Nat} (hi : i < ops.size) : (∃ e ∈ o.after, Region.binds md e = true ∧ e.on = i) ∨ ∃ k x, i < k ∧ ops[k]? = some x ∧ ∃ e ∈ x.after, Region.binds md e = true ∧ e.on = i := by
  unfold popB at h
  simp only [Bool.and_eq_true, List.all_eq_true, List.mem_range, Bool.or_eq_true, List.any_eq_true] at h
  rcases h.2 i hi with h | ⟨k, _, hik, h⟩
  · obtain ⟨e, he, hb⟩ := Array.any_eq_true'.1 h
    simp only [Bool.and_eq_true, beq_iff_eq] at hb
    exact .inl ⟨e, he, hb.1, hb.2⟩
  · cases hx : ops[k]? with
    | none => rw [hx] at h; cases h
    | some x =>
      rw [hx] at h
      obtain ⟨e, he, hb⟩ := Array.any_eq_true'.1 h
      simp only [Bool.and_eq_true, beq_iff_eq] at hb
      exact .inr ⟨k, x, by simpa using hik, hx, e, he, hb.1, hb.2⟩
/-- what has come up, what it waits for has -/
def Sm.ClosedL (md : Region.Mode) (ops : Array Oper) (l : Array Bool) : Prop := ∀ (j : Nat) x, ops[j]? = some x → l.getD j false = true → ∀ e ∈ x.after, Region.binds md e = true → l.getD e.on false = true
theorem Sm.all_listed (h : popB md ops o = true) {l : Array Bool} (hc : ClosedL md ops l) (hw : ∀ e ∈ o.after, Region.binds md e = true → l.getD e.on false = true) : ∀ n i, i < ops.size → ops.size - i = n → l.getD i false = true := by
  intro n
  induction n using Nat.strongRecOn with
  | _ n ih =>
    intro i hi hn
    rcases popB_waits h hi with ⟨e, he, hb, rfl⟩ | ⟨k, x, hik, hx, e, he, hb, rfl⟩
    · exact hw e he hb
    · have hk := (Array.getElem?_eq_some_iff.1 hx).1
      exact hc k x hx (ih (ops.size - k) (by omega) k hk rfl) e he hb
theorem Sm.ClosedL.step {l : Array Bool} (hc : ClosedL md ops l) {i : Nat} (hi : i ∈ Region.ready md ops l) (hs : i < l.size) : ClosedL md ops (l.setIfInBounds i true) := by
  obtain ⟨_, x, hx, hall⟩ := mem_ready.1 hi
  have keep : ∀ k, l.getD k false = true → (l.setIfInBounds i true).getD k false = true := fun k hk => by
    by_cases e : i = k
    · subst e; simp [Array.getD, hs]
    · rw [getD_set_ne false e]; exact hk
  intro j y hy hj e he hb
  by_cases e2 : i = j
  · subst e2
    have : y = x := Option.some.inj (hy.symm.trans hx)
    subst this
    exact keep _ (hall e he hb)
  · rw [getD_set_ne false e2] at hj
    exact keep _ (hc j y hy hj e he hb)
theorem Sm.push_getD {l : Array Bool} {i : Nat} (hi : i < l.size) (b d d' : Bool) : (l.push b).getD i d = l.getD i d' := by
  simp [Array.getD, Array.getElem_push, hi, Nat.lt_succ_of_lt hi]
/-- nothing may come up: all has come up -/
theorem Sm.ready_nil (h : popB md ops o = true) {l : Array Bool} (hs : l.size = ops.size) (hr : Region.ready md ops l = []) : ∀ i, i < ops.size → l.getD i false = true := by
  intro i
  induction i using Nat.strongRecOn with
  | _ i ih =>
    intro hi
    cases hb : l.getD i false with
    | true => rfl
    | false =>
      have hx : ops[i]? = some ops[i] := Array.getElem?_eq_getElem hi
      have : i ∈ Region.ready md ops l := by
        rw [mem_ready]
        refine ⟨by simp [Array.getD, hs, hi] at hb ⊢; exact hb, _, hx, fun e he _ => ?_⟩
        have hlt := (popB_at h hx).2 e he
        exact ih e.on hlt (by omega)
      rw [hr] at this
      cases this
theorem Sm.wpAny_pop (h : popB md ops o = true) : ∀ (fuel : Nat) (l : Array Bool) (a : Act) (w : World), l.size = ops.size → ClosedL md ops l → wpAny P md ops (tailQ P (ops.push o) Q ops.size) fuel l a w → wpAny P md (ops.push o) Q (fuel + 1) (l.push false) a w := by
  -- the last one's turn
  have last : ∀ (fuel : Nat) (l : Array Bool) (a : Act) (w : World), l.size = ops.size → Region.ready md ops l = [] → tailQ P (ops.push o) Q ops.size .normal a w → wpAny P md (ops.push o) Q (fuel + 1) (l.push false) a w := by
    intro fuel l a w hs hr ht
    have hall := ready_nil h hs hr
    have hrd : ∀ i, i ∈ Region.ready md (ops.push o) (l.push false) ↔ i = ops.size := by
      intro i
      rw [mem_ready]
      constructor
      · rintro ⟨h0, x, hx, _⟩
        rcases Nat.lt_trichotomy i ops.size with hi | hi | hi
        · rw [push_getD (by omega) false true false, hall i hi] at h0; cases h0
        · exact hi
        · rw [Array.getElem?_eq_none (by simp; omega)] at hx; cases hx
      · rintro rfl
        refine ⟨by simp [Array.getD, hs, Array.getElem_push], o, by simp, fun e he _ => ?_⟩
        have := popB_last h e he
        rw [push_getD (by omega) false false false]
        exact hall _ this
    refine ⟨fun h0 => ?_, fun i hi => ?_⟩
    · have := (hrd ops.size).2 rfl
      rw [h0] at this; cases this
    · obtain rfl := (hrd i).1 hi
      refine wpOp_mono (fun a' w' hq => ?_) ht
      have hnil : Region.ready md (ops.push o) ((l.push false).setIfInBounds ops.size true) = [] := by
        apply List.eq_nil_iff_forall_not_mem.2
        intro i hi
        rw [mem_ready] at hi
        obtain ⟨h0, x, hx, _⟩ := hi
        have hlt : i < (ops.push o).size := (Array.getElem?_eq_some_iff.1 hx).1
        simp only [Array.size_push] at hlt
        by_cases e : i = ops.size
        · subst e; simp [Array.getD, hs] at h0
        · rw [getD_set_ne true (fun e' => e e'.symm), push_getD (by omega) false true false, hall i (by omega)] at h0; cases h0
      exact wpAny_done hnil hq fuel
  intro fuel
  induction fuel with
  | zero =>
    intro l a w hs _ hw
    exact last 0 l a w hs hw.1 hw.2
  | succ fuel ih =>
    intro l a w hs hc hw
    by_cases hr : Region.ready md ops l = []
    · exact last (fuel + 1) l a w hs hr (hw.1 hr)
    · have hrd : ∀ i, i ∈ Region.ready md (ops.push o) (l.push false) → i ∈ Region.ready md ops l ∧ i < ops.size := by
        intro i hi
        rw [mem_ready] at hi
        obtain ⟨h0, x, hx, hall⟩ := hi
        have hlt : i < (ops.push o).size := (Array.getElem?_eq_some_iff.1 hx).1
        simp only [Array.size_push] at hlt
        by_cases e : i = ops.size
        · exfalso
          subst e
          have hxo : x = o := by simpa using hx.symm
          subst hxo
          obtain ⟨j, hj⟩ := List.exists_mem_of_ne_nil _ hr
          obtain ⟨hj0, y, hy, _⟩ := mem_ready.1 hj
          have hjl := (Array.getElem?_eq_some_iff.1 hy).1
          have := all_listed h hc (fun e he hb => by
            have h1 := hall e he hb
            rwa [push_getD (by rw [hs]; exact popB_last h e he) false false false] at h1) _ j hjl rfl
          have hjs : j < l.size := by omega
          simp [Array.getD, hjs] at hj0 this
          rw [hj0] at this; cases this
        · have hi' : i < ops.size := by omega
          have hx' : ops[i]? = some x := by rw [Array.getElem?_push, if_neg (by omega)] at hx; exact hx
          refine ⟨mem_ready.2 ⟨by rw [← push_getD (by omega) false true true]; exact h0, x, hx', fun e he hb => ?_⟩, hi'⟩
          have := (popB_at h hx').2 e he
          rw [← push_getD (by omega) false false false]
          exact hall e he hb
      refine ⟨fun h0 => ?_, fun i hi => ?_⟩
      · exfalso
        obtain ⟨j, hj⟩ := List.exists_mem_of_ne_nil _ hr
        obtain ⟨hj0, y, hy, hya⟩ := mem_ready.1 hj
        have hjl := (Array.getElem?_eq_some_iff.1 hy).1
        have : j ∈ Region.ready md (ops.push o) (l.push false) := by
          refine mem_ready.2 ⟨by rw [push_getD (by omega) false true true]; exact hj0, y, by rw [Array.getElem?_push, if_neg (by omega)]; exact hy, fun e he hb => ?_⟩
          have := (popB_at h hy).2 e he
          rw [push_getD (by omega) false false false]
          exact hya e he hb
        rw [h0] at this; cases this
      · obtain ⟨hir, hlt⟩ := hrd i hi
        have h1 := hw.2 i hir
        have hx : ops[i]? = some ops[i] := Array.getElem?_eq_getElem hlt
        have hx' : (ops.push o)[i]? = some ops[i] := by rw [Array.getElem?_push, if_neg (by omega)]; exact hx
        have hg := (popB_at h hx).1
        have hset : (l.push false).setIfInBounds i true = (l.setIfInBounds i true).push false := by
          have hil : i < l.size := by omega
          cases l with
          | mk l =>
            have hil' : i < l.length := by simpa using hil
            simp [hil']
        unfold wpOp at h1 ⊢
        simp only [hx, hx'] at h1 ⊢
        have hwant : ∀ t, Region.wanted ops[i] t = true := fun t => by simp [Region.wanted, hg]
        rw [if_pos (hwant _)] at h1 ⊢
        refine .inl ?_
        rcases h1 with h1 | ⟨_, h1⟩
        · refine operWp_mono (fun a' w' hh => ?_) (fun e a w hne hq => by cases e <;> first | exact absurd rfl hne | exact hq.elim) (tailQ_out _ _ _ _) h1
          rw [hset]
          exact ih _ a' w' (by simp [hs]) (hc.step hir (by omega)) hh
        · exact absurd h1 (tailQ_out _ _ _ _)
/-- **the law** -/
theorem Sm.wp_region_pop {id : Nat} {a : Act} {w : World} (h : popB .any ops o = true) (hm : P.follows .mixedOrders = true)
    (hw : wpAny P .any ops (tailQ P (ops.push o) Q ops.size) ops.size (Array.replicate ops.size false) a { w with drawn := w.drawn + 1 }) : (Code.region id (ops.push o) true).wp P Q a w := by
  refine wp_region_any hm ?_
  have := wpAny_pop (Q := Q) h ops.size _ a _ (by simp) (fun j x _ hj => by simp [Array.getD] at hj) hw
  have e : (Array.replicate ops.size false).push false = Array.replicate (ops.push o).size false := by
    rw [Array.size_push, Array.replicate_succ]
  rw [e] at this
  rw [Array.size_push]
  rw [Array.size_push] at this
  exact this
theorem Sm.wp_region_popL {id : Nat} {a : Act} {w : World} {l : List Oper} (n : Nat) (hd : l.drop n = [o]) (hn : (l.take n).length = n) (h : popB .any (l.take n).toArray o = true) (hm : P.follows .mixedOrders = true) {S : World → Prop} (hS : S w.drew)
    (hw : S w.drew → wpAnyH P .any (l.take n).toArray (tailQ P l.toArray Q n) S n (Array.replicate n false) a w.drew) : (Code.region id l.toArray true).wp P Q a w := by
  have e : l.toArray = (l.take n).toArray.push o := by
    rw [List.push_toArray, ← hd, List.take_append_drop]
  have hs : (l.take n).toArray.size = n := by simpa using hn
  have h1 := wpAny_of_held _ _ _ _ (hw hS)
  rw [e] at h1 ⊢
  refine wp_region_pop h hm ?_
  rw [hs]
  exact h1
end
end Go.Proofs
