/-
  Parts that came in; the contract of joined, of the laws of layer 4: where there are few enough of them, and where not.
  The walk of the law BlakeSums: at every parts it returns true and nothing that lay has turned, where the tables lie in memory.
  The walk of the law BlakeKeyed: at every size, key and parts it returns true and nothing that lay has turned, where the tables lie in memory.
  The walk of the law BlakeKeyed where the key and the parts are few enough: where there is no sum, and where there is one.
  The contract of a hash's Copy, where there is one; and the walk of the law BlakeCopies.
  The walk of the law BlakeCopies where there is a hash.
-/
import Derived.Test.YtmhmnmdobnkbgaaDoorM10
import Derived.Test.YtmhmnmdobnkbgaaDoorM9
import Derived.Deep.RegionHeldLaw
namespace Go.Proofs
open Go.RowKit Sm
/-- a part that came in -/
structure Sm.PtC (w : World) (p : Pt) : Prop where
  len : p.l.length = p.n
  room : p.n ≤ p.c
  most : p.c ≤ 9223372036854775807
  rd : Rd w w.heap.size p.A p.l
theorem Sm.PtC.below {w w' : World} {p : Pt} (h : PtC w p) (hb : Below w.heap.size w w') : PtC w' p := ⟨h.len, h.room, h.most, (h.rd.below hb).more hb.size⟩
theorem Sm.PtC.ok {w : World} {p : Pt} (h : PtC w p) (g : Nat) (hg : w.heap.size ≤ g) : PtOK w g p.A p.n p.c p.l := pt_of_rd h.len h.room h.most h.rd g hg
/-- parts that came in -/
structure Sm.PsC (w : World) (A : Option Addr) (n : Nat) (ps : List Pt) : Prop where
  len : ps.length = n
  rd : Rds w (fun _ => False) A (ps.map Pt.val)
  each : ∀ p ∈ ps, PtC w p
theorem Sm.PsC.below {w w' : World} {A : Option Addr} {n : Nat} {ps : List Pt} (h : PsC w A n ps) (hb : Below w.heap.size w w') : PsC w' A n ps := ⟨h.len, h.rd.below hb, fun p hp => (h.each p hp).below hb⟩
theorem Sm.PsC.ok {w : World} {A : Option Addr} {n : Nat} {ps : List Pt} (h : PsC w A n ps) (hn : n ≤ 1000000) (g : Nat) (hg : w.heap.size ≤ g) : PsOK w g A n ps := by
  refine ⟨h.len, hn, fun h0 => ?_, fun p hp => (h.each p hp).ok g hg⟩
  obtain ⟨b, off, rfl, hlt, _, hc⟩ := h.rd h0
  exact ⟨b, off, rfl, hlt, fun e => by omega, hc⟩
theorem Sm.PsC.at_ {w : World} {A : Option Addr} {n : Nat} {ps : List Pt} (h : PsC w A n ps) {k : Nat} (hk : k < ps.length) : ∃ b off, A = some ⟨b, off, none⟩ ∧ b < w.heap.size ∧ w.cell? ⟨b, off + k, none⟩ = some (.slice ps[k].A ps[k].n ps[k].c) := by
  obtain ⟨b, off, rfl, hlt, _, hc⟩ := h.rd (by rw [List.length_map]; omega)
  refine ⟨b, off, rfl, hlt, hc k _ ?_⟩
  rw [List.getElem?_map, List.getElem?_eq_getElem hk]
  rfl
theorem Sm.joinP_snoc (ps : List Pt) (k : Nat) (hk : k < ps.length) : joinP (ps.take (k + 1)) = joinP (ps.take k) ++ ps[k].l := by
  unfold joinP
  rw [List.take_succ_eq_append_getElem hk, List.flatMap_append]
  simp
theorem Sm.joinP_le (ps : List Pt) (m : Nat) (h : ∀ p ∈ ps, p.l.length ≤ m) : (joinP ps).length ≤ m * ps.length := by
  induction ps with
  | nil => simp [joinP]
  | cons p ps ih =>
    have h1 := h p (by simp)
    have h2 := ih fun q hq => h q (by simp [hq])
    have e : joinP (p :: ps) = p.l ++ joinP ps := rfl
    rw [e, List.length_append, List.length_cons, Nat.mul_succ]
    omega
theorem Sm.joinP_take_le (ps : List Pt) (k : Nat) (h : ∀ p ∈ ps.take k, p.l.length ≤ 200) (hk : k ≤ 20) : (joinP (ps.take k)).length ≤ 4000 := by
  have h1 := joinP_le (ps.take k) 200 h
  have h2 : (ps.take k).length ≤ k := by rw [List.length_take]; omega
  have := Nat.mul_le_mul_left 200 (Nat.le_trans h2 hk)
  omega
/-- few enough -/
def Sm.Few (m : Nat) (ps : List Pt) : Prop := ps.length ≤ m ∧ ∀ p ∈ ps, p.n ≤ 200
end Go.Proofs
namespace Go.Proofs
open Go.RowKit Sm
theorem Sm.slice33_all (b : Nat) (w : World) : (Instr.sliceAt 0x1b (.pointer (some ⟨b, 0, none⟩)) none none none).run Tryd.prog w = .ok (.slice (some ⟨b, 0, none⟩) 32 32) w := by
  have hu : Tryd.prog.underlying 0x1b = some (.array (Tryd.prog.arrayLen 0x1b) (Tryd.prog.elem 0x1b)) := by kernel_rfl
  have ha : Tryd.prog.arrayLen 0x1b = 32 := by kernel_rfl
  have he : Tryd.prog.elem 0x1b = 5 := by kernel_rfl
  have hs : ∀ w, (sizeOf 5).run Tryd.prog w = .ok 1 w := fun _ => by kernel_rfl
  rw [run_sliceAt_array_all w 0x1b ⟨b, 0, none⟩ hu, he, hs]
  simp only [Result.andThen_ok, slicedAt, ha, Nat.zero_mul]
  rw [if_neg (by omega), Addr.add_mid, Nat.add_zero]
theorem Sm.refKeyed_from {w v : World} (size n c n2 c2 : Nat) (A A2 : Option Addr) (key b D : List (BitVec 8)) (hs0 : 1 ≤ size) (hs1 : size ≤ 32) (hn : n ≤ 32) (hk : key.length = n) (hb : b.length = n2) (hn2 : n2 ≤ 100000) (hr : Rd w w.heap.size A key) (hr2 : Rd w w.heap.size A2 b) (hD : (hashW size key b).take size = D) (hbw : Below w.heap.size w v) :
    Calls Tryd.prog 92 #[.int .i64 (size : Int), .slice A n c, .slice A2 n2 c2] v fun e w' => ∃ A' c', e = .returned (.slice A' size c') ∧ (convert 0x16 9 (.slice A' size c')).run Tryd.prog w' = .ok (.string (strB D)) w' ∧ Below w.heap.size w w' := by
  refine (refKeyed_any size n c n2 c2 A A2 key b v hs0 hs1 hn hk hb hn2 ((hr.below hbw).more hbw.size) ((hr2.below hbw).more hbw.size)).mono ?_
  rintro e w' ⟨A', c', rfl, hrd, hb2⟩
  rw [hD] at hrd
  have hl : D.length = size := by rw [← hD, List.length_take, hashW_length]; omega
  exact ⟨A', c', rfl, run_str (P := Tryd.prog) w' 0x16 5 Tryd.underlying22 Tryd.underlying5 D size c' w'.heap.size A' hl hrd 9 Tryd.underlying9, hbw.trans (hb2.mono hbw.size)⟩
end Go.Proofs
namespace Go.Proofs
open Go.RowKit Sm
/-- what the law's own copy of a key is -/
theorem Sm.copy_row {w : World} {base n : Nat} {v : Value} {l : List (BitVec 8)} (h : w.ownsRow base 5 1 v (0 + n + 1) ([] ++ l.map byteCell ++ [77#8].map byteCell)) (hl : l.length = n) : ∃ g cap, v = .slice (some ⟨g, 0, none⟩) (n + 1) cap ∧ base ≤ g ∧ n + 1 ≤ cap ∧ w.ownsRow base 5 1 (.slice (some ⟨g, 0, none⟩) (n + 1) cap) (n + 1) ((l ++ [77#8]).map byteCell) := by
  have e : [] ++ l.map byteCell ++ [77#8].map byteCell = (l ++ [77#8]).map byteCell := by simp
  rw [e, Nat.zero_add] at h
  obtain ⟨g, cap, rfl, hb, _⟩ := h.form (by omega)
  refine ⟨g, cap, rfl, hb, ?_, h⟩
  rcases h.2 with ⟨h1, _⟩ | ⟨g', cap', cur, h1, _, _, hnc, _⟩
  · cases h1
  · cases h1; exact hnc
theorem Sm.row_reads {w : World} {base g n cap : Nat} {l : List (BitVec 8)} (h : w.ownsRow base 5 1 (.slice (some ⟨g, 0, none⟩) (n + 1) cap) (n + 1) ((l ++ [77#8]).map byteCell)) (hl : l.length = n) : Rd w w.heap.size (some ⟨g, 0, none⟩) l ∧ w.cell? ⟨g, n, none⟩ = some (.int .u8 77) := by
  have hr := Rd.of_own h (Nat.le_refl _)
  refine ⟨?_, ?_⟩
  · have := hr.take n
    rwa [List.take_append_of_le_length (by omega), List.take_of_length_le (by omega)] at this
  · obtain ⟨b, off, e, _, hc⟩ := hr (by simp)
    cases e
    have := hc n 77#8 (by rw [List.getElem?_append_right (by omega), hl]; simp)
    rw [Nat.zero_add] at this
    exact this
end Go.Proofs
namespace Go.Proofs
open Go.RowKit Sm
theorem Sm.cut_h0 (g n c hi : Nat) (hc : hi ≤ c) (w : World) : (Instr.sliceAt 0x16 (.slice (some ⟨g, 0, none⟩) n c) none (some (.int .i64 (hi : Int))) none).run Tryd.prog w = .ok (.slice (some ⟨g, 0, none⟩) hi c) w := by
  rw [cut_h (some ⟨g, 0, none⟩) n c hi hc w]
  have : cutA (some ⟨g, 0, none⟩) 0 c = some ⟨g, 0, none⟩ := by
    unfold cutA
    split
    · rfl
    · rw [Option.map_some, Addr.add_mid]
  rw [this]
theorem Sm.rd77 (w : World) : Rd (w.alloc (.cells #[.int .u8 77] 5)) (w.heap.size + 1) (some ⟨w.heap.size, 0, none⟩) [77#8] := fun _ => ⟨w.heap.size, 0, rfl, by omega, fun j c hj => by
  rw [World.cell?_alloc_mark]
  rcases j with _ | j <;> simp at hj <;> subst hj <;> rfl⟩
theorem Sm.conv_rd {w : World} {A : Option Addr} {n c : Nat} {l : List (BitVec 8)} (hl : l.length = n) (hr : Rd w w.heap.size A l) : (convert 0x16 9 (.slice A n c)).run Tryd.prog w = .ok (.string (strB l)) w :=
  run_str (P := Tryd.prog) w 0x16 5 Tryd.underlying22 Tryd.underlying5 l n c w.heap.size A hl hr 9 Tryd.underlying9
end Go.Proofs
namespace Go.Proofs
open Go.RowKit Sm
theorem Sm.hsc_length {ws : List (BitVec 32)} {p : Nat} {bl : List (BitVec 8)} {sz : Nat} {a b : Value} (h1 : ws.length = 8) (h2 : bl.length = 64) : (stc ws p bl sz ++ [a, b]).toArray.size = 76 := by
  rw [List.size_toArray, List.length_append, stc_length, h1, h2]; rfl
set_option maxRecDepth 100000 in
set_option maxHeartbeats 2000000 in
theorem Sm.Copy_any (g : Nat) (s : HS) (size : Int) (ahead : Nat) (w : World) (h : HsAt w g s size ahead) (h1 : 0 < size) :
    Calls Tryd.prog 46 #[.pointer (some ⟨g, 0, none⟩)] w fun e w' => ∃ g2, e = .returned (.pointer (some ⟨g2, 0, none⟩)) ∧ w.heap.size ≤ g2 ∧ HsAt w' g2 s size ahead ∧ Below w.heap.size w w' := by
  have hth := there_yes w g s size ahead h h1
  have hz54 := (zero_of_info z54).1
  have hzl := zz54_length
  have hi : (Tryd.prog.info? 0x77).map (·.size) = some (stc s.ws s.p (pad s.cur) s.cur.length ++ [Value.int .i64 size, Value.int .i64 (ahead : Int)]).toArray.size := by
    rw [hsc_length h.wlen h.blen]; kernel_rfl
  have hs : zz54.toArray.size = (stc s.ws s.p (pad s.cur) s.cur.length ++ [Value.int .i64 size, Value.int .i64 (ahead : Int)]).toArray.size := by
    rw [hsc_length h.wlen h.blen, List.size_toArray, hzl]
  have ho : (stc s.ws s.p (pad s.cur) s.cur.length ++ [Value.int .i64 size, Value.int .i64 (ahead : Int)]).toArray.all (·.oneCell') = true := by
    refine all_oneCell_toArray fun v hv => ?_
    rcases List.mem_append.1 hv with hv | hv
    · exact stc_one _ _ _ _ v hv
    · simp only [List.mem_cons, List.not_mem_nil, or_false] at hv
      rcases hv with rfl | rfl <;> rfl
  have hbk : Blk w g 0x77 (stc s.ws s.p (pad s.cur) s.cur.length ++ [Value.int .i64 size, Value.int .i64 (ahead : Int)]).toArray := h.blk
  have hwl := h.wlen
  have hbl := h.blen
  obtain ⟨X, hX⟩ : ∃ X, (stc s.ws s.p (pad s.cur) s.cur.length ++ [Value.int .i64 size, Value.int .i64 (ahead : Int)]).toArray = X := ⟨_, rfl⟩
  rw [hX] at hi hs ho hbk
  have HX := Lib.hid hX
  have HI := Lib.hid hi
  have HS := Lib.hid hs
  have HO := Lib.hid ho
  have HBK := Lib.hid hbk
  have HL := Lib.hid (And.intro hwl hbl)
  clear hX hi hs ho hbk hwl hbl h h1 hzl
  go_enter Tryd.func46, Tryd.ntmps46
  go_wp2_with (first
    | (go_at_call 71; (with_reducible refine hth.mono ?_); clear hth; rintro e w' ⟨rfl, rfl⟩)
    | (refine wpList_load_row rfl 0x77 _ rfl g rfl 0x77 X (0, 0) _ HBK.out Tryd.underlying119 rfl HI.out ?_)
    | (refine wpList_store_row rfl 0x77 _ _ rfl w.heap.size X rfl rfl 0x77 zz54.toArray (World.alloc_heap_new w _) HI.out HS.out HO.out ?_))
  go_ret
  refine ⟨_, rfl, Nat.le_refl _, ⟨?_, HL.out.1, HL.out.2⟩, below_setRow ((Below.refl _ w).alloc (Nat.le_refl _) _) (Nat.le_refl _) _⟩
  rw [HX.out]
  exact setRow_heap _ _ _ _ _ _ (World.alloc_heap_new w _)
/-- a part that is written, told from a base world; other hashes stay -/
theorem Sm.Write_by {w v : World} (g : Nat) (s : HS) (size : Int) (a : Nat) (A : Option Addr) (n c : Nat) (l : List (BitVec 8)) (ht : Tabs w) (hg : w.heap.size ≤ g) (h1 : 0 < size) (hcur : s.cur.length ≤ 64) (hp : s.p + s.cur.length + l.length ≤ 1000000000) (hpt : PtOK w g A n c l)
    (h : HsAt v g s size a) (hb : Below w.heap.size w v) : Calls Tryd.prog 70 #[.pointer (some ⟨g, 0, none⟩), .slice A n c] v fun e w' => e = .returned (.int .i64 0) ∧ HsAt w' g (takeS s l) size a ∧ Below w.heap.size w w' ∧ ∀ g' s' size' a', g' ≠ g → HsAt v g' s' size' a' → HsAt w' g' s' size' a' :=
  (Write_any g s size a A n c l v h h1 hcur (hpt.keep hb) (by have := ht.size; omega) (ht.keep hb) (by rw [List.length_append]; omega)).mono fun _ _ ⟨e, hh, hbt⟩ => ⟨e, hh, hb.trans (hbt.to_below hb.size (fun b eb => by omega)), fun _ _ _ _ hne h' => h'.but hbt hne⟩
end Go.Proofs
namespace Go.Proofs
open Go.RowKit Sm
/-- two parts joined by the law itself -/
theorem Sm.two_row {w : World} {base n m : Nat} {v : Value} {a b : List (BitVec 8)} (h : w.ownsRow base 5 1 v (0 + n + m) ([] ++ a.map byteCell ++ b.map byteCell)) : ∃ A c, v = .slice A (n + m) c ∧ Rd w w.heap.size A (a ++ b) := by
  have e : [] ++ a.map byteCell ++ b.map byteCell = (a ++ b).map byteCell := by simp
  rw [e, Nat.zero_add] at h
  obtain ⟨A, c, rfl⟩ := own_slice h
  exact ⟨A, c, rfl, Rd.of_own h (Nat.le_refl _)⟩
end Go.Proofs
