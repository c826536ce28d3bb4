/-
  The contracts of Sum, and of New and Keyed where they refuse.
  The contract of New where it gives a hash.
  The contracts of a hash's own there and Write, where there is one.
  The contract of works: the rows of the chapter hold.
  The contract of a hash's own Sum, where there is one.
  The contract of Keyed where it gives a sum.
  The walk of the law BlakeMix: at every four words and two it returns true and nothing that lay has turned, where the tables lie in memory.
  Parts of slices of bytes, and parts in a row of the call itself. No condition.
  The walk of the law BlakeCuts: at every size, key, bytes and cuts it returns true and nothing that lay has turned, where the tables lie in memory.
-/
import Derived.Test.YtmhmnmdobnkbgaaDoorM8
import Derived.Lib.SlBytesConst
import Derived.Test.YtmhmnmdobnkbgaaDoorM1
import Derived.Deep.RegionHeld3
import Derived.ChangeKeysEq
import Derived.Test.YtmhmnmdobnkbgaaDoorM4
import Derived.Test.YtmhmnmdobnkbgaaDoorM3
import Derived.Deep.RegionHeldLaw
namespace Go.Proofs
open Go.RowKit Sm
/-- the 32 bytes of the sum -/
def Sm.hashW (size : Nat) (key b : List (BitVec 8)) : List (BitVec 8) := digest (endS (takeS (startS size key) b).ws (takeS (startS size key) b).p (takeS (startS size key) b).cur)
theorem Sm.startS_ws (size : Nat) (key : List (BitVec 8)) : (startS size key).ws.length = 8 := by unfold startS; simp [beginL]
theorem Sm.startS_cur (size : Nat) (key : List (BitVec 8)) (h : key.length ≤ 64) : (startS size key).cur.length ≤ 64 := by
  unfold startS
  simp only
  split
  · simp
  · rw [pad_length key h]; omega
theorem Sm.outK32 (l : List (BitVec 32)) : (digest l).length = 32 := outK_length l 32
theorem Sm.hashW_length (size : Nat) (key b : List (BitVec 8)) : (hashW size key b).length = 32 := outK32 _
set_option maxRecDepth 100000 in
set_option maxHeartbeats 4000000 in
theorem Sm.Sum_any (A : Option Addr) (n c : Nat) (ps : List Pt) (w : World) (hps : ∀ g, w.heap.size ≤ g → PsOK w g A n ps) (hr : n ≤ c) (ht : Tabs w) (hp : (joinP ps).length ≤ 100000) :
    Calls Tryd.prog 64 #[.slice A n c] w fun e w' => e = .returned (.agg (bvs (hashW 32 [] (joinP ps)))) ∧ Below w.heap.size w w' := by
  obtain ⟨W1, hW1⟩ : ∃ W1, w.alloc (.cells (bvs (List.replicate 32 0#8)) 0x1b) = W1 := ⟨_, rfl⟩
  have hb1 : Below w.heap.size w W1 := by rw [← hW1]; exact (Below.refl _ w).alloc (Nat.le_refl _) _
  have hr1 : Blk W1 w.heap.size 0x1b (bvs (List.replicate 32 0#8)) := by rw [← hW1]; exact Blk.new w 0x1b _
  have hst := start_nil 32 0 none W1 (ht.keep hb1) (by decide)
  rw [show ((32 : Nat) : Int) = 32 from rfl] at hst
  obtain ⟨s, hs⟩ : ∃ s, startS 32 [] = s := ⟨_, rfl⟩
  rw [hs] at hst
  have hsw : s.ws.length = 8 := by rw [← hs]; exact startS_ws 32 []
  have hsc : s.cur.length = 0 := by rw [← hs]; rfl
  have hsp : s.p = 0 := by rw [← hs]; rfl
  have hz52 := (zero_of_info z52').1
  have HSs := Lib.hid hs
  have HSW := Lib.hid hsw
  have HSC := Lib.hid hsc
  have HSP := Lib.hid hsp
  have HST := Lib.hid hst
  have HR1 := Lib.hid hr1
  clear hs hsw hsc hsp hst hr1
  go_enter Tryd.func64, Tryd.ntmps64
  go_upto_region 1 with fail
  rw [zu32_eq, hW1]
  clear hW1
  go_upto_region 2 with (first
    | (go_at_call 69; (with_reducible refine HST.out.mono ?_); rintro e w2 ⟨rfl, hb2⟩)
    | (refine wpList_store_row rfl 0x74 _ _ rfl w2.heap.size (stc s.ws 0 (pad s.cur) s.cur.length).toArray rfl rfl 0x74 (stc z8 0 z64 0).toArray (World.alloc_heap_new w2 _) (by rw [List.size_toArray]; exact i52 _ _ _ _ HSW.out (pad_length _ (by rw [HSC.out]; decide))) (stc_sz (by rfl) z64_length HSW.out (pad_length _ (by rw [HSC.out]; decide))) (all_oneCell_toArray (stc_one _ _ _ _)) ?_))
  obtain ⟨g, hg⟩ : ∃ g, w2.heap.size = g := ⟨_, rfl⟩
  obtain ⟨W3, hW3⟩ : ∃ W3, (w2.alloc (.cells (stc z8 0 z64 0).toArray 0x74)).setRow w2.heap.size (stc s.ws 0 (pad s.cur) s.cur.length).toArray = W3 := ⟨_, rfl⟩
  have hbW : Below w.heap.size w W3 := by
    rw [← hW3]
    have hb12 := hb1.trans (hb2.mono hb1.size)
    exact below_setRow (hb12.alloc hb12.size _) hb12.size _
  have hst3 : St W3 g 0x74 s.ws 0 (pad s.cur) s.cur.length [] := by
    refine St.of_nil ?_ HSW.out (pad_length _ (by rw [HSC.out]; decide))
    rw [← hW3, ← hg]
    exact setRow_heap _ _ _ _ _ _ (World.alloc_heap_new w2 _)
  have hgw : w.heap.size < g := by
    have h1 := HR1.out.lt
    have h2 := hb2.size
    omega
  have hr3 : Blk W3 w.heap.size 0x1b (bvs (List.replicate 32 0#8)) := by
    rw [← hW3]
    exact (setRow_other _ _ _ _ (by omega)).trans ((HR1.out.keep hb2).alloc _)
  rw [hW3, hg]
  have htk := take_any g 0x74 s.ws 0 s.cur [] A n c ps W3 hst3 (by rw [HSC.out]; decide) ((hps g (by omega)).keep hbW) hr (by have := ht.size; omega) (ht.keep hbW) (by rw [List.length_append, HSC.out]; omega)
  have hse : (⟨s.ws, 0, s.cur⟩ : Sm.HS) = s := by rw [← HSP.out]
  rw [hse] at htk
  have HTK := Lib.hid htk
  have HR3 := Lib.hid hr3
  clear hg hW3 hst3 hr3 htk hse
  go_upto_region 3 with (go_at_call 89; (with_reducible refine HTK.out.mono ?_); rintro e w4 ⟨⟨v4, rfl⟩, hst4, hbt4⟩)
  have hb4 : Below w.heap.size w w4 := hbW.trans (hbt4.to_below hbW.size (fun b e => by omega))
  have hcl4 := takeS_cur_le s (joinP ps)
  have hwl4 : (takeS s (joinP ps)).ws.length = 8 := by rw [takeS_ws, HSW.out]
  have hct4 := takeS_count s (joinP ps)
  have hhash : digest (endS (takeS s (joinP ps)).ws (takeS s (joinP ps)).p (takeS s (joinP ps)).cur) = hashW 32 [] (joinP ps) := by unfold hashW; rw [HSs.out]
  obtain ⟨f, hf⟩ : ∃ f, takeS s (joinP ps) = f := ⟨_, rfl⟩
  rw [hf] at hst4 hcl4 hwl4 hct4 hhash
  have hr4 := HR3.out.but hbt4 (by omega)
  have hen := end_any f.ws f.p f.cur w4 hwl4 hcl4 (by rw [HSP.out, HSC.out] at hct4; omega) (ht.keep hb4)
  rw [hhash] at hen
  obtain ⟨D, hD⟩ : ∃ D, hashW 32 [] (joinP ps) = D := ⟨_, rfl⟩
  have hDl : D.length = 32 := by rw [← hD]; exact hashW_length ..
  rw [hD] at hen
  unfold StH at hst4
  have HD := Lib.hid hD
  have HDL := Lib.hid hDl
  have HEN := Lib.hid hen
  have HST4 := Lib.hid hst4
  have HR4 := Lib.hid hr4
  have HWL4 := Lib.hid hwl4
  have HCL4 := Lib.hid hcl4
  have h32 : Hid ((bvs (List.replicate 32 0#8)).size = (bvs D).size) := Lib.hid (by rw [bvs_size, bvs_size, hDl]; rfl)
  clear hf hst4 hcl4 hwl4 hct4 hhash hr4 hen hD hDl HTK HST
  go_wp2_with (first
    | (refine wpList_load_mid rfl 0x74 _ rfl g 0 rfl (stc f.ws f.p (pad f.cur) f.cur.length) _ HST4.out.rangeAll Tryd.underlying116 rfl (i52 _ _ _ _ HWL4.out (pad_length _ HCL4.out)) ?_)
    | (go_at_call 90; (with_reducible refine HEN.out.mono ?_); rintro e w5 ⟨rfl, hb5⟩)
    | (refine wpList_store_row rfl 0x1b _ _ rfl w.heap.size (bvs D) rfl rfl 0x1b _ (HR4.out.keep hb5) (i36 D HDL.out) h32.out (bvs_one D) ?_))
  refine bodyPost_ret (results_cell_row rfl _ _ w.heap.size 0x1b (bvs D) (0, 0) _ rfl (setRow_heap _ _ _ _ _ _ (HR4.out.keep hb5)) Tryd.underlying27 rfl (i36 D HDL.out)) rfl ⟨by rw [HD.out], below_setRow (hb4.trans (hb5.mono hb4.size)) (Nat.le_refl _) _⟩
set_option maxHeartbeats 1000000 in
theorem Sm.New_no (size : Int) (n c : Nat) (A : Option Addr) (w : World) (hn : n ≤ 1000000) (h : size < 1 ∨ 32 < size ∨ 32 < n) : Calls Tryd.prog 43 #[.int .i64 size, .slice A n c] w fun e w' => e = .returned (.tuple #[.pointer none, .int .i64 2]) ∧ w = w' := by
  by_cases h1 : size < 1
  · go_enter Tryd.func43, Tryd.ntmps43
    go_wp2
    go_ret2
    exact ⟨rfl, rfl⟩
  · by_cases h2 : 32 < size
    · go_enter Tryd.func43, Tryd.ntmps43
      go_wp2
      go_ret2
      exact ⟨rfl, rfl⟩
    · have h3 : 32 < n := by omega
      go_enter Tryd.func43, Tryd.ntmps43
      go_wp2
      go_ret2
      exact ⟨rfl, rfl⟩
end Go.Proofs
namespace Go.Proofs
open Go.RowKit Sm
theorem Sm.fill_list (off : Nat) : ∀ (vs : List Value) (k : Nat) (L : List Value), (vs.zipIdx k).foldl (fun cs (x : Value × Nat) => cs.setIfInBounds (off + x.2) x.1) L.toArray = (setAll L (off + k) vs).toArray
  | [], _, _ => rfl
  | v :: r, k, L => by
    rw [List.zipIdx_cons, List.foldl_cons, setAll]
    have := fill_list off r (k + 1) (L.set (off + k) v)
    rw [← Nat.add_assoc] at this
    rw [← this]
    simp
def Sm.zz54 : List Value := stc z8 0 z64 0 ++ [Value.int .i64 0, Value.int .i64 0]
theorem Sm.z54 : (Tryd.prog.info? 0x77).map (fun i => (i.zero, i.size)) = some (some (.agg zz54.toArray), 76) := by kernel_rfl
theorem Sm.start_any (size n c : Nat) (A : Option Addr) (key : List (BitVec 8)) (w : World) (ht : Tabs w) (hs1 : size ≤ 32) (hn : n ≤ 32) (hk : key.length = n) (hrd : Rds w (fun _ => False) A (key.map byteCell)) :
    Calls Tryd.prog 69 #[.int .i64 (size : Int), .slice A n c] w fun e w' => e = .returned (.agg (stc (startS size key).ws 0 (pad (startS size key).cur) (startS size key).cur.length).toArray) ∧ Below w.heap.size w w' := by
  by_cases h0 : 0 < n
  · exact start_key size n c A key w ht hs1 hn hk hrd h0
  · obtain rfl : n = 0 := by omega
    obtain rfl : key = [] := List.eq_nil_of_length_eq_zero hk
    exact start_nil size c A w ht hs1
theorem Sm.fold54 (L : List Value) (hL : L.length = 74) : List.foldl (fun (cs : Array Value) (x : Value × Nat) => cs.setIfInBounds x.snd x.fst) zz54.toArray L.zipIdx = (L ++ [Value.int .i64 0, Value.int .i64 0]).toArray := by
  have e0 : setAll zz54 0 L = L ++ [Value.int .i64 0, Value.int .i64 0] := by
    have := setAll_mid [] L (stc z8 0 z64 0) [Value.int .i64 0, Value.int .i64 0] (by rw [hL]; rfl)
    simpa [zz54] using this
  have := fill_list 0 L 0 zz54
  rw [Nat.add_zero, e0] at this
  rw [← this]
  congr 1
  funext cs x
  rw [Nat.zero_add]
theorem Sm.zz54_length : zz54.length = 76 := rfl
/-- what lies of a hash in block g -/
def Sm.HsAt (w : World) (g : Nat) (s : HS) (size : Int) (ahead : Nat) : Prop := St w g 0x77 s.ws s.p (pad s.cur) s.cur.length [.int .i64 size, .int .i64 (ahead : Int)]
set_option maxRecDepth 100000 in
set_option maxHeartbeats 4000000 in
theorem Sm.New_yes (size n c : Nat) (A : Option Addr) (key : List (BitVec 8)) (w : World) (ht : Tabs w) (hs0 : 1 ≤ size) (hs1 : size ≤ 32) (hn : n ≤ 32) (hk : key.length = n) (hrd : Rds w (fun _ => False) A (key.map byteCell)) :
    Calls Tryd.prog 43 #[.int .i64 (size : Int), .slice A n c] w fun e w' => ∃ g, e = .returned (.tuple #[.pointer (some ⟨g, 0, none⟩), .int .i64 0]) ∧ w.heap.size ≤ g ∧ HsAt w' g (startS size key) (size : Int) (startS size key).cur.length ∧ Below w.heap.size w w' := by
  have hst := start_any size n c A key w ht hs1 hn hk hrd
  have hwl := startS_ws size key
  have hcl := startS_cur size key (by omega)
  have hsp : (startS size key).p = 0 := rfl
  obtain ⟨s, hs⟩ : ∃ s, startS size key = s := ⟨_, rfl⟩
  rw [hs] at hst hwl hcl hsp
  have hL : (stc s.ws 0 (pad s.cur) s.cur.length).length = 74 := by rw [stc_length, hwl, pad_length _ hcl]
  have h1 : ¬ ((size : Int) < 1) := by omega
  have h2 : ¬ ((32 : Int) < (size : Int)) := by omega
  have h3 : ¬ ((32 : Int) < (n : Int)) := by omega
  rw [hs]
  obtain ⟨e, he⟩ : ∃ e : Int, (size : Int) = e := ⟨_, rfl⟩
  rw [he] at hst h1 h2 ⊢
  have hbt := fold54 (stc s.ws 0 (pad s.cur) s.cur.length) hL
  have hz54 := (zero_of_info z54).1
  have hzl := zz54_length
  have hz52 := (zero_of_info z52').1
  have HWL := Lib.hid hwl
  have HCL := Lib.hid hcl
  have HSP := Lib.hid hsp
  have HL := Lib.hid hL
  have HST := Lib.hid hst
  clear hs hwl hcl hsp hst he hs0 hs1 hrd ht
  go_enter Tryd.func43, Tryd.ntmps43
  go_upto_region 4 with (first
    | (go_at_call 69; (with_reducible refine HST.out.mono ?_); rintro e w2 ⟨rfl, hb2⟩)
    | (refine wpList_store_row rfl 0x74 _ _ rfl w2.heap.size (stc s.ws 0 (pad s.cur) s.cur.length).toArray rfl rfl 0x74 (stc z8 0 z64 0).toArray (World.alloc_heap_new w2 _) (by rw [List.size_toArray]; exact i52 _ _ _ _ HWL.out (pad_length _ HCL.out)) (stc_sz (by rfl) z64_length HWL.out (pad_length _ HCL.out)) (all_oneCell_toArray (stc_one _ _ _ _)) ?_))
  obtain ⟨g, hg⟩ : ∃ g, w2.heap.size = g := ⟨_, rfl⟩
  obtain ⟨W3, hW3⟩ : ∃ W3, (w2.alloc (.cells (stc z8 0 z64 0).toArray 0x74)).setRow w2.heap.size (stc s.ws 0 (pad s.cur) s.cur.length).toArray = W3 := ⟨_, rfl⟩
  have hb3 : Below w.heap.size w W3 := by
    rw [← hW3]
    exact below_setRow (hb2.alloc hb2.size _) hb2.size _
  have hst3 : St W3 g 0x74 s.ws 0 (pad s.cur) s.cur.length [] := by
    refine St.of_nil ?_ HWL.out (pad_length _ HCL.out)
    rw [← hW3, ← hg]
    exact setRow_heap _ _ _ _ _ _ (World.alloc_heap_new w2 _)
  rw [hW3, hg]
  have hc73 := hst3.cellS
  have HB3 := Lib.hid hb3
  have HST3 := Lib.hid hst3
  clear hW3 hg hb3 hst3 hb2 HST
  go_wp2_with (refine wpList_load_mid rfl 0x74 _ rfl g 0 rfl (stc s.ws 0 (pad s.cur) s.cur.length) _ HST3.out.rangeAll Tryd.underlying116 rfl (i52 _ _ _ _ HWL.out (pad_length _ HCL.out)) ?_)
  go_ret2
  refine ⟨_, rfl, HB3.out.size, ⟨?_, HWL.out, pad_length _ HCL.out⟩, HB3.out.alloc HB3.out.size _⟩
  rw [HSP.out]
  exact Blk.new W3 0x77 _
end Go.Proofs
namespace Go.Proofs
open Go.RowKit Sm
section
variable {w w' : World} {g : Nat} {s : HS} {size : Int} {ahead : Nat}
theorem Sm.HsAt.tail (h : HsAt w g s size ahead) : w.rangeAt g 74 [.int .i64 size, .int .i64 (ahead : Int)] := by
  have := range_of (A := stc s.ws s.p (pad s.cur) s.cur.length) (B := [Value.int .i64 size, .int .i64 (ahead : Int)]) (C := []) (t := 0x77) (g := g) (w := w) (by simpa using h.blk)
  have e : (stc s.ws s.p (pad s.cur) s.cur.length).length = 74 := by rw [stc_length, h.wlen, h.blen]
  rwa [e] at this
theorem Sm.HsAt.cellSize (h : HsAt w g s size ahead) : w.cell? ⟨g, 74, none⟩ = some (.int .i64 size) := h.tail 0 _ rfl
theorem Sm.HsAt.cellAhead (h : HsAt w g s size ahead) : w.cell? ⟨g, 75, none⟩ = some (.int .i64 (ahead : Int)) := h.tail 1 _ rfl
theorem Sm.HsAt.lt (h : HsAt w g s size ahead) : g < w.heap.size := h.blk.lt
theorem Sm.HsAt.keep (h : HsAt w g s size ahead) (hb : Below w.heap.size w w') : HsAt w' g s size ahead := St.keep h hb
theorem Sm.HsAt.but {S : Nat → Prop} (h : HsAt w g s size ahead) (hb : But S w w') (hn : ¬ S g) : HsAt w' g s size ahead := St.but h hb hn
end
set_option maxHeartbeats 1000000 in
theorem Sm.there_yes (w : World) (g : Nat) (s : HS) (size : Int) (ahead : Nat) (h : HsAt w g s size ahead) (h1 : 0 < size) : Calls Tryd.prog 71 #[.pointer (some ⟨g, 0, none⟩)] w fun e w' => e = .returned (.bool true) ∧ w = w' := by
  have hc := h.cellSize
  clear h
  go_enter Tryd.func71, Tryd.ntmps71
  go_wp2
  go_ret
  exact ⟨rfl, rfl⟩
theorem Sm.one_part {w : World} {g : Nat} {A : Option Addr} {n c : Nat} {l : List (BitVec 8)} (hg : g < w.heap.size) (h : PtOK w g A n c l) : PsOK (w.alloc (.cells #[.slice A n c] 0x16)) g (some ⟨w.heap.size, 0, none⟩) 1 [⟨A, n, c, l⟩] := by
  refine ⟨rfl, by omega, fun _ => ⟨w.heap.size, 0, rfl, by simp, by omega, fun j v hj => ?_⟩, fun p hp => ?_⟩
  · rcases j with _ | j
    · simp [Pt.val] at hj
      subst hj
      rw [World.cell?_alloc_mark]
      rfl
    · simp at hj
  · simp only [List.mem_cons, List.not_mem_nil, or_false] at hp
    subst hp
    exact h.keep ((Below.refl _ w).alloc (Nat.le_refl _) _)
set_option maxRecDepth 100000 in
set_option maxHeartbeats 2000000 in
theorem Sm.Write_any (g : Nat) (s : HS) (size : Int) (ahead : Nat) (A : Option Addr) (n c : Nat) (l : List (BitVec 8)) (w : World) (h : HsAt w g s size ahead) (h1 : 0 < size) (hcur : s.cur.length ≤ 64) (hpt : PtOK w g A n c l) (hg : 4 ≤ g) (ht : Tabs w) (hp : s.p + (s.cur ++ l).length ≤ 1000000000) :
    Calls Tryd.prog 70 #[.pointer (some ⟨g, 0, none⟩), .slice A n c] w fun e w' => e = .returned (.int .i64 0) ∧ HsAt w' g (takeS s l) size ahead ∧ But (fun b => b = g) w w' := by
  have hth := there_yes w g s size ahead h h1
  have hb1 := (Below.refl w.heap.size w).alloc (Nat.le_refl _) (.cells #[.slice A n c] 0x16)
  have hst1 : St (w.alloc (.cells #[.slice A n c] 0x16)) g 0x77 s.ws s.p (pad s.cur) s.cur.length [.int .i64 size, .int .i64 (ahead : Int)] := St.keep h hb1
  have htk := take_any g 0x77 s.ws s.p s.cur [.int .i64 size, .int .i64 (ahead : Int)] (some ⟨w.heap.size, 0, none⟩) 1 1 [⟨A, n, c, l⟩] _ hst1 hcur (one_part h.lt hpt) (Nat.le_refl _) hg (ht.keep hb1) (by simpa [joinP] using hp)
  have e : joinP [⟨A, n, c, l⟩] = l := by simp [joinP]
  rw [e] at htk
  have HTK := Lib.hid htk
  have HB1 := Lib.hid hb1
  clear htk hb1 hst1 h h1 hcur hpt hp ht e hg
  go_enter Tryd.func70, Tryd.ntmps70
  go_wp2_with (first
    | (go_at_call 71; (with_reducible refine hth.mono ?_); clear hth; rintro e w' ⟨rfl, rfl⟩)
    | (go_at_call 89; (with_reducible refine HTK.out.mono ?_); rintro e w4 ⟨⟨v4, rfl⟩, hst4, hbt4⟩))
  go_ret
  exact ⟨rfl, hst4, (But.of_all HB1.out _).trans hbt4 (fun _ _ e => e)⟩
end Go.Proofs
namespace Go.Proofs
open Go.RowKit Sm
def Sm.bA : List (BitVec 8) := [97#8]
def Sm.bB : List (BitVec 8) := [98#8, 99#8]
theorem Sm.hash_abc : (hashW 32 [] (bA ++ bB)).take 8 = [80#8, 140#8, 94#8, 140#8, 50#8, 124#8, 20#8, 226#8] := by decide +kernel
theorem Sm.hash_none : (hashW 32 [] []).take 8 = [105#8, 33#8, 122#8, 48#8, 121#8, 144#8, 128#8, 148#8] := by decide +kernel
theorem Sm.str_abc : (strB [80#8, 140#8, 94#8, 140#8, 50#8, 124#8, 20#8, 226#8]).toList = [80, 140, 94, 140, 50, 124, 20, 226] := by rw [ByteArray.toList_eq]; rfl
theorem Sm.str_none : (strB [105#8, 33#8, 122#8, 48#8, 121#8, 144#8, 128#8, 148#8]).toList = [105, 33, 122, 48, 121, 144, 128, 148] := by rw [ByteArray.toList_eq]; rfl
theorem Sm.ps_abc (w : World) (a b n : Nat) (h : w.cell? ⟨a, 0, none⟩ = some (.int .u8 97)) (k0 : w.cell? ⟨b, 0, none⟩ = some (.int .u8 98)) (k1 : w.cell? ⟨b, 1, none⟩ = some (.int .u8 99)) (l0 : w.cell? ⟨n, 0, none⟩ = some (.slice (some ⟨a, 0, none⟩) 1 1)) (l1 : w.cell? ⟨n, 1, none⟩ = some (.slice (some ⟨b, 0, none⟩) 2 2)) (g : Nat) (hg : w.heap.size ≤ g) :
    PsOK w g (some ⟨n, 0, none⟩) 2 [⟨some ⟨a, 0, none⟩, 1, 1, bA⟩, ⟨some ⟨b, 0, none⟩, 2, 2, bB⟩] := by
  have ha := World.block_lt_of_cell? w _ h
  have hb := World.block_lt_of_cell? w _ k0
  have hn := World.block_lt_of_cell? w _ l0
  simp only at ha hb hn
  refine ⟨rfl, by omega, fun _ => ⟨n, 0, rfl, hn, by omega, fun j v hj => ?_⟩, fun p hp => ?_⟩
  · rcases j with _ | _ | j
    · simp [Pt.val] at hj; subst hj; exact l0
    · simp [Pt.val] at hj; subst hj; exact l1
    · simp at hj
  · simp only [List.mem_cons, List.not_mem_nil, or_false] at hp
    rcases hp with rfl | rfl
    · refine ⟨rfl, by show 1 ≤ 1; omega, by show 1 ≤ _; omega, fun _ => ⟨a, 0, rfl, ha, by omega, fun j v hj => ?_⟩⟩
      rcases j with _ | j
      · simp [bA, byteCell, ib] at hj; subst hj; exact h
      · simp [bA] at hj
    · refine ⟨rfl, by show 2 ≤ 2; omega, by show 2 ≤ _; omega, fun _ => ⟨b, 0, rfl, hb, by omega, fun j v hj => ?_⟩⟩
      rcases j with _ | _ | j
      · simp [bB, byteCell, ib] at hj; subst hj; exact k0
      · simp [bB, byteCell, ib] at hj; subst hj; exact k1
      · simp [bB] at hj
theorem Sm.ps_nil (w : World) (g : Nat) : PsOK w g none 0 [] := ⟨rfl, by omega, fun h => by simp at h, fun p hp => by simp at hp⟩
theorem Sm.info5 : (Tryd.prog.info? 5).map (fun i => (i.zero, i.size, i.bytes)) = some (some (.int .u8 0), 1, 1) := by kernel_rfl
theorem Sm.slice32_h (b h : Nat) (hI : Int) (e : hI = h) (hh : h ≤ 32) (w : World) :
    (Instr.sliceAt 0x1b (.pointer (some ⟨b, 0, none⟩)) none (some (.int .i64 hI)) none).run Tryd.prog w = .ok (.slice (some ⟨b, 0, none⟩) h 32) w := by
  subst e
  have hu : Tryd.prog.underlying 0x1b = some (.array (Tryd.prog.arrayLen 0x1b) (Tryd.prog.elem 0x1b)) := by kernel_rfl
  have ha : Tryd.prog.arrayLen 0x1b = 32 := by kernel_rfl
  have he : Tryd.prog.elem 0x1b = 5 := by kernel_rfl
  have hs : ∀ w, (sizeOf 5).run Tryd.prog w = .ok 1 w := fun _ => by kernel_rfl
  rw [run_sliceAt_array_h w 0x1b ⟨b, 0, none⟩ hu .i64 _ (by omega) (by rw [ha]; omega), he, hs]
  simp only [Result.andThen_ok, slicedAt, ha, Int.toNat_natCast, Nat.zero_mul]
  rw [if_neg (by omega), Addr.add_mid]
  rfl
theorem Sm.Blk.rd {w : World} {b : Nat} {t : TypeId} {l : List (BitVec 8)} (h : Blk w b t (bvs l)) {B : Nat} (hB : b < B) : Rd w B (some ⟨b, 0, none⟩) l := fun _ => ⟨b, 0, rfl, hB, fun j c hj => by
  rw [Nat.zero_add, h.cell]
  simp [bvs, hj, byteCell]⟩
theorem Sm.join_abc : joinP [⟨some ⟨0, 0, none⟩, 1, 1, bA⟩, ⟨some ⟨0, 0, none⟩, 2, 2, bB⟩] = bA ++ bB := rfl
end Go.Proofs
namespace Go.Proofs
open Go.RowKit Sm
/-- the sum's bytes of a state -/
def Sm.sumS (s : HS) : List (BitVec 8) := digest (endS s.ws s.p s.cur)
theorem Sm.sumS_length (s : HS) : (sumS s).length = 32 := outK32 _
set_option maxRecDepth 100000 in
set_option maxHeartbeats 4000000 in
theorem Sm.HSum_any (g : Nat) (s : HS) (size : Nat) (ahead : Nat) (w : World) (h : HsAt w g s (size : Int) ahead) (h1 : 1 ≤ size) (h2 : size ≤ 32) (hcur : s.cur.length ≤ 64) (ht : Tabs w) (hp : s.p ≤ 1000000000) :
    Calls Tryd.prog 91 #[.pointer (some ⟨g, 0, none⟩)] w fun e w' => ∃ v, e = .returned v ∧ w'.ownsRow w.heap.size 5 1 v size (((sumS s).take size).map byteCell) ∧ Below w.heap.size w w' := by
  obtain ⟨i0, hi, hz0, hz1, hz2⟩ := info_parts info5
  have hth := there_yes w g s (size : Int) ahead h (by omega)
  have hen := end_any s.ws s.p s.cur w h.wlen hcur hp ht
  have hDl := sumS_length s
  rw [show digest (endS s.ws s.p s.cur) = sumS s from rfl] at hen
  obtain ⟨D, hD⟩ : ∃ D, sumS s = D := ⟨_, rfl⟩
  rw [hD] at hen hDl ⊢
  have HDL := Lib.hid hDl
  have h32 : Hid ((bvs (List.replicate 32 0#8)).size = (bvs D).size) := Lib.hid (by rw [bvs_size, bvs_size, hDl]; rfl)
  have HEN := Lib.hid hen
  have HS0 := Lib.hid h
  have HT := Lib.hid (And.intro h1 h2)
  have HC := Lib.hid hcur
  clear hD hDl hen h hcur ht hp h1 h2
  go_enter Tryd.func91, Tryd.ntmps91
  go_upto_region 4 with (first
    | (go_at_call 71; (with_reducible refine hth.mono ?_); clear hth; rintro e w' ⟨rfl, rfl⟩)
    | (refine wpList_load_mid rfl 0x74 _ rfl g 0 rfl (stc s.ws s.p (pad s.cur) s.cur.length) _ (St.rangeAll HS0.out) Tryd.underlying116 rfl (i52 _ _ _ _ HS0.out.wlen HS0.out.blen) ?_)
    | (go_at_call 90; (with_reducible refine HEN.out.mono ?_); rintro e w5 ⟨rfl, hb5⟩)
    | (refine wpList_store_row rfl 0x1b _ _ rfl w5.heap.size (bvs D) rfl rfl 0x1b (bvs (List.replicate 32 0#8)) (World.alloc_heap_new w5 _) (i36 D HDL.out) h32.out (bvs_one D) ?_))
  rw [zu32_eq]
  obtain ⟨W6, hW6⟩ : ∃ W6, (w5.alloc (.cells (bvs (List.replicate 32 0#8)) 0x1b)).setRow w5.heap.size (bvs D) = W6 := ⟨_, rfl⟩
  obtain ⟨b, hb⟩ : ∃ b, w5.heap.size = b := ⟨_, rfl⟩
  have hB6 : Blk W6 b 0x1b (bvs D) := by rw [← hW6, ← hb]; exact setRow_heap _ _ _ _ _ _ (World.alloc_heap_new w5 _)
  have hb6 : Below w.heap.size w W6 := by rw [← hW6]; exact below_setRow (hb5.alloc hb5.size _) hb5.size _
  have hc74 := (HS0.out.keep hb6).cellSize
  have hrd := (Sm.Blk.rd hB6 hB6.lt).take size
  have hlen : (D.take size).length = size := by rw [List.length_take, HDL.out]; have := HT.out.2; omega
  have hsl := slice32_h b size (size : Int) rfl HT.out.2
  have hs6 := hb6.size
  have HB6 := Lib.hid hb6
  have HRD := Lib.hid hrd
  have HLEN := Lib.hid hlen
  have HS6 := Lib.hid hs6
  rw [hW6, hb]
  clear hW6 hb hB6 hb6 hrd hlen hs6 hb5 HEN
  go_wp2_with (at_builtin; refine wpList_append_rd _ rfl (.const (.slice none 0 0)) (.tmp 16) 0x16 rfl w.heap.size 5 i0 _ Tryd.underlying22 hi hz0 hz1 hz2 rfl (.slice none 0 0) 0 [] rfl (World.ownsRow_nil _ _ _ _) W6.heap.size (some ⟨b, 0, none⟩) size 32 (D.take size) rfl HLEN.out HRD.out (by have := HT.out.2; omega) HS6.out ?_; intro v7 w7 hown7 hg7 _)
  go_ret
  refine ⟨v7, rfl, ?_, HB6.out.grown hg7 HS6.out (fun g e => by cases e)⟩
  simpa only [Nat.zero_add, List.nil_append] using hown7
end Go.Proofs
namespace Go.Proofs
open Go.RowKit Sm
theorem Sm.own_base {w : World} {base base' : Nat} {e : TypeId} {size n : Nat} {v : Value} {xs : List Value} (h : w.ownsRow base e size v n xs) (hb : base' ≤ base) : w.ownsRow base' e size v n xs :=
  ⟨h.1, h.2.imp id fun ⟨g, cap, cur, a, b, r⟩ => ⟨g, cap, cur, a, Nat.le_trans hb b, r⟩⟩
end Go.Proofs
namespace Go.Proofs
open Go.RowKit Sm
theorem Sm.info22 : (Tryd.prog.info? 0x6e).map (fun i => (i.zero, i.size, i.bytes)) = some (some (.int .u32 0), 1, 4) := by kernel_rfl
theorem Sm.plain22 : Tryd.prog.plainKey 0x6e = true := by kernel_rfl
/-- an array of words is itself -/
theorem Sm.items_same (w : World) (d : Nat) (l : List (BitVec 32)) : ∀ is : List Nat, (∀ i ∈ is, i < l.length) → (Op.eqItems (d + 1) 0x6e 1 (wvs l) (wvs l) is).run Tryd.prog w = .ok true w
  | [], _ => by simp [Op.eqItems]
  | i :: is, h => by
    have hi := h i (by simp)
    have hx : (wvs l)[i * 1]? = some (.int .u32 (iv l[i])) := by simp [wvs, wl, hi, wv]
    have hp := run_part_plain (P := Tryd.prog) w plain22 hx
    have he := run_equalIn_int (P := Tryd.prog) w d 0x6e .u32 .u32 (iv l[i]) (iv l[i]) Tryd.underlying110
    have hr := items_same w d l is (fun j hj => h j (by simp [hj]))
    simp only [Op.eqItems, Sem.run_bind, hp, he, hr, Result.andThen_ok, beq_self_eq_true, Bool.not_true, Bool.false_eq_true, if_false]
theorem Sm.arr_same (w : World) {t n : Nat} (l : List (BitVec 32)) (hu : Tryd.prog.underlying t = some (.array n 0x6e)) (hl : l.length = n) : (Op.equalIn 10000 t (.agg (wvs l)) (.agg (wvs l))).run Tryd.prog w = .ok true w := by
  obtain ⟨i, hi, _⟩ := info_parts info22
  have hc : Tryd.prog.cellsOf 0x6e = 1 := by kernel_rfl
  rw [run_equalIn_array w 9999 (wvs l) (wvs l) hu hi, hc]
  exact items_same w 9998 l _ fun j hj => by rw [hl]; simpa using hj
theorem Sm.q4_same (q : Q4) (w : World) : (Op.equalIn 10000 0xaa (.agg #[.int .u32 (iv q.a), .int .u32 (iv q.b), .int .u32 (iv q.c), .int .u32 (iv q.d)]) (.agg #[.int .u32 (iv q.a), .int .u32 (iv q.b), .int .u32 (iv q.c), .int .u32 (iv q.d)])).run Tryd.prog w = .ok true w :=
  arr_same w [q.a, q.b, q.c, q.d] Tryd.underlying170 rfl
theorem Sm.mix_from {b v : World} (hb : Below b.heap.size b v) (q : Q4) (x y : BitVec 32) : Calls Tryd.prog 118 #[.agg q.cells, .int .u32 (iv x), .int .u32 (iv y)] v fun e w' => e = .returned (.agg (mixS q x y).cells) ∧ Below b.heap.size b w' :=
  (mix_any q x y v).mono fun _ _ ⟨h1, h2⟩ => ⟨h1, hb.trans (h2.mono hb.size)⟩
theorem Sm.refMix_from {b v : World} (hb : Below b.heap.size b v) (q : Q4) (x y : BitVec 32) : Calls Tryd.prog 114 #[.agg q.cells, .int .u32 (iv x), .int .u32 (iv y)] v fun e w' => e = .returned (.agg (mixS q x y).cells) ∧ Below b.heap.size b w' :=
  (refMix_any q x y v).mono fun _ _ ⟨h1, h2⟩ => ⟨h1, hb.trans (h2.mono hb.size)⟩
end Go.Proofs
namespace Go.Proofs
open Go.RowKit Sm
/-- where a part of a slice lies -/
def Sm.cutA (A : Option Addr) (lo c : Nat) : Option Addr := if c = lo then A else A.map (·.add lo)
theorem Sm.size5 (w : World) : (sizeOf 5).run Tryd.prog w = .ok 1 w := by kernel_rfl
theorem Sm.elem33 : Tryd.prog.elem 0x16 = 5 := by kernel_rfl
theorem Sm.und33 : Tryd.prog.underlying 0x16 = some (.slice (Tryd.prog.elem 0x16)) := by rw [elem33]; exact Tryd.underlying22
theorem Sm.cut_h (A : Option Addr) (n c hi : Nat) (hc : hi ≤ c) (w : World) : (Instr.sliceAt 0x16 (.slice A n c) none (some (.int .i64 (hi : Int))) none).run Tryd.prog w = .ok (.slice (cutA A 0 c) hi c) w := by
  rw [run_sliceAt_slice w 0x16 _ _ _ _ und33, run_slice_h w 0x16 A n c und33 .i64 _ (by omega) (by omega), elem33, size5]
  simp [sliced, cutA]
theorem Sm.cut_lh (A : Option Addr) (n c lo hi : Nat) (hl : lo ≤ hi) (hc : hi ≤ c) (w : World) : (Instr.sliceAt 0x16 (.slice A n c) (some (.int .i64 (lo : Int))) (some (.int .i64 (hi : Int))) none).run Tryd.prog w = .ok (.slice (cutA A lo c) (hi - lo) (c - lo)) w := by
  rw [run_sliceAt_slice w 0x16 _ _ _ _ und33, run_slice_lh w 0x16 A n c und33 .i64 .i64 _ _ (by omega) (by omega) (by omega), elem33, size5]
  simp [sliced, cutA]
theorem Sm.cut_l (A : Option Addr) (n c lo : Nat) (hl : lo ≤ n) (w : World) : (Instr.sliceAt 0x16 (.slice A n c) (some (.int .i64 (lo : Int))) none none).run Tryd.prog w = .ok (.slice (cutA A lo c) (n - lo) (c - lo)) w := by
  rw [run_sliceAt_slice w 0x16 _ _ _ _ und33, run_slice_l w 0x16 A n c und33 .i64 _ (by omega) (by omega), elem33, size5]
  simp [sliced, cutA]
theorem Sm.PtOK.cut {w : World} {g n c : Nat} {A : Option Addr} {l : List (BitVec 8)} (h : PtOK w g A n c l) (lo hi : Nat) (hl : lo ≤ hi) (hn : hi ≤ n) : PtOK w g (cutA A lo c) (hi - lo) (c - lo) ((l.take hi).drop lo) := by
  have h1 := h.len
  have h2 := h.room
  have h3 := h.most
  refine ⟨by simp; omega, by omega, by omega, fun h0 => ?_⟩
  simp at h0
  obtain ⟨b, off, rfl, hlt, hns, hcell⟩ := h.rd (by rw [List.length_map]; omega)
  refine ⟨b, off + lo, ?_, hlt, hns, fun j v hj => ?_⟩
  · rw [cutA, if_neg (by omega), Option.map_some, Addr.add_mid]
  · rw [Nat.add_assoc]
    refine hcell (lo + j) v ?_
    rw [List.getElem?_map] at hj ⊢
    rw [List.getElem?_drop, List.getElem?_take] at hj
    split at hj
    · exact hj
    · simp at hj
theorem Sm.pt_of_rd {w : World} {A : Option Addr} {n c : Nat} {l : List (BitVec 8)} (hl : l.length = n) (hn : n ≤ c) (hm : c ≤ 9223372036854775807) (hr : Rd w w.heap.size A l) (g : Nat) (hg : w.heap.size ≤ g) : PtOK w g A n c l := by
  refine ⟨hl, hn, hm, fun h0 => ?_⟩
  obtain ⟨b, off, rfl, hb, hc⟩ := hr (by rw [List.length_map] at h0; exact h0)
  refine ⟨b, off, rfl, hb, by omega, fun j v hj => ?_⟩
  rw [List.getElem?_map] at hj
  obtain ⟨x, hx, rfl⟩ := Option.map_eq_some_iff.1 hj
  exact hc j x hx
theorem Sm.rds_of_rd {w : World} {A : Option Addr} {l : List (BitVec 8)} (hr : Rd w w.heap.size A l) : Rds w (fun _ => False) A (l.map byteCell) := fun h0 => by
  obtain ⟨b, off, rfl, hb, hc⟩ := hr (by rw [List.length_map] at h0; exact h0)
  refine ⟨b, off, rfl, hb, id, fun j v hj => ?_⟩
  rw [List.getElem?_map] at hj
  obtain ⟨x, hx, rfl⟩ := Option.map_eq_some_iff.1 hj
  exact hc j x hx
/-- parts in a row of their own -/
theorem Sm.parts_ok {w w' : World} {N n : Nat} {ps : List Pt} (hrow : Blk w' N 0x16 (ps.map Pt.val).toArray) (hb : Below w.heap.size w w') (hl : ps.length = n) (hm : n ≤ 1000000) (g : Nat) (hg : g ≠ N) (h : ∀ p ∈ ps, PtOK w g p.A p.n p.c p.l) : PsOK w' g (some ⟨N, 0, none⟩) n ps := by
  refine ⟨hl, hm, fun _ => ⟨N, 0, rfl, hrow.lt, fun e => hg e.symm, fun j v hj => ?_⟩, fun p hp => (h p hp).keep hb⟩
  rw [Nat.zero_add, hrow.cell]
  simpa using hj
theorem Sm.row_new (w : World) (ps : List Pt) : Blk (w.alloc (.cells (ps.map Pt.val).toArray 0x16)) w.heap.size 0x16 (ps.map Pt.val).toArray := World.alloc_heap_new w _
end Go.Proofs
namespace Go.Proofs
open Go.RowKit Sm
theorem Sm.HsAt.drew {w : World} {g : Nat} {s : HS} {size : Int} {ahead : Nat} (h : HsAt w g s size ahead) : HsAt w.drew g s size ahead := St.drew h
/-- a part that is written, told from a base world -/
theorem Sm.Write_from {w2 v : World} (g : Nat) (s : HS) (size : Int) (a : Nat) (A : Option Addr) (n c : Nat) (l : List (BitVec 8)) (ht : Tabs w2) (hg : w2.heap.size ≤ g) (h1 : 0 < size) (hcur : s.cur.length ≤ 64) (hp : s.p + s.cur.length + l.length ≤ 1000000000) (hpt : PtOK w2 g A n c l)
    (h : HsAt v g s size a) (hb : Below w2.heap.size w2 v) : Calls Tryd.prog 70 #[.pointer (some ⟨g, 0, none⟩), .slice A n c] v fun e w' => e = .returned (.int .i64 0) ∧ HsAt w' g (takeS s l) size a ∧ Below w2.heap.size w2 w' :=
  (Write_any g s size a A n c l v h h1 hcur (hpt.keep hb) (by have := ht.size; omega) (ht.keep hb) (by rw [List.length_append]; omega)).mono fun _ _ ⟨e, hh, hbt⟩ => ⟨e, hh, hb.trans (hbt.to_below hb.size (fun b eb => by omega))⟩
theorem Sm.HSum_from {w2 v : World} (g : Nat) (s : HS) (size : Nat) (a : Nat) (D : List (BitVec 8)) (ht : Tabs w2) (h1 : 1 ≤ size) (h2 : size ≤ 32) (hcur : s.cur.length ≤ 64) (hp : s.p ≤ 1000000000) (hD : (sumS s).take size = D) (h : HsAt v g s (size : Int) a) (hb : Below w2.heap.size w2 v) :
    Calls Tryd.prog 91 #[.pointer (some ⟨g, 0, none⟩)] v fun e w' => ∃ A c, e = .returned (.slice A size c) ∧ (convert 0x16 9 (.slice A size c)).run Tryd.prog w' = .ok (.string (strB D)) w' ∧ Below w2.heap.size w2 w' := by
  refine (HSum_any g s size a v h h1 h2 hcur (ht.keep hb) hp).mono ?_
  rintro e w' ⟨v0, rfl, hown, hb2⟩
  obtain ⟨A', c', rfl⟩ := own_slice hown
  rw [hD] at hown
  have hl : D.length = size := by rw [← hD, List.length_take, sumS_length]; omega
  exact ⟨A', c', rfl, run_str (P := Tryd.prog) w' 0x16 5 Tryd.underlying22 Tryd.underlying5 D size c' w'.heap.size A' hl (Rd.of_own hown (Nat.le_refl _)) 9 Tryd.underlying9, hb.trans (hb2.mono hb.size)⟩
end Go.Proofs
