/-
  The contract of New where it gives a hash.
-/
import Derived.Test.YtdpcgfaknbfmmaaDoorWalkK
namespace Go.Proofs
open Go.RowKit Sm
theorem Sm.fill_list (off : Nat) : ∀ (vs : List Value) (k : Nat) (L : List Value), (vs.zipIdx k).foldl (fun cs (x : Value × Nat) => cs.setIfInBounds (off + x.2) x.1) L.toArray = (setAll L (off + k) vs).toArray
  | [], _, _ => rfl
  | v :: r, k, L => by
    rw [List.zipIdx_cons, List.foldl_cons, setAll]
    have := fill_list off r (k + 1) (L.set (off + k) v)
    rw [← Nat.add_assoc] at this
    rw [← this]
    simp
def Sm.zz54 : List Value := stc z8 0 z64 0 ++ [Value.int .i64 0, Value.int .i64 0]
theorem Sm.z54 : (Tryd.prog.info? 0x33).map (fun i => (i.zero, i.size)) = some (some (.agg zz54.toArray), 76) := by kernel_rfl
theorem Sm.start_any (size n c : Nat) (A : Option Addr) (key : List (BitVec 8)) (w : World) (ht : Tabs w) (hs1 : size ≤ 32) (hn : n ≤ 32) (hk : key.length = n) (hrd : Rds w (fun _ => False) A (key.map byteCell)) :
    Calls Tryd.prog 48 #[.int .i64 (size : Int), .slice A n c] w fun e w' => e = .returned (.agg (stc (startS size key).ws 0 (pad (startS size key).cur) (startS size key).cur.length).toArray) ∧ Below w.heap.size w w' := by
  by_cases h0 : 0 < n
  · exact start_key size n c A key w ht hs1 hn hk hrd h0
  · obtain rfl : n = 0 := by omega
    obtain rfl : key = [] := List.eq_nil_of_length_eq_zero hk
    exact start_nil size c A w ht hs1
theorem Sm.fold54 (L : List Value) (hL : L.length = 74) : List.foldl (fun (cs : Array Value) (x : Value × Nat) => cs.setIfInBounds x.snd x.fst) zz54.toArray L.zipIdx = (L ++ [Value.int .i64 0, Value.int .i64 0]).toArray := by
  have e0 : setAll zz54 0 L = L ++ [Value.int .i64 0, Value.int .i64 0] := by
    have := setAll_mid [] L (stc z8 0 z64 0) [Value.int .i64 0, Value.int .i64 0] (by rw [hL]; rfl)
    simpa [zz54] using this
  have := fill_list 0 L 0 zz54
  rw [Nat.add_zero, e0] at this
  rw [← this]
  congr 1
  funext cs x
  rw [Nat.zero_add]
theorem Sm.zz54_length : zz54.length = 76 := rfl
/-- what lies of a hash in block g -/
def Sm.HsAt (w : World) (g : Nat) (s : HS) (size : Int) (ahead : Nat) : Prop := St w g 0x33 s.ws s.p (pad s.cur) s.cur.length [.int .i64 size, .int .i64 (ahead : Int)]
set_option maxRecDepth 100000 in
set_option maxHeartbeats 4000000 in
theorem Sm.New_yes (size n c : Nat) (A : Option Addr) (key : List (BitVec 8)) (w : World) (ht : Tabs w) (hs0 : 1 ≤ size) (hs1 : size ≤ 32) (hn : n ≤ 32) (hk : key.length = n) (hrd : Rds w (fun _ => False) A (key.map byteCell)) :
    Calls Tryd.prog 24 #[.int .i64 (size : Int), .slice A n c] w fun e w' => ∃ g, e = .returned (.tuple #[.pointer (some ⟨g, 0, none⟩), .int .i64 0]) ∧ w.heap.size ≤ g ∧ HsAt w' g (startS size key) (size : Int) (startS size key).cur.length ∧ Below w.heap.size w w' := by
  have hst := start_any size n c A key w ht hs1 hn hk hrd
  have hwl := startS_ws size key
  have hcl := startS_cur size key (by omega)
  have hsp : (startS size key).p = 0 := rfl
  obtain ⟨s, hs⟩ : ∃ s, startS size key = s := ⟨_, rfl⟩
  rw [hs] at hst hwl hcl hsp
  have hL : (stc s.ws 0 (pad s.cur) s.cur.length).length = 74 := by rw [stc_length, hwl, pad_length _ hcl]
  have h1 : ¬ ((size : Int) < 1) := by omega
  have h2 : ¬ ((32 : Int) < (size : Int)) := by omega
  have h3 : ¬ ((32 : Int) < (n : Int)) := by omega
  rw [hs]
  obtain ⟨e, he⟩ : ∃ e : Int, (size : Int) = e := ⟨_, rfl⟩
  rw [he] at hst h1 h2 ⊢
  have hbt := fold54 (stc s.ws 0 (pad s.cur) s.cur.length) hL
  have hz54 := (zero_of_info z54).1
  have hzl := zz54_length
  have hz52 := (zero_of_info z52').1
  have HWL := Lib.hid hwl
  have HCL := Lib.hid hcl
  have HSP := Lib.hid hsp
  have HL := Lib.hid hL
  have HST := Lib.hid hst
  clear hs hwl hcl hsp hst he hs0 hs1 hrd ht
  go_enter Tryd.func24, Tryd.ntmps24
  go_upto_region 4 with (first
    | (go_at_call 48; (with_reducible refine HST.out.mono ?_); rintro e w2 ⟨rfl, hb2⟩)
    | (refine wpList_store_row rfl 0x31 _ _ rfl w2.heap.size (stc s.ws 0 (pad s.cur) s.cur.length).toArray rfl rfl 0x31 (stc z8 0 z64 0).toArray (World.alloc_heap_new w2 _) (by rw [List.size_toArray]; exact i52 _ _ _ _ HWL.out (pad_length _ HCL.out)) (stc_sz (by rfl) z64_length HWL.out (pad_length _ HCL.out)) (all_oneCell_toArray (stc_one _ _ _ _)) ?_))
  obtain ⟨g, hg⟩ : ∃ g, w2.heap.size = g := ⟨_, rfl⟩
  obtain ⟨W3, hW3⟩ : ∃ W3, (w2.alloc (.cells (stc z8 0 z64 0).toArray 0x31)).setRow w2.heap.size (stc s.ws 0 (pad s.cur) s.cur.length).toArray = W3 := ⟨_, rfl⟩
  have hb3 : Below w.heap.size w W3 := by
    rw [← hW3]
    exact below_setRow (hb2.alloc hb2.size _) hb2.size _
  have hst3 : St W3 g 0x31 s.ws 0 (pad s.cur) s.cur.length [] := by
    refine St.of_nil ?_ HWL.out (pad_length _ HCL.out)
    rw [← hW3, ← hg]
    exact setRow_heap _ _ _ _ _ _ (World.alloc_heap_new w2 _)
  rw [hW3, hg]
  have hc73 := hst3.cellS
  have HB3 := Lib.hid hb3
  have HST3 := Lib.hid hst3
  clear hW3 hg hb3 hst3 hb2 HST
  go_wp2_with (refine wpList_load_mid rfl 0x31 _ rfl g 0 rfl (stc s.ws 0 (pad s.cur) s.cur.length) _ HST3.out.rangeAll Tryd.underlying49 rfl (i52 _ _ _ _ HWL.out (pad_length _ HCL.out)) ?_)
  go_ret2
  refine ⟨_, rfl, HB3.out.size, ⟨?_, HWL.out, pad_length _ HCL.out⟩, HB3.out.alloc HB3.out.size _⟩
  rw [HSP.out]
  exact Blk.new W3 0x33 _
end Go.Proofs
