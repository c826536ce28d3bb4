/-
  The contract of a hash's Copy, where there is one; and the walk of the law BlakeCopies.
-/
import Derived.Test.YtdpcgfaknbfmmaaDoorLawS
namespace Go.Proofs
open Go.RowKit Sm
theorem Sm.hsc_length {ws : List (BitVec 32)} {p : Nat} {bl : List (BitVec 8)} {sz : Nat} {a b : Value} (h1 : ws.length = 8) (h2 : bl.length = 64) : (stc ws p bl sz ++ [a, b]).toArray.size = 76 := by
  rw [List.size_toArray, List.length_append, stc_length, h1, h2]; rfl
set_option maxRecDepth 100000 in
set_option maxHeartbeats 2000000 in
theorem Sm.Copy_any (g : Nat) (s : HS) (size : Int) (ahead : Nat) (w : World) (h : HsAt w g s size ahead) (h1 : 0 < size) :
    Calls Tryd.prog 28 #[.pointer (some ⟨g, 0, none⟩)] w fun e w' => ∃ g2, e = .returned (.pointer (some ⟨g2, 0, none⟩)) ∧ w.heap.size ≤ g2 ∧ HsAt w' g2 s size ahead ∧ Below w.heap.size w w' := by
  have hth := there_yes w g s size ahead h h1
  have hz54 := (zero_of_info z54).1
  have hzl := zz54_length
  have hi : (Tryd.prog.info? 0x33).map (·.size) = some (stc s.ws s.p (pad s.cur) s.cur.length ++ [Value.int .i64 size, Value.int .i64 (ahead : Int)]).toArray.size := by
    rw [hsc_length h.wlen h.blen]; kernel_rfl
  have hs : zz54.toArray.size = (stc s.ws s.p (pad s.cur) s.cur.length ++ [Value.int .i64 size, Value.int .i64 (ahead : Int)]).toArray.size := by
    rw [hsc_length h.wlen h.blen, List.size_toArray, hzl]
  have ho : (stc s.ws s.p (pad s.cur) s.cur.length ++ [Value.int .i64 size, Value.int .i64 (ahead : Int)]).toArray.all (·.oneCell') = true := by
    refine all_oneCell_toArray fun v hv => ?_
    rcases List.mem_append.1 hv with hv | hv
    · exact stc_one _ _ _ _ v hv
    · simp only [List.mem_cons, List.not_mem_nil, or_false] at hv
      rcases hv with rfl | rfl <;> rfl
  have hbk : Blk w g 0x33 (stc s.ws s.p (pad s.cur) s.cur.length ++ [Value.int .i64 size, Value.int .i64 (ahead : Int)]).toArray := h.blk
  have hwl := h.wlen
  have hbl := h.blen
  obtain ⟨X, hX⟩ : ∃ X, (stc s.ws s.p (pad s.cur) s.cur.length ++ [Value.int .i64 size, Value.int .i64 (ahead : Int)]).toArray = X := ⟨_, rfl⟩
  rw [hX] at hi hs ho hbk
  have HX := Lib.hid hX
  have HI := Lib.hid hi
  have HS := Lib.hid hs
  have HO := Lib.hid ho
  have HBK := Lib.hid hbk
  have HL := Lib.hid (And.intro hwl hbl)
  clear hX hi hs ho hbk hwl hbl h h1 hzl
  go_enter Tryd.func28, Tryd.ntmps28
  go_wp2_with (first
    | (go_at_call 51; (with_reducible refine hth.mono ?_); clear hth; rintro e w' ⟨rfl, rfl⟩)
    | (refine wpList_load_row rfl 0x33 _ rfl g rfl 0x33 X (0, 0) _ HBK.out Tryd.underlying51 rfl HI.out ?_)
    | (refine wpList_store_row rfl 0x33 _ _ rfl w.heap.size X rfl rfl 0x33 zz54.toArray (World.alloc_heap_new w _) HI.out HS.out HO.out ?_))
  go_ret
  refine ⟨_, rfl, Nat.le_refl _, ⟨?_, HL.out.1, HL.out.2⟩, below_setRow ((Below.refl _ w).alloc (Nat.le_refl _) _) (Nat.le_refl _) _⟩
  rw [HX.out]
  exact setRow_heap _ _ _ _ _ _ (World.alloc_heap_new w _)
/-- a part that is written, told from a base world; other hashes stay -/
theorem Sm.Write_by {w v : World} (g : Nat) (s : HS) (size : Int) (a : Nat) (A : Option Addr) (n c : Nat) (l : List (BitVec 8)) (ht : Tabs w) (hg : w.heap.size ≤ g) (h1 : 0 < size) (hcur : s.cur.length ≤ 64) (hp : s.p + s.cur.length + l.length ≤ 1000000000) (hpt : PtOK w g A n c l)
    (h : HsAt v g s size a) (hb : Below w.heap.size w v) : Calls Tryd.prog 25 #[.pointer (some ⟨g, 0, none⟩), .slice A n c] v fun e w' => e = .returned (.int .i64 0) ∧ HsAt w' g (takeS s l) size a ∧ Below w.heap.size w w' ∧ ∀ g' s' size' a', g' ≠ g → HsAt v g' s' size' a' → HsAt w' g' s' size' a' :=
  (Write_any g s size a A n c l v h h1 hcur (hpt.keep hb) (by have := ht.size; omega) (ht.keep hb) (by rw [List.length_append]; omega)).mono fun _ _ ⟨e, hh, hbt⟩ => ⟨e, hh, hb.trans (hbt.to_below hb.size (fun b eb => by omega)), fun _ _ _ _ hne h' => h'.but hbt hne⟩
set_option maxRecDepth 100000 in
set_option maxHeartbeats 2000000 in
theorem Sm.copies_no (size : Int) (n1 c1 n2 c2 n3 c3 n4 c4 : Nat) (A1 A2 A3 A4 : Option Addr) (w : World) (ht : Tabs w) (h : (size < 1 ∨ 32 < size ∨ 32 < n1) ∨ 200 < n2 ∨ 200 < n3 ∨ 200 < n4) :
    Calls Tryd.prog 7 #[.int .i64 size, .slice A1 n1 c1, .slice A2 n2 c2, .slice A3 n3 c3, .slice A4 n4 c4] w fun e w' => e = .returned (.bool true) ∧ Below w.heap.size w w' := by
  have hw := works_any w ht
  by_cases h0 : size < 1 ∨ 32 < size ∨ 32 < n1
  · have hr := right_no size n1 c1 A1 w h0
    clear h h0
    go_enter Tryd.func7, Tryd.ntmps7
    go_wp2_with (first
      | (go_at_call 22; (with_reducible refine hr.mono ?_); clear hr; rintro e w' ⟨rfl, rfl⟩)
      | (go_at_call 17; (with_reducible refine hw.mono ?_); clear hw; rintro e w1 ⟨rfl, hb⟩))
    go_ret
    exact ⟨rfl, hb⟩
  · obtain ⟨sz, rfl⟩ : ∃ sz : Nat, size = (sz : Int) := ⟨size.toNat, by omega⟩
    have hr := right_yes sz n1 c1 A1 w (by omega) (by omega) (by omega)
    obtain ⟨sz, hsz⟩ : ∃ e : Int, (sz : Int) = e := ⟨_, rfl⟩
    rw [hsz] at hr ⊢
    clear hsz
    by_cases h2 : (200 : Int) < (n2 : Int)
    · clear h h0
      go_enter Tryd.func7, Tryd.ntmps7
      go_wp2_with (first
        | (go_at_call 22; (with_reducible refine hr.mono ?_); clear hr; rintro e w' ⟨rfl, rfl⟩)
        | (go_at_call 17; (with_reducible refine hw.mono ?_); clear hw; rintro e w1 ⟨rfl, hb⟩))
      go_ret
      exact ⟨rfl, hb⟩
    · by_cases h3 : (200 : Int) < (n3 : Int)
      · clear h h0
        go_enter Tryd.func7, Tryd.ntmps7
        go_wp2_with (first
          | (go_at_call 22; (with_reducible refine hr.mono ?_); clear hr; rintro e w' ⟨rfl, rfl⟩)
          | (go_at_call 17; (with_reducible refine hw.mono ?_); clear hw; rintro e w1 ⟨rfl, hb⟩))
        go_ret
        exact ⟨rfl, hb⟩
      · have h4 : (200 : Int) < (n4 : Int) := by omega
        clear h h0
        go_enter Tryd.func7, Tryd.ntmps7
        go_wp2_with (first
          | (go_at_call 22; (with_reducible refine hr.mono ?_); clear hr; rintro e w' ⟨rfl, rfl⟩)
          | (go_at_call 17; (with_reducible refine hw.mono ?_); clear hw; rintro e w1 ⟨rfl, hb⟩))
        go_ret
        exact ⟨rfl, hb⟩
end Go.Proofs
