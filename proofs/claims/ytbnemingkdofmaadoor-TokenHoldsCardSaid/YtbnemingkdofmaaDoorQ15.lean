/-
  The contract of New where it gives a hash.
  The contracts of a hash's own there and Write, where there is one.
  The contract of a hash's own Sum, where there is one.
  The contract of Keyed where it gives a sum.
-/
import Derived.Test.YtbnemingkdofmaaDoorQ10
import Derived.Test.YtbnemingkdofmaaDoorQ11
namespace Go.Proofs
open Go.RowKit Sm
theorem Sm.fill_list (off : Nat) : ∀ (vs : List Value) (k : Nat) (L : List Value), (vs.zipIdx k).foldl (fun cs (x : Value × Nat) => cs.setIfInBounds (off + x.2) x.1) L.toArray = (setAll L (off + k) vs).toArray
  | [], _, _ => rfl
  | v :: r, k, L => by
    rw [List.zipIdx_cons, List.foldl_cons, setAll]
    have := fill_list off r (k + 1) (L.set (off + k) v)
    rw [← Nat.add_assoc] at this
    rw [← this]
    simp
def Sm.zz54 : List Value := stc z8 0 z64 0 ++ [Value.int .i64 0, Value.int .i64 0]
theorem Sm.z54 : (Tryd.prog.info? 0x90).map (fun i => (i.zero, i.size)) = some (some (.agg zz54.toArray), 76) := by kernel_rfl
theorem Sm.start_any (size n c : Nat) (A : Option Addr) (key : List (BitVec 8)) (w : World) (ht : Tabs w) (hs1 : size ≤ 32) (hn : n ≤ 32) (hk : key.length = n) (hrd : Rds w (fun _ => False) A (key.map byteCell)) :
    Calls Tryd.prog 82 #[.int .i64 (size : Int), .slice A n c] w fun e w' => e = .returned (.agg (stc (startS size key).ws 0 (pad (startS size key).cur) (startS size key).cur.length).toArray) ∧ Below w.heap.size w w' := by
  by_cases h0 : 0 < n
  · exact start_key size n c A key w ht hs1 hn hk hrd h0
  · obtain rfl : n = 0 := by omega
    obtain rfl : key = [] := List.eq_nil_of_length_eq_zero hk
    exact start_nil size c A w ht hs1
theorem Sm.fold54 (L : List Value) (hL : L.length = 74) : List.foldl (fun (cs : Array Value) (x : Value × Nat) => cs.setIfInBounds x.snd x.fst) zz54.toArray L.zipIdx = (L ++ [Value.int .i64 0, Value.int .i64 0]).toArray := by
  have e0 : setAll zz54 0 L = L ++ [Value.int .i64 0, Value.int .i64 0] := by
    have := setAll_mid [] L (stc z8 0 z64 0) [Value.int .i64 0, Value.int .i64 0] (by rw [hL]; rfl)
    simpa [zz54] using this
  have := fill_list 0 L 0 zz54
  rw [Nat.add_zero, e0] at this
  rw [← this]
  congr 1
  funext cs x
  rw [Nat.zero_add]
theorem Sm.zz54_length : zz54.length = 76 := rfl
/-- what lies of a hash in block g -/
def Sm.HsAt (w : World) (g : Nat) (s : HS) (size : Int) (ahead : Nat) : Prop := St w g 0x90 s.ws s.p (pad s.cur) s.cur.length [.int .i64 size, .int .i64 (ahead : Int)]
set_option maxRecDepth 100000 in
set_option maxHeartbeats 4000000 in
theorem Sm.New_yes (size n c : Nat) (A : Option Addr) (key : List (BitVec 8)) (w : World) (ht : Tabs w) (hs0 : 1 ≤ size) (hs1 : size ≤ 32) (hn : n ≤ 32) (hk : key.length = n) (hrd : Rds w (fun _ => False) A (key.map byteCell)) :
    Calls Tryd.prog 77 #[.int .i64 (size : Int), .slice A n c] w fun e w' => ∃ g, e = .returned (.tuple #[.pointer (some ⟨g, 0, none⟩), .int .i64 0]) ∧ w.heap.size ≤ g ∧ HsAt w' g (startS size key) (size : Int) (startS size key).cur.length ∧ Below w.heap.size w w' := by
  have hst := start_any size n c A key w ht hs1 hn hk hrd
  have hwl := startS_ws size key
  have hcl := startS_cur size key (by omega)
  have hsp : (startS size key).p = 0 := rfl
  obtain ⟨s, hs⟩ : ∃ s, startS size key = s := ⟨_, rfl⟩
  rw [hs] at hst hwl hcl hsp
  have hL : (stc s.ws 0 (pad s.cur) s.cur.length).length = 74 := by rw [stc_length, hwl, pad_length _ hcl]
  have h1 : ¬ ((size : Int) < 1) := by omega
  have h2 : ¬ ((32 : Int) < (size : Int)) := by omega
  have h3 : ¬ ((32 : Int) < (n : Int)) := by omega
  rw [hs]
  obtain ⟨e, he⟩ : ∃ e : Int, (size : Int) = e := ⟨_, rfl⟩
  rw [he] at hst h1 h2 ⊢
  have hbt := fold54 (stc s.ws 0 (pad s.cur) s.cur.length) hL
  have hz54 := (zero_of_info z54).1
  have hzl := zz54_length
  have hz52 := (zero_of_info z52').1
  have HWL := Lib.hid hwl
  have HCL := Lib.hid hcl
  have HSP := Lib.hid hsp
  have HL := Lib.hid hL
  have HST := Lib.hid hst
  clear hs hwl hcl hsp hst he hs0 hs1 hrd ht
  go_enter Tryd.func77, Tryd.ntmps77
  go_upto_region 4 with (first
    | (go_at_call 82; (with_reducible refine HST.out.mono ?_); rintro e w2 ⟨rfl, hb2⟩)
    | (refine wpList_store_row rfl 0x8b _ _ rfl w2.heap.size (stc s.ws 0 (pad s.cur) s.cur.length).toArray rfl rfl 0x8b (stc z8 0 z64 0).toArray (World.alloc_heap_new w2 _) (by rw [List.size_toArray]; exact i52 _ _ _ _ HWL.out (pad_length _ HCL.out)) (stc_sz (by rfl) z64_length HWL.out (pad_length _ HCL.out)) (all_oneCell_toArray (stc_one _ _ _ _)) ?_))
  obtain ⟨g, hg⟩ : ∃ g, w2.heap.size = g := ⟨_, rfl⟩
  obtain ⟨W3, hW3⟩ : ∃ W3, (w2.alloc (.cells (stc z8 0 z64 0).toArray 0x8b)).setRow w2.heap.size (stc s.ws 0 (pad s.cur) s.cur.length).toArray = W3 := ⟨_, rfl⟩
  have hb3 : Below w.heap.size w W3 := by
    rw [← hW3]
    exact below_setRow (hb2.alloc hb2.size _) hb2.size _
  have hst3 : St W3 g 0x8b s.ws 0 (pad s.cur) s.cur.length [] := by
    refine St.of_nil ?_ HWL.out (pad_length _ HCL.out)
    rw [← hW3, ← hg]
    exact setRow_heap _ _ _ _ _ _ (World.alloc_heap_new w2 _)
  rw [hW3, hg]
  have hc73 := hst3.cellS
  have HB3 := Lib.hid hb3
  have HST3 := Lib.hid hst3
  clear hW3 hg hb3 hst3 hb2 HST
  go_wp2_with (refine wpList_load_mid rfl 0x8b _ rfl g 0 rfl (stc s.ws 0 (pad s.cur) s.cur.length) _ HST3.out.rangeAll Tryd.underlying139 rfl (i52 _ _ _ _ HWL.out (pad_length _ HCL.out)) ?_)
  go_ret2
  refine ⟨_, rfl, HB3.out.size, ⟨?_, HWL.out, pad_length _ HCL.out⟩, HB3.out.alloc HB3.out.size _⟩
  rw [HSP.out]
  exact Blk.new W3 0x90 _
end Go.Proofs
namespace Go.Proofs
open Go.RowKit Sm
section
variable {w w' : World} {g : Nat} {s : HS} {size : Int} {ahead : Nat}
theorem Sm.HsAt.tail (h : HsAt w g s size ahead) : w.rangeAt g 74 [.int .i64 size, .int .i64 (ahead : Int)] := by
  have := range_of (A := stc s.ws s.p (pad s.cur) s.cur.length) (B := [Value.int .i64 size, .int .i64 (ahead : Int)]) (C := []) (t := 0x90) (g := g) (w := w) (by simpa using h.blk)
  have e : (stc s.ws s.p (pad s.cur) s.cur.length).length = 74 := by rw [stc_length, h.wlen, h.blen]
  rwa [e] at this
theorem Sm.HsAt.cellSize (h : HsAt w g s size ahead) : w.cell? ⟨g, 74, none⟩ = some (.int .i64 size) := h.tail 0 _ rfl
theorem Sm.HsAt.cellAhead (h : HsAt w g s size ahead) : w.cell? ⟨g, 75, none⟩ = some (.int .i64 (ahead : Int)) := h.tail 1 _ rfl
theorem Sm.HsAt.lt (h : HsAt w g s size ahead) : g < w.heap.size := h.blk.lt
theorem Sm.HsAt.keep (h : HsAt w g s size ahead) (hb : Below w.heap.size w w') : HsAt w' g s size ahead := St.keep h hb
theorem Sm.HsAt.but {S : Nat → Prop} (h : HsAt w g s size ahead) (hb : But S w w') (hn : ¬ S g) : HsAt w' g s size ahead := St.but h hb hn
end
set_option maxHeartbeats 1000000 in
theorem Sm.there_yes (w : World) (g : Nat) (s : HS) (size : Int) (ahead : Nat) (h : HsAt w g s size ahead) (h1 : 0 < size) : Calls Tryd.prog 88 #[.pointer (some ⟨g, 0, none⟩)] w fun e w' => e = .returned (.bool true) ∧ w = w' := by
  have hc := h.cellSize
  clear h
  go_enter Tryd.func88, Tryd.ntmps88
  go_wp2
  go_ret
  exact ⟨rfl, rfl⟩
theorem Sm.one_part {w : World} {g : Nat} {A : Option Addr} {n c : Nat} {l : List (BitVec 8)} (hg : g < w.heap.size) (h : PtOK w g A n c l) : PsOK (w.alloc (.cells #[.slice A n c] 0x16)) g (some ⟨w.heap.size, 0, none⟩) 1 [⟨A, n, c, l⟩] := by
  refine ⟨rfl, by omega, fun _ => ⟨w.heap.size, 0, rfl, by simp, by omega, fun j v hj => ?_⟩, fun p hp => ?_⟩
  · rcases j with _ | j
    · simp [Pt.val] at hj
      subst hj
      rw [World.cell?_alloc_mark]
      rfl
    · simp at hj
  · simp only [List.mem_cons, List.not_mem_nil, or_false] at hp
    subst hp
    exact h.keep ((Below.refl _ w).alloc (Nat.le_refl _) _)
set_option maxRecDepth 100000 in
set_option maxHeartbeats 2000000 in
theorem Sm.Write_any (g : Nat) (s : HS) (size : Int) (ahead : Nat) (A : Option Addr) (n c : Nat) (l : List (BitVec 8)) (w : World) (h : HsAt w g s size ahead) (h1 : 0 < size) (hcur : s.cur.length ≤ 64) (hpt : PtOK w g A n c l) (hg : 4 ≤ g) (ht : Tabs w) (hp : s.p + (s.cur ++ l).length ≤ 1000000000) :
    Calls Tryd.prog 81 #[.pointer (some ⟨g, 0, none⟩), .slice A n c] w fun e w' => e = .returned (.int .i64 0) ∧ HsAt w' g (takeS s l) size ahead ∧ But (fun b => b = g) w w' := by
  have hth := there_yes w g s size ahead h h1
  have hb1 := (Below.refl w.heap.size w).alloc (Nat.le_refl _) (.cells #[.slice A n c] 0x16)
  have hst1 : St (w.alloc (.cells #[.slice A n c] 0x16)) g 0x90 s.ws s.p (pad s.cur) s.cur.length [.int .i64 size, .int .i64 (ahead : Int)] := St.keep h hb1
  have htk := take_any g 0x90 s.ws s.p s.cur [.int .i64 size, .int .i64 (ahead : Int)] (some ⟨w.heap.size, 0, none⟩) 1 1 [⟨A, n, c, l⟩] _ hst1 hcur (one_part h.lt hpt) (Nat.le_refl _) hg (ht.keep hb1) (by simpa [joinP] using hp)
  have e : joinP [⟨A, n, c, l⟩] = l := by simp [joinP]
  rw [e] at htk
  have HTK := Lib.hid htk
  have HB1 := Lib.hid hb1
  clear htk hb1 hst1 h h1 hcur hpt hp ht e hg
  go_enter Tryd.func81, Tryd.ntmps81
  go_wp2_with (first
    | (go_at_call 88; (with_reducible refine hth.mono ?_); clear hth; rintro e w' ⟨rfl, rfl⟩)
    | (go_at_call 83; (with_reducible refine HTK.out.mono ?_); rintro e w4 ⟨⟨v4, rfl⟩, hst4, hbt4⟩))
  go_ret
  exact ⟨rfl, hst4, (But.of_all HB1.out _).trans hbt4 (fun _ _ e => e)⟩
end Go.Proofs
namespace Go.Proofs
open Go.RowKit Sm
/-- the sum's bytes of a state -/
def Sm.sumS (s : HS) : List (BitVec 8) := digest (endS s.ws s.p s.cur)
theorem Sm.sumS_length (s : HS) : (sumS s).length = 32 := outK32 _
set_option maxRecDepth 100000 in
set_option maxHeartbeats 4000000 in
theorem Sm.HSum_any (g : Nat) (s : HS) (size : Nat) (ahead : Nat) (w : World) (h : HsAt w g s (size : Int) ahead) (h1 : 1 ≤ size) (h2 : size ≤ 32) (hcur : s.cur.length ≤ 64) (ht : Tabs w) (hp : s.p ≤ 1000000000) :
    Calls Tryd.prog 85 #[.pointer (some ⟨g, 0, none⟩)] w fun e w' => ∃ v, e = .returned v ∧ w'.ownsRow w.heap.size 5 1 v size (((sumS s).take size).map byteCell) ∧ Below w.heap.size w w' := by
  obtain ⟨i0, hi, hz0, hz1, hz2⟩ := info_parts info5
  have hth := there_yes w g s (size : Int) ahead h (by omega)
  have hen := end_any s.ws s.p s.cur w h.wlen hcur hp ht
  have hDl := sumS_length s
  rw [show digest (endS s.ws s.p s.cur) = sumS s from rfl] at hen
  obtain ⟨D, hD⟩ : ∃ D, sumS s = D := ⟨_, rfl⟩
  rw [hD] at hen hDl ⊢
  have HDL := Lib.hid hDl
  have h32 : Hid ((bvs (List.replicate 32 0#8)).size = (bvs D).size) := Lib.hid (by rw [bvs_size, bvs_size, hDl]; rfl)
  have HEN := Lib.hid hen
  have HS0 := Lib.hid h
  have HT := Lib.hid (And.intro h1 h2)
  have HC := Lib.hid hcur
  clear hD hDl hen h hcur ht hp h1 h2
  go_enter Tryd.func85, Tryd.ntmps85
  go_upto_region 4 with (first
    | (go_at_call 88; (with_reducible refine hth.mono ?_); clear hth; rintro e w' ⟨rfl, rfl⟩)
    | (refine wpList_load_mid rfl 0x8b _ rfl g 0 rfl (stc s.ws s.p (pad s.cur) s.cur.length) _ (St.rangeAll HS0.out) Tryd.underlying139 rfl (i52 _ _ _ _ HS0.out.wlen HS0.out.blen) ?_)
    | (go_at_call 84; (with_reducible refine HEN.out.mono ?_); rintro e w5 ⟨rfl, hb5⟩)
    | (refine wpList_store_row rfl 0x62 _ _ rfl w5.heap.size (bvs D) rfl rfl 0x62 (bvs (List.replicate 32 0#8)) (World.alloc_heap_new w5 _) (i36 D HDL.out) h32.out (bvs_one D) ?_))
  rw [zu32_eq]
  obtain ⟨W6, hW6⟩ : ∃ W6, (w5.alloc (.cells (bvs (List.replicate 32 0#8)) 0x62)).setRow w5.heap.size (bvs D) = W6 := ⟨_, rfl⟩
  obtain ⟨b, hb⟩ : ∃ b, w5.heap.size = b := ⟨_, rfl⟩
  have hB6 : Blk W6 b 0x62 (bvs D) := by rw [← hW6, ← hb]; exact setRow_heap _ _ _ _ _ _ (World.alloc_heap_new w5 _)
  have hb6 : Below w.heap.size w W6 := by rw [← hW6]; exact below_setRow (hb5.alloc hb5.size _) hb5.size _
  have hc74 := (HS0.out.keep hb6).cellSize
  have hrd := (Sm.Blk.rd hB6 hB6.lt).take size
  have hlen : (D.take size).length = size := by rw [List.length_take, HDL.out]; have := HT.out.2; omega
  have hsl := slice32_h b size (size : Int) rfl HT.out.2
  have hs6 := hb6.size
  have HB6 := Lib.hid hb6
  have HRD := Lib.hid hrd
  have HLEN := Lib.hid hlen
  have HS6 := Lib.hid hs6
  rw [hW6, hb]
  clear hW6 hb hB6 hb6 hrd hlen hs6 hb5 HEN
  go_wp2_with (at_builtin; refine wpList_append_rd _ rfl (.const (.slice none 0 0)) (.tmp 16) 0x16 rfl w.heap.size 5 i0 _ Tryd.underlying22 hi hz0 hz1 hz2 rfl (.slice none 0 0) 0 [] rfl (World.ownsRow_nil _ _ _ _) W6.heap.size (some ⟨b, 0, none⟩) size 32 (D.take size) rfl HLEN.out HRD.out (by have := HT.out.2; omega) HS6.out ?_; intro v7 w7 hown7 hg7 _)
  go_ret
  refine ⟨v7, rfl, ?_, HB6.out.grown hg7 HS6.out (fun g e => by cases e)⟩
  simpa only [Nat.zero_add, List.nil_append] using hown7
end Go.Proofs
namespace Go.Proofs
open Go.RowKit Sm
theorem Sm.own_base {w : World} {base base' : Nat} {e : TypeId} {size n : Nat} {v : Value} {xs : List Value} (h : w.ownsRow base e size v n xs) (hb : base' ≤ base) : w.ownsRow base' e size v n xs :=
  ⟨h.1, h.2.imp id fun ⟨g, cap, cur, a, b, r⟩ => ⟨g, cap, cur, a, Nat.le_trans hb b, r⟩⟩
end Go.Proofs
