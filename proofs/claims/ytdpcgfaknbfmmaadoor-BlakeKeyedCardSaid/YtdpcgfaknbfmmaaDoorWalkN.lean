/-
  The contract of a hash's own Sum, where there is one.
-/
import Derived.Test.YtdpcgfaknbfmmaaDoorApp
import Derived.Test.YtdpcgfaknbfmmaaDoorWorks
import Derived.Test.YtdpcgfaknbfmmaaDoorWalkM
namespace Go.Proofs
open Go.RowKit Sm
/-- the sum's bytes of a state -/
def Sm.sumS (s : HS) : List (BitVec 8) := digest (endS s.ws s.p s.cur)
theorem Sm.sumS_length (s : HS) : (sumS s).length = 32 := outK32 _
set_option maxRecDepth 100000 in
set_option maxHeartbeats 4000000 in
theorem Sm.HSum_any (g : Nat) (s : HS) (size : Nat) (ahead : Nat) (w : World) (h : HsAt w g s (size : Int) ahead) (h1 : 1 ≤ size) (h2 : size ≤ 32) (hcur : s.cur.length ≤ 64) (ht : Tabs w) (hp : s.p ≤ 1000000000) :
    Calls Tryd.prog 26 #[.pointer (some ⟨g, 0, none⟩)] w fun e w' => ∃ v, e = .returned v ∧ w'.ownsRow w.heap.size 5 1 v size (((sumS s).take size).map byteCell) ∧ Below w.heap.size w w' := by
  obtain ⟨i0, hi, hz0, hz1, hz2⟩ := info_parts info5
  have hth := there_yes w g s (size : Int) ahead h (by omega)
  have hen := end_any s.ws s.p s.cur w h.wlen hcur hp ht
  have hDl := sumS_length s
  rw [show digest (endS s.ws s.p s.cur) = sumS s from rfl] at hen
  obtain ⟨D, hD⟩ : ∃ D, sumS s = D := ⟨_, rfl⟩
  rw [hD] at hen hDl ⊢
  have HDL := Lib.hid hDl
  have h32 : Hid ((bvs (List.replicate 32 0#8)).size = (bvs D).size) := Lib.hid (by rw [bvs_size, bvs_size, hDl]; rfl)
  have HEN := Lib.hid hen
  have HS0 := Lib.hid h
  have HT := Lib.hid (And.intro h1 h2)
  have HC := Lib.hid hcur
  clear hD hDl hen h hcur ht hp h1 h2
  go_enter Tryd.func26, Tryd.ntmps26
  go_upto_region 4 with (first
    | (go_at_call 51; (with_reducible refine hth.mono ?_); clear hth; rintro e w' ⟨rfl, rfl⟩)
    | (refine wpList_load_mid rfl 0x31 _ rfl g 0 rfl (stc s.ws s.p (pad s.cur) s.cur.length) _ (St.rangeAll HS0.out) Tryd.underlying49 rfl (i52 _ _ _ _ HS0.out.wlen HS0.out.blen) ?_)
    | (go_at_call 50; (with_reducible refine HEN.out.mono ?_); rintro e w5 ⟨rfl, hb5⟩)
    | (refine wpList_store_row rfl 0x21 _ _ rfl w5.heap.size (bvs D) rfl rfl 0x21 (bvs (List.replicate 32 0#8)) (World.alloc_heap_new w5 _) (i36 D HDL.out) h32.out (bvs_one D) ?_))
  rw [zu32_eq]
  obtain ⟨W6, hW6⟩ : ∃ W6, (w5.alloc (.cells (bvs (List.replicate 32 0#8)) 0x21)).setRow w5.heap.size (bvs D) = W6 := ⟨_, rfl⟩
  obtain ⟨b, hb⟩ : ∃ b, w5.heap.size = b := ⟨_, rfl⟩
  have hB6 : Blk W6 b 0x21 (bvs D) := by rw [← hW6, ← hb]; exact setRow_heap _ _ _ _ _ _ (World.alloc_heap_new w5 _)
  have hb6 : Below w.heap.size w W6 := by rw [← hW6]; exact below_setRow (hb5.alloc hb5.size _) hb5.size _
  have hc74 := (HS0.out.keep hb6).cellSize
  have hrd := (Sm.Blk.rd hB6 hB6.lt).take size
  have hlen : (D.take size).length = size := by rw [List.length_take, HDL.out]; have := HT.out.2; omega
  have hsl := slice32_h b size (size : Int) rfl HT.out.2
  have hs6 := hb6.size
  have HB6 := Lib.hid hb6
  have HRD := Lib.hid hrd
  have HLEN := Lib.hid hlen
  have HS6 := Lib.hid hs6
  rw [hW6, hb]
  clear hW6 hb hB6 hb6 hrd hlen hs6 hb5 HEN
  go_wp2_with (at_builtin; refine wpList_append_rd _ rfl (.const (.slice none 0 0)) (.tmp 16) 0x1e rfl w.heap.size 5 i0 _ Tryd.underlying30 hi hz0 hz1 hz2 rfl (.slice none 0 0) 0 [] rfl (World.ownsRow_nil _ _ _ _) W6.heap.size (some ⟨b, 0, none⟩) size 32 (D.take size) rfl HLEN.out HRD.out (by have := HT.out.2; omega) HS6.out ?_; intro v7 w7 hown7 hg7 _)
  go_ret
  refine ⟨v7, rfl, ?_, HB6.out.grown hg7 HS6.out (fun g e => by cases e)⟩
  simpa only [Nat.zero_add, List.nil_append] using hown7
end Go.Proofs
