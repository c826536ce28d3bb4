/-
  The walk of the law BlakeCuts: at every size, key, bytes and cuts it returns true and nothing that lay has turned, where the tables lie in memory.
-/
import Derived.Deep.RegionHeldLaw
import Derived.Test.YtfieedjcpgjphaaDoorCut
namespace Go.Proofs
open Go.RowKit Sm
theorem Sm.HsAt.drew {w : World} {g : Nat} {s : HS} {size : Int} {ahead : Nat} (h : HsAt w g s size ahead) : HsAt w.drew g s size ahead := St.drew h
set_option maxRecDepth 100000 in
set_option maxHeartbeats 2000000 in
theorem Sm.cuts_no (size one two : Int) (n1 c1 n2 c2 : Nat) (A1 A2 : Option Addr) (w : World) (ht : Tabs w) (h : 600 < n2 ∨ 32 < n1 ∨ size < 1 ∨ 32 < size) :
    Calls Tryd.prog 9 #[.int .i64 size, .slice A1 n1 c1, .slice A2 n2 c2, .int .i64 one, .int .i64 two] w fun e w' => e = .returned (.bool true) ∧ Below w.heap.size w w' := by
  have hw := works_any w ht
  by_cases h1 : 600 < n2
  · go_enter Tryd.func9, Tryd.ntmps9
    go_wp2_with (go_at_call 12; (with_reducible refine hw.mono ?_); clear hw; rintro e w1 ⟨rfl, hb⟩)
    go_ret
    exact ⟨rfl, hb⟩
  · by_cases h2 : 32 < n1
    · go_enter Tryd.func9, Tryd.ntmps9
      go_wp2_with (go_at_call 12; (with_reducible refine hw.mono ?_); clear hw; rintro e w1 ⟨rfl, hb⟩)
      go_ret
      exact ⟨rfl, hb⟩
    · by_cases h3 : size < 1
      · go_enter Tryd.func9, Tryd.ntmps9
        go_wp2_with (go_at_call 12; (with_reducible refine hw.mono ?_); clear hw; rintro e w1 ⟨rfl, hb⟩)
        go_ret
        exact ⟨rfl, hb⟩
      · have h4 : 32 < size := by omega
        go_enter Tryd.func9, Tryd.ntmps9
        go_wp2_with (go_at_call 12; (with_reducible refine hw.mono ?_); clear hw; rintro e w1 ⟨rfl, hb⟩)
        go_ret
        exact ⟨rfl, hb⟩
/-- a sum of these parts, told from a base world -/
theorem Sm.Keyed_from {w v : World} (size n c : Nat) (A : Option Addr) (key : List (BitVec 8)) (N k : Nat) (ps : List Pt) (b : List (BitVec 8)) (ht : Tabs w) (hs0 : 1 ≤ size) (hs1 : size ≤ 32) (hn : n ≤ 32) (hk : key.length = n) (hrd : Rds w (fun _ => False) A (key.map byteCell))
    (hb : Below w.heap.size w v) (hNv : N < v.heap.size) (hrow : Blk v N 33 (ps.map Pt.val).toArray) (hl : ps.length = k) (hk2 : k ≤ 1000000) (hps : ∀ g, w.heap.size ≤ g → ∀ p ∈ ps, PtOK w g p.A p.n p.c p.l) (hj : joinP ps = b) (hp : b.length ≤ 100000) :
    Calls Tryd.prog 18 #[.int .i64 (size : Int), .slice A n c, .slice (some ⟨N, 0, none⟩) k k] v fun e w' => ∃ A' c', e = .returned (.tuple #[.slice A' size c', .int .i64 0]) ∧ Rd w' w'.heap.size A' ((hashW size key b).take size) ∧ Below v.heap.size v w' := by
  subst hj
  refine (Keyed_yes size n c k k A (some ⟨N, 0, none⟩) key ps v (ht.keep hb) hs0 hs1 hn hk (hrd.below hb) (fun g hg => parts_ok hrow hb hl hk2 g (by omega) (hps g (Nat.le_trans hb.size hg))) (Nat.le_refl _) hp).mono ?_
  rintro e w' ⟨v0, rfl, hown, hb2⟩
  obtain ⟨A', c', rfl⟩ := own_slice hown
  have hlen : ((hashW size key (joinP ps)).take size).length = size := by rw [List.length_take, hashW_length]; omega
  exact ⟨A', c', rfl, Rd.of_own hown (Nat.le_refl _), hb2⟩
/-- a part that is written, told from a base world -/
theorem Sm.Write_from {w2 v : World} (g : Nat) (s : HS) (size : Int) (a : Nat) (A : Option Addr) (n c : Nat) (l : List (BitVec 8)) (ht : Tabs w2) (hg : w2.heap.size ≤ g) (h1 : 0 < size) (hcur : s.cur.length ≤ 64) (hp : s.p + s.cur.length + l.length ≤ 1000000000) (hpt : PtOK w2 g A n c l)
    (h : HsAt v g s size a) (hb : Below w2.heap.size w2 v) : Calls Tryd.prog 22 #[.pointer (some ⟨g, 0, none⟩), .slice A n c] v fun e w' => e = .returned (.int .i64 0) ∧ HsAt w' g (takeS s l) size a ∧ Below w2.heap.size w2 w' :=
  (Write_any g s size a A n c l v h h1 hcur (hpt.keep hb) (by have := ht.size; omega) (ht.keep hb) (by rw [List.length_append]; omega)).mono fun _ _ ⟨e, hh, hbt⟩ => ⟨e, hh, hb.trans (hbt.to_below hb.size (fun b eb => by omega))⟩
theorem Sm.HSum_from {w2 v : World} (g : Nat) (s : HS) (size : Nat) (a : Nat) (D : List (BitVec 8)) (ht : Tabs w2) (h1 : 1 ≤ size) (h2 : size ≤ 32) (hcur : s.cur.length ≤ 64) (hp : s.p ≤ 1000000000) (hD : (sumS s).take size = D) (h : HsAt v g s (size : Int) a) (hb : Below w2.heap.size w2 v) :
    Calls Tryd.prog 23 #[.pointer (some ⟨g, 0, none⟩)] v fun e w' => ∃ A c, e = .returned (.slice A size c) ∧ (convert 33 9 (.slice A size c)).run Tryd.prog w' = .ok (.string (strB D)) w' ∧ Below w2.heap.size w2 w' := by
  refine (HSum_any g s size a v h h1 h2 hcur (ht.keep hb) hp).mono ?_
  rintro e w' ⟨v0, rfl, hown, hb2⟩
  obtain ⟨A', c', rfl⟩ := own_slice hown
  rw [hD] at hown
  have hl : D.length = size := by rw [← hD, List.length_take, sumS_length]; omega
  exact ⟨A', c', rfl, run_str (P := Tryd.prog) w' 33 5 Tryd.underlying33 Tryd.underlying5 D size c' w'.heap.size A' hl (Rd.of_own hown (Nat.le_refl _)) 9 Tryd.underlying9, hb.trans (hb2.mono hb.size)⟩
set_option maxRecDepth 100000 in
set_option maxHeartbeats 4000000 in
theorem Sm.cuts_yes (size : Nat) (one two : Int) (n1 c1 n2 c2 : Nat) (A1 A2 : Option Addr) (key b : List (BitVec 8)) (w : World) (hs0 : 1 ≤ size) (hs1 : size ≤ 32) (hk : key.length = n1) (hn1 : n1 ≤ 32) (hb : b.length = n2) (hn2 : n2 ≤ 600) (hc2 : n2 ≤ c2) (hm2 : c2 ≤ 9223372036854775807)
    (hr1 : Rd w w.heap.size A1 key) (hr2 : Rd w w.heap.size A2 b) (ht : Tabs w) :
    Calls Tryd.prog 9 #[.int .i64 (size : Int), .slice A1 n1 c1, .slice A2 n2 c2, .int .i64 one, .int .i64 two] w fun e w' => e = .returned (.bool true) ∧ Below w.heap.size w w' := by
  have hpt := fun g hg => pt_of_rd hb hc2 hm2 hr2 g hg
  have hrds := rds_of_rd hr1
  have h1 : ¬ ((size : Int) < 1) := by omega
  have h2 : ¬ ((32 : Int) < (size : Int)) := by omega
  have h3 : ¬ ((600 : Int) < (n2 : Int)) := by omega
  have h4 : ¬ ((32 : Int) < (n1 : Int)) := by omega
  have hb0 := (Below.refl w.heap.size w).alloc (Nat.le_refl _) (.cells #[.slice A2 n2 c2] 33)
  have hK1' := Keyed_from size n1 c1 A1 key w.heap.size 1 [⟨A2, n2, c2, b⟩] b ht hs0 hs1 hn1 hk hrds hb0 (by simp) (row_new w [⟨A2, n2, c2, b⟩]) rfl (by decide) (fun g hg p hp => (List.mem_singleton.1 hp) ▸ hpt g hg) (by simp [joinP]) (by omega)
  have hK1 := hK1'.mono (R' := fun e w' => ∃ A' c', e = .returned (.tuple #[.slice A' size c', .int .i64 0]) ∧ Rd w' w'.heap.size A' ((hashW size key b).take size) ∧ Below w.heap.size w w') (fun _ _ ⟨A', c', e, r, h⟩ => ⟨A', c', e, r, hb0.trans (h.mono (by simp))⟩)
  have hK3 : ∀ (v : World) (i j : Nat), Below w.heap.size w v → i ≤ j → j ≤ n2 → Calls Tryd.prog 18 #[.int .i64 (size : Int), .slice A1 n1 c1, .slice (some ⟨v.heap.size, 0, none⟩) 3 3] (v.alloc (.cells #[.slice (cutA A2 0 c2) i c2, .slice (cutA A2 i c2) (j - i) (c2 - i), .slice (cutA A2 j c2) (n2 - j) (c2 - j)] 33)).drew fun e w' => ∃ A' c', e = .returned (.tuple #[.slice A' size c', .int .i64 0]) ∧ Rd w' w'.heap.size A' ((hashW size key b).take size) ∧ Below v.heap.size v w' := by
    intro v i j hv hi hj
    refine Calls.mono (R := fun e w' => ∃ A' c', e = .returned (.tuple #[.slice A' size c', .int .i64 0]) ∧ Rd w' w'.heap.size A' ((hashW size key b).take size) ∧ Below (v.alloc (.cells #[.slice (cutA A2 0 c2) i c2, .slice (cutA A2 i c2) (j - i) (c2 - i), .slice (cutA A2 j c2) (n2 - j) (c2 - j)] 33)).heap.size (v.alloc (.cells #[.slice (cutA A2 0 c2) i c2, .slice (cutA A2 i c2) (j - i) (c2 - i), .slice (cutA A2 j c2) (n2 - j) (c2 - j)] 33)).drew w') ?_ (fun _ _ ⟨A', c', e, r, h⟩ => ⟨A', c', e, r, (((Below.refl v.heap.size v).alloc (Nat.le_refl _) _).drew).trans (h.mono (by simp))⟩)
    refine Keyed_from size n1 c1 A1 key v.heap.size 3 [⟨cutA A2 0 c2, i, c2, b.take i⟩, ⟨cutA A2 i c2, j - i, c2 - i, (b.take j).drop i⟩, ⟨cutA A2 j c2, n2 - j, c2 - j, b.drop j⟩] b ht hs0 hs1 hn1 hk hrds (hv.alloc hv.size _).drew (by show v.heap.size < (v.alloc _).heap.size; simp) (row_new v [⟨cutA A2 0 c2, i, c2, b.take i⟩, ⟨cutA A2 i c2, j - i, c2 - i, (b.take j).drop i⟩, ⟨cutA A2 j c2, n2 - j, c2 - j, b.drop j⟩]).drew rfl (by decide) (fun g hg p hp => ?_) ?_ (by omega)
    · have q0 := (hpt g hg).cut 0 i (by omega) (by omega)
      have q1 := (hpt g hg).cut i j hi hj
      have q2 := (hpt g hg).cut j n2 hj (Nat.le_refl _)
      simp only [Nat.sub_zero, List.drop_zero] at q0
      rw [← hb, List.take_length] at q2
      rw [hb] at q2
      simp only [List.mem_cons, List.not_mem_nil, or_false] at hp
      rcases hp with rfl | rfl | rfl
      · exact q0
      · exact q1
      · exact q2
    · simp only [joinP, List.flatMap_cons, List.flatMap_nil, List.append_nil]
      have e1 : b.take i = (b.take j).take i := by rw [List.take_take, Nat.min_eq_left hi]
      rw [e1, ← List.append_assoc, List.take_append_drop, List.take_append_drop]
  obtain ⟨se, hse⟩ : ∃ e : Int, (size : Int) = e := ⟨_, rfl⟩
  rw [hse] at h1 h2 hK1 hK3 ⊢
  have HB := Lib.hid hb
  have HT := Lib.hid ht
  have HK1 := Lib.hid hK1
  have HK3 := Lib.hid hK3
  have HP := Lib.hid hpt
  have HS := Lib.hid (And.intro hs0 hs1)
  have HKN := Lib.hid (And.intro hk (And.intro hn1 hr1))
  have HSE := Lib.hid hse
  clear hb ht hK1 hK3 hpt hs0 hs1 hk hr1 hr2 hse hrds hb0 hK1'
  go_enter Tryd.func9, Tryd.ntmps9
  go_upto_region 5 with fail
  obtain ⟨q, hq⟩ : ∃ q : Int, (if one < (n2 : Int) then one else (n2 : Int)) = q := ⟨_, rfl⟩
  rw [hq]
  obtain ⟨i, hi, hin⟩ : ∃ i : Nat, (if 0 < q then q else 0) = (i : Int) ∧ i ≤ n2 := by
    refine ⟨(if 0 < q then q else 0).toNat, ?_, ?_⟩
    · split <;> omega
    · split at hq <;> split <;> omega
  rw [hi]
  obtain ⟨r, hr⟩ : ∃ r : Int, (if two < (n2 : Int) then two else (n2 : Int)) = r := ⟨_, rfl⟩
  rw [hr]
  obtain ⟨j, hj, hij, hjn⟩ : ∃ j : Nat, (if (i : Int) < r then r else (i : Int)) = (j : Int) ∧ i ≤ j ∧ j ≤ n2 := by
    refine ⟨(if (i : Int) < r then r else (i : Int)).toNat, ?_, ?_, ?_⟩
    · split <;> omega
    · split <;> omega
    · split at hr <;> split <;> omega
  rw [hj]
  have s1 := cut_h A2 n2 c2 i (by omega)
  have s2 := cut_lh A2 n2 c2 i j hij (by omega)
  have s3 := cut_l A2 n2 c2 j hjn
  have HI := Lib.hid (And.intro hij (And.intro hjn (And.intro hc2 hn2)))
  clear hq hi hin hr hj hij hjn h1 h2 h3 h4 hn1 hn2 hc2 hm2
  go_upto_region 6 with (go_at_call 18; (with_reducible refine HK1.out.mono ?_); rintro e w1 ⟨A3, c3, rfl, rd3, hb1⟩)
  have HB1 := Lib.hid hb1
  have RD3 := Lib.hid rd3
  clear hb1 rd3 HK1
  go_region_held3 (fun _ => True) (trivial) (first | (go_at_call 18; (with_reducible refine (HK3.out _ i j HB1.out HI.out.1 HI.out.2.1).mono ?_); rintro e w2 ⟨A4, c4, rfl, rd4, hb2⟩))
  have hb02 : Below w.heap.size w w2 := HB1.out.trans (hb2.mono HB1.out.size)
  have rd3 : Rd w2 w2.heap.size A3 ((hashW size key b).take size) := (RD3.out.below hb2).more hb2.size
  have hnew := New_yes size n1 c1 A1 key w2 (HT.out.keep hb02) HS.out.1 HS.out.2 HKN.out.2.1 HKN.out.1 ((rds_of_rd HKN.out.2.2).below hb02)
  rw [HSE.out] at hnew
  have HB2 := Lib.hid hb02
  have RD3' := Lib.hid rd3
  have RD4 := Lib.hid rd4
  clear hb2 hb02 rd3 rd4 RD3 HK3
  go_upto_region 8 with (go_at_call 21; (with_reducible refine hnew.mono ?_); clear hnew; rintro e w3 ⟨g, rfl, hg, hh0, hb3⟩)
  have ht2 := HT.out.keep HB2.out
  have hq : ∀ lo hi, lo ≤ hi → hi ≤ n2 → PtOK w2 g (cutA A2 lo c2) (hi - lo) (c2 - lo) ((b.take hi).drop lo) := fun lo hi h1 h2 => ((HP.out g (Nat.le_trans HB2.out.size hg)).keep HB2.out).cut lo hi h1 h2
  have q0 := hq 0 i (by omega) (by have := HI.out; omega)
  have q1 := hq i j HI.out.1 HI.out.2.1
  have q2 := hq j n2 HI.out.2.1 (Nat.le_refl _)
  simp only [Nat.sub_zero, List.drop_zero] at q0
  rw [← HB.out, List.take_length, HB.out] at q2
  have hjoin : b.take i ++ ((b.take j).drop i ++ b.drop j) = b := by
    have e1 : b.take i = (b.take j).take i := by rw [List.take_take, Nat.min_eq_left HI.out.1]
    rw [e1, ← List.append_assoc, List.take_append_drop, List.take_append_drop]
  have hle : b.length ≤ 600 := by rw [HB.out]; exact HI.out.2.2.2
  have hsum : (sumS (takeS (startS size key) b)).take size = (hashW size key b).take size := rfl
  have hsc := startS_cur size key (by have := HKN.out; omega)
  have hsp : (startS size key).p = 0 := rfl
  obtain ⟨D, hD⟩ : ∃ D, (hashW size key b).take size = D := ⟨_, rfl⟩
  have hDl : D.length = size := by rw [← hD, List.length_take, hashW_length]; have := HS.out.2; omega
  obtain ⟨s0, hs0⟩ : ∃ s, startS size key = s := ⟨_, rfl⟩
  rw [hs0] at hsum hsc hsp hh0
  rw [hD] at hsum
  obtain ⟨l1, hl1⟩ : ∃ l, b.take i = l := ⟨_, rfl⟩
  obtain ⟨l2, hl2⟩ : ∃ l, (b.take j).drop i = l := ⟨_, rfl⟩
  obtain ⟨l3, hl3⟩ : ∃ l, b.drop j = l := ⟨_, rfl⟩
  rw [hl1] at q0 hjoin
  rw [hl2] at q1 hjoin
  rw [hl3] at q2 hjoin
  have hlen : l1.length + l2.length + l3.length ≤ 600 := by
    have := congrArg List.length hjoin
    simp only [List.length_append] at this
    omega
  have ct1 := takeS_count s0 l1
  have ct2 := takeS_count (takeS s0 l1) l2
  have ct3 := takeS_count (takeS (takeS s0 l1) l2) l3
  have cu1 := takeS_cur_le s0 l1
  have cu2 := takeS_cur_le (takeS s0 l1) l2
  have cu3 := takeS_cur_le (takeS (takeS s0 l1) l2) l3
  have hall : takeS (takeS (takeS s0 l1) l2) l3 = takeS s0 b := by rw [takeS_takeS, takeS_takeS, hjoin]
  rw [← hall] at hsum
  have hse0 : 0 < se := by rw [← HSE.out]; have := HS.out.1; omega
  have hW1 := fun (v : World) (h : HsAt v g s0 se s0.cur.length) (hb : Below w2.heap.size w2 v) => Write_from g s0 se s0.cur.length _ _ _ l1 ht2 hg hse0 hsc (by omega) q0 h hb
  have hW2 := fun (v : World) (h : HsAt v g (takeS s0 l1) se s0.cur.length) (hb : Below w2.heap.size w2 v) => Write_from g (takeS s0 l1) se s0.cur.length _ _ _ l2 ht2 hg hse0 cu1 (by omega) q1 h hb
  have hW3 := fun (v : World) (h : HsAt v g (takeS (takeS s0 l1) l2) se s0.cur.length) (hb : Below w2.heap.size w2 v) => Write_from g (takeS (takeS s0 l1) l2) se s0.cur.length _ _ _ l3 ht2 hg hse0 cu2 (by omega) q2 h hb
  have hHS := fun (v : World) (h : HsAt v g (takeS (takeS (takeS s0 l1) l2) l3) se s0.cur.length) (hb : Below w2.heap.size w2 v) => HSum_from g (takeS (takeS (takeS s0 l1) l2) l3) size s0.cur.length D ht2 HS.out.1 HS.out.2 cu3 (by omega) hsum (HSE.out.symm ▸ h) hb
  have hcv : ∀ v, Below w2.heap.size w2 v → (convert 33 9 (.slice A3 size c3)).run Tryd.prog v = .ok (.string (strB D)) v ∧ (convert 33 9 (.slice A4 size c4)).run Tryd.prog v = .ok (.string (strB D)) v := fun v hb =>
    ⟨run_str (P := Tryd.prog) v 33 5 Tryd.underlying33 Tryd.underlying5 D size c3 w2.heap.size A3 hDl (by have := RD3'.out.below hb; rwa [hD] at this) 9 Tryd.underlying9,
     run_str (P := Tryd.prog) v 33 5 Tryd.underlying33 Tryd.underlying5 D size c4 w2.heap.size A4 hDl (by have := RD4.out.below hb; rwa [hD] at this) 9 Tryd.underlying9⟩
  have hsz : ((size : Int) == se) = true := by rw [HSE.out]; simp
  have HW1 := Lib.hid hW1
  have HW2 := Lib.hid hW2
  have HW3 := Lib.hid hW3
  have HHS := Lib.hid hHS
  have HCV := Lib.hid hcv
  have HT2 := Lib.hid ht2
  have HB3 := Lib.hid hb3
  have HH0 := Lib.hid hh0
  clear hq q0 q1 q2 hjoin hle hsum hsc hsp hs0 hl1 hl2 hl3 hlen ct1 ct2 ct3 cu1 cu2 cu3 hall hse0 hW1 hW2 hW3 hHS hcv ht2 hb3 hh0 hD hDl hg
  go_region_held3 (fun _ => True) (trivial) (first
    | (go_at_call 22; (with_reducible refine (HW1.out _ HH0.out.drew HB3.out.drew).mono ?_); rintro e w4 ⟨rfl, hh4, hb4⟩)
    | (go_at_call 22; (with_reducible refine (HW2.out _ hh4 hb4).mono ?_); rintro e w5 ⟨rfl, hh5, hb5⟩)
    | (go_at_call 22; (with_reducible refine (HW3.out _ hh5 hb5).mono ?_); rintro e w6 ⟨rfl, hh6, hb6⟩))
  clear hh4 hb4 hh5 hb5 s1 s2 s3 HW1 HW2 HW3 HP HI HKN
  go_wp2_with fail
  have HH6 := Lib.hid hh6
  have HB6 := Lib.hid hb6
  have k0 := HCV.out w6 hb6
  have k0d := HCV.out w6.drew hb6.drew
  clear hh6 hb6
  go_region_held_law (fun W => (convert 33 9 (.slice A3 size c3)).run Tryd.prog W = .ok (.string (strB D)) W ∧ (convert 33 9 (.slice A4 size c4)).run Tryd.prog W = .ok (.string (strB D)) W)
    (first | exact k8 | exact k7 | exact k0d | exact k0)
    (first
    | (go_at_call 20; (with_reducible refine (num_any _ _).mono ?_); rintro e w' ⟨rfl, rfl⟩)
    | (go_at_call 23; (with_reducible refine (HHS.out _ HH6.out.drew HB6.out.drew).mono ?_); rintro e w7 ⟨A7, c7, rfl, t7, hb7⟩; have k7 := HCV.out w7 hb7)
    | (go_at_call 12; (with_reducible refine (works_from hb7 HT2.out).mono ?_); rintro e w8 ⟨rfl, hb8⟩; have k8 := HCV.out w8 hb8))
  all_goals
   go_wp2
   go_ret
   exact ⟨rfl, HB2.out.trans (hb8.mono HB2.out.size)⟩
end Go.Proofs
