/-
  The walk of the law SumOpens: at every readable bytes it returns true and nothing that lay has turned, where the table lies in memory.
-/
import Derived.Test.YtekbojfialjblaaDoorWalkS
namespace Go.Proofs
open Go.RowKit Go.Shelf Sm
theorem Sm.own_apart {w : World} {base n g : Nat} {e : TypeId} {size : Nat} {v : Value} {xs : List Value} (h : w.ownsRow base e size v n xs) (hg : g < base) : v.ownBlock = none ∨ v.ownBlock ≠ some g := by
  rcases hv : v.ownBlock with _ | k
  · exact .inl rfl
  · refine .inr fun e => ?_
    have h1 := (h.lt k hv).1
    injection e with e
    omega
set_option maxRecDepth 100000 in
set_option maxHeartbeats 4000000 in
theorem Sm.opens_walk (l : List (BitVec 8)) (n c : Nat) (A : Option Addr) (w : World) (hn : l.length = n) (hnc : n ≤ c) (hm : n ≤ 9223372036854775807) (hr : Rd w w.heap.size A l) (ht : Tab w) :
    Calls Tryd.prog 9 #[.slice A n c] w fun e w' => e = .returned (.bool true) ∧ Below w.heap.size w w' := by
  obtain ⟨i0, hi, hz0, hz1, hz2⟩ := info_parts info5
  have HN := Lib.hid hn
  have hb := Below.refl w.heap.size w
  clear hn
  by_cases h : 1000 < n
  · go_enter Tryd.func9, Tryd.ntmps9
    go_wp2_with (go_at_call 13; (with_reducible refine (works_from hb ht).mono ?_); clear hb; rintro e w1 ⟨rfl, hb⟩)
    go_ret
    exact ⟨rfl, hb⟩
  · have HM : Hid (n ≤ 1000000) := Lib.hid (by omega)
    clear hm
    go_enter Tryd.func9, Tryd.ntmps9
    go_wp2_with (at_builtin; refine wpList_append_rd _ rfl (.tmp 13) (.tmp 14) 22 rfl w.heap.size 5 i0 _ Tryd.underlying22 hi hz0 hz1 hz2 rfl _ 0 [] rfl (World.ownsRow_made w #[] 0 (Nat.le_refl _) (by decide) rfl) w.heap.size A n c l rfl HN.out (hr.alloc (Nat.le_refl _) _) ?_ (by simp) ?_; omega; intro v1 w1 hown1 hg1 hat1; have hb1 : Below w.heap.size w w1 := (hb.alloc (Nat.le_refl _) _).grown hg1 (by simp) (fun g e => by cases e; exact Nat.le_refl _); simp only [Nat.zero_add, List.nil_append] at hown1; obtain ⟨g1, cap1, rfl, hgb1, hgl1, hcap1⟩ := own_some hown1 (by rcases hat1 with e | e <;> rw [e] <;> simp [Value.ownBlock, Act.eval]))
    clear hg1 hat1 hb
    refine (Open_gen l n cap1 (some ⟨g1, 0, none⟩) w1 HN.out HM.out hcap1 (Rd.of_own hown1 (Nat.le_refl _)) (ht.below hb1)).mono ?_
    rintro e w2 ⟨v2, rfl, hown2, hb2⟩
    have hown12 := own_below hown1 hb2
    have hb12 : Below w.heap.size w w2 := hb1.trans (hb2.mono hb1.size)
    obtain ⟨A2, c2, rfl⟩ := own_slice hown2
    have hs12 := hb2.size
    clear hown1 hb1 hb2
    go_wp2
    go_loopw [6] (fun vi wr => ∃ (k : Nat) (ys : List (BitVec 8)), k ≤ n ∧ vi = .int .i64 (k : Int) ∧ ys.length = n ∧ wr.ownsRow w.heap.size 5 1 (.slice (some ⟨g1, 0, none⟩) n cap1) n (ys.map byteCell) ∧ wr.ownsRow w1.heap.size 5 1 (.slice A2 (openL l).length c2) (openL l).length ((openL l).map byteCell) ∧ Below w.heap.size w wr)
      (fun vi _ => n - (intOf vi).toNat)
    case atStart => exact ⟨0, l, Nat.zero_le _, rfl, HN.out, hown12, hown2, hb12⟩
    case round =>
      obtain ⟨k, ys, hk, rfl, hyl, ho1, ho2, hbr⟩ := hrel
      clear hown12 hown2 hb12
      by_cases hlt : k < n
      · have hky : k < ys.length := by omega
        have hc : wr.cell? ⟨g1, k, none⟩ = some (.int .u8 (ib ys[k])) := by
          rw [ho1.cellAt k (by omega), List.getElem?_map, List.getElem?_eq_getElem hky]
          rfl
        have hf : wr.frozen? ⟨g1, k, none⟩ = false := ho1.frozenAt k
        obtain ⟨y, hy⟩ : ∃ y, y = ys[k] := ⟨_, rfl⟩
        rw [← hy] at hc
        have hst := own_set ho1 k (y + 1#8)
        have hinc := byte_inc y
        have hy0 := ib_lo y
        have hy1 := ib_hi y
        have hyl2 := Lib.hid hyl
        have HST := Lib.hid hst
        clear hyl hst hy hky
        go_wp2
        go_roundw
        case rel => exact ⟨k + 1, ys.set k (y + 1#8), by omega, by go_num, by rw [List.length_set]; exact hyl2.out, HST.out.1, ho2.kept HST.out.2 (own_apart ho2 hgl1), hbr.setCell (p := ⟨g1, k, none⟩) hgb1 _⟩
        case measure => simp [intOf]; omega
      · have hr2 : Rd wr wr.heap.size A l := (hr.below hbr).more hbr.size
        have hty := own_slice ho2
        have HO := Lib.hid (show openE l = openE l from rfl)
        obtain ⟨E, hE⟩ : ∃ E, E = openE l := ⟨_, rfl⟩
        obtain ⟨L, hL⟩ : ∃ L, L = openL l := ⟨_, rfl⟩
        have rg := refOpen_gen l n c A wr HN.out HM.out hnc hr2
        unfold OpenP at rg
        rw [← hE, ← hL] at rg
        rw [← hL] at ho2
        rw [← hE, ← hL]
        clear hty HO hE hL ho1 hgb1 hgl1 hcap1 hr2 hr
        have ht2 := ht.below hbr
        go_wp2_with (first
          | (go_at_call 29; (refine rg.mono ?_); clear rg; rintro e w7 ⟨v7, rfl, hown7, hb7⟩; obtain ⟨A7, c7, rfl⟩ := own_slice hown7; have h1 := run_str (P := Tryd.prog) w7 22 5 Tryd.underlying22 Tryd.underlying5 L L.length c7 w7.heap.size A7 rfl (Rd.of_own hown7 (Nat.le_refl _)) 9 Tryd.underlying9; have h2 := run_str (P := Tryd.prog) w7 22 5 Tryd.underlying22 Tryd.underlying5 L L.length c2 w7.heap.size A2 rfl (Rd.of_own (own_below ho2 hb7) (Nat.le_refl _)) 9 Tryd.underlying9; have hb7w : Below w.heap.size w w7 := hbr.trans (hb7.mono hbr.size))
          | (go_at_call 23; (with_reducible refine (num_any _ _).mono ?_); rintro e w8 ⟨rfl, rfl⟩)
          | (go_at_call 13; (with_reducible refine (works_from hb7w ht).mono ?_); rintro e w9 ⟨rfl, hb9⟩))
        go_ret
        exact ⟨rfl, hb9⟩
