/-
  The walk of the law BlakeCuts: at every size, key, bytes and cuts it returns true and nothing that lay has turned, where the tables lie in memory.
-/
import Derived.Deep.RegionHeldLaw
import Derived.Test.YtdpcgfaknbfmmaaDoorCut
namespace Go.Proofs
open Go.RowKit Sm
theorem Sm.HsAt.drew {w : World} {g : Nat} {s : HS} {size : Int} {ahead : Nat} (h : HsAt w g s size ahead) : HsAt w.drew g s size ahead := St.drew h
/-- a sum of these parts, told from a base world -/
theorem Sm.Keyed_from {w v : World} (size n c : Nat) (A : Option Addr) (key : List (BitVec 8)) (N k : Nat) (ps : List Pt) (b : List (BitVec 8)) (ht : Tabs w) (hs0 : 1 ≤ size) (hs1 : size ≤ 32) (hn : n ≤ 32) (hk : key.length = n) (hrd : Rds w (fun _ => False) A (key.map byteCell))
    (hb : Below w.heap.size w v) (hNv : N < v.heap.size) (hrow : Blk v N 0x1e (ps.map Pt.val).toArray) (hl : ps.length = k) (hk2 : k ≤ 1000000) (hps : ∀ g, w.heap.size ≤ g → ∀ p ∈ ps, PtOK w g p.A p.n p.c p.l) (hj : joinP ps = b) (hp : b.length ≤ 100000) :
    Calls Tryd.prog 21 #[.int .i64 (size : Int), .slice A n c, .slice (some ⟨N, 0, none⟩) k k] v fun e w' => ∃ A' c', e = .returned (.tuple #[.slice A' size c', .int .i64 0]) ∧ Rd w' w'.heap.size A' ((hashW size key b).take size) ∧ Below v.heap.size v w' := by
  subst hj
  refine (Keyed_yes size n c k k A (some ⟨N, 0, none⟩) key ps v (ht.keep hb) hs0 hs1 hn hk (hrd.below hb) (fun g hg => parts_ok hrow hb hl hk2 g (by omega) (hps g (Nat.le_trans hb.size hg))) (Nat.le_refl _) hp).mono ?_
  rintro e w' ⟨v0, rfl, hown, hb2⟩
  obtain ⟨A', c', rfl⟩ := own_slice hown
  have hlen : ((hashW size key (joinP ps)).take size).length = size := by rw [List.length_take, hashW_length]; omega
  exact ⟨A', c', rfl, Rd.of_own hown (Nat.le_refl _), hb2⟩
/-- a part that is written, told from a base world -/
theorem Sm.Write_from {w2 v : World} (g : Nat) (s : HS) (size : Int) (a : Nat) (A : Option Addr) (n c : Nat) (l : List (BitVec 8)) (ht : Tabs w2) (hg : w2.heap.size ≤ g) (h1 : 0 < size) (hcur : s.cur.length ≤ 64) (hp : s.p + s.cur.length + l.length ≤ 1000000000) (hpt : PtOK w2 g A n c l)
    (h : HsAt v g s size a) (hb : Below w2.heap.size w2 v) : Calls Tryd.prog 25 #[.pointer (some ⟨g, 0, none⟩), .slice A n c] v fun e w' => e = .returned (.int .i64 0) ∧ HsAt w' g (takeS s l) size a ∧ Below w2.heap.size w2 w' :=
  (Write_any g s size a A n c l v h h1 hcur (hpt.keep hb) (by have := ht.size; omega) (ht.keep hb) (by rw [List.length_append]; omega)).mono fun _ _ ⟨e, hh, hbt⟩ => ⟨e, hh, hb.trans (hbt.to_below hb.size (fun b eb => by omega))⟩
theorem Sm.HSum_from {w2 v : World} (g : Nat) (s : HS) (size : Nat) (a : Nat) (D : List (BitVec 8)) (ht : Tabs w2) (h1 : 1 ≤ size) (h2 : size ≤ 32) (hcur : s.cur.length ≤ 64) (hp : s.p ≤ 1000000000) (hD : (sumS s).take size = D) (h : HsAt v g s (size : Int) a) (hb : Below w2.heap.size w2 v) :
    Calls Tryd.prog 26 #[.pointer (some ⟨g, 0, none⟩)] v fun e w' => ∃ A c, e = .returned (.slice A size c) ∧ (convert 0x1e 9 (.slice A size c)).run Tryd.prog w' = .ok (.string (strB D)) w' ∧ Below w2.heap.size w2 w' := by
  refine (HSum_any g s size a v h h1 h2 hcur (ht.keep hb) hp).mono ?_
  rintro e w' ⟨v0, rfl, hown, hb2⟩
  obtain ⟨A', c', rfl⟩ := own_slice hown
  rw [hD] at hown
  have hl : D.length = size := by rw [← hD, List.length_take, sumS_length]; omega
  exact ⟨A', c', rfl, run_str (P := Tryd.prog) w' 0x1e 5 Tryd.underlying30 Tryd.underlying5 D size c' w'.heap.size A' hl (Rd.of_own hown (Nat.le_refl _)) 9 Tryd.underlying9, hb.trans (hb2.mono hb.size)⟩
end Go.Proofs
