/-
  The contracts of Sum and More, for at most 1000000 readable parts.
-/
import Derived.Test.YtekbojfialjblaaDoorWalkI
namespace Go.Proofs
open Go.RowKit Go.Shelf Sm
theorem Sm.Only.below {a : Addr} {w w0 w' : World} (h0 : Below w.heap.size w w0) (h : Only a w0 w') (ha : w.heap.size ≤ a.block) : Below w.heap.size w w' :=
  h0.grown h.grown h0.size (fun k e => by cases e; exact ha)
theorem Sm.RdP.keep {w w' : World} {B : Nat} {A : Option Addr} {ps : List Pt} (h : RdP w B A ps) (hk : ∀ p : Addr, p.block < B → w'.cell? p = w.cell? p) : RdP w' B A ps := fun hn => by
  obtain ⟨b, off, rfl, hb, hc⟩ := h hn
  exact ⟨b, off, rfl, hb, fun j p hj => (hk _ hb).trans (hc j p hj)⟩
theorem Sm.RdP.more {w : World} {B B' : Nat} {A : Option Addr} {ps : List Pt} (h : RdP w B A ps) (hB : B ≤ B') : RdP w B' A ps := fun hn => by
  obtain ⟨b, off, rfl, hb, hc⟩ := h hn
  exact ⟨b, off, rfl, by omega, hc⟩
theorem Sm.Pt.ok.keep {p : Pt} {w w' : World} {B : Nat} (h : p.ok w B) (hk : ∀ q : Addr, q.block < B → w'.cell? q = w.cell? q) : p.ok w' B := ⟨h.1, h.2.1, h.2.2.keep hk⟩
theorem Sm.Pt.ok.more {p : Pt} {w : World} {B B' : Nat} (h : p.ok w B) (hB : B ≤ B') : p.ok w B' := ⟨h.1, h.2.1, h.2.2.more hB⟩
/-- the sum of all parts -/
def Sm.sumP (ps : List Pt) : BitVec 32 := ~~~(crcs (~~~0#32) ps)
set_option maxRecDepth 100000 in
set_option maxHeartbeats 1000000 in
theorem Sm.Sum_any (ps : List Pt) (n c : Nat) (A : Option Addr) (w : World) (hn : Hid (ps.length = n)) (hm : n ≤ 1000000) (hr : RdP w w.heap.size A ps)
    (hok : ∀ p ∈ ps, p.ok w w.heap.size) (ht : Tab w) :
    Calls Tryd.prog 14 #[.slice A n c] w fun e w' => e = .returned (.int .u32 (iv (sumP ps))) ∧ Below w.heap.size w w' := by
  have hkeep : ∀ (o : Obj) (q : Addr), q.block < w.heap.size → (w.alloc o).cell? q = w.cell? q := fun o q hq => World.cell?_alloc_lt w o q hq
  have h0 := ht.1
  have hr2 : RdP (w.alloc (.cells #[.int .u32 0] 53)) (w.alloc (.cells #[.int .u32 0] 53)).heap.size A ps := (hr.keep (hkeep _)).more (by simp)
  have hok2 : ∀ p ∈ ps, p.ok (w.alloc (.cells #[.int .u32 0] 53)) w.heap.size := fun p hp => (hok p hp).keep (hkeep _)
  have ht2 : Tab (w.alloc (.cells #[.int .u32 0] 53)) := ht.below ((Below.refl _ _).alloc (Nat.le_refl _) _)
  have hb := Boxed.new w 53 (.int .u32 (iv 0#32))
  have hb1 : Below w.heap.size w (w.alloc (.cells #[.int .u32 0] 53)) := (Below.refl _ _).alloc (Nat.le_refl _) _
  have H2 := Lib.hid hok2
  clear hkeep hok hok2 hr
  go_enter Tryd.func14, Tryd.ntmps14
  go_wp2_with (go_at_call 30; refine (take_any 0#32 ps n c A w.heap.size 0 _ hn hm hr2 H2.out ht2 hb.cell hb.frozen h0 (by simp)).mono ?_; rintro e w1 ⟨⟨v, rfl⟩, ho, hc⟩)
  go_ret
  exact ⟨rfl, ho.below hb1 (Nat.le_refl _)⟩
/-- one part, in a block of its own -/
theorem Sm.RdP.one (w : World) (p : Pt) (N B : Nat) (hN : w.heap.size = N) (hB : N < B) : RdP (w.alloc (.cells #[p.val] 22)) B (some ⟨N, 0, none⟩) [p] := fun _ => by
  subst hN
  refine ⟨w.heap.size, 0, rfl, hB, fun j q hj => ?_⟩
  match j, hj with
  | 0, hj =>
    simp at hj
    subst hj
    rw [Nat.zero_add]
    simp [World.cell?_alloc_new]
set_option maxRecDepth 100000 in
set_option maxHeartbeats 1000000 in
theorem Sm.More_any (s : BitVec 32) (p : Pt) (w : World) (hok : p.ok w w.heap.size) (ht : Tab w) :
    Calls Tryd.prog 16 #[.int .u32 (iv s), .slice p.A p.n p.c] w fun e w' => e = .returned (.int .u32 (iv (~~~(crc (~~~s) p.l)))) ∧ Below w.heap.size w w' := by
  have h0 := ht.1
  have hb1 : Below w.heap.size w ((w.alloc (.cells #[.int .u32 (iv s)] 53)).alloc (.cells #[p.val] 22)) := ((Below.refl _ _).alloc (Nat.le_refl _) _).alloc (by simp) _
  have hr2 := RdP.one (w.alloc (.cells #[.int .u32 (iv s)] 53)) p (w.heap.size + 1) ((w.alloc (.cells #[.int .u32 (iv s)] 53)).alloc (.cells #[p.val] 22)).heap.size (by simp) (by simp)
  have hok2 : ∀ q ∈ [p], q.ok ((w.alloc (.cells #[.int .u32 (iv s)] 53)).alloc (.cells #[p.val] 22)) w.heap.size := fun q hq => by
    have : q = p := by simpa using hq
    subst this
    exact hok.keep fun a ha => hb1.cell ha
  have ht2 := ht.below hb1
  have hb := (Boxed.new w 53 (.int .u32 (iv s))).alloc (.cells #[p.val] 22)
  have H2 := Lib.hid hok2
  clear hok hok2
  go_enter Tryd.func16, Tryd.ntmps16
  go_wp2_with (go_at_call 30; refine (take_any s [p] 1 1 _ w.heap.size 0 _ (Lib.hid rfl) (by omega) hr2 H2.out ht2 hb.cell hb.frozen h0 (by simp; omega)).mono ?_; rintro e w1 ⟨⟨v, rfl⟩, ho, hc⟩)
  go_ret
  exact ⟨rfl, ho.below hb1 (Nat.le_refl _)⟩
