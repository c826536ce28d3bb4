/-
  The program's first: the answer of the first flaw that there is, where each flaw's function tells whether it is there. Conditions: as the theorem names them.
-/
import Derived.WalkKit
import Derived.WalkSpells
import Derived.Laws.EntriesVeiled
import Derived.Test.YtohidbkhccepnaaDoorProg
import Derived.Test.YtohidbkhccepnaaDoorBut
namespace Go.Proofs
open Go Go.RowKit Sm Go.Lib
/-- a flaw: the function that tells it, what that captured, what is answered, whether it is there -/
structure Sm.FlawK where
  g : Nat
  lb : Array Value
  why : Int
  is : Bool
def Sm.firstW : List FlawK → Int
  | [] => 0
  | f :: r => if f.is then f.why else firstW r
/-- what the functions promise -/
def Sm.FlawsOK (l : List FlawK) (w : World) : Prop := ∀ f ∈ l, (∀ args w, (callFunc f.g args).run Tryd.prog w = .ok (.enter f.g args) w) ∧
  ∀ W, Below w.heap.size w W → Calls Tryd.prog f.g f.lb W fun e w' => e = .returned (.bool f.is) ∧ Below W.heap.size W w'
def Sm.flawC (f : FlawK) : List Value := [.func (.func f.g) #[] f.lb, .int .i64 f.why]
theorem Sm.flaw_cells {l : List FlawK} : ∀ {k : Nat} (h : k < l.length), (l.flatMap flawC)[k * 2]? = some (.func (.func l[k].g) #[] l[k].lb) ∧ (l.flatMap flawC)[k * 2 + 1]? = some (.int .i64 l[k].why) := by
  induction l with
  | nil => intro k h; simp at h
  | cons f r ih =>
    intro k h
    cases k with
    | zero => simp [flawC]
    | succ k =>
      have := ih (k := k) (by simpa using h)
      simp only [List.flatMap_cons, flawC, List.cons_append, List.nil_append, List.getElem_cons_succ]
      rw [show (k + 1) * 2 = k * 2 + 1 + 1 by omega]
      simpa using this
theorem Sm.first_drop {l : List FlawK} {k : Nat} (h : k < l.length) : firstW (l.drop k) = if l[k].is then l[k].why else firstW (l.drop (k + 1)) := by
  rw [List.drop_eq_getElem_cons h]
  rfl
set_option maxRecDepth 100000 in
set_option maxHeartbeats 2000000 in
theorem Sm.first_any (l : List FlawK) (B c : Nat) (w : World) (hl : l.length ≤ 1000) (hB : B < w.heap.size) (hc : ∀ j v, (l.flatMap flawC)[j]? = some v → w.cell? ⟨B, j, none⟩ = some v) (hf : FlawsOK l w) :
    Calls Tryd.prog 64 #[.slice (some ⟨B, 0, none⟩) l.length c] w fun e w' => e = .returned (.int .i64 (firstW l)) ∧ Below w.heap.size w w' := by
  have HF := Lib.hid hf
  have HC := Lib.hid hc
  clear hf hc
  go_enter Tryd.func64, Tryd.ntmps64
  go_wp2
  go_loopw [7] (fun vi wr => ∃ k : Nat, k ≤ l.length ∧ vi = .int .i64 (k : Int) ∧ Hid (firstW (l.drop k) = firstW l) ∧ Hid (Below w.heap.size w wr)) (fun vi _ => l.length - (RowKit.intOf vi).toNat)
  case atStart => exact ⟨0, Nat.zero_le _, rfl, Lib.hid rfl, Lib.hid (Below.refl _ _)⟩
  case round =>
    obtain ⟨wo, rfl⟩ : ∃ wo : World, wo = wr := ⟨_, rfl⟩
    obtain ⟨k, hk, rfl, HD, HB⟩ := hrel
    by_cases hlt : k < l.length
    · obtain ⟨hg, hcall⟩ := HF.out l[k] (List.getElem_mem hlt)
      have hfc := flaw_cells hlt
      have c0 : wo.cell? ⟨B, k * 2, none⟩ = some (.func (.func l[k].g) #[] l[k].lb) := (HB.out.cell (p := ⟨B, k * 2, none⟩) hB).trans (HC.out _ _ hfc.1)
      have c1 : wo.cell? ⟨B, k * 2 + 1, none⟩ = some (.int .i64 l[k].why) := (HB.out.cell (p := ⟨B, k * 2 + 1, none⟩) hB).trans (HC.out _ _ hfc.2)
      have hfd := first_drop hlt
      obtain ⟨F, hF⟩ : ∃ F, l[k] = F := ⟨_, rfl⟩
      rw [hF] at hg hcall c0 c1 hfd
      obtain ⟨g, lb, why, is⟩ := F
      simp only at hg hcall c0 c1 hfd
      obtain ⟨W, hW⟩ : ∃ W, wo.alloc (.cells #[.func (.func g) #[] lb, .int .i64 why] 103) = W := ⟨_, rfl⟩
      have hbW : Below w.heap.size w W := by rw [← hW]; exact HB.out.alloc HB.out.size _
      have hnW : W.cell? ⟨wo.heap.size, 1, none⟩ = some (.int .i64 why) := by rw [← hW]; exact World.cell?_alloc_new (w := wo) #[.func (.func g) #[] lb, .int .i64 why] 103 1
      have hsW : wo.heap.size < W.heap.size := by rw [← hW]; simp
      have hcl := hcall W hbW
      have HFD := Lib.hid hfd
      have HBW := Lib.hid hbW
      have HW := Lib.hid hW
      have HNW := Lib.hid hnW
      clear hfc hF hcall hfd hbW hW hnW
      cases is with
      | true =>
        go_wp2_with (first
          | (go_at_fn g; rw [HW.out]; (with_reducible refine hcl.mono ?_); rintro e w1 ⟨rfl, hb1⟩; have hd1 : w1.cell? ⟨wo.heap.size, 1, none⟩ = some (.int .i64 why) := (hb1.cell (p := ⟨wo.heap.size, 1, none⟩) hsW).trans HNW.out; have HB1 := Lib.hid (HBW.out.trans (hb1.mono HBW.out.size)); clear hb1))
        go_ret
        exact ⟨by rw [← HD.out, HFD.out]; rfl, HB1.out⟩
      | false =>
        go_wp2_with (first
          | (go_at_fn g; rw [HW.out]; (with_reducible refine hcl.mono ?_); rintro e w1 ⟨rfl, hb1⟩; have HB1 := Lib.hid (HBW.out.trans (hb1.mono HBW.out.size)); clear hb1))
        refine ⟨⟨k + 1, by omega, by go_num, Lib.hid (by rw [← HD.out, HFD.out]; rfl), HB1⟩, by simp [RowKit.intOf]; omega⟩
    · obtain rfl : k = l.length := by omega
      have hz : firstW l = 0 := by rw [← HD.out]; simp [firstW]
      clear hlt hk
      have HZ := Lib.hid hz
      clear hz
      go_wp2
      go_ret
      exact ⟨by rw [HZ.out]; rfl, HB.out⟩
end Go.Proofs
