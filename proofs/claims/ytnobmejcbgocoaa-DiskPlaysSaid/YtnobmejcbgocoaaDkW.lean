/-
  left, and the chapter's rows (works). Conditions: as each theorem names them.
-/
import Derived.Test.YtnobmejcbgocoaaDkV
namespace Go.Proofs
open Go Go.RowKit Sm Go.Lib Go.Maps Go.WideMaps
attribute [local go_sem] Oper.semAt_some
set_option maxRecDepth 100000 in
set_option maxHeartbeats 1000000 in
theorem Sm.left_any {B : Nat → Prop} {p : Nat} {s : DSt} {L : List (List (BitVec 8) × List (BitVec 8) × Nat)} (x : ByteArray) (Ap : Option Addr) (np cp : Nat) (picks : List Int) (w : World) (h : Dk B w p s L) (hxz : x.size ≤ 1000000) (hl : L.length ≤ 1000000) (hpk : PkV w picks w.heap.size 0 (.slice Ap np cp)) :
    Calls Try.prog 34 #[.pointer (some ⟨p, 0, none⟩), .string x, .slice Ap np cp] w fun e w' => e = .returned (.string (strB (tellM (crM picks 0 L) (strL x)).1)) ∧ Below w.heap.size w w' := by
  have hc := crash_M Ap np cp picks w h hl hpk
  obtain ⟨l, hlq⟩ : ∃ l, (tellM (crM picks 0 L) (strL x)).1 = l := ⟨_, rfl⟩
  rw [hlq]
  have HLQ := Lib.hid hlq
  clear h hlq
  go_enter Try.func34, Try.ntmps34
  go_upto_region 2 with (go_at_call 14; (with_reducible refine hc.mono ?_); clear hc; rintro e w1 ⟨q, rfl, hD1, hb1⟩)
  have hr := read_M x w1 hD1 hxz
  have HB1 := Lib.hid hb1
  rw [HLQ.out] at hr
  clear hD1 hb1 HLQ
  go_upto_region 3 with (go_at_call 12; (with_reducible refine hr.mono ?_); clear hr; rintro e w2 ⟨A, c, rfl, hrow, hb2⟩)
  have hst := fun dst hd => run_str (P := Try.prog) w2 36 5 Try.underlying36 Try.underlying5 l l.length c w2.heap.size A rfl (Rd.of_own hrow (Nat.le_refl _)) dst hd
  have hst9 := hst 9 Try.underlying9
  have HB2 := Lib.hid (HB1.out.trans (hb2.mono HB1.out.size))
  clear hst hrow hb2
  go_wp2
  go_ret
  exact ⟨rfl, HB2.out⟩
/-- a disk all of whose blocks lie from n0 on -/
def Sm.DN (n0 p : Nat) (W : World) (s : DSt) (L : List (List (BitVec 8) × List (BitVec 8) × Nat)) : Prop := Dk (fun b => n0 ≤ b) W p s L ∧ n0 ≤ W.heap.size
theorem Sm.DN.keep {n0 p : Nat} {W W' : World} {s : DSt} {L : List (List (BitVec 8) × List (BitVec 8) × Nat)} (h : DN n0 p W s L) (hb : Below W.heap.size W W') : DN n0 p W' s L := ⟨h.1.keep hb, Nat.le_trans h.2 hb.size⟩
theorem Sm.DN.step {n0 p : Nat} {W W' : World} {r : DSt × List (List (BitVec 8) × List (BitVec 8) × Nat) × Int} (hn : n0 ≤ W.heap.size) (h : StepM (fun b => n0 ≤ b) W W' p r) : DN n0 p W' r.1 r.2.1 ∧ Below n0 W W' :=
  ⟨⟨h.1.mono (fun b _ e => by omega), Nat.le_trans hn h.2.size⟩, h.2.to_below hn (fun _ e => e)⟩
theorem Sm.app_lit {n0 p : Nat} {s : DSt} {L : List (List (BitVec 8) × List (BitVec 8) × Nat)} (x : ByteArray) (l : List (BitVec 8)) (n : Nat) (W : World) (h : DN n0 p W s L) (hxz : x.size ≤ 1000000) (hl : L.length ≤ 1000000) (hn : l.length = n) (hn2 : n ≤ 1000) (r : DSt × List (List (BitVec 8) × List (BitVec 8) × Nat) × Int) (hr : appM s L (strL x) l = r) :
    Calls Try.prog 16 #[.pointer (some ⟨p, 0, none⟩), .string x, .slice (some ⟨W.heap.size, 0, none⟩) n n] (W.alloc (.cells (l.map byteCell).toArray 5 (n, n + 1))) fun e w' => e = .returned (.int .i64 r.2.2) ∧ DN n0 p w' r.1 r.2.1 ∧ Below n0 W w' := by
  have hb : Below W.heap.size W (W.alloc (.cells (l.map byteCell).toArray 5 (n, n + 1))) := (Below.refl _ W).alloc (Nat.le_refl _) _
  have hk := h.keep hb
  have hlow : Dk (fun b => n0 ≤ b ∧ b < W.heap.size) (W.alloc (.cells (l.map byteCell).toArray 5 (n, n + 1))) p s L := (h.1.mono (fun b h1 h2 => ⟨h2, h1⟩)).keep hb
  rw [← hr]
  refine (append_M x (W.heap.size + 1) (some ⟨W.heap.size, 0, none⟩) n n l _ hlow hxz hl (by simp) ?_ hn (by omega)).mono ?_
  · intro W' hb' _
    refine ⟨_, _, rfl, Nat.lt_succ_self _, fun j c hj => ?_⟩
    have h1 := cell_of_heap (World.alloc_heap_new W (.cells (l.map byteCell).toArray 5 (n, n + 1))) j
    rw [List.getElem?_toArray, List.getElem?_map, hj] at h1
    rw [Nat.zero_add]
    exact (hb'.cell (p := ⟨W.heap.size, j, none⟩) (by simp) (fun e => by have := e.2; simp at this)).trans h1
  · rintro e w' ⟨rfl, h1, h2⟩
    have hsz := hb.size
    refine ⟨rfl, ⟨h1.mono (fun b _ e => by have := h.2; omega), Nat.le_trans hk.2 h2.size⟩, (hb.mono h.2).trans (h2.to_below hk.2 (fun b e => e.1))⟩
theorem Sm.syn_lit {n0 p : Nat} {s : DSt} {L : List (List (BitVec 8) × List (BitVec 8) × Nat)} (x : ByteArray) (W : World) (h : DN n0 p W s L) (hxz : x.size ≤ 1000000) (hl : L.length ≤ 1000000) (r : DSt × List (List (BitVec 8) × List (BitVec 8) × Nat) × Int) (hr : synM s L (strL x) = r) :
    Calls Try.prog 17 #[.pointer (some ⟨p, 0, none⟩), .string x] W fun e w' => e = .returned (.int .i64 r.2.2) ∧ DN n0 p w' r.1 r.2.1 ∧ Below n0 W w' := by
  rw [← hr]
  refine (sync_M x W h.1 hxz hl).mono ?_
  rintro e w' ⟨rfl, h1⟩
  exact ⟨rfl, DN.step h.2 h1⟩
theorem Sm.cut_lit {n0 p : Nat} {s : DSt} {L : List (List (BitVec 8) × List (BitVec 8) × Nat)} (x : ByteArray) (k : Int) (W : World) (h : DN n0 p W s L) (hxz : x.size ≤ 1000000) (hl : L.length ≤ 1000000) (r : DSt × List (List (BitVec 8) × List (BitVec 8) × Nat) × Int) (hr : cutM s L (strL x) k = r) :
    Calls Try.prog 18 #[.pointer (some ⟨p, 0, none⟩), .string x, .int .i64 k] W fun e w' => e = .returned (.int .i64 r.2.2) ∧ DN n0 p w' r.1 r.2.1 ∧ Below n0 W w' := by
  rw [← hr]
  refine (cut_M x k W h.1 hxz hl).mono ?_
  rintro e w' ⟨rfl, h1⟩
  exact ⟨rfl, DN.step h.2 h1⟩
theorem Sm.stop_lit {n0 p : Nat} {s : DSt} {L : List (List (BitVec 8) × List (BitVec 8) × Nat)} (n : Int) (W : World) (h : DN n0 p W s L) (hn : n ≤ 9223372036854775807) (r : DSt × Int) (hr : stoM s n = r) :
    Calls Try.prog 21 #[.pointer (some ⟨p, 0, none⟩), .int .i64 n] W fun e w' => e = .returned (.int .i64 r.2) ∧ DN n0 p w' r.1 L ∧ Below n0 W w' := by
  rw [← hr]
  refine (stop_M n W h.1 hn).mono ?_
  rintro e w' ⟨rfl, h1⟩
  exact ⟨rfl, DN.step h.2 h1⟩
theorem Sm.pkv_none (W : World) (picks : List Int) (hp : picks = []) : PkV W picks W.heap.size 0 (.slice none 0 0) := by
  subst hp
  exact ⟨none, 0, rfl, Nat.le_refl _, by omega, .inl rfl⟩
theorem Sm.pkv_one (W : World) (k : Int) : PkV (W.alloc (.cells #[.int .i64 k] 3)) [k] (W.alloc (.cells #[.int .i64 k] 3)).heap.size 0 (.slice (some ⟨W.heap.size, 0, none⟩) 1 1) := by
  refine ⟨_, _, rfl, Nat.le_refl _, by omega, .inr ⟨W.heap.size, 0, rfl, by simp, fun j hj _ => ?_⟩⟩
  have : j = 0 := by simp at hj; omega
  subst this
  exact cell_of_heap (World.alloc_heap_new W _) 0
theorem Sm.left_lit {n0 p : Nat} {s : DSt} {L : List (List (BitVec 8) × List (BitVec 8) × Nat)} (x : ByteArray) (W : World) (h : DN n0 p W s L) (hxz : x.size ≤ 1000000) (hl : L.length ≤ 1000000) (r : ByteArray) (hr : strB (tellM (crM [] 0 L) (strL x)).1 = r) :
    Calls Try.prog 34 #[.pointer (some ⟨p, 0, none⟩), .string x, .slice none 0 0] W fun e w' => e = .returned (.string r) ∧ Below W.heap.size W w' := by
  rw [← hr]
  exact left_any x none 0 0 [] W h.1 hxz hl (pkv_none W [] rfl)
theorem Sm.left_one {n0 p : Nat} {s : DSt} {L : List (List (BitVec 8) × List (BitVec 8) × Nat)} (x : ByteArray) (k : Int) (W : World) (h : DN n0 p W s L) (hxz : x.size ≤ 1000000) (hl : L.length ≤ 1000000) (r : ByteArray) (hr : strB (tellM (crM [k] 0 L) (strL x)).1 = r) :
    Calls Try.prog 34 #[.pointer (some ⟨p, 0, none⟩), .string x, .slice (some ⟨W.heap.size, 0, none⟩) 1 1] (W.alloc (.cells #[.int .i64 k] 3)) fun e w' => e = .returned (.string r) ∧ Below W.heap.size W w' := by
  have hb : Below W.heap.size W (W.alloc (.cells #[.int .i64 k] 3)) := (Below.refl _ W).alloc (Nat.le_refl _) _
  rw [← hr]
  refine (left_any x (some ⟨W.heap.size, 0, none⟩) 1 1 [k] _ (h.keep hb).1 hxz hl (pkv_one W k)).mono ?_
  rintro e w' ⟨rfl, h1⟩
  exact ⟨rfl, hb.trans (h1.mono hb.size)⟩
end Go.Proofs
