/-
  acceptor: the kinds' map, which entries may be (Right, the document's Entry); fresh. acceptor: a saying that may be. Conditions: as each theorem names them.
-/
import Derived.Maps.OwnSet
import Derived.Carry
import Derived.Laws.EntriesVeiled
import Derived.Test.YtohidbkhccepnaaDoorAcE
import Derived.Test.YtohidbkhccepnaaDoorTxCk
namespace Go.Proofs
open Go Go.RowKit Sm Go.Lib Go.Maps Go.WideMaps
attribute [local go_sem] Oper.semAt_some
/-- values as they are -/
def Sm.heldElem (v : Value) : Option (DataW Value × List MemPlace) := some (.held v, [])
def Sm.kdL (k : Int) : Lit := .int .i64 k
def Sm.fnV (f : Nat) : Value := .func (.func f) #[] #[]
/-- the kinds and what makes each -/
def Sm.mkD : DataW Value := ((((DataW.map []).put (kdL 1) (.held (.func (.func 47) #[] #[]))).put (kdL 2) (.held (.func (.func 48) #[] #[]))).put (kdL 3) (.held (.func (.func 48) #[] #[]))).put (kdL 4) (.held (.func (.func 49) #[] #[]))
def Sm.I64 (k : Int) : Prop := -9223372036854775808 ≤ k ∧ k ≤ 9223372036854775807
theorem Sm.kd_key {k : Int} (h : I64 k) : keyOf Tryd.prog 31 (.int .i64 k) = some (kdL k) := keyOf_int_mk Tryd.underlying31 (by simp [Lit.wf, IntKind.min, IntKind.max, IntKind.signed, IntKind.bits]; unfold I64 at h; omega)
theorem Sm.made_below {N : Nat} {a w w' : World} {b : Nat} (h : Below N a w) (ht : w.mapTurned w' b) (h1 : N ≤ w.heap.size) (h2 : N ≤ b) : Below N a w' := h.grown ht.grown h1 (fun k e => by injection e with e; omega)
set_option maxRecDepth 100000 in
theorem Sm.makings_any (w : World) : Calls Tryd.prog 35 #[] w fun e w' => ∃ b, e = .returned (.map (some b)) ∧ w'.ownsMap Tryd.prog 31 heldElem b 4 mkD ∧ Below w.heap.size w w' := by
  have hmm := @run_makeMap Tryd.prog
  have o0 := World.ownsMap_made w Tryd.prog 31 heldElem
  have b0 : Below w.heap.size w (w.alloc (.map #[] 0)) := (Below.refl _ w).alloc (Nat.le_refl _) _
  have K : Keyed Tryd.prog 31 := int_keyed Tryd.underlying31
  obtain ⟨w1, r1, o1, t1⟩ := o0.store K Tryd.underlying81 (by unfold maxLen; omega) (key := .int .i64 1) (val := .func (.func 47) #[] #[]) (kd_key (k := 1) (by unfold I64; omega)) rfl
  obtain ⟨w2, r2, o2, t2⟩ := o1.store K Tryd.underlying81 (by unfold maxLen; omega) (key := .int .i64 2) (val := .func (.func 48) #[] #[]) (kd_key (k := 2) (by unfold I64; omega)) rfl
  obtain ⟨w3, r3, o3, t3⟩ := o2.store K Tryd.underlying81 (by unfold maxLen; omega) (key := .int .i64 3) (val := .func (.func 48) #[] #[]) (kd_key (k := 3) (by unfold I64; omega)) rfl
  obtain ⟨w4, r4, o4, t4⟩ := o3.store K Tryd.underlying81 (by unfold maxLen; omega) (key := .int .i64 4) (val := .func (.func 49) #[] #[]) (kd_key (k := 4) (by unfold I64; omega)) rfl
  have b1 := made_below b0 t1 b0.size (Nat.le_refl _)
  have b2 := made_below b1 t2 b1.size (Nat.le_refl _)
  have b3 := made_below b2 t3 b2.size (Nat.le_refl _)
  have b4 := made_below b3 t4 b3.size (Nat.le_refl _)
  have O4 := Lib.hid o4
  clear o0 o1 o2 o3 o4 t1 t2 t3 t4 b0 b1 b2 b3
  go_enter Tryd.func35, Tryd.ntmps35
  go_wp2
  go_ret
  exact ⟨w.heap.size, rfl, O4.out, b4⟩
/-- what makes a kind, and whether there is such a one -/
def Sm.mkB (k : Int) : Bool := decide (1 ≤ k) && decide (k ≤ 4)
theorem Sm.kd_ne {a b : Int} (h : a ≠ b) : kdL a ≠ kdL b := fun e => h (by injection e)
set_option maxRecDepth 100000 in
theorem Sm.mk_look (w : World) (b : Nat) (h : w.ownsMap Tryd.prog 31 heldElem b 4 mkD) (k : Int) (hk : I64 k) : ∃ v, (Instr.lookup 81 (.map (some b)) (.int .i64 k) true).run Tryd.prog w = .ok (.tuple #[v, .bool (mkB k)]) w
    ∧ (k = 1 → v = .func (.func 47) #[] #[]) ∧ (k = 2 → v = .func (.func 48) #[] #[]) ∧ (k = 3 → v = .func (.func 48) #[] #[]) ∧ (k = 4 → v = .func (.func 49) #[] #[]) := by
  have hz : (zeroValue 66).run Tryd.prog w = .ok .nilFunc w := by kernel_rfl
  obtain ⟨v, ps, hrun, hv⟩ := h.look_ok (int_keyed Tryd.underlying31) Tryd.underlying81 hz (zd := .held .nilFunc) (zp := []) rfl (kd_key hk)
  have hat : mkD.atKey (kdL k) (.held .nilFunc) = DataW.held v := by
    unfold heldElem at hv
    injection hv with hv
    injection hv with hv _
    exact hv.symm
  by_cases h1 : k = 1
  · subst h1
    exact ⟨v, hrun, fun _ => (by have e : mkD.atKey (kdL 1) (.held .nilFunc) = DataW.held (.func (.func 47) #[] #[]) := rfl; rw [e] at hat; injection hat with hat; exact hat.symm), fun e => absurd e (by decide), fun e => absurd e (by decide), fun e => absurd e (by decide)⟩
  by_cases h2 : k = 2
  · subst h2
    exact ⟨v, hrun, fun e => absurd e (by decide), fun _ => (by have e : mkD.atKey (kdL 2) (.held .nilFunc) = DataW.held (.func (.func 48) #[] #[]) := rfl; rw [e] at hat; injection hat with hat; exact hat.symm), fun e => absurd e (by decide), fun e => absurd e (by decide)⟩
  by_cases h3 : k = 3
  · subst h3
    exact ⟨v, hrun, fun e => absurd e (by decide), fun e => absurd e (by decide), fun _ => (by have e : mkD.atKey (kdL 3) (.held .nilFunc) = DataW.held (.func (.func 48) #[] #[]) := rfl; rw [e] at hat; injection hat with hat; exact hat.symm), fun e => absurd e (by decide)⟩
  by_cases h4 : k = 4
  · subst h4
    exact ⟨v, hrun, fun e => absurd e (by decide), fun e => absurd e (by decide), fun e => absurd e (by decide), fun _ => (by have e : mkD.atKey (kdL 4) (.held .nilFunc) = DataW.held (.func (.func 49) #[] #[]) := rfl; rw [e] at hat; injection hat with hat; exact hat.symm)⟩
  have hh : Maps.has mkD (kdL k) = mkB k := by
    unfold mkD mkB
    rw [has_put_other (kd_ne h4), has_put_other (kd_ne h3), has_put_other (kd_ne h2), has_put_other (kd_ne h1)]
    have : ¬ (1 ≤ k ∧ k ≤ 4) := by omega
    simp only [Maps.has, List.any_nil]
    symm
    rw [← Bool.decide_and]
    exact decide_eq_false this
  exact ⟨v, by rw [← hh]; exact hrun, fun e => absurd e h1, fun e => absurd e h2, fun e => absurd e h3, fun e => absurd e h4⟩
/-- is nothing said but a kind -/
theorem Sm.kind_any (k m n : Int) (t : ByteArray) (w : World) : Calls Tryd.prog 47 #[.agg #[.int .i64 k, .int .i64 m, .int .i64 n, .string t]] w fun e w' => e = .returned (.bool (decide (m = 0 ∧ n = 0 ∧ t = ⟨#[]⟩))) ∧ Below w.heap.size w w' := by
  have hb0 : ∀ X t, Below w.heap.size w (w.alloc (.cells X t)) := fun X t => (Below.refl _ w).alloc (Nat.le_refl _) _
  have h1 := fun W => eql34 W k k m 0 n 0 t ⟨#[]⟩
  simp only [true_and] at h1
  obtain ⟨x, hx⟩ : ∃ x, decide (m = 0 ∧ n = 0 ∧ t = ⟨#[]⟩) = x := ⟨_, rfl⟩
  rw [hx] at h1 ⊢
  clear hx
  go_enter Tryd.func47, Tryd.ntmps47
  go_wp2
  go_ret
  exact ⟨rfl, hb0 _ _⟩
theorem Sm.all2 (W : World) (a b : Bool) : Calls Tryd.prog 56 #[.slice (some ⟨W.heap.size, 0, none⟩) 2 2] (W.alloc (.cells #[.bool a, .bool b] 4)).drew fun e w' => e = .returned (.bool (a && b)) ∧ (W.alloc (.cells #[.bool a, .bool b] 4)).drew = w' :=
  (all_any _ 2 2 [a, b] _ ((row2 W a b 4).keep (Below.refl _ _).drew)).mono fun e w' ⟨h1, h2⟩ => ⟨by rw [h1]; simp, h2⟩
theorem Sm.all3 (W : World) (a b c : Bool) : Calls Tryd.prog 56 #[.slice (some ⟨W.heap.size, 0, none⟩) 3 3] (W.alloc (.cells #[.bool a, .bool b, .bool c] 4)).drew fun e w' => e = .returned (.bool (a && b && c)) ∧ (W.alloc (.cells #[.bool a, .bool b, .bool c] 4)).drew = w' :=
  (all_any _ 3 3 [a, b, c] _ ((row3 W a b c 4).keep (Below.refl _ _).drew)).mono fun e w' ⟨h1, h2⟩ => ⟨by rw [h1]; simp [Bool.and_assoc], h2⟩
theorem Sm.all3n (W : World) (a b c : Bool) : Calls Tryd.prog 56 #[.slice (some ⟨W.heap.size, 0, none⟩) 3 3] (W.alloc (.cells #[.bool a, .bool b, .bool c] 4)) fun e w' => e = .returned (.bool (a && b && c)) ∧ (W.alloc (.cells #[.bool a, .bool b, .bool c] 4)) = w' :=
  (all_any _ 3 3 [a, b, c] _ (row3 W a b c 4)).mono fun e w' ⟨h1, h2⟩ => ⟨by rw [h1]; simp [Bool.and_assoc], h2⟩
/-- a box of four cells, kept -/
theorem Sm.ent_box (w : World) (a b c d : Value) (t : TypeId) : ∀ W, Below (w.heap.size + 1) (w.alloc (.cells #[a, b, c, d] t)) W → W.cell? ⟨w.heap.size, 0, none⟩ = some a ∧ W.cell? ⟨w.heap.size, 1, none⟩ = some b ∧ W.cell? ⟨w.heap.size, 2, none⟩ = some c ∧ W.cell? ⟨w.heap.size, 3, none⟩ = some d := fun W hb =>
  (four ((hb.block _ (by simp)).trans (World.alloc_heap_new w (.cells #[a, b, c, d] t)))).1
set_option maxRecDepth 100000 in
set_option maxHeartbeats 1000000 in
theorem Sm.member_any (k m n : Int) (t : ByteArray) (w : World) : Calls Tryd.prog 48 #[.agg #[.int .i64 k, .int .i64 m, .int .i64 n, .string t]] w fun e w' => e = .returned (.bool (mbB m && decide (n = 0 ∧ t = ⟨#[]⟩))) ∧ Below w.heap.size w w' := by
  have hb0 : ∀ X t, Below w.heap.size w (w.alloc (.cells X t)) := fun X t => (Below.refl _ w).alloc (Nat.le_refl _) _
  have h1 := fun W => isMember_any m W
  have h2 := fun W a b => all2 W a b
  have h3 := fun W => eql34 W k k m m n 0 t ⟨#[]⟩
  simp only [true_and] at h3
  have hS := ent_box w (.int .i64 k) (.int .i64 m) (.int .i64 n) (.string t) 33
  have hb1 := hb0 #[.int .i64 k, .int .i64 m, .int .i64 n, .string t] 33
  obtain ⟨w1, hw1⟩ : ∃ v, w.alloc (.cells #[.int .i64 k, .int .i64 m, .int .i64 n, .string t] 33) = v := ⟨_, rfl⟩
  have hz1 : w.heap.size + 1 = w1.heap.size := by rw [← hw1]; simp
  rw [hw1, hz1] at hS
  rw [hw1] at hb1
  have HS := Lib.hid hS
  have HB1 := Lib.hid hb1
  have z0 := HS.out _ (Below.refl _ _)
  clear hS hb1 hz1
  obtain ⟨x, hx⟩ : ∃ x, mbB m = x := ⟨_, rfl⟩
  obtain ⟨y, hy⟩ : ∃ x, decide (n = 0 ∧ t = ⟨#[]⟩) = x := ⟨_, rfl⟩
  rw [hx] at h1 ⊢
  rw [hy] at h3 ⊢
  clear hx hy hb0
  go_enter Tryd.func48, Tryd.ntmps48
  go_upto_region 1 with fail
  clear hw1
  go_region_held_law (fun W => W.cell? ⟨w.heap.size, 0, none⟩ = some (.int .i64 k) ∧ W.cell? ⟨w.heap.size, 1, none⟩ = some (.int .i64 m) ∧ W.cell? ⟨w.heap.size, 2, none⟩ = some (.int .i64 n) ∧ W.cell? ⟨w.heap.size, 3, none⟩ = some (.string t))
    (first | exact z0 | (refine HS.out _ ?_; repeat' (first | exact Below.refl _ _ | refine Below.drew ?_ | refine Below.alloc ?_ ?_ _ | (simp; done) | (simp; omega) | omega)))
    (first
      | (go_at_call 57; (with_reducible refine (h1 _).mono ?_); rintro e w' ⟨rfl, rfl⟩)
      | (go_at_call 56; (with_reducible refine (h2 _ _ _).mono ?_); rintro e w' ⟨rfl, rfl⟩))
  all_goals
    go_wp2
    go_ret
    exact ⟨rfl, HB1.out.trans ((((Below.refl _ _).alloc (Nat.le_refl _) _).drew).mono HB1.out.size)⟩
end Go.Proofs
namespace Go.Proofs
open Go Go.RowKit Sm Go.Lib Go.Maps Go.WideMaps
attribute [local go_sem] Oper.semAt_some
set_option maxRecDepth 100000 in
set_option maxHeartbeats 2000000 in
theorem Sm.saying_any (k m n : Int) (t : ByteArray) (w : World) (ht : t.size ≤ 1000000) (hL : LaysT w) : Calls Tryd.prog 49 #[.agg #[.int .i64 k, .int .i64 m, .int .i64 n, .string t]] w fun e w' => e = .returned (.bool (mbB m && (decide (1 ≤ n) && decide (n ≤ 2147483647)) && decide (checkN t = 0))) ∧ Below w.heap.size w w' := by
  have hb0 : ∀ X t, Below w.heap.size w (w.alloc (.cells X t)) := fun X t => (Below.refl _ w).alloc (Nat.le_refl _) _
  have h1 := fun W => isMember_any m W
  have h2 := fun W a b c => all3n W a b c
  have h3 := fun W => wi73 1 n 2147483647 W
  have hS := ent_box w (.int .i64 k) (.int .i64 m) (.int .i64 n) (.string t) 33
  have hb1 := hb0 #[.int .i64 k, .int .i64 m, .int .i64 n, .string t] 33
  obtain ⟨w1, hw1⟩ : ∃ v, w.alloc (.cells #[.int .i64 k, .int .i64 m, .int .i64 n, .string t] 33) = v := ⟨_, rfl⟩
  have hz1 : w.heap.size + 1 = w1.heap.size := by rw [← hw1]; simp
  rw [hw1, hz1] at hS
  rw [hw1] at hb1
  have hL1 := hL.keep hb1
  have HC : Hid (∀ W, Below w1.heap.size w1 W → Calls Tryd.prog 59 #[.string t] W fun e w' => e = .returned (.int .i64 (checkN t)) ∧ Below w1.heap.size w1 w') := Lib.hid fun W hb =>
    (TCheck_any t W (by omega) (hL1.keep hb)).mono fun e w' ⟨h1, h2⟩ => ⟨h1, hb.trans (h2.mono hb.size)⟩
  have HS := Lib.hid hS
  have HB1 := Lib.hid hb1
  have z0 := HS.out _ (Below.refl _ _)
  clear hS hb1 hz1 hL hL1 hb0
  obtain ⟨x, hx⟩ : ∃ x, mbB m = x := ⟨_, rfl⟩
  obtain ⟨y, hy⟩ : ∃ x, (decide (1 ≤ n) && decide (n ≤ 2147483647)) = x := ⟨_, rfl⟩
  obtain ⟨q, hq⟩ : ∃ x, checkN t = x := ⟨_, rfl⟩
  rw [hx] at h1 ⊢
  rw [hy] at h3 ⊢
  rw [hq] at HC ⊢
  clear hx hy hq
  cases hq0 : decide (q = 0)
  all_goals
    have hq1 : (q == 0) = decide (q = 0) := rfl
    rw [hq0] at hq1
    have HQ0 := Lib.hid hq0
    clear hq0
    go_enter Tryd.func49, Tryd.ntmps49
    go_upto_region 1 with fail
    clear hw1
    go_region_held_law (fun W => (W.cell? ⟨w.heap.size, 0, none⟩ = some (.int .i64 k) ∧ W.cell? ⟨w.heap.size, 1, none⟩ = some (.int .i64 m) ∧ W.cell? ⟨w.heap.size, 2, none⟩ = some (.int .i64 n) ∧ W.cell? ⟨w.heap.size, 3, none⟩ = some (.string t)) ∧ Below w1.heap.size w1 W)
      (first | exact ⟨z0, Below.refl _ _⟩ | (refine (fun hb => ⟨HS.out _ hb, hb⟩) ?_; repeat' (first | exact Below.refl _ _ | assumption | refine Below.drew ?_ | refine Below.alloc ?_ ?_ _ | (simp; done) | (simp; omega) | omega)))
      (first
        | (go_at_call 57; (with_reducible refine (h1 _).mono ?_); rintro e w' ⟨rfl, rfl⟩)
        | (go_at_call 58; (with_reducible refine (h3 _).mono ?_); rintro e w' ⟨rfl, rfl⟩)
        | (go_at_call 59; (with_reducible refine (HC.out _ (by first | exact (Below.refl _ _).drew | exact Below.refl _ _ | exact (show (_ ∧ _ ∧ _ ∧ _) ∧ Below _ _ _ from by assumption).2)).mono ?_); rintro e w2 ⟨rfl, hb2⟩; have hs2 := hb2.size)
        | (go_at_call 56; (with_reducible refine (h2 _ _ _ _).mono ?_); rintro e w' ⟨rfl, rfl⟩))
    all_goals
      go_wp2
      go_ret
      exact ⟨by simp, HB1.out.trans ((hb2.alloc hs2 _).mono HB1.out.size)⟩
end Go.Proofs
