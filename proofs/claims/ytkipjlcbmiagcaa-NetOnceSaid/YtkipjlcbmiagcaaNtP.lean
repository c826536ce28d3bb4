/-
  A net as data: which messages a pick may pick, what its calls do to it. No condition.
-/
import Derived.Test.YtkipjlcbmiagcaaNtO
namespace Go.Proofs
open Go Go.RowKit Sm Go.Lib Go.Maps Go.WideMaps
/-- a message's data: its number, ends, bytes -/
abbrev Sm.PD := Int × Int × Int × List (BitVec 8)
def Sm.MsgM.d (m : MsgM) : PD := (m.num, m.src, m.dst, m.bytes)
def Sm.pkD (x y : Int) (m : PD) : Bool := pkB x y m.2.1 m.2.2.1
/-- the places of what is picked among the first n -/
def Sm.onN (x y : Int) (P : List PD) : Nat → List Nat
  | 0 => []
  | n + 1 => onN x y P n ++ (if (P[n]?.map (pkD x y)).getD false = true then [n] else [])
def Sm.onP (x y : Int) (P : List PD) : List Nat := onN x y P P.length
theorem Sm.onN_yes {x y : Int} {P : List PD} {n : Nat} {m : PD} (h : P[n]? = some m) (hp : pkD x y m = true) : onN x y P (n + 1) = onN x y P n ++ [n] := by
  rw [onN, h]
  simp [hp]
theorem Sm.onN_not {x y : Int} {P : List PD} {n : Nat} {m : PD} (h : P[n]? = some m) (hp : pkD x y m = false) : onN x y P (n + 1) = onN x y P n := by
  rw [onN, h]
  simp [hp]
theorem Sm.onN_len (x y : Int) (P : List PD) (n : Nat) : (onN x y P n).length ≤ n := by
  induction n with
  | zero => exact Nat.le_refl _
  | succ n ih =>
    rw [onN, List.length_append]
    split
    · simp; omega
    · simp; omega
theorem Sm.onN_pre (x y : Int) (P : List PD) {m n : Nat} (h : m ≤ n) : ∃ r, onN x y P n = onN x y P m ++ r := by
  induction n with
  | zero =>
    obtain rfl : m = 0 := by omega
    exact ⟨[], by simp⟩
  | succ n ih =>
    by_cases e : m = n + 1
    · exact ⟨[], by rw [e]; simp⟩
    · obtain ⟨r, hr⟩ := ih (by omega)
      exact ⟨r ++ _, by rw [onN, hr, List.append_assoc]⟩
theorem Sm.onN_lt {x y : Int} {P : List PD} {n i : Nat} (h : i ∈ onN x y P n) : i < n ∧ ∃ m, P[i]? = some m ∧ pkD x y m = true := by
  induction n with
  | zero => cases h
  | succ n ih =>
    rw [onN, List.mem_append] at h
    rcases h with h | h
    · obtain ⟨h1, h2⟩ := ih h
      exact ⟨by omega, h2⟩
    · split at h
      · rename_i hc
        rw [List.mem_singleton] at h
        subst h
        refine ⟨by omega, ?_⟩
        cases e : P[i]? with
        | none => rw [e] at hc; simp at hc
        | some m => rw [e] at hc; exact ⟨m, rfl, by simpa using hc⟩
      · cases h
theorem Sm.onP_lt {x y : Int} {P : List PD} {i : Nat} (h : i ∈ onP x y P) : i < P.length := (onN_lt h).1
/-- the place of what is picked first behind n others -/
theorem Sm.onP_at {x y : Int} {P : List PD} {n : Nat} {m : PD} (h : P[n]? = some m) (hp : pkD x y m = true) : (onP x y P)[(onN x y P n).length]? = some n := by
  have hn : n < P.length := (List.getElem?_eq_some_iff.1 h).1
  obtain ⟨r, hr⟩ := onN_pre x y P (show n + 1 ≤ P.length from hn)
  unfold onP
  rw [hr, onN_yes h hp, List.append_assoc]
  simp
theorem Sm.onN_all {P : List PD} {n : Nat} (h : n ≤ P.length) : onN (-1) (-1) P n = List.range n := by
  induction n with
  | zero => rfl
  | succ n ih =>
    have hn : n < P.length := by omega
    rw [onN_yes (List.getElem?_eq_getElem hn) (by unfold pkD pkB anyB; simp), ih (by omega), List.range_succ]
theorem Sm.onP_all (P : List PD) : onP (-1) (-1) P = List.range P.length := onN_all (Nat.le_refl _)
/-! ### a net's state, and its calls -/
structure Sm.NM where
  s : NSt
  D : List (Int × Int)
  P : List PD
def Sm.zeroP : PD := (0, 0, 0, [])
/-- why a pick is refused: 0: it is not -/
def Sm.findE (N : NM) (x y : Int) : Int := if (anyB x y || lnkB N.s x y) = false then 2 else if (onP x y N.P).length = 0 then 5 else 0
/-- which place is picked -/
def Sm.findA (N : NM) (x y pick : Int) : Nat := ((onP x y N.P)[(pickI pick (onP x y N.P).length).toNat]?).getD 0
def Sm.findP (N : NM) (x y pick : Int) : PD := (N.P[findA N x y pick]?).getD zeroP
def Sm.reachE (N : NM) (x y pick : Int) : Int := if findE N x y ≠ 0 then findE N x y else if ((findP N x y pick).2.1, (findP N x y pick).2.2.1) ∈ N.D then 210 else 0
def Sm.peekN (N : NM) (x y pick : Int) : PD × Int := if reachE N x y pick ≠ 0 then (zeroP, reachE N x y pick) else (findP N x y pick, 0)
def Sm.NM.less (N : NM) (i : Nat) : NM := ⟨N.s, N.D, N.P.eraseIdx i⟩
def Sm.takeN (N : NM) (x y pick : Int) : NM × PD × Int := if reachE N x y pick ≠ 0 then (N, zeroP, reachE N x y pick) else (N.less (findA N x y pick), findP N x y pick, 0)
def Sm.dropN (N : NM) (x y pick : Int) : NM × Int × Int := if findE N x y ≠ 0 then (N, 0, findE N x y) else (N.less (findA N x y pick), (findP N x y pick).1, 0)
def Sm.putN (N : NM) (x y : Int) (b : List (BitVec 8)) : NM × Int × Int :=
  if putE N.s N.D N.P.length x y b.length ≠ 0 then (N, 0, putE N.s N.D N.P.length x y b.length) else (⟨⟨N.s.ends, N.s.most, N.s.came + 1⟩, N.D, N.P ++ [(N.s.came, x, y, b)]⟩, N.s.came, 0)
def Sm.downN (N : NM) (x y : Int) (is : Bool) : NM × Int := if lnkB N.s x y = true then (⟨N.s, downL is x y N.D, N.P⟩, 0) else (N, 2)
theorem Sm.pickI_lt (pick n : Int) (h : 0 < n) : 0 ≤ pickI pick n ∧ pickI pick n < n := by
  unfold pickI
  exact ⟨Int.emod_nonneg _ (by omega), Int.emod_lt_of_pos _ h⟩
theorem Sm.find_ok {N : NM} {x y : Int} (pick : Int) (h : findE N x y = 0) : (onP x y N.P)[(pickI pick (onP x y N.P).length).toNat]? = some (findA N x y pick) ∧ findA N x y pick < N.P.length ∧ N.P[findA N x y pick]? = some (findP N x y pick) ∧ 0 < (onP x y N.P).length ∧ (anyB x y || lnkB N.s x y) = true := by
  unfold findE at h
  split at h
  · cases h
  · rename_i h1
    split at h
    · cases h
    · rename_i h2
      have hl : 0 < (onP x y N.P).length := by omega
      have hp := pickI_lt pick (onP x y N.P).length (by omega)
      have hk : (pickI pick (onP x y N.P).length).toNat < (onP x y N.P).length := by omega
      have e : (onP x y N.P)[(pickI pick (onP x y N.P).length).toNat]? = some (findA N x y pick) := by
        unfold findA
        rw [List.getElem?_eq_getElem hk]
        rfl
      have hm := onP_lt (List.mem_of_getElem? e)
      refine ⟨e, hm, ?_, hl, by cases hh : (anyB x y || lnkB N.s x y) with | true => rfl | false => exact absurd hh h1⟩
      unfold findP
      rw [List.getElem?_eq_getElem hm]
      rfl
/-- a net in memory, by its data; all its blocks are of B -/
def Sm.Nt (B : Nat → Prop) (W : World) (p : Nat) (N : NM) : Prop :=
  ∃ Mb base A cap L, NAt W p Mb base N.s N.D A cap L ∧ L.map MsgM.d = N.P ∧ B p ∧ B Mb ∧ (∀ b, (Value.slice A L.length cap).ownBlock = some b → B b) ∧ ∀ m ∈ L, ∀ b, m.sl.ownBlock = some b → B b
theorem Sm.Nt.keep {B : Nat → Prop} {W W' : World} {p : Nat} {N : NM} (h : Nt B W p N) (hb : Below W.heap.size W W') : Nt B W' p N := by
  obtain ⟨Mb, base, A, cap, L, h1, h2⟩ := h
  exact ⟨Mb, base, A, cap, L, h1.keep hb, h2⟩
theorem Sm.NAt.but {S : Nat → Prop} {W W' : World} {p Mb base : Nat} {s : NSt} {D : List (Int × Int)} {A : Option Addr} {cap : Nat} {L : List MsgM} (h : NAt W p Mb base s D A cap L) (hb : But S W W') (hp : ¬ S p) (hM : ¬ S Mb)
    (hr : ∀ b, (Value.slice A L.length cap).ownBlock = some b → ¬ S b) (hm : ∀ m ∈ L, ∀ b, m.sl.ownBlock = some b → ¬ S b) : NAt W' p Mb base s D A cap L :=
  ⟨hb.box h.blk hp, h.map.imp fun _ hD => ⟨map_keep hD.1 (hb.block _ hD.1.lt hM), hD.2⟩, hb.row h.row hr, fun m hx => hb.row (h.byt m hx) (hm m hx), h.sep, ⟨h.low.1, h.low.2.1, h.low.2.2.1, Nat.le_trans h.low.2.2.2 hb.size⟩, h.lim, h.lnk, h.msg⟩
theorem Sm.Nt.but {B S : Nat → Prop} {W W' : World} {p : Nat} {N : NM} (h : Nt B W p N) (hb : But S W W') (hS : ∀ b, S b → ¬ B b) : Nt B W' p N := by
  obtain ⟨Mb, base, A, cap, L, h1, h2, h3, h4, h5, h6⟩ := h
  exact ⟨Mb, base, A, cap, L, h1.but hb (fun e => hS _ e h3) (fun e => hS _ e h4) (fun b e e2 => hS b e2 (h5 b e)) (fun m hm b e e2 => hS b e2 (h6 m hm b e)), h2, h3, h4, h5, h6⟩
theorem Sm.Nt.mono {B B' : Nat → Prop} {W : World} {p : Nat} {N : NM} (h : Nt B W p N) (hB : ∀ b, b < W.heap.size → B b → B' b) : Nt B' W p N := by
  obtain ⟨Mb, base, A, cap, L, h1, h2, h3, h4, h5, h6⟩ := h
  exact ⟨Mb, base, A, cap, L, h1, h2, hB _ (Array.getElem?_eq_some_iff.1 h1.blk).1 h3, hB _ (by have := h1.low; omega) h4, fun b e => hB b (h1.row.lt b e).2 (h5 b e), fun m hm b e => hB b ((h1.byt m hm).lt b e).2 (h6 m hm b e)⟩
/-- what a call does to memory -/
def Sm.StepN (B : Nat → Prop) (W W' : World) (p : Nat) (N : NM) : Prop := Nt (fun b => B b ∨ W.heap.size ≤ b) W' p N ∧ But B W W'
theorem Sm.stepN_same {B : Nat → Prop} {W W' : World} {p : Nat} {N : NM} (h : Nt B W p N) (hb : Below W.heap.size W W') : StepN B W W' p N :=
  ⟨(h.keep hb).mono (fun _ _ e => .inl e), But.of_all hb _⟩
theorem Sm.Nt.lens {B : Nat → Prop} {W : World} {p : Nat} {N : NM} (h : Nt B W p N) : N.P.length ≤ 4096 ∧ (N.P.length : Int) ≤ N.s.most ∧ 0 ≤ N.s.came ∧ N.s.came ≤ 1000000000 ∧ 1 ≤ N.s.ends ∧ N.s.ends ≤ 64 := by
  obtain ⟨Mb, base, A, cap, L, h1, h2, _⟩ := h
  have h3 := h1.lim
  have h4 : N.P.length = L.length := by rw [← h2, List.length_map]
  omega
end Go.Proofs
