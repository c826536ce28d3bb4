/-
  The walk of the law WireStream: at every readable bytes and count it returns true and nothing that lay has turned, where the table lies in memory.
-/
import Derived.Deep.CutRange
import Derived.LoopIn
import Derived.Test.YteeponciegmlcaaDoorLawV
namespace Go.Proofs
open Go.RowKit Go.Shelf Sm
attribute [local go_sem ↓] Go.wp_at_zero Go.wp_at_succ
attribute [local go_sem] Oper.semAt_some
/-- how all stands while the frames of a stream are told -/
structure Sm.StreamAt (w wr : World) (many : Int) (l : List (BitVec 8)) (n Bw L : Nat) (Aw : Option Addr) (cw : Nat) (sl : Nat → Option Addr × Nat) (Am : Option Addr) (cm Bx : Nat) (A4 : Option Addr) (c4 : Nat) : Prop where
  box : wr.heap[Bw]? = some (.cells #[.slice Aw (cntK l) cw] 74 (0, 0))
  parts : PartsAt wr L (.slice Aw (cntK l) cw) l (cntK l) sl
  mine : wr.ownsRow L 5 1 (.slice Am n cm) n (l.map byteCell)
  many_ : wr.heap[w.heap.size]? = some (.cells #[.int .i64 many] 3 (0, 0))
  res : wr.heap[w.heap.size + 1]? = some (.cells #[.bool false] 4 (0, 0))
  below : Below w.heap.size w wr
  cap : Cap wr wr.heap.size Bx A4 n c4 l
theorem Sm.StreamAt.on {w wr w' : World} {many : Int} {l : List (BitVec 8)} {n Bw L : Nat} {Aw : Option Addr} {cw : Nat} {sl : Nat → Option Addr × Nat} {Am : Option Addr} {cm Bx : Nat} {A4 : Option Addr} {c4 : Nat}
    (h : StreamAt w wr many l n Bw L Aw cw sl Am cm Bx A4 c4) (hb : Below wr.heap.size wr w') : StreamAt w w' many l n Bw L Aw cw sl Am cm Bx A4 c4 :=
  ⟨(hb.block _ (Array.getElem?_eq_some_iff.1 h.box).1).trans h.box, h.parts.below hb, own_below h.mine hb, (hb.block _ (Array.getElem?_eq_some_iff.1 h.many_).1).trans h.many_,
    (hb.block _ (Array.getElem?_eq_some_iff.1 h.res).1).trans h.res, h.below.trans (hb.mono h.below.size),
    by
      have hc := h.cap.below hb
      exact ⟨hc.box, hc.len, hc.room, hc.none_, fun a e => by
        obtain ⟨b, off, e1, e2⟩ := hc.form a e
        exact ⟨b, off, e1, by have := hb.size; omega⟩, hc.rd.more hc.lt, Nat.le_refl _, hc.tab⟩⟩
/-- marks of loops that were gone through -/
def Sm.Marks (Ds : List Nat) (lo : Nat) (w : World) : Prop := Ds.Nodup ∧ ∀ D ∈ Ds, lo ≤ D ∧ w.heap[D]? = some (.deferred (some []))
def Sm.markOf (D : Nat) : Deferred := { target := .collected D, args := #[] }
theorem Sm.Marks.on {Ds : List Nat} {lo : Nat} {w w' : World} (h : Marks Ds lo w) (hb : Below w.heap.size w w') : Marks Ds lo w' :=
  ⟨h.1, fun D hD => ⟨(h.2 D hD).1, (hb.block _ (Array.getElem?_eq_some_iff.1 (h.2 D hD).2).1).trans (h.2 D hD).2⟩⟩
theorem Sm.Marks.push {Ds : List Nat} {lo D : Nat} {w w' : World} (h : Marks Ds lo w) (hb : Below w.heap.size w w') (hD : w.heap.size ≤ D) (hl : lo ≤ w.heap.size) (hd : w'.heap[D]? = some (.deferred (some []))) : Marks (D :: Ds) lo w' := by
  have h2 := h.on hb
  refine ⟨List.nodup_cons.2 ⟨fun hm => ?_, h.1⟩, fun E hE => ?_⟩
  · have := (Array.getElem?_eq_some_iff.1 (h.2 D hm).2).1; omega
  · rcases List.mem_cons.1 hE with rfl | hE
    · exact ⟨by omega, hd⟩
    · exact h2.2 E hE
theorem Sm.retM2 {n : Nat} {P : Program} {fn : Func} {R : Ending → World → Prop} {a : Act} {w : World} {v : Value} {D1 D0 : Nat} (hd : a.defers = [markOf D1, markOf D0]) (hne : D1 ≠ D0) (h1 : w.heap[D1]? = some (.deferred (some []))) (h0 : w.heap[D0]? = some (.deferred (some [])))
    (hr : (results fn a.tmps).run P ((w.putObj D1 (.deferred none)).putObj D0 (.deferred none)) = .ok v ((w.putObj D1 (.deferred none)).putObj D0 (.deferred none))) (hR : R (.returned v) ((w.putObj D1 (.deferred none)).putObj D0 (.deferred none))) : bodyPostM Fence.wide n P fn R .ret a w := by
  show LeavesInM Fence.wide n P fn a.tmps R a.defers .returning w
  rw [hd]
  exact ⟨by simp, .inl ⟨_, _, rfl, run_takeDeferred h1, by simp, .inl ⟨_, _, rfl, run_takeDeferred ((World.putObj_heap_other hne.symm).trans h0), v, hr, hR⟩⟩⟩
theorem Sm.made_facts {w2 w3 : World} {o : Obj} (hg : ((w2.alloc o).alloc (.cells #[] 5)).grownBy w3 (some (w2.heap.size + 1))) : Below w2.heap.size w2 w3 ∧ w3.heap[w2.heap.size]? = some o := by
  have b1 : ((w2.alloc o).alloc (.cells #[] 5)).heap[w2.heap.size]? = some o := (Below.heap_alloc _ _ _ (by simp)).trans (World.alloc_heap_new w2 _)
  refine ⟨(((Below.refl _ w2).alloc (Nat.le_refl _) _).alloc (by simp) _).grown hg (by simp; omega) (fun g e => by cases e; omega), (But.grown hg).box b1 (fun e => ?_)⟩
  injection e with e
  omega
theorem Sm.wpIn_range2b {P : Program} {g : Operand} {ps : Array Tmp} {assign body : Code} {Q : Exit → Act → World → Prop} {a : Act} {w : World} {n : Nat} {gf : Nat} {lb : Array Value}
    (hg : a.eval g = .func (.func gf) #[] lb) (eg : ∀ args w, (callFunc gf args).run P w = .ok (.enter gf args) w)
    {X : Nat → Prop} {H : Nat → Nat → Array Value → World → Prop} {row : Array Value → Nat → Prop} {Go S Sp : Nat → Prop} (hseq : SeqX P gf lb X H row Go S Sp w)
    (hX : ∀ b, X b → b < w.heap.size) (hH : ∀ k args W W', H (w.heap.size + 2) k args W → But (fun b => b < w.heap.size + 2) W W' → H (w.heap.size + 2) k args W')
    (hrow : ∀ k args W b, H (w.heap.size + 2) k args W → row args b → w.heap.size + 2 ≤ b) (p1 p2 q1 q2 : Nat) (hps : ps = #[p1, p2]) (hargs : ∀ k args W, H (w.heap.size + 2) k args W → ∃ x v, args = #[x, v])
    (I Ix : Nat → World → Prop) (id : Nat) (hI : LowJ w.heap.size I) (hIx : LowJ w.heap.size Ix) (h0 : I 0 w)
    (hassign : ∀ (l : Nat) (x v : Value) (W : World) (K : Act → World → Prop), K { tmps := (((a.tmps.setIfInBounds p1 x).setIfInBounds p2 v).setIfInBounds q1 x).setIfInBounds q2 v, defers := [] } W →
      assign.wpIn (Fence.wide.inRound l) (n - 1 - 1) P (Exit.then K (fun _ _ _ => False)) { tmps := (a.tmps.setIfInBounds p1 x).setIfInBounds p2 v, defers := [] } W)
    (hbody : ∀ (l k : Nat) (x v : Value) (W : World), w.heap.size + 2 ≤ W.heap.size → I k W → H (w.heap.size + 2) k #[x, v] W → body.wpIn (Fence.wide.inRound l) (n - 1 - 1) P (postX Go X row #[x, v] I (fun c k W => c = .exit id ∧ Ix k W) k W) { tmps := (((a.tmps.setIfInBounds p1 x).setIfInBounds p2 v).setIfInBounds q1 x).setIfInBounds q2 v, defers := [] } W)
    (R : Act → World → Prop) (hQn : ∀ a w, R a w → Q .normal a w) (hQx : ∀ a w, R a w → Q (.exit id) a w)
    (hrest : ∀ (W : World), ((∃ k, S k ∧ I k W) ∨ ∃ k, Sp k ∧ Ix k W) → W.heap[w.heap.size]? = some (.deferred (some [])) → R { a with defers := { target := .collected w.heap.size, args := #[] } :: a.defers } W) :
    (Code.rangeFunc g ps assign body).wpIn Fence.wide n P Q a w :=
  wpIn_range2 hg eg hseq hX hH hrow p1 p2 q1 q2 hps hargs I (fun c k W => c = .exit id ∧ Ix k W) hI (fun c k W W' h hb => ⟨h.1, hIx k W W' h.2 hb⟩) h0 hassign hbody
    (fun k W hS hi hD => hQn _ _ (hrest W (.inl ⟨k, hS, hi⟩) hD))
    (fun c k W hSp hx hD => by
      obtain ⟨rfl, hx⟩ := hx
      exact wpIn_exit (hQx _ _ (hrest W (.inr ⟨k, hSp, hx⟩) hD)))
set_option maxRecDepth 100000 in
set_option maxHeartbeats 8000000 in
theorem Sm.stream_walk (l1 : List (BitVec 8)) (n1 c1 : Nat) (A1 : Option Addr) (many : Int) (w : World) (hn1 : l1.length = n1) (hm1 : n1 ≤ 9223372036854775807) (hc1 : n1 ≤ c1) (hr1 : Rd w w.heap.size A1 l1) (hy0 : -9223372036854775808 ≤ many) (hy1 : many ≤ 9223372036854775807) (ht : Tab w) :
    Calls Tryd.prog 7 #[.slice A1 n1 c1, .int .i64 many] w fun e w' => e = .returned (.bool true) ∧ Below w.heap.size w w' := by
  obtain ⟨i0, hi, hz0, hz1, hz2⟩ := info_parts info5
  obtain ⟨wA, hwA⟩ : ∃ wA, (w.alloc (.cells #[.int .i64 many] 3)).alloc (.cells #[.bool false] 4) = wA := ⟨_, rfl⟩
  have hbA : Below w.heap.size w wA := by rw [← hwA]; exact ((Below.refl _ w).alloc (Nat.le_refl _) _).alloc (by simp) _
  have hres0 : wA.heap[w.heap.size + 1]? = some (.cells #[.bool false] 4 (0, 0)) := by
    rw [← hwA]; have := World.alloc_heap_new (w.alloc (.cells #[.int .i64 many] 3)) (.cells #[.bool false] 4); rwa [World.size_alloc] at this
  have hmany0 : wA.heap[w.heap.size]? = some (.cells #[.int .i64 many] 3 (0, 0)) := by
    rw [← hwA]; exact (Below.heap_alloc _ _ _ (by simp)).trans (World.alloc_heap_new w _)
  have hsA : wA.heap.size = w.heap.size + 2 := by rw [← hwA]; simp
  refine (callsIn_wide (n := 3)).1 (callsIn_of_wp_marks Tryd.func7 rfl trivial ?_ rfl)
  refine wpIn_wide.2 ?_
  simp only [Tryd.ntmps7, List.size_toArray, List.length_cons, List.length_nil, Nat.reduceAdd, Nat.reduceSub, Array.replicate_succ, Array.replicate_zero, List.push_toArray, List.append_toArray, List.nil_append, List.cons_append]
  have hwk : ∀ wr, Below w.heap.size w wr → wr.heap[w.heap.size + 1]? = some (.cells #[.bool false] 4 (0, 0)) → Calls Tryd.prog 12 #[] wr fun e w' => e = .returned (.bool true) ∧ w'.heap[w.heap.size + 1]? = some (.cells #[.bool false] 4 (0, 0)) ∧ w'.cell? ⟨w.heap.size + 1, 0, none⟩ = some (.bool false) ∧ w'.frozen? ⟨w.heap.size + 1, 0, none⟩ = false ∧ Below w.heap.size w w' := fun wr hb h => by
    refine (works_any wr (ht.belowTo hb ht.1)).mono ?_
    rintro e w' ⟨h1, h2⟩
    have h3 := (h2.block _ (Array.getElem?_eq_some_iff.1 h).1).trans h
    exact ⟨h1, h3, cell_of_heap h3 0, frozen_of_heap h3 0, hb.trans (h2.mono hb.size)⟩
  by_cases h8 : 1500 < n1
  · have h12 := hwk _ hbA hres0
    go_wp2_with (go_at_call 12; (with_reducible refine h12.mono ?_); clear h12; rintro e w1 ⟨rfl, h1, h2, h3, hb1⟩)
    have h4 := cell_of_heap (heap_setCells (i := 0) (u := .bool true) h1) 0
    exact retM (v := .bool true) (by simp [results, Tryd.results7, go_sem, h4]) rfl ⟨rfl, hb1.setCell (p := ⟨w.heap.size + 1, 0, none⟩) (by simp) _⟩
  · have hrA : Rd wA wA.heap.size A1 l1 := (hr1.below hbA).more hbA.size
    have h33 := refFrames_any l1 n1 c1 A1 wA hn1 hc1 (by omega) hrA
    go_wp2_with (first
      | (go_at_call 33; (with_reducible refine h33.mono ?_); clear h33; rintro e w2 ⟨⟨Aw, cw, sl, rfl, hparts⟩, hb2⟩; have hr2 : Rd w2 wA.heap.size A1 l1 := hrA.below hb2; have hbx2 : Below wA.heap.size wA (w2.alloc (.cells #[.slice Aw (cntK l1) cw] 74)) := hb2.alloc hb2.size _; have hmade : ((w2.alloc (.cells #[.slice Aw (cntK l1) cw] 74)).alloc (.cells #[] 5)).ownsRow wA.heap.size 5 1 (.slice (some ⟨w2.heap.size + 1, 0, none⟩) 0 0) 0 [] := (by rw [← World.size_alloc w2 (.cells #[.slice Aw (cntK l1) cw] 74)]; exact World.ownsRow_made _ #[] 0 hbx2.size (by decide) rfl))
      | (at_builtin; refine wpList_append_rd _ rfl (.tmp 19) (.tmp 20) 27 rfl wA.heap.size 5 i0 _ Tryd.underlying27 hi hz0 hz1 hz2 rfl _ 0 [] rfl hmade wA.heap.size A1 n1 c1 l1 rfl hn1 ((hr2.alloc hb2.size _).alloc hbx2.size _) ?_ (by have := hb2.size; simp; omega) ?_; omega; intro v3 w3 hown3 hg3 hat3; go_loud (simp only [Nat.zero_add, List.nil_append] at hown3; obtain ⟨hb23, hbx3⟩ := made_facts hg3; clear hat3; have hb3 : Below wA.heap.size wA w3 := (hbx2.alloc hbx2.size _).grown hg3 (by have := hb2.size; simp; omega) (fun g e => by cases e; have := hb2.size; show wA.heap.size ≤ w2.heap.size + 1; omega); clear hg3; obtain ⟨Am, cm, rfl⟩ := own_slice hown3; have hb3w : Below w.heap.size w w3 := hbA.trans (hb3.mono (by omega)); have h34 := Frames_any l1 n1 cm Am w3 (Lib.hid hn1) (by omega) (Rd.of_own hown3 (Nat.le_refl _)) (ht.belowTo hb3w ht.1)))
      | (go_at_call 34; (with_reducible refine h34.mono ?_); clear h34; rintro e w5 ⟨Bx, A4, c4, rfl, hcap, hBx, hA4, hb5⟩))
    have hb25 : Below w2.heap.size w2 w5 := hb23.trans (hb5.mono hb23.size)
    have hbA5 : Below wA.heap.size wA w5 := hb3.trans (hb5.mono hb3.size)
    have hbx5 := (hb5.block _ (Array.getElem?_eq_some_iff.1 hbx3).1).trans hbx3
    have HS5 : Hid (StreamAt w w5 many l1 n1 w2.heap.size wA.heap.size Aw cw sl Am cm Bx A4 c4) := Lib.hid
      ⟨hbx5, hparts.below hb25, own_below hown3 hb5, (hbA5.block _ (by omega)).trans hmany0, (hbA5.block _ (by omega)).trans hres0, hb3w.trans (hb5.mono hb3w.size), hcap⟩
    have hR5 : Hid (Rd w w.heap.size A1 l1) := Lib.hid hr1
    have HTL := Lib.hid ht
    have HN := Lib.hid hn1
    have HWK := Lib.hid hwk
    have hs2A : w.heap.size + 2 ≤ w2.heap.size := by have := hb2.size; omega
    have hs25 : w2.heap.size < w5.heap.size := (Array.getElem?_eq_some_iff.1 hbx5).1
    have hcnt : cntK l1 ≤ 1500 := by have := cntK_le l1; omega
    clear hbx3 hb23 hb25 hbA5 hbx5 hparts hown3 hb5 hmany0 hres0 hb3w hcap hBx hA4 hmade hb3 hbx2 hr2 hb2 hrA hbA hwA hwk hr1 ht hn1
    have hbT : Below w5.heap.size w5 (w5.alloc (.cells #[.int .i64 0] 3)) := (Below.refl _ w5).alloc (Nat.le_refl _) _
    have hcT : (w5.alloc (.cells #[.int .i64 0] 3)).heap[w5.heap.size]? = some (.cells #[.int .i64 0] 3 (0, 0)) := World.alloc_heap_new w5 _
    have HT0 := Lib.hid hbT
    have HC0 := Lib.hid hcT
    clear hbT hcT
    refine wp_loop_ghost_k (fun m a wr => ∃ (k B8 : Nat) (Ds : List Nat) (u9 u10 u11 u12 u13 u14 u15 u16 u17 u18 u19 u20 u21 u22 u23 u24 u25 u26 u27 u28 u29 u30 u31 u32 u33 u34 u35 u36 u37 u38 u39 u40 u41 u42 u43 u44 u45 u46 u47 u48 u49 u50 u51 u52 u53 u54 u55 u56 u57 u58 u59 u60 u61 u62 u63 u64 u65 u66 u67 u68 u69 u70 u71 u72 u73 u74 u75 u76 u77 u78 u79 u80 u81 u82 u83 u84 u85 u86 u87 u88 u89 u90 u91 u92 u93 u94 u95 u96 u97 u98 u99 u100 u101 u102 u103 u104 u105 u106 u107 u108 u109 : Value), m = 2 - k ∧ k ≤ 2 ∧ Ds.length = k ∧ Hid (Below w5.heap.size w5 wr) ∧ Hid (wr.heap[B8]? = some (.cells #[.int .i64 (k : Int)] 3 (0, 0)) ∧ w5.heap.size ≤ B8) ∧ Hid (Marks Ds w5.heap.size wr) ∧
      a = { tmps := #[.slice A1 n1 c1, .int .i64 many, undef, .pointer (some ⟨w.heap.size, 0, none⟩), .pointer (some ⟨w.heap.size + 1, 0, none⟩), .pointer (some ⟨w2.heap.size, 0, none⟩), .slice Am n1 cm, .func (.func 63) #[] #[.pointer (some ⟨Bx, 0, none⟩)], .pointer (some ⟨B8, 0, none⟩), u9, u10, u11, u12, u13, u14, u15, u16, u17, u18, u19, u20, u21, u22, u23, u24, u25, u26, u27, u28, u29, u30, u31, u32, u33, u34, u35, u36, u37, u38, u39, u40, u41, u42, u43, u44, u45, u46, u47, u48, u49, u50, u51, u52, u53, u54, u55, u56, u57, u58, u59, u60, u61, u62, u63, u64, u65, u66, u67, u68, u69, u70, u71, u72, u73, u74, u75, u76, u77, u78, u79, u80, u81, u82, u83, u84, u85, u86, u87, u88, u89, u90, u91, u92, u93, u94, u95, u96, u97, u98, u99, u100, u101, u102, u103, u104, u105, u106, u107, u108, u109], defers := Ds.map markOf }) 2 ?_ ?_
    · refine ⟨0, w5.heap.size, [], ?_⟩
      repeat apply Exists.intro
      exact ⟨rfl, by omega, rfl, HT0, Lib.hid ⟨HC0.out, Nat.le_refl _⟩, Lib.hid ⟨List.nodup_nil, fun D hD => by cases hD⟩, rfl⟩
    · intro m a wo hI J K hJ hK
      obtain ⟨k, B8, Ds, hI⟩ := hI
      obtain ⟨u9, hI⟩ := hI
      obtain ⟨u10, hI⟩ := hI
      obtain ⟨u11, hI⟩ := hI
      obtain ⟨u12, hI⟩ := hI
      obtain ⟨u13, hI⟩ := hI
      obtain ⟨u14, hI⟩ := hI
      obtain ⟨u15, hI⟩ := hI
      obtain ⟨u16, hI⟩ := hI
      obtain ⟨u17, hI⟩ := hI
      obtain ⟨u18, hI⟩ := hI
      obtain ⟨u19, hI⟩ := hI
      obtain ⟨u20, hI⟩ := hI
      obtain ⟨u21, hI⟩ := hI
      obtain ⟨u22, hI⟩ := hI
      obtain ⟨u23, hI⟩ := hI
      obtain ⟨u24, hI⟩ := hI
      obtain ⟨u25, hI⟩ := hI
      obtain ⟨u26, hI⟩ := hI
      obtain ⟨u27, hI⟩ := hI
      obtain ⟨u28, hI⟩ := hI
      obtain ⟨u29, hI⟩ := hI
      obtain ⟨u30, hI⟩ := hI
      obtain ⟨u31, hI⟩ := hI
      obtain ⟨u32, hI⟩ := hI
      obtain ⟨u33, hI⟩ := hI
      obtain ⟨u34, hI⟩ := hI
      obtain ⟨u35, hI⟩ := hI
      obtain ⟨u36, hI⟩ := hI
      obtain ⟨u37, hI⟩ := hI
      obtain ⟨u38, hI⟩ := hI
      obtain ⟨u39, hI⟩ := hI
      obtain ⟨u40, hI⟩ := hI
      obtain ⟨u41, hI⟩ := hI
      obtain ⟨u42, hI⟩ := hI
      obtain ⟨u43, hI⟩ := hI
      obtain ⟨u44, hI⟩ := hI
      obtain ⟨u45, hI⟩ := hI
      obtain ⟨u46, hI⟩ := hI
      obtain ⟨u47, hI⟩ := hI
      obtain ⟨u48, hI⟩ := hI
      obtain ⟨u49, hI⟩ := hI
      obtain ⟨u50, hI⟩ := hI
      obtain ⟨u51, hI⟩ := hI
      obtain ⟨u52, hI⟩ := hI
      obtain ⟨u53, hI⟩ := hI
      obtain ⟨u54, hI⟩ := hI
      obtain ⟨u55, hI⟩ := hI
      obtain ⟨u56, hI⟩ := hI
      obtain ⟨u57, hI⟩ := hI
      obtain ⟨u58, hI⟩ := hI
      obtain ⟨u59, hI⟩ := hI
      obtain ⟨u60, hI⟩ := hI
      obtain ⟨u61, hI⟩ := hI
      obtain ⟨u62, hI⟩ := hI
      obtain ⟨u63, hI⟩ := hI
      obtain ⟨u64, hI⟩ := hI
      obtain ⟨u65, hI⟩ := hI
      obtain ⟨u66, hI⟩ := hI
      obtain ⟨u67, hI⟩ := hI
      obtain ⟨u68, hI⟩ := hI
      obtain ⟨u69, hI⟩ := hI
      obtain ⟨u70, hI⟩ := hI
      obtain ⟨u71, hI⟩ := hI
      obtain ⟨u72, hI⟩ := hI
      obtain ⟨u73, hI⟩ := hI
      obtain ⟨u74, hI⟩ := hI
      obtain ⟨u75, hI⟩ := hI
      obtain ⟨u76, hI⟩ := hI
      obtain ⟨u77, hI⟩ := hI
      obtain ⟨u78, hI⟩ := hI
      obtain ⟨u79, hI⟩ := hI
      obtain ⟨u80, hI⟩ := hI
      obtain ⟨u81, hI⟩ := hI
      obtain ⟨u82, hI⟩ := hI
      obtain ⟨u83, hI⟩ := hI
      obtain ⟨u84, hI⟩ := hI
      obtain ⟨u85, hI⟩ := hI
      obtain ⟨u86, hI⟩ := hI
      obtain ⟨u87, hI⟩ := hI
      obtain ⟨u88, hI⟩ := hI
      obtain ⟨u89, hI⟩ := hI
      obtain ⟨u90, hI⟩ := hI
      obtain ⟨u91, hI⟩ := hI
      obtain ⟨u92, hI⟩ := hI
      obtain ⟨u93, hI⟩ := hI
      obtain ⟨u94, hI⟩ := hI
      obtain ⟨u95, hI⟩ := hI
      obtain ⟨u96, hI⟩ := hI
      obtain ⟨u97, hI⟩ := hI
      obtain ⟨u98, hI⟩ := hI
      obtain ⟨u99, hI⟩ := hI
      obtain ⟨u100, hI⟩ := hI
      obtain ⟨u101, hI⟩ := hI
      obtain ⟨u102, hI⟩ := hI
      obtain ⟨u103, hI⟩ := hI
      obtain ⟨u104, hI⟩ := hI
      obtain ⟨u105, hI⟩ := hI
      obtain ⟨u106, hI⟩ := hI
      obtain ⟨u107, hI⟩ := hI
      obtain ⟨u108, hI⟩ := hI
      obtain ⟨u109, hI⟩ := hI
      obtain ⟨rfl, hk2, hDs, HB, HT, HM, rfl⟩ := hI
      clear HT0 HC0
      have kc := cell_of_heap HT.out.1 0
      simp only [List.getElem?_toArray, List.getElem?_cons_zero] at kc
      by_cases hlt : k < 2
      · have hk0 : (k : Int) < 2 := by omega
        have HSr := Lib.hid (HS5.out.on HB.out)
        have HS6 := Lib.hid (HSr.out.on ((Below.refl _ wo).alloc (Nat.le_refl _) (.cells #[.int .i64 0] 3)))
        have hn6 : Hid ((wo.alloc (.cells #[.int .i64 0] 3)).heap[wo.heap.size]? = some (.cells #[.int .i64 0] 3 (0, 0))) := Lib.hid (World.alloc_heap_new wo _)
        have hlB : B8 < wo.heap.size := (Array.getElem?_eq_some_iff.1 HT.out.1).1
        have hl0 : 0 < wo.heap.size := HSr.out.cap.tab.1
        have hlw : w2.heap.size < wo.heap.size := (Array.getElem?_eq_some_iff.1 HSr.out.box).1
        have hfn : ∀ (wx : World) (a : Addr), (binOp .eql 77 (.func (.func 63) #[] #[.pointer (some a)]) .nilFunc).run Tryd.prog wx = .ok (.bool false) wx := fun wx a => by kernel_rfl
        obtain ⟨w6, hw6⟩ : ∃ w6, wo.alloc (.cells #[.int .i64 0] 3) = w6 := ⟨_, rfl⟩
        have hs6 : w6.heap.size = wo.heap.size + 1 := by rw [← hw6]; simp
        have hbr6 : Below wo.heap.size wo w6 := by rw [← hw6]; exact (Below.refl _ wo).alloc (Nat.le_refl _) _
        rw [hw6] at HS6 hn6
        have HBR := Lib.hid hbr6
        have HW6 := Lib.hid hw6
        clear hbr6 hw6
        go_wp2
        clear hfn
        rw [HW6.out]
        refine (wpIn_wide (n := 3)).1 ?_
        refine wpIn_range2b (gf := 63) (lb := #[.pointer (some ⟨Bx, 0, none⟩)]) rfl (enters_of Tryd.func63 (by kernel_rfl) rfl)
          (frames_seq l1 A4 n1 c4 Bx w6 (fun b => b = wo.heap.size) HS6.out.cap (by omega) (fun b e => by omega) (fun b off e h => by obtain ⟨b', off', e', hb'⟩ := HSr.out.cap.form _ e; cases e'; omega) (fun h => by omega))
          (fun b e => by omega) ?hH ?hrow 31 32 10 11 rfl ?hargs
          (fun q W => But (fun b => b = wo.heap.size) w6 W ∧ W.heap[wo.heap.size]? = some (.cells #[.int .i64 (q : Int)] 3 (0, 0)) ∧ q ≤ cntK l1 ∧ (k = 0 → q = 0 ∨ (q : Int) < many))
          (fun q W => But (fun b => b = wo.heap.size) w6 W ∧ W.heap[wo.heap.size]? = some (.cells #[.int .i64 (q : Int)] 3 (0, 0)) ∧ q ≤ cntK l1 ∧ k = 0 ∧ 1 ≤ q ∧ many ≤ (q : Int) ∧ (q = 1 ∨ (q : Int) - 1 < many))
          2 ?hI ?hIx ⟨But.refl _ _, hn6.out, Nat.zero_le _, fun _ => .inl rfl⟩ ?assign ?body _ (fun _ _ h => h) (fun _ _ h => h) ?rest
        case hH =>
          rintro k args W1 W' ⟨h1, Av, cv, rfl, ho⟩ hb
          exact ⟨h1, Av, cv, rfl, hb.row ho (fun g e h => by have := (ho.lt g e).1; omega)⟩
        case hrow =>
          rintro k args W1 b ⟨h1, Av, cv, rfl, ho⟩ ⟨x, v, e, e2⟩
          simp only [Array.mk.injEq, List.cons.injEq, and_true] at e
          obtain ⟨_, e3⟩ := e
          rw [← e3] at e2
          exact (ho.lt b e2).1
        case hargs =>
          rintro k args W1 ⟨h1, Av, cv, rfl, ho⟩
          exact ⟨_, _, rfl⟩
        case hI =>
          rintro q W1 W' ⟨i1, i2, i3, i4⟩ hb
          exact ⟨i1.trans (But.of_below hb) (fun b h1 h2 => by omega), (hb.block _ (by omega)).trans i2, i3, i4⟩
        case hIx =>
          rintro q W1 W' ⟨i1, i2, i3⟩ hb
          exact ⟨i1.trans (But.of_below hb) (fun b h1 h2 => by omega), (hb.block _ (by omega)).trans i2, i3⟩
        case assign =>
          intro l0 x v W1 K hK
          simp only [List.setIfInBounds_toArray, List.set_cons_zero, List.set_cons_succ] at hK ⊢
          gi_wp2
          exact hK
        case body =>
          rintro l0 q x v W1 hsz ⟨i1, i2, i3, i4⟩ ⟨hq, Av, cv, e, ho⟩
          simp only [Array.mk.injEq, List.cons.injEq, and_true] at e
          obtain ⟨rfl, rfl⟩ := e
          simp only [List.setIfInBounds_toArray, List.set_cons_zero, List.set_cons_succ]
          have hbW : Below wo.heap.size wo W1 := HBR.out.trans (i1.to_below (n := wo.heap.size) (by omega) (fun b e => by omega))
          have hSW := HSr.out.on hbW
          have hTW : W1.heap[B8]? = some (.cells #[.int .i64 (k : Int)] 3 (0, 0)) := (hbW.block _ hlB).trans HT.out.1
          have hown := hSW.parts.own
          have hrq := hSW.parts.rd q hq
          obtain ⟨g, cap, eg, hgb, hgl⟩ := hown.form (by omega)
          injection eg with e1 e2 e3
          subst e1
          obtain ⟨hg1, hg2⟩ := partsC_get l1 sl hq
          have c1 : W1.cell? ⟨g, q * 2, none⟩ = some (.int .i64 (offK l1 (q + 1) : Int)) := (hown.cellAt (q * 2) (by omega)).trans hg1
          have c2 : W1.cell? ⟨g, q * 2 + 1, none⟩ = some (.slice (sl q).1 (bodyK l1 q).length (sl q).2) := (hown.cellAt (q * 2 + 1) (by omega)).trans hg2
          have k1 := cell_of_heap i2 0
          have k2 := frozen_of_heap i2 0
          have k3 := cell_of_heap hSW.box 0
          have k4 := cell_of_heap hTW 0
          have k5 := cell_of_heap hSW.many_ 0
          simp only [List.getElem?_toArray, List.getElem?_cons_zero] at k1 k3 k4 k5
          have d1 : ∀ m : Nat, (convert 27 9 (.slice Av (bodyK l1 q).length cv)).run Tryd.prog (W1.drewN m) = .ok (.string (strB (bodyK l1 q))) (W1.drewN m) := fun m => run_str (W1.drewN m) 27 5 Tryd.underlying27 Tryd.underlying5 (bodyK l1 q) (bodyK l1 q).length cv W1.heap.size Av rfl (Rd.of_own ho (Nat.le_refl _)) 9 Tryd.underlying9
          have d2 : ∀ m : Nat, (convert 27 9 (.slice (sl q).1 (bodyK l1 q).length (sl q).2)).run Tryd.prog (W1.drewN m) = .ok (.string (strB (bodyK l1 q))) (W1.drewN m) := fun m => run_str (W1.drewN m) 27 5 Tryd.underlying27 Tryd.underlying5 (bodyK l1 q) (bodyK l1 q).length (sl q).2 W1.heap.size (sl q).1 rfl (Rd.of_own hrq (Nat.le_refl _)) 9 Tryd.underlying9
          have hq1 : (q : Int) < (cntK l1 : Int) := by omega
          have hq2 : decide (cntK l1 ≤ q) = false := by simp; omega
          have hbl : (bodyK l1 q).length ≤ 4096 := splitS_body _
          obtain ⟨BL, hBL⟩ : ∃ BL, bodyK l1 q = BL := ⟨_, rfl⟩
          rw [hBL] at ho hbl d1 d2 c2 ⊢
          obtain ⟨m, hm⟩ : ∃ m, BL.length = m := ⟨_, rfl⟩
          rw [hm] at ho hbl d1 d2 c2 ⊢
          have HO := Lib.hid ho
          have HM2 := Lib.hid hm
          have HI1 := Lib.hid i1
          have HI2 := Lib.hid i2
          have HI4 := Lib.hid i4
          have HSW := Lib.hid hSW
          have HTW := Lib.hid hTW
          clear hown hrq hg1 hg2 hBL hm ho i1 i2 i4 hSW hTW e2 e3
          gi_wp2
          refine wpIn_round_quiet (by kernel_rfl) (by kernel_rfl) (by kernel_rfl) ?_
          repeat (go_big_quiet_step (fail))
          refine wpQuiet_nil ?_
          intro _ hw'
          obtain ⟨nq, hw''⟩ := hw'
          subst hw''
          have hbd : Below W1.heap.size W1 (W1.drewN nq) := ⟨rfl, rfl, rfl, Nat.le_refl _, fun _ _ => rfl⟩
          have HOD := Lib.hid (own_below HO.out hbd)
          have HBD : Hid (But (fun b => (Value.slice Av m cv).ownBlock = some b) W1 (W1.drewN nq)) := Lib.hid (But.of_all hbd _)
          obtain ⟨Wd, hWd⟩ : ∃ Wd, W1.drewN nq = Wd := ⟨_, rfl⟩
          rw [hWd] at HOD HBD ⊢
          clear d1 d2 k1 k2 k3 k4 k5 c1 c2 hbd hWd hq1 hq2
          gi_wp2
          gi_loopw [12] (fun vi wr => ∃ (j : Nat) (ys : List (BitVec 8)), j ≤ m ∧ vi = .int .i64 (j : Int) ∧ Hid (ys.length = m ∧ wr.ownsRow (w6.heap.size + 2) 5 1 (.slice Av m cv) m (ys.map byteCell)) ∧ Hid (But (fun b => (Value.slice Av m cv).ownBlock = some b) W1 wr))
            (fun vi _ => m - (intOf vi).toNat)
          case atStart => exact ⟨0, BL, Nat.zero_le _, rfl, Lib.hid ⟨HM2.out, HOD.out⟩, HBD⟩
          case round =>
            obtain ⟨j, ys, hj, rfl, HY, HW⟩ := hrel
            by_cases hlt : j < m
            · have ho1 := HY.out.2
              obtain ⟨g2, cap2, eg2, hgb2, hgl2, hcap2⟩ := own_form ho1 (by omega)
              injection eg2 with e1 e2 e3
              subst e1 e3
              have hky : j < ys.length := by have := HY.out.1; omega
              have hc : wr.cell? ⟨g2, j, none⟩ = some (.int .u8 (ib ys[j])) := by
                rw [ho1.cellAt j (by omega), List.getElem?_map, List.getElem?_eq_getElem hky]
                rfl
              have hf : wr.frozen? ⟨g2, j, none⟩ = false := ho1.frozenAt j
              obtain ⟨y, hy⟩ : ∃ y, y = ys[j] := ⟨_, rfl⟩
              rw [← hy] at hc
              have HST := Lib.hid (own_set ho1 j (y + 1#8))
              have hinc := byte_inc y
              have hy0 := ib_lo y
              have hy1 := ib_hi y
              clear hy hky ho1 e2
              gi_wp2
              go_roundw
              case rel => exact ⟨j + 1, ys.set j (y + 1#8), by omega, by go_num, Lib.hid ⟨by rw [List.length_set]; exact HY.out.1, HST.out.1⟩, Lib.hid (HW.out.set ⟨g2, j, none⟩ _ (.inl rfl))⟩
              case measure => simp [intOf]; omega
            · obtain rfl : j = m := by omega
              have hrow : ∀ g, (Value.slice Av j cv).ownBlock = some g → w6.heap.size + 2 ≤ g := fun g e => (HO.out.lt g e).1
              have hno : ∀ b, b < w6.heap.size + 2 → ¬ (Value.slice Av j cv).ownBlock = some b := fun b h e => by have := hrow b e; omega
              have z1 := HW.out.box HI2.out (hno _ (by omega))
              have zT := HW.out.box HTW.out (hno _ (by omega))
              have zM := HW.out.box HSW.out.many_ (hno _ (by have := HSr.out.below.size; omega))
              obtain ⟨wn, hwn⟩ : ∃ wn, wr.setCell ⟨wo.heap.size, 0, none⟩ (.int .i64 ((q : Int) + 1)) = wn := ⟨_, rfl⟩
              have y1 : wn.heap[wo.heap.size]? = some (.cells #[.int .i64 ((q : Int) + 1)] 3 (0, 0)) := by rw [← hwn]; exact heap_setCells (i := 0) (u := .int .i64 ((q : Int) + 1)) z1
              have yT : wn.heap[B8]? = some (.cells #[.int .i64 (k : Int)] 3 (0, 0)) := by rw [← hwn]; exact (Below.heap_setCell _ ⟨wo.heap.size, 0, none⟩ _ _ (by simp; omega)).trans zT
              have yM : wn.heap[w.heap.size]? = some (.cells #[.int .i64 many] 3 (0, 0)) := by rw [← hwn]; exact (Below.heap_setCell _ ⟨wo.heap.size, 0, none⟩ _ _ (by simp; omega)).trans zM
              have HB1 : Hid (But (fun b => b = wo.heap.size ∨ rowF #[.int .i64 (offK l1 (q + 1) : Int), .slice Av j cv] b) W1 wn) := Lib.hid (by
                rw [← hwn]
                exact (HW.out.mono (fun b _ e => .inr ⟨_, _, rfl, e⟩)).set ⟨wo.heap.size, 0, none⟩ _ (.inl (.inl rfl)))
              have HB2 : Hid (But (fun b => b = wo.heap.size) w6 wn) := Lib.hid (HI1.out.trans HB1.out (fun b hb e => by
                rcases e with e | ⟨x, v, e, e2⟩
                · exact e
                · simp only [Array.mk.injEq, List.cons.injEq, and_true] at e
                  rw [← e.2] at e2
                  have := hrow b e2
                  omega))
              have t1 := cell_of_heap z1 0
              have t2 := frozen_of_heap z1 0
              have t3 := cell_of_heap y1 0
              have t4 := cell_of_heap yT 0
              have t5 := cell_of_heap yM 0
              simp only [List.getElem?_toArray, List.getElem?_cons_zero] at t1 t3 t4 t5
              have HY1 := Lib.hid y1
              have kq : q ≤ 1500 := by omega
              have kq2 : (q : Int) ≤ 1500 := by omega
              clear y1 yT yM z1 zT zM hrow hno
              have hsc : ((q + 1 : Nat) : Int) = (q : Int) + 1 := by omega
              by_cases hkz : k = 0
              · by_cases hmq : many ≤ (q : Int) + 1
                · gi_wp2
                  exact ⟨HB1.out, rfl, HB2.out, by rw [hsc]; exact HY1.out, hq, hkz, by omega, by omega, by have := HI4.out hkz; omega⟩
                · gi_wp2
                  exact ⟨trivial, HB1.out, HB2.out, by rw [hsc]; exact HY1.out, hq, by first | exact Or.inr (by omega) | exact fun _ => Or.inr (by omega)⟩
              · gi_wp2
                exact ⟨trivial, HB1.out, HB2.out, by rw [hsc]; exact HY1.out, hq, fun h => absurd h hkz⟩
        case rest =>
          intro W hor hD
          obtain ⟨N, i1, i2, hN0, hN1⟩ : ∃ N : Nat, But (fun b => b = wo.heap.size) w6 W ∧ W.heap[wo.heap.size]? = some (.cells #[.int .i64 (N : Int)] 3 (0, 0)) ∧ (k = 0 → (N : Int) = min (cntK l1 : Int) (max 1 many)) ∧ (¬ k = 0 → N = cntK l1) := by
            rcases hor with ⟨q, hS, i1, i2, i3, i4⟩ | ⟨q, hSp, i1, i2, i3, i4, i5, i6, i7⟩
            · exact ⟨q, i1, i2, fun h => by have := i4 h; subst hS; omega, fun _ => hS⟩
            · exact ⟨q, i1, i2, fun h => by omega, fun h => absurd i4 h⟩
          have hbW : Below wo.heap.size wo W := HBR.out.trans (i1.to_below (n := wo.heap.size) (by omega) (fun b e => by omega))
          have hSW := HSr.out.on hbW
          have hTW : W.heap[B8]? = some (.cells #[.int .i64 (k : Int)] 3 (0, 0)) := (hbW.block _ hlB).trans HT.out.1
          have hMW : Hid (Marks (w6.heap.size :: Ds) w5.heap.size W) := Lib.hid (HM.out.push hbW (by omega) HB.out.size hD)
          have hmk : Hid (({ target := .collected w6.heap.size, args := #[] } :: Ds.map markOf : List Deferred) = (w6.heap.size :: Ds).map markOf) := Lib.hid rfl
          have k1 := cell_of_heap i2 0
          have k3 := cell_of_heap hSW.box 0
          have k4 := cell_of_heap hTW 0
          have k5 := cell_of_heap hSW.many_ 0
          simp only [List.getElem?_toArray, List.getElem?_cons_zero] at k1 k3 k4 k5
          have HBW := Lib.hid hbW
          have hs5W : w5.heap.size ≤ W.heap.size := Nat.le_trans HB.out.size hbW.size
          have HN0 := Lib.hid hN0
          have HN1 := Lib.hid hN1
          clear hor hD i1 i2 hN0 hN1 hbW hSW hTW HS6 hn6 HW6
          rw [hmk.out]
          by_cases hkz : k = 0
          · have hN := HN0.out hkz
            have HZ : ((k + 1 : Nat) : Int) = 1 := by omega
            have HBE : Hid (Below w5.heap.size w5 (W.alloc (.cells #[.int .i64 1] 3))) := Lib.hid ((HB.out.trans (HBW.out.mono HB.out.size)).alloc hs5W _)
            have HTE : Hid ((W.alloc (.cells #[.int .i64 1] 3)).heap[W.heap.size]? = some (.cells #[.int .i64 ((k + 1 : Nat) : Int)] 3 (0, 0)) ∧ w5.heap.size ≤ W.heap.size) := Lib.hid ⟨by rw [HZ]; exact World.alloc_heap_new W _, hs5W⟩
            have HME : Hid (Marks (w6.heap.size :: Ds) w5.heap.size (W.alloc (.cells #[.int .i64 1] 3))) := Lib.hid (hMW.out.on ((Below.refl _ W).alloc (Nat.le_refl _) _))
            go_wp2
            all_goals
              refine Handed.intro (2 - (k + 1)) (by omega) (hJ _ _ _ ?_)
              refine ⟨k + 1, W.heap.size, w6.heap.size :: Ds, ?_⟩
              repeat apply Exists.intro
              exact ⟨rfl, by omega, by simp [hDs], HBE, HTE, HME, by first | rfl | (rw [← hs6]; rfl)⟩
          · have hN := HN1.out hkz
            have hk1 : (k : Int) = 1 := by omega
            have HZ : ((k + 1 : Nat) : Int) = 2 := by omega
            have HBE : Hid (Below w5.heap.size w5 (W.alloc (.cells #[.int .i64 2] 3))) := Lib.hid ((HB.out.trans (HBW.out.mono HB.out.size)).alloc hs5W _)
            have HTE : Hid ((W.alloc (.cells #[.int .i64 2] 3)).heap[W.heap.size]? = some (.cells #[.int .i64 ((k + 1 : Nat) : Int)] 3 (0, 0)) ∧ w5.heap.size ≤ W.heap.size) := Lib.hid ⟨by rw [HZ]; exact World.alloc_heap_new W _, hs5W⟩
            have HME : Hid (Marks (w6.heap.size :: Ds) w5.heap.size (W.alloc (.cells #[.int .i64 2] 3))) := Lib.hid (hMW.out.on ((Below.refl _ W).alloc (Nat.le_refl _) _))
            go_wp2
            all_goals
              refine Handed.intro (2 - (k + 1)) (by omega) (hJ _ _ _ ?_)
              refine ⟨k + 1, W.heap.size, w6.heap.size :: Ds, ?_⟩
              repeat apply Exists.intro
              exact ⟨rfl, by omega, by simp [hDs], HBE, HTE, HME, by first | rfl | (rw [← hs6]; rfl)⟩
      · have hk0 : ¬ (k : Int) < 2 := by omega
        obtain ⟨D1, D0, rfl⟩ : ∃ D1 D0, Ds = [D1, D0] := by
          rcases Ds with _ | ⟨D1, _ | ⟨D0, _ | ⟨D2, r⟩⟩⟩
          · simp at hDs; omega
          · simp at hDs; omega
          · exact ⟨D1, D0, rfl⟩
          · simp at hDs; omega
        have hSr := HS5.out.on HB.out
        have s1 := run_str (P := Tryd.prog) wo 27 5 Tryd.underlying27 Tryd.underlying5 l1 n1 cm wo.heap.size Am HN.out (Rd.of_own hSr.mine (Nat.le_refl _)) 9 Tryd.underlying9
        have s2 := run_str (P := Tryd.prog) wo 27 5 Tryd.underlying27 Tryd.underlying5 l1 n1 c1 w.heap.size A1 HN.out (hR5.out.below hSr.below) 9 Tryd.underlying9
        have h12 : Calls Tryd.prog 12 #[] wo fun e w9 => e = .returned (.bool true) ∧ w9.heap[w.heap.size + 1]? = some (.cells #[.bool false] 4 (0, 0)) ∧ w9.cell? ⟨w.heap.size + 1, 0, none⟩ = some (.bool false) ∧ w9.frozen? ⟨w.heap.size + 1, 0, none⟩ = false ∧ Below w.heap.size w w9 ∧ Hid (Marks [D1, D0] w5.heap.size w9) := by
          refine (works_any wo (HTL.out.belowTo hSr.below HTL.out.1)).mono ?_
          rintro e w9 ⟨h1, h2⟩
          have h3 := (h2.block _ (Array.getElem?_eq_some_iff.1 hSr.res).1).trans hSr.res
          exact ⟨h1, h3, cell_of_heap h3 0, frozen_of_heap h3 0, hSr.below.trans (h2.mono hSr.below.size), Lib.hid (HM.out.on h2)⟩
        clear hSr HM
        go_wp2_with (go_at_call 12; (with_reducible refine h12.mono ?_); clear h12; rintro e w9 ⟨rfl, r1, r2, r3, r4, r5⟩)
        obtain ⟨hnd, hmd⟩ := r5.out
        have m1 := hmd D1 (by simp)
        have m0 := hmd D0 (by simp)
        have hne : D1 ≠ D0 := by simpa using hnd
        have hset : ∀ D, w5.heap.size ≤ D → (w9.setCell ⟨w.heap.size + 1, 0, none⟩ (.bool true)).heap[D]? = w9.heap[D]? := fun D hD => Below.heap_setCell _ ⟨w.heap.size + 1, 0, none⟩ _ _ (by simp; omega)
        have hr9 := heap_setCells (i := 0) (u := .bool true) r1
        have h4 : (((w9.setCell ⟨w.heap.size + 1, 0, none⟩ (.bool true)).putObj D1 (.deferred none)).putObj D0 (.deferred none)).cell? ⟨w.heap.size + 1, 0, none⟩ = some (.bool true) :=
          cell_of_heap ((World.putObj_heap_other (by omega)).trans ((World.putObj_heap_other (by omega)).trans hr9)) 0
        have hbz : Below w.heap.size w (((w9.setCell ⟨w.heap.size + 1, 0, none⟩ (.bool true)).putObj D1 (.deferred none)).putObj D0 (.deferred none)) := by
          have h5 := r4.setCell (p := ⟨w.heap.size + 1, 0, none⟩) (by simp) (.bool true)
          have h6 := h5.trans ((put_but _ D1 (.deferred none)).to_below h5.size (fun b e => by omega))
          exact h6.trans ((put_but _ D0 (.deferred none)).to_below h6.size (fun b e => by omega))
        exact retM2 (v := .bool true) rfl hne ((hset _ m1.1).trans m1.2) ((hset _ m0.1).trans m0.2) (by simp [results, Tryd.results7, go_sem, h4]) ⟨rfl, hbz⟩
end Go.Proofs
