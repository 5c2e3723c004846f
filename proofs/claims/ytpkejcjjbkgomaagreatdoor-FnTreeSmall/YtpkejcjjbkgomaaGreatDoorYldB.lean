/- The contract of the program's TreeSize. -/
import Derived.Test.YtpkejcjjbkgomaaGreatDoorEndB
import Derived.Test.YtpkejcjjbkgomaaGreatDoorYldL
import Derived.Test.YtpkejcjjbkgomaaGreatDoorTextB
import Derived.Test.YtpkejcjjbkgomaaGreatDoorBldF
import Derived.Test.YtpkejcjjbkgomaaGreatDoorTokV
import Derived.Test.YtpkejcjjbkgomaaGreatDoorNuC
namespace Go.Proofs.YtpkejcjjbkgomaaGreatDoor
open Go.ChangeShapes Go.WideShapes Go.ChangeAt Go.RowKit Go.Deep
attribute [local go_sem] Oper.semAt_some
set_option maxRecDepth 100000
def trues : List (PT × Bool) → Nat
  | [] => 0
  | (_, true) :: es => trues es + 1
  | (_, false) :: es => trues es
theorem trues_app : ∀ (a b : List (PT × Bool)), trues (a ++ b) = trues a + trues b
  | [], b => by simp [trues]
  | (_, true) :: a, b => by rw [List.cons_append, trues, trues, trues_app a b]; omega
  | (_, false) :: a, b => by rw [List.cons_append, trues, trues, trues_app a b]
theorem trues_kids : ∀ (l : List PT), (∀ t ∈ l, trues t.evs = t.sz) → trues (l.flatMap PT.evs) = szs l
  | [], _ => rfl
  | t :: l, h => by
    rw [List.flatMap_cons, trues_app, h t (List.mem_cons_self ..), trues_kids l (fun x hx => h x (List.mem_cons_of_mem _ hx))]
    simp [szs]
theorem sz_szs (t : PT) : t.sz = 1 + szs t.ks := by
  show t.tr.sz = _
  rw [t.tr_eq, Tr.sz, List.map_map]; rfl
theorem trues_evs (m : Nat) : ∀ (t : PT), t.sz ≤ m → trues t.evs = t.sz := by
  induction m with
  | zero => intro t h; have := t.sz_pos; omega
  | succ m ih =>
    intro t h
    have hk := trues_kids t.ks (fun k hk => ih k (by have := PT.sz_kid hk; omega))
    rw [t.evs_eq, trues, trues_app, hk, sz_szs t]
    simp [trues]
    omega
/-- what a taker of events with one cell nb holds; tb = nb + 1, the deferred's record nb + 2, the loop's nb + 3 -/
structure OneJ (w0 : World) (nb : Nat) (ty : TypeId) (rec : LoopState → Option Code → Loop) (St : List PT → List (PT × Bool) → Value → Prop) (S : List Nat) (opn : List PT) (es : List (PT × Bool)) (W : World) : Prop where
  bel : Below w0.heap.size w0 W
  cnt : ∃ v, one1 W nb v ty ∧ St opn es v
  loop : W.heap[nb + 3]? = some (.loop (rec .ready none))
  defs : W.heap[nb + 2]? = some (.deferred (some []))
  own : ∀ k ∈ S, nb + 3 < k ∧ k < W.heap.size
  low : w0.heap.size ≤ nb
theorem OneJ.apart {w0 : World} {nb : Nat} {ty : TypeId} {rec : LoopState → Option Code → Loop} {St : List PT → List (PT × Bool) → Value → Prop} {S S' : List Nat} {opn : List PT} {es : List (PT × Bool)} {W W' : World} (h : OneJ w0 nb ty rec St S opn es W) (ha : Apart S S' W W') : OneJ w0 nb ty rec St S' opn es W' := by
  have hl : nb + 3 < W.heap.size := (Array.getElem?_eq_some_iff.1 h.loop).1
  have hlow := h.low
  have same : ∀ k, k ≤ nb + 3 → W'.heap[k]? = W.heap[k]? := fun k hk => ha.block k (by omega) (fun hm => by have := h.own k hm; omega)
  obtain ⟨v, h1, h2⟩ := h.cnt
  refine ⟨ha.belowOf h.bel (fun k hk => by have := h.own k hk; omega) h.bel.size, ⟨v, (same _ (by omega)).trans h1, h2⟩, (same _ (by omega)).trans h.loop, (same _ (by omega)).trans h.defs, ?_, h.low⟩
  intro k hk
  rcases ha.own k hk with h' | h'
  · have := h.own k h'; have := ha.size; omega
  · omega
theorem OneJ.upd {w0 : World} {nb : Nat} {ty : TypeId} {rec : LoopState → Option Code → Loop} {St : List PT → List (PT × Bool) → Value → Prop} {S : List Nat} {opn opn' : List PT} {es es' : List (PT × Bool)} {W W' : World} (h : OneJ w0 nb ty rec St S opn es W) (ha : Apart [nb + 3, nb] [nb + 3, nb] W W') (v : Value) (h1 : one1 W' nb v ty) (h2 : St opn' es' v) (hl : W'.heap[nb + 3]? = some (.loop (rec .ready none))) :
    OneJ w0 nb ty rec St S opn' es' W' ∧ Keeps S (TM w0.heap.size (nb + 1)) W W' := by
  have hlt : nb + 3 < W.heap.size := (Array.getElem?_eq_some_iff.1 h.loop).1
  have hlow := h.low
  have same : ∀ k, k < W.heap.size → k ≠ nb + 3 → k ≠ nb → W'.heap[k]? = W.heap[k]? := fun k hk e1 e2 => ha.block k hk (by simp [e1, e2])
  refine ⟨⟨ha.belowOf h.bel (fun k hk => by simp only [List.mem_cons, List.not_mem_nil, or_false] at hk; omega) h.bel.size, ⟨v, h1, h2⟩, hl, (same _ (by omega) (by omega) (by omega)).trans h.defs, fun k hk => ⟨(h.own k hk).1, Nat.lt_of_lt_of_le (h.own k hk).2 ha.size⟩, h.low⟩, fun k hk => ?_, ha.size⟩
  rcases hk with hk | hk
  · have := h.own k hk; exact same k (by omega) (by omega) (by omega)
  · rcases hk with hk | hk <;> exact same k (by omega) (by omega) (by omega)
def SizSt (total : Nat) (_opn : List PT) (es : List (PT × Bool)) (v : Value) : Prop := ∃ n : Nat, v = .int .i64 (n : Int) ∧ n + trues es = total
set_option maxHeartbeats 4000000 in
theorem treeSize_any (T : Tr) (v : Value) (w : World) (B0 : Nat) (HT : TrP w B0 v T) (hz : T.sz ≤ 2000000) :
    Calls Tryz.prog 11 #[v] w fun e w' => e = .returned (.int .i64 (T.sz : Int)) ∧ Below w.heap.size w w' := by
  obtain ⟨s, r, ks, a, cap, rfl, hTe, _⟩ := HT.tr.open
  clear hTe
  have hb1 := (Below.refl w.heap.size w).alloc (Nat.le_refl _) (.cells #[.string s, .int .i64 r, .slice a ks.length cap] 30)
  have hT1 : BoxT (w.alloc (.cells #[.string s, .int .i64 r, .slice a ks.length cap] 30)) w.heap.size (.string s) (.int .i64 r) (.slice a ks.length cap) := blk_new _ _ rfl
  obtain ⟨o0, o1, o2, of0, of1, of2⟩ := hT1.cells
  refine (callsIn_wide (n := 3)).1 ?_
  refine callsIn_of_wp_marks Tryz.func11 rfl trivial ?_ rfl
  simp only [Tryz.ntmps11, List.size_toArray, List.length_cons, List.length_nil, Nat.reduceAdd, Nat.reduceSub, Array.replicate_succ, Array.replicate_zero, List.push_toArray, List.append_toArray, List.nil_append, List.cons_append]
  gi_wp2
  refine ⟨trivial, (callsIn_wide.2 (endless_any T _ _ B0 (HT.keep hb1) hz)).mono ?_⟩
  rintro e w3 ⟨rfl, hb3⟩
  have hB3 := hb1.trans (hb3.mono hb1.size)
  have hT3 := hT1.below hb3
  have hz3 : w.heap.size + 1 ≤ w3.heap.size := by have := hb3.size; simpa using this
  clear o0 o1 o2 of0 of1 of2 hb1 hT1 hb3
  have hT4 := hT3.below ((Below.refl _ _).alloc (Nat.le_refl _) (.cells #[.int .i64 0] 3))
  obtain ⟨o0, o1, o2, of0, of1, of2⟩ := hT4.cells
  gi_wp2
  refine ⟨trivial, (callsIn_wide.2 (walk_any s r _ _)).mono ?_⟩
  rintro e w5 ⟨rfl, rfl⟩
  clear o0 o1 o2 of0 of1 of2
  gi_wp2
  refine wpIn_rangeFunc_open rfl (by omega) rfl trivial (enters_of Tryz.func69 (by kernel_rfl) rfl) ?_
  intro fn hfn
  simp only [World.size_alloc, Nat.add_assoc, Nat.reduceAdd]
  generalize hrec : recOf fn _ _ _ _ _ = rec
  have hold : ∀ g, g < w.heap.size → ((((w3.alloc (.cells #[.int .i64 0] 3)).alloc (.cells #[.string s, .int .i64 r, .slice a ks.length cap] 30)).alloc (.deferred (some []))).alloc (.loop (rec .ready none))).heap[g]? = w.heap[g]? := fun g hg => by
    rw [blk_old _ _ (by simp; omega), blk_old _ _ (by simp; omega), blk_old _ _ (by simp; omega), blk_old _ _ (by omega)]
    exact hB3.block g hg
  have hbox : ((((w3.alloc (.cells #[.int .i64 0] 3)).alloc (.cells #[.string s, .int .i64 r, .slice a ks.length cap] 30)).alloc (.deferred (some []))).alloc (.loop (rec .ready none))).heap[w3.heap.size + 1]? = some (.cells #[.string s, .int .i64 r, .slice a ks.length cap] 30) := (blk_old _ _ (by simp)).trans ((blk_old _ _ (by simp)).trans (blk_new _ _ (by simp)))
  obtain ⟨t0, ht1, ht2, ht3, ht4⟩ := HT.tr.root (tb := w3.heap.size + 1) hold (by rw [cell_of_block hbox]; rfl) (by rw [cell_of_block hbox]; rfl) (by rw [cell_of_block hbox]; rfl)
  have htot : trues t0.evs = T.sz := by rw [trues_evs _ t0 (Nat.le_refl _)]; unfold PT.sz; rw [ht3]
  refine (walk1_in 2 (w3.heap.size + 3) (w3.heap.size + 1) (TM w.heap.size (w3.heap.size + 1)) t0 (OneJ w w3.heap.size 3 rec (SizSt T.sz)) (fun _ => False) (by unfold PT.sz; rw [ht3]; exact hz) ht1 ht2 ?l1 ?l2 ?l3 _ (fun k hk => by simp; rcases hk with h | h <;> omega) ?l4 (ht4.stay (fun _ _ => rfl) (fun g hg => by rcases hg with h | h; exact .inl h.2; exact .inr h))).mono ?_
  case l1 => exact fun S S' o es W W' h ha _ => h.apart ha
  case l4 =>
    refine ⟨?_, ⟨.int .i64 0, ?_, 0, rfl, by rw [htot]; omega⟩, blk_new _ _ (by simp), (blk_old _ _ (by simp)).trans (blk_new _ _ (by simp)), (fun k h => by cases h), by omega⟩
    · exact (((hB3.alloc (by omega) _).alloc (by simp; omega) _).alloc (by simp; omega) _).alloc (by simp; omega) _
    · exact (((one1.alloc (show one1 _ w3.heap.size _ _ from blk_new _ _ rfl) _).alloc _).alloc _)
  case l2 =>
    clear hold hbox ht1 ht2 ht3 ht4 hT4 hT3 hB3 htot
    intro S opn es W t hJ hpt hdec
    have j3 := hJ.loop
    have hl := (Array.getElem?_eq_some_iff.1 j3).1
    obtain ⟨v, hc, n, rfl, hn⟩ := hJ.cnt
    have hq := hc.put (c := w3.heap.size + 3) (by omega) (.loop (rec .busy none))
    have pl : (W.putObj (w3.heap.size + 3) (.loop (rec .busy none))).heap[w3.heap.size + 3]? = some (.loop (rec .busy none)) := World.putObj_heap_same hl
    have A1 : Apart [w3.heap.size + 3, w3.heap.size] [w3.heap.size + 3, w3.heap.size] W (W.putObj (w3.heap.size + 3) (.loop (rec .busy none))) := Apart.put (by simp) _
    have HJ := Lib.hid hJ
    rw [← hrec] at j3
    rw [trues] at hn
    have hw1 : IntKind.i64.wrap ((n : Int) + 1) = (n : Int) + 1 := IntWalk.i64_in _ (by omega)
    refine YieldAt.mono (R := fun e W' => ∃ j, e = .returned (.bool j.isNone) ∧ (j = none ∧ OneJ w w3.heap.size 3 rec (SizSt T.sz) S (t :: opn) es W' ∧ Keeps S (TM w.heap.size (w3.heap.size + 1)) W W')) (yieldAt_open hfn j3 rfl ?_) ?_
    rotate_left
    · rintro e W' ⟨j, rfl, rfl, h, hk⟩
      exact ⟨hk, .inl ⟨rfl, h⟩⟩
    · rw [hrec] at j3 ⊢
      clear hrec
      gi_wp2
      refine ⟨j3, ?_⟩
      clear hJ hc j3
      generalize W.putObj (w3.heap.size + 3) (.loop (rec .busy none)) = W1 at *
      obtain ⟨c1, f1⟩ := hq.cell
      have hq2 := hq.set (.int .i64 ((n : Int) + 1))
      have pl2 := blk_set pl (p := ⟨w3.heap.size, 0, none⟩) (by show w3.heap.size + 3 ≠ w3.heap.size; omega) (.int .i64 ((n : Int) + 1))
      have A2 := (A1.trans (Apart.set (b := w3.heap.size) (by simp) 0 (.int .i64 ((n : Int) + 1)))).trans (Apart.put (b := w3.heap.size + 3) (by simp) (.loop (rec .ready none)))
      have HA := Lib.hid A2
      have HQ := Lib.hid hq2
      have HP := Lib.hid pl2
      clear A1 A2 hq hq2 pl pl2
      gi_wp2
      obtain ⟨z1, z2⟩ := HJ.out.upd (opn' := t :: opn) (es' := es) HA.out _ (HQ.out.put (by omega) _) ⟨n + 1, by simp, by omega⟩ (World.putObj_heap_same (Array.getElem?_eq_some_iff.1 HP.out).1)
      exact ⟨HP.out, rfl, z1, z2⟩
  case l3 =>
    clear hold hbox ht1 ht2 ht3 ht4 hT4 hT3 hB3 htot
    intro S opn es W t hJ hpt
    have j3 := hJ.loop
    have hl := (Array.getElem?_eq_some_iff.1 j3).1
    obtain ⟨v, hc, n, rfl, hn⟩ := hJ.cnt
    have hq := hc.put (c := w3.heap.size + 3) (by omega) (.loop (rec .busy none))
    have pl : (W.putObj (w3.heap.size + 3) (.loop (rec .busy none))).heap[w3.heap.size + 3]? = some (.loop (rec .busy none)) := World.putObj_heap_same hl
    have A1 : Apart [w3.heap.size + 3, w3.heap.size] [w3.heap.size + 3, w3.heap.size] W (W.putObj (w3.heap.size + 3) (.loop (rec .busy none))) := Apart.put (by simp) _
    have HJ := Lib.hid hJ
    rw [← hrec] at j3
    rw [trues] at hn
    refine YieldAt.mono (R := fun e W' => ∃ j, e = .returned (.bool j.isNone) ∧ (j = none ∧ OneJ w w3.heap.size 3 rec (SizSt T.sz) S opn es W' ∧ Keeps S (TM w.heap.size (w3.heap.size + 1)) W W')) (yieldAt_open hfn j3 rfl ?_) ?_
    rotate_left
    · rintro e W' ⟨j, rfl, rfl, h, hk⟩
      exact ⟨hk, .inl ⟨rfl, h⟩⟩
    · rw [hrec] at j3 ⊢
      clear hrec
      gi_wp2
      refine ⟨j3, ?_⟩
      clear hJ hc j3
      generalize W.putObj (w3.heap.size + 3) (.loop (rec .busy none)) = W1 at *
      have A2 := A1.trans (Apart.put (b := w3.heap.size + 3) (by simp) (.loop (rec .ready none)))
      have HA := Lib.hid A2
      have HQ := Lib.hid hq
      have HP := Lib.hid pl
      clear A1 A2 hq pl
      gi_wp2
      obtain ⟨z1, z2⟩ := HJ.out.upd (opn' := opn) (es' := es) HA.out _ (HQ.out.put (by omega) _) ⟨n, rfl, hn⟩ (World.putObj_heap_same (Array.getElem?_eq_some_iff.1 HP.out).1)
      exact ⟨HP.out, rfl, z1, z2⟩
  rintro e W ⟨⟨v, rfl⟩, ⟨S, hJ⟩ | hS⟩
  · obtain ⟨v', hc, n, rfl, hn⟩ := hJ.cnt
    have q1 := hc.put (c := w3.heap.size + 3) (by omega) (.loop (rec .exhausted none))
    have q4 : (W.putObj (w3.heap.size + 3) (.loop (rec .exhausted none))).heap[w3.heap.size + 2]? = some (.deferred (some [])) := (World.putObj_heap_other (by omega)).trans hJ.defs
    have q5 := Below.putObj hJ.bel (r := w3.heap.size + 3) (by omega) (.loop (rec .exhausted none))
    refine ⟨v, .ready, none, rfl, by simp, hJ.loop, ?_⟩
    unfold afterSeq
    clear hJ ht4 hold hbox
    generalize W.putObj (w3.heap.size + 3) (.loop (rec .exhausted none)) = W5 at *
    obtain ⟨c1, c2⟩ := q1.cell
    have hnT : n = T.sz := by simpa [trues] using hn
    gi_wp2
    refine ⟨by simp, .inl ⟨_, _, rfl, run_takeDeferred q4, ?_⟩⟩
    exact ⟨_, results_tmp rfl _ _ _, by rw [← hnT]; rfl, Below.putObj q5 (by omega) _⟩
  · exact hS.elim
end Go.Proofs.YtpkejcjjbkgomaaGreatDoor
namespace Go.Proofs.YtpkejcjjbkgomaaGreatDoor
open Go.ChangeShapes Go.WideShapes Go.ChangeAt Go.RowKit Go.Deep Go.Shelf
set_option maxRecDepth 100000
/-- what is still written: none: no terminal is open; some j: j nodes are open within it -/
def yRun : Option Nat → List (PT × Bool) → List UInt8
  | _, [] => []
  | none, (t, true) :: es => if isSmallS t.s = true then t.s.data.toList ++ yRun (some 0) es else yRun none es
  | none, (_, false) :: es => yRun none es
  | some j, (_, true) :: es => yRun (some (j + 1)) es
  | some 0, (_, false) :: es => yRun none es
  | some (j + 1), (_, false) :: es => yRun (some j) es
theorem yRun_in_kids : ∀ (l : List PT), (∀ t ∈ l, ∀ j rest, yRun (some j) (t.evs ++ rest) = yRun (some j) rest) → ∀ j rest, yRun (some j) (l.flatMap PT.evs ++ rest) = yRun (some j) rest
  | [], _, j, rest => rfl
  | t :: l, h, j, rest => by
    rw [List.flatMap_cons, List.append_assoc, h t (List.mem_cons_self ..), yRun_in_kids l (fun x hx => h x (List.mem_cons_of_mem _ hx))]
theorem yRun_in (m : Nat) : ∀ (t : PT), t.sz ≤ m → ∀ j rest, yRun (some j) (t.evs ++ rest) = yRun (some j) rest := by
  induction m with
  | zero => intro t h; have := t.sz_pos; omega
  | succ m ih =>
    intro t h j rest
    rw [t.evs_eq, List.cons_append, yRun, List.append_assoc, yRun_in_kids t.ks (fun k hk => ih k (by have := PT.sz_kid hk; omega))]
    rfl
theorem yRun_kids : ∀ (l : List PT), (∀ t ∈ l, ∀ rest, yRun none (t.evs ++ rest) = yieldL t.tr ++ yRun none rest) → ∀ rest, yRun none (l.flatMap PT.evs ++ rest) = (l.map PT.tr).flatMap yieldL ++ yRun none rest
  | [], _, rest => rfl
  | t :: l, h, rest => by
    rw [List.flatMap_cons, List.append_assoc, h t (List.mem_cons_self ..), yRun_kids l (fun x hx => h x (List.mem_cons_of_mem _ hx)), List.map_cons, List.flatMap_cons, List.append_assoc]
theorem yRun_evs (m : Nat) : ∀ (t : PT), t.sz ≤ m → ∀ rest, yRun none (t.evs ++ rest) = yieldL t.tr ++ yRun none rest := by
  induction m with
  | zero => intro t h; have := t.sz_pos; omega
  | succ m ih =>
    intro t h rest
    have hk := yRun_kids t.ks (fun k hk => ih k (by have := PT.sz_kid hk; omega))
    rw [t.evs_eq, List.cons_append, yRun, List.append_assoc, t.tr_eq, yieldL]
    by_cases hs : isSmallS t.s = true
    · rw [if_pos hs, if_pos hs, yRun_in_kids t.ks (fun k _ => yRun_in _ k (Nat.le_refl _))]
      rfl
    · rw [if_neg hs, if_neg hs, hk]
      rfl
theorem yRun_all (t : PT) : yRun none t.evs = yieldL t.tr := by
  have h := yRun_evs _ t (Nat.le_refl _) []
  rw [List.append_nil] at h
  rw [h]; simp [yRun]
theorem eql_same (a : Addr) (w : World) : (binOp .eql 65 (.pointer (some a)) (.pointer (some a))).run Tryz.prog w = .ok (.bool true) w := by
  simp only [binOp]
  simp [equal_same]
theorem eql_other {a b : Addr} {w : World} (hne : a ≠ b) (ha : PlainB w a.block) (hb : PlainB w b.block) : (binOp .eql 65 (.pointer (some a)) (.pointer (some b))).run Tryz.prog w = .ok (.bool false) w := by
  simp only [binOp]
  simp [equal_other hne ha hb]
end Go.Proofs.YtpkejcjjbkgomaaGreatDoor
namespace Go.Proofs.YtpkejcjjbkgomaaGreatDoor
open Go.ChangeShapes Go.WideShapes Go.ChangeAt Go.RowKit Go.Deep
attribute [local go_sem] Oper.semAt_some
set_option maxRecDepth 100000
/-- what stands in the variable terminal -/
def termV (opn : List PT) : Option Nat → Value
  | none => .pointer none
  | some j => match opn[j]? with
    | some t => .pointer (some ⟨t.b, t.o, none⟩)
    | none => .pointer none
/-- what TreeYield holds between two events: the builder in nb, terminal in nb + 1, the tree's root in nb + 2 -/
structure YldJ (w0 : World) (nb : Nat) (M : Nat → Prop) (rec : LoopState → Option Code → Loop) (total : List UInt8) (S : List Nat) (opn : List PT) (es : List (PT × Bool)) (W : World) : Prop where
  bel : Below w0.heap.size w0 W
  st : ∃ acc k, BuildsF nb acc W ∧ one1 W (nb + 1) (termV opn k) 65 ∧ acc ++ yRun k es = total ∧ ∀ j, k = some j → j < opn.length
  loop : W.heap[nb + 4]? = some (.loop (rec .ready none))
  defs : W.heap[nb + 3]? = some (.deferred (some []))
  box : ∃ c, W.heap[nb + 2]? = some (.cells c 30 (0, 0))
  own : ∀ k ∈ S, nb + 4 < k ∧ k < W.heap.size
  typ : ∀ k ∈ S, PlaceB W k
  pts : ∀ a ∈ opn, PtIn W M a
  chain : opn.Pairwise (fun a b => a.sz < b.sz)
  pl : ∀ k, M k → PlainB W k
  low : ∀ k, M k → TM w0.heap.size (nb + 2) k
  pos : w0.heap.size ≤ nb
theorem place_not_row {w : World} {k : Nat} {c : Array Value} {fz : Nat × Nat} (h : PlaceB w k) (h2 : w.heap[k]? = some (.cells c 5 fz)) : False := by
  obtain ⟨c', h⟩ := h
  rw [h] at h2
  simp at h2
theorem YldJ.apart {w0 : World} {nb : Nat} {M : Nat → Prop} {rec : LoopState → Option Code → Loop} {total : List UInt8} {S S' : List Nat} {opn : List PT} {es : List (PT × Bool)} {W W' : World} (h : YldJ w0 nb M rec total S opn es W) (ha : Apart S S' W W') (ht : (∀ k ∈ S, PlaceB W k) → ∀ k ∈ S', PlaceB W' k) : YldJ w0 nb M rec total S' opn es W' := by
  have hl : nb + 4 < W.heap.size := (Array.getElem?_eq_some_iff.1 h.loop).1
  have hpos := h.pos
  have same : ∀ k, k ≤ nb + 4 → W'.heap[k]? = W.heap[k]? := fun k hk => ha.block k (by omega) (fun hm => by have := h.own k hm; omega)
  have sameM : ∀ k, M k → W'.heap[k]? = W.heap[k]? := fun k hk => same k (by rcases h.low k hk with h | h <;> omega)
  have row : ∀ (k : Nat) c fz, W.heap[k]? = some (.cells c 5 fz) → W'.heap[k]? = W.heap[k]? := fun k c fz hk => ha.block k (Array.getElem?_eq_some_iff.1 hk).1 (fun hm => place_not_row (h.typ k hm) hk)
  obtain ⟨acc, k, h1, h2, h3, h4⟩ := h.st
  obtain ⟨cb, hb⟩ := h.box
  refine ⟨ha.belowOf h.bel (fun k hk => by have := h.own k hk; omega) h.bel.size, ⟨acc, k, h1.stay (same _ (by omega)) row, (same _ (by omega)).trans h2, h3, h4⟩, (same _ (by omega)).trans h.loop, (same _ (by omega)).trans h.defs, ⟨cb, (same _ (by omega)).trans hb⟩, ?_, ht h.typ, fun a hm => (h.pts a hm).stay sameM (fun _ h => h), h.chain, fun k hk => (h.pl k hk).of_block (sameM k hk), h.low, h.pos⟩
  intro k hk
  rcases ha.own k hk with h' | h'
  · have := h.own k h'; have := ha.size; omega
  · omega
/-- what one event may turn: the loop's record, the builder, terminal, rows of bytes -/
structure Turns (nb : Nat) (W W' : World) : Prop where
  os : W'.os = W.os
  tape : W'.tape = W.tape
  output : W'.output = W.output
  size : W.heap.size ≤ W'.heap.size
  low : ∀ k, k < nb → W'.heap[k]? = W.heap[k]?
  high : ∀ k o, W.heap[k]? = some o → k ≠ nb → k ≠ nb + 1 → k ≠ nb + 4 → (∀ c fz, o ≠ .cells c 5 fz) → W'.heap[k]? = some o
theorem Turns.refl (nb : Nat) (W : World) : Turns nb W W := ⟨rfl, rfl, rfl, Nat.le_refl _, fun _ _ => rfl, fun _ _ h _ _ _ _ => h⟩
theorem Turns.trans {nb : Nat} {a b c : World} (h : Turns nb a b) (k : Turns nb b c) : Turns nb a c :=
  ⟨k.os.trans h.os, k.tape.trans h.tape, k.output.trans h.output, Nat.le_trans h.size k.size, fun i hi => (k.low i hi).trans (h.low i hi), fun i o hi h1 h2 h3 h4 => k.high i o (h.high i o hi h1 h2 h3 h4) h1 h2 h3 h4⟩
theorem Turns.put (nb : Nat) (W : World) (o : Obj) : Turns nb W (W.putObj (nb + 4) o) :=
  ⟨rfl, rfl, rfl, by simp, fun k hk => World.putObj_heap_other (by omega), fun k _ h _ _ h3 _ => (World.putObj_heap_other h3).trans h⟩
theorem Turns.set (nb : Nat) (W : World) (v : Value) : Turns nb W (W.setCell ⟨nb + 1, 0, none⟩ v) :=
  ⟨rfl, rfl, rfl, by simp, fun k hk => Below.heap_setCell W _ v k (by show k ≠ nb + 1; omega), fun k _ h _ h2 _ _ => (Below.heap_setCell W _ v k h2).trans h⟩
theorem Turns.write {nb : Nat} {W W' : World} (hb : Below nb W W') (ho : Lib.OthersKept 5 (some nb) W W') : Turns nb W W' :=
  ⟨hb.os, hb.tape, hb.output, hb.size, hb.block, fun k o h h1 _ _ h4 => ho k o h (by simpa using h1) h4⟩
theorem YldJ.upd {w0 : World} {nb : Nat} {M : Nat → Prop} {rec : LoopState → Option Code → Loop} {total : List UInt8} {S : List Nat} {opn opn' : List PT} {es es' : List (PT × Bool)} {W W' : World} (h : YldJ w0 nb M rec total S opn es W) (ht : Turns nb W W')
    (hs : ∃ acc k, BuildsF nb acc W' ∧ one1 W' (nb + 1) (termV opn' k) 65 ∧ acc ++ yRun k es' = total ∧ ∀ j, k = some j → j < opn'.length) (hl : W'.heap[nb + 4]? = some (.loop (rec .ready none))) (hp : ∀ a ∈ opn', PtIn W M a) (hc : opn'.Pairwise (fun a b => a.sz < b.sz)) :
    YldJ w0 nb M rec total S opn' es' W' ∧ Keeps S M W W' := by
  have hlt : nb + 4 < W.heap.size := (Array.getElem?_eq_some_iff.1 h.loop).1
  have hpos := h.pos
  obtain ⟨cb, hbx⟩ := h.box
  have sameM : ∀ k, M k → W'.heap[k]? = W.heap[k]? := fun k hk => by
    rcases h.low k hk with h' | h'
    · exact ht.low k (by omega)
    · subst h'
      rw [hbx]
      exact ht.high _ _ hbx (by omega) (by omega) (by omega) (fun c fz => by simp)
  have sameS : ∀ k ∈ S, W'.heap[k]? = W.heap[k]? := fun k hk => by
    obtain ⟨c, hc⟩ := h.typ k hk
    have := h.own k hk
    rw [hc]
    exact ht.high _ _ hc (by omega) (by omega) (by omega) (fun c fz => by simp)
  obtain ⟨acc, k, h1, h2, h3, h4⟩ := hs
  refine ⟨⟨h.bel.trans ⟨ht.os, ht.tape, ht.output, ht.size, fun k hk => ht.low k (by omega)⟩, ⟨acc, k, h1, h2, h3, h4⟩, hl, ht.high _ _ h.defs (by omega) (by omega) (by omega) (fun c fz => by simp), ⟨cb, ht.high _ _ hbx (by omega) (by omega) (by omega) (fun c fz => by simp)⟩, fun k hk => ⟨(h.own k hk).1, Nat.lt_of_lt_of_le (h.own k hk).2 ht.size⟩, fun k hk => ?_, fun a hm => (hp a hm).stay sameM (fun _ h => h), hc, fun k hk => (h.pl k hk).of_block (sameM k hk), h.low, h.pos⟩, fun k hk => ?_, ht.size⟩
  · obtain ⟨c, hc⟩ := h.typ k hk
    exact ⟨c, (sameS k hk).trans hc⟩
  · rcases hk with hk | hk
    · exact sameS k hk
    · exact sameM k hk
theorem termV_some {opn : List PT} {j : Nat} (h : j < opn.length) : termV opn (some j) = .pointer (some ⟨opn[j].b, opn[j].o, none⟩) := by
  show (match opn[j]? with
    | some t => Value.pointer (some ⟨t.b, t.o, none⟩)
    | none => .pointer none) = _
  rw [List.getElem?_eq_getElem h]
theorem equalIn_none (d : Nat) (a : Option Addr) (w : World) : (Op.equalIn (d + 1) 65 (.pointer a) (.pointer none)).run Tryz.prog w = .ok a.isNone w := by
  cases a <;> simp [Op.equalIn, run_underlying Tryz.underlying65]
theorem eql_none (a : Option Addr) (w : World) : (binOp .eql 65 (.pointer a) (.pointer none)).run Tryz.prog w = .ok (.bool a.isNone) w := by
  simp only [binOp]
  simp [show (Op.equal 65 (.pointer a) (.pointer none)).run Tryz.prog w = .ok a.isNone w from equalIn_none 9999 a w]
theorem others_one1 {e : TypeId} {b k : Nat} {v : Value} {T : TypeId} {W W' : World} (ho : Lib.OthersKept e (some b) W W') (h : one1 W k v T) (hb : k ≠ b) (hT : T ≠ e) : one1 W' k v T := ho k _ h (by simpa using hb) (fun c fz e => by simp at e; exact hT e.2.1)
set_option maxHeartbeats 4000000 in
theorem treeYield_any (T : Tr) (v : Value) (w : World) (B0 : Nat) (HT : TrP w B0 v T) (hz : T.sz ≤ 2000000) :
    Calls Tryz.prog 10 #[v] w fun e w' => e = .returned (.string (bytesOf (yieldL T))) ∧ Below w.heap.size w w' := by
  obtain ⟨s, r, ks, a, cap, rfl, hTe, _⟩ := HT.tr.open
  clear hTe
  have hb1 := (Below.refl w.heap.size w).alloc (Nat.le_refl _) (.cells #[.string s, .int .i64 r, .slice a ks.length cap] 30)
  have hT1 : BoxT (w.alloc (.cells #[.string s, .int .i64 r, .slice a ks.length cap] 30)) w.heap.size (.string s) (.int .i64 r) (.slice a ks.length cap) := blk_new _ _ rfl
  obtain ⟨o0, o1, o2, of0, of1, of2⟩ := hT1.cells
  refine (callsIn_wide (n := 3)).1 ?_
  refine callsIn_of_wp_marks Tryz.func10 rfl trivial ?_ rfl
  simp only [Tryz.ntmps10, List.size_toArray, List.length_cons, List.length_nil, Nat.reduceAdd, Nat.reduceSub, Array.replicate_succ, Array.replicate_zero, List.push_toArray, List.append_toArray, List.nil_append, List.cons_append]
  gi_wp2
  refine ⟨trivial, (callsIn_wide.2 (endless_any T _ _ B0 (HT.keep hb1) hz)).mono ?_⟩
  rintro e w3 ⟨rfl, hb3⟩
  have hB3 := hb1.trans (hb3.mono hb1.size)
  have hT3 := hT1.below hb3
  have hz3 : w.heap.size + 1 ≤ w3.heap.size := by have := hb3.size; simpa using this
  clear o0 o1 o2 of0 of1 of2 hb1 hT1 hb3
  have hT4 := (hT3.below ((Below.refl _ _).alloc (Nat.le_refl _) (.cells #[.pointer none, .slice none 0 0] 70))).below ((Below.refl _ _).alloc (Nat.le_refl _) (.cells #[.pointer none] 65))
  obtain ⟨o0, o1, o2, of0, of1, of2⟩ := hT4.cells
  gi_wp2
  refine ⟨trivial, (callsIn_wide.2 (walk_any s r _ _)).mono ?_⟩
  rintro e w5 ⟨rfl, rfl⟩
  clear o0 o1 o2 of0 of1 of2
  gi_wp2
  refine wpIn_rangeFunc_open rfl (by omega) rfl trivial (enters_of Tryz.func69 (by kernel_rfl) rfl) ?_
  intro fn hfn
  simp only [World.size_alloc, Nat.add_assoc, Nat.reduceAdd]
  generalize hrec : recOf fn _ _ _ _ _ = rec
  have hold : ∀ g, g < w3.heap.size → (((((w3.alloc (.cells #[.pointer none, .slice none 0 0] 70)).alloc (.cells #[.pointer none] 65)).alloc (.cells #[.string s, .int .i64 r, .slice a ks.length cap] 30)).alloc (.deferred (some []))).alloc (.loop (rec .ready none))).heap[g]? = w3.heap[g]? := fun g hg => by
    rw [blk_old _ _ (by simp; omega), blk_old _ _ (by simp; omega), blk_old _ _ (by simp; omega), blk_old _ _ (by simp; omega), blk_old _ _ hg]
  have hbox : (((((w3.alloc (.cells #[.pointer none, .slice none 0 0] 70)).alloc (.cells #[.pointer none] 65)).alloc (.cells #[.string s, .int .i64 r, .slice a ks.length cap] 30)).alloc (.deferred (some []))).alloc (.loop (rec .ready none))).heap[w3.heap.size + 2]? = some (.cells #[.string s, .int .i64 r, .slice a ks.length cap] 30) := (blk_old _ _ (by simp)).trans ((blk_old _ _ (by simp)).trans (blk_new _ _ (by simp)))
  have hbl0 : Builds w3.heap.size w3.heap.size [] (w3.alloc (.cells #[.pointer none, .slice none 0 0] 70)) := Lib.fresh_isBuilder _ _ _
  have hbl : BuildsF w3.heap.size [] (((((w3.alloc (.cells #[.pointer none, .slice none 0 0] 70)).alloc (.cells #[.pointer none] 65)).alloc (.cells #[.string s, .int .i64 r, .slice a ks.length cap] 30)).alloc (.deferred (some []))).alloc (.loop (rec .ready none))) := Lib.IsBuilderF.of ((((hbl0.alloc _).alloc _).alloc _).alloc _)
  obtain ⟨t0, M, ht1, ht2, ht3, ht4, hpl0, hlow0⟩ := HT.root (tb := w3.heap.size + 2) (fun g hg => (hold g (by omega)).trans (hB3.block g hg)) hbox
  have htot : yRun none t0.evs = yieldL T := by rw [yRun_all, ht3]
  have hylen := yield_len _ T (Nat.le_refl _)
  refine (walk1_in 2 (w3.heap.size + 4) (w3.heap.size + 2) M t0 (YldJ w w3.heap.size M rec (yieldL T)) (fun _ => False) (by unfold PT.sz; rw [ht3]; exact hz) ht1 ht2 ?l1 ?l2 ?l3 _ (fun k hk => (hpl0 k hk).lt) ?l4 ht4).mono ?_
  case l1 => exact fun S S' o es W W' h ha ht => h.apart ha ht
  case l4 =>
    refine ⟨?_, ⟨[], none, hbl, ?_, htot, fun j h => by cases h⟩, blk_new _ _ (by simp), (blk_old _ _ (by simp)).trans (blk_new _ _ (by simp)), ⟨_, hbox⟩, (fun k h => by cases h), (fun k h => by cases h), (fun a h => by cases h), .nil, ?_, fun k hk => ?_, by omega⟩
    · exact ((((hB3.alloc (by omega) _).alloc (by simp; omega) _).alloc (by simp; omega) _).alloc (by simp; omega) _).alloc (by simp; omega) _
    · exact (((one1.alloc (show one1 _ (w3.heap.size + 1) _ _ from blk_new _ _ (by simp)) _).alloc _).alloc _)
    · exact hpl0
    · exact hlow0 k hk
  case l2 =>
    clear hold hbox hbl hbl0 ht1 ht2 ht3 ht4 hT4 hT3 hB3 htot hpl0 hlow0
    intro S opn es W t hJ hpt hdec
    have j3 := hJ.loop
    have hl := (Array.getElem?_eq_some_iff.1 j3).1
    have HJ := Lib.hid hJ
    obtain ⟨acc, k, hac, htm, hrun, hkk⟩ := hJ.st
    have T1 := Turns.put w3.heap.size W (.loop (rec .busy none))
    have pl : (W.putObj (w3.heap.size + 4) (.loop (rec .busy none))).heap[w3.heap.size + 4]? = some (.loop (rec .busy none)) := World.putObj_heap_same hl
    have htm1 := htm.put (c := w3.heap.size + 4) (by omega) (.loop (rec .busy none))
    have hac1 : BuildsF w3.heap.size acc (W.putObj (w3.heap.size + 4) (.loop (rec .busy none))) := hac.stay (World.putObj_heap_other (by omega)) (fun k c fz hk => World.putObj_heap_other (fun e => by rw [e, j3] at hk; simp at hk))
    have hM1 : ∀ k, M k → (W.putObj (w3.heap.size + 4) (.loop (rec .busy none))).heap[k]? = W.heap[k]? := fun k hk => World.putObj_heap_other (by rcases hJ.low k hk with h | h <;> have := hJ.pos <;> omega)
    have hpl1 : ∀ k, M k → PlainB (W.putObj (w3.heap.size + 4) (.loop (rec .busy none))) k := fun k hk => (hJ.pl k hk).of_block (hM1 k hk)
    obtain ⟨_, _, hMt, k0, _⟩ := (hpt.stay hM1 (fun _ h => h)).open
    rw [← hrec] at j3
    refine YieldAt.mono (R := fun e W' => ∃ j, e = .returned (.bool j.isNone) ∧ (j = none ∧ YldJ w w3.heap.size M rec (yieldL T) S (t :: opn) es W' ∧ Keeps S M W W')) (yieldAt_open hfn j3 rfl ?_) ?_
    rotate_left
    · rintro e W' ⟨j, rfl, rfl, h, hk⟩
      exact ⟨hk, .inl ⟨rfl, h⟩⟩
    · rw [hrec] at j3 ⊢
      clear hrec
      gi_wp2
      refine ⟨j3, ?_⟩
      have hpp : ∀ a ∈ t :: opn, PtIn W M a := fun a ha => by
        rcases List.mem_cons.1 ha with rfl | h
        · exact hpt
        · exact hJ.pts a h
      have HPP := Lib.hid hpp
      have HCH := Lib.hid (List.pairwise_cons.2 ⟨hdec, hJ.chain⟩)
      have hpos := hJ.pos
      cases k with
      | none =>
        obtain ⟨c1, f1⟩ := htm1.cell
        rw [show termV opn none = .pointer none from rfl] at c1
        have hn0 := eql_none none (W.putObj (w3.heap.size + 4) (.loop (rec .busy none)))
        have hn1 := eql_none (some ⟨t.b, t.o, none⟩) (W.putObj (w3.heap.size + 4) (.loop (rec .busy none)))
        rw [show (none : Option Addr).isNone = true from rfl] at hn0
        rw [show (some (⟨t.b, t.o, none⟩ : Addr)).isNone = false from rfl] at hn1
        rw [yRun] at hrun
        have HRUN := Lib.hid hrun
        have hal : acc.length ≤ 2000000 := by have := congrArg List.length hrun; rw [List.length_append] at this; omega
        cases hsm : isSmallS t.s with
        | false =>
          clear hJ hac htm j3 hdec hM1 hpl1 hrun
          generalize W.putObj (w3.heap.size + 4) (.loop (rec .busy none)) = W1 at *
          gi_wp2
          refine ⟨trivial, ((callsIn_wide.2 (signSmall_any t.s _)).inRound _).mono ?_⟩
          rintro e w' ⟨rfl, rfl⟩
          rw [hsm]
          gi_wp2
          obtain ⟨z1, z2⟩ := HJ.out.upd (opn' := t :: opn) (es' := es) (T1.trans (Turns.put _ _ (.loop (rec .ready none)))) ⟨acc, none, hac1.stay (World.putObj_heap_other (by omega)) (fun k c fz hk => World.putObj_heap_other (fun e => by rw [e, pl] at hk; simp at hk)), htm1.put (by omega) _, by have := HRUN.out; rw [hsm, if_neg (by simp)] at this; exact this, fun j h => by cases h⟩ (World.putObj_heap_same (Array.getElem?_eq_some_iff.1 pl).1) HPP.out HCH.out
          exact ⟨pl, rfl, z1, z2⟩
        | true =>
          have hs1 : t.s.size = 1 := by unfold isSmallS at hsm; simp at hsm; exact hsm.1
          clear hJ hac htm j3 hdec hM1 hpl1 hrun
          generalize W.putObj (w3.heap.size + 4) (.loop (rec .busy none)) = W1 at *
          have hnb1 : w3.heap.size ≤ W1.heap.size := by have := (Array.getElem?_eq_some_iff.1 pl).1; omega
          gi_wp2
          refine ⟨trivial, ((callsIn_wide.2 (signSmall_any t.s _)).inRound _).mono ?_⟩
          rintro e w' ⟨rfl, rfl⟩
          rw [hsm]
          gi_wp2
          refine ⟨trivial, ((callsIn_wide.2 (writeF_any _ acc t.s _ hac1 (by omega) hnb1)).inRound _).mono ?_⟩
          rintro e W2 ⟨rfl, hac2, hb2, ho2⟩
          have htm2 := others_one1 ho2 htm1 (by omega) (by decide)
          have pl2 : W2.heap[w3.heap.size + 4]? = some (.loop (rec .busy none)) := ho2 _ _ pl (by simp) (fun c fz => by simp)
          obtain ⟨c2, f2⟩ := htm2.cell
          have T2 := T1.trans (Turns.write hb2 ho2)
          clear c1 f1 hn0 hn1 k0 hac1 htm1 pl T1 hb2 ho2
          gi_wp2
          have htm3 := htm2.set (.pointer (some ⟨t.b, t.o, none⟩))
          have pl3 := blk_set pl2 (p := ⟨w3.heap.size + 1, 0, none⟩) (by show w3.heap.size + 4 ≠ w3.heap.size + 1; omega) (.pointer (some ⟨t.b, t.o, none⟩))
          have hac3 : BuildsF w3.heap.size (acc ++ t.s.data.toList) (W2.setCell ⟨w3.heap.size + 1, 0, none⟩ (.pointer (some ⟨t.b, t.o, none⟩))) := hac2.stay (Below.heap_setCell _ _ _ _ (by show w3.heap.size ≠ w3.heap.size + 1; omega)) (fun k c fz hk => Below.heap_setCell _ _ _ _ (fun e => by rw [show k = w3.heap.size + 1 from e] at hk; rw [show W2.heap[w3.heap.size + 1]? = _ from htm2] at hk; simp at hk))
          obtain ⟨z1, z2⟩ := HJ.out.upd (opn' := t :: opn) (es' := es) ((T2.trans (Turns.set _ _ (.pointer (some ⟨t.b, t.o, none⟩)))).trans (Turns.put _ _ (.loop (rec .ready none)))) ⟨acc ++ t.s.data.toList, some 0, hac3.stay (World.putObj_heap_other (by omega)) (fun k c fz hk => World.putObj_heap_other (fun e => by rw [e, pl3] at hk; simp at hk)), htm3.put (by omega) _, by have := HRUN.out; rw [hsm, if_pos rfl, ← List.append_assoc] at this; exact this, fun j h => by simp at h; subst h; simp⟩ (World.putObj_heap_same (Array.getElem?_eq_some_iff.1 pl3).1) HPP.out HCH.out
          exact ⟨pl3, rfl, z1, z2⟩
      | some j =>
        have hj := hkk j rfl
        rw [termV_some hj] at htm1
        obtain ⟨c1, f1⟩ := htm1.cell
        have hne := key_ne hpt (hJ.pts opn[j] (List.getElem_mem hj)) (hdec opn[j] (List.getElem_mem hj))
        have hn0 := eql_none (some ⟨opn[j].b, opn[j].o, none⟩) (W.putObj (w3.heap.size + 4) (.loop (rec .busy none)))
        rw [show (some (⟨opn[j].b, opn[j].o, none⟩ : Addr)).isNone = false from rfl] at hn0
        have hn1 : (binOp .eql 65 (.pointer (some ⟨t.b, t.o, none⟩)) (.pointer (some ⟨opn[j].b, opn[j].o, none⟩))).run Tryz.prog (W.putObj (w3.heap.size + 4) (.loop (rec .busy none))) = .ok (.bool false) (W.putObj (w3.heap.size + 4) (.loop (rec .busy none))) := eql_other hne (hpl1 _ hpt.inM) (hpl1 _ (hJ.pts opn[j] (List.getElem_mem hj)).inM)
        rw [yRun] at hrun
        have HRUN := Lib.hid hrun
        have HTM := Lib.hid htm1
        have HHJ := Lib.hid hj
        clear hJ hac htm j3 hdec hM1 hpl1 hrun htm1 hne hkk
        generalize W.putObj (w3.heap.size + 4) (.loop (rec .busy none)) = W1 at *
        gi_wp2
        refine ⟨trivial, ?_⟩
        gi_wp2
        have hj1 : j + 1 < (t :: opn).length := by have := HHJ.out; simp; omega
        obtain ⟨z1, z2⟩ := HJ.out.upd (opn' := t :: opn) (es' := es) (T1.trans (Turns.put _ _ (.loop (rec .ready none)))) ⟨acc, some (j + 1), hac1.stay (World.putObj_heap_other (by omega)) (fun k c fz hk => World.putObj_heap_other (fun e => by rw [e, pl] at hk; simp at hk)), by rw [termV_some hj1]; exact HTM.out.put (by omega) _, HRUN.out, fun i h => by simp at h; subst h; exact hj1⟩ (World.putObj_heap_same (Array.getElem?_eq_some_iff.1 pl).1) HPP.out HCH.out
        exact ⟨pl, rfl, z1, z2⟩
  case l3 =>
    clear hold hbox hbl hbl0 ht1 ht2 ht3 ht4 hT4 hT3 hB3 htot hpl0 hlow0
    intro S opn es W t hJ hpt
    have j3 := hJ.loop
    have hl := (Array.getElem?_eq_some_iff.1 j3).1
    have HJ := Lib.hid hJ
    obtain ⟨acc, k, hac, htm, hrun, hkk⟩ := hJ.st
    have T1 := Turns.put w3.heap.size W (.loop (rec .busy none))
    have pl : (W.putObj (w3.heap.size + 4) (.loop (rec .busy none))).heap[w3.heap.size + 4]? = some (.loop (rec .busy none)) := World.putObj_heap_same hl
    have htm1 := htm.put (c := w3.heap.size + 4) (by omega) (.loop (rec .busy none))
    have hac1 : BuildsF w3.heap.size acc (W.putObj (w3.heap.size + 4) (.loop (rec .busy none))) := hac.stay (World.putObj_heap_other (by omega)) (fun k c fz hk => World.putObj_heap_other (fun e => by rw [e, j3] at hk; simp at hk))
    have hM1 : ∀ k, M k → (W.putObj (w3.heap.size + 4) (.loop (rec .busy none))).heap[k]? = W.heap[k]? := fun k hk => World.putObj_heap_other (by rcases hJ.low k hk with h | h <;> have := hJ.pos <;> omega)
    have hpl1 : ∀ k, M k → PlainB (W.putObj (w3.heap.size + 4) (.loop (rec .busy none))) k := fun k hk => (hJ.pl k hk).of_block (hM1 k hk)
    obtain ⟨hch1, hch2⟩ := List.pairwise_cons.1 hJ.chain
    rw [← hrec] at j3
    refine YieldAt.mono (R := fun e W' => ∃ j, e = .returned (.bool j.isNone) ∧ (j = none ∧ YldJ w w3.heap.size M rec (yieldL T) S opn es W' ∧ Keeps S M W W')) (yieldAt_open hfn j3 rfl ?_) ?_
    rotate_left
    · rintro e W' ⟨j, rfl, rfl, h, hk⟩
      exact ⟨hk, .inl ⟨rfl, h⟩⟩
    · rw [hrec] at j3 ⊢
      clear hrec
      gi_wp2
      refine ⟨j3, ?_⟩
      have hpp : ∀ a ∈ opn, PtIn W M a := fun a ha => hJ.pts a (List.mem_cons_of_mem _ ha)
      have HPP := Lib.hid hpp
      have HCH := Lib.hid hch2
      have hpos := hJ.pos
      cases k with
      | none =>
        obtain ⟨c1, f1⟩ := htm1.cell
        rw [show termV (t :: opn) none = .pointer none from rfl] at c1
        have hn1 := eql_none (some ⟨t.b, t.o, none⟩) (W.putObj (w3.heap.size + 4) (.loop (rec .busy none)))
        rw [show (some (⟨t.b, t.o, none⟩ : Addr)).isNone = false from rfl] at hn1
        rw [yRun] at hrun
        have HRUN := Lib.hid hrun
        clear hJ hac htm j3 hM1 hpl1 hrun hch1 hch2 hpp hkk
        generalize W.putObj (w3.heap.size + 4) (.loop (rec .busy none)) = W1 at *
        gi_wp2
        refine ⟨trivial, ?_⟩
        gi_wp2
        obtain ⟨z1, z2⟩ := HJ.out.upd (opn' := opn) (es' := es) (T1.trans (Turns.put _ _ (.loop (rec .ready none)))) ⟨acc, none, hac1.stay (World.putObj_heap_other (by omega)) (fun k c fz hk => World.putObj_heap_other (fun e => by rw [e, pl] at hk; simp at hk)), htm1.put (by omega) _, HRUN.out, fun j h => by cases h⟩ (World.putObj_heap_same (Array.getElem?_eq_some_iff.1 pl).1) HPP.out HCH.out
        exact ⟨pl, rfl, z1, z2⟩
      | some j =>
        cases j with
        | zero =>
          rw [termV_some (by simp)] at htm1
          simp only [List.getElem_cons_zero] at htm1
          obtain ⟨c1, f1⟩ := htm1.cell
          have hn1 := eql_same ⟨t.b, t.o, none⟩ (W.putObj (w3.heap.size + 4) (.loop (rec .busy none)))
          rw [yRun] at hrun
          have HRUN := Lib.hid hrun
          clear hJ hac htm j3 hM1 hpl1 hrun hch1 hch2 hpp hkk
          generalize W.putObj (w3.heap.size + 4) (.loop (rec .busy none)) = W1 at *
          gi_wp2
          refine ⟨trivial, ?_⟩
          gi_wp2
          have htm3 := htm1.set (.pointer none)
          have pl3 := blk_set pl (p := ⟨w3.heap.size + 1, 0, none⟩) (by show w3.heap.size + 4 ≠ w3.heap.size + 1; omega) (.pointer none)
          have hac3 : BuildsF w3.heap.size acc (W1.setCell ⟨w3.heap.size + 1, 0, none⟩ (.pointer none)) := hac1.stay (Below.heap_setCell _ _ _ _ (by show w3.heap.size ≠ w3.heap.size + 1; omega)) (fun k c fz hk => Below.heap_setCell _ _ _ _ (fun e => by rw [show k = w3.heap.size + 1 from e] at hk; rw [show W1.heap[w3.heap.size + 1]? = _ from htm1] at hk; simp at hk))
          obtain ⟨z1, z2⟩ := HJ.out.upd (opn' := opn) (es' := es) ((T1.trans (Turns.set _ _ (.pointer none))).trans (Turns.put _ _ (.loop (rec .ready none)))) ⟨acc, none, hac3.stay (World.putObj_heap_other (by omega)) (fun k c fz hk => World.putObj_heap_other (fun e => by rw [e, pl3] at hk; simp at hk)), htm3.put (by omega) _, HRUN.out, fun j h => by cases h⟩ (World.putObj_heap_same (Array.getElem?_eq_some_iff.1 pl3).1) HPP.out HCH.out
          exact ⟨pl3, rfl, z1, z2⟩
        | succ j =>
          have hj : j < opn.length := by have := hkk (j + 1) rfl; simpa using this
          rw [termV_some (show j + 1 < (t :: opn).length from Nat.succ_lt_succ hj)] at htm1
          simp only [List.getElem_cons_succ] at htm1
          obtain ⟨c1, f1⟩ := htm1.cell
          have hne := key_ne hpt (hpp opn[j] (List.getElem_mem hj)) (hch1 opn[j] (List.getElem_mem hj))
          have hn1 : (binOp .eql 65 (.pointer (some ⟨t.b, t.o, none⟩)) (.pointer (some ⟨opn[j].b, opn[j].o, none⟩))).run Tryz.prog (W.putObj (w3.heap.size + 4) (.loop (rec .busy none))) = .ok (.bool false) (W.putObj (w3.heap.size + 4) (.loop (rec .busy none))) := eql_other hne (hpl1 _ hpt.inM) (hpl1 _ (hpp opn[j] (List.getElem_mem hj)).inM)
          rw [yRun] at hrun
          have HRUN := Lib.hid hrun
          have HTM := Lib.hid htm1
          clear hJ hac htm j3 hM1 hpl1 hrun hch1 hch2 hpp hkk htm1 hne
          generalize W.putObj (w3.heap.size + 4) (.loop (rec .busy none)) = W1 at *
          gi_wp2
          refine ⟨trivial, ?_⟩
          gi_wp2
          obtain ⟨z1, z2⟩ := HJ.out.upd (opn' := opn) (es' := es) (T1.trans (Turns.put _ _ (.loop (rec .ready none)))) ⟨acc, some j, hac1.stay (World.putObj_heap_other (by omega)) (fun k c fz hk => World.putObj_heap_other (fun e => by rw [e, pl] at hk; simp at hk)), by rw [termV_some hj]; exact HTM.out.put (by omega) _, HRUN.out, fun i h => by simp at h; subst h; exact hj⟩ (World.putObj_heap_same (Array.getElem?_eq_some_iff.1 pl).1) HPP.out HCH.out
          exact ⟨pl, rfl, z1, z2⟩
  rintro e W ⟨⟨v, rfl⟩, ⟨S, hJ⟩ | hS⟩
  · obtain ⟨acc, k, hac, _, hrun, _⟩ := hJ.st
    have hfin : acc = yieldL T := by
      have : yRun k [] = [] := by cases k <;> rfl
      rw [this, List.append_nil] at hrun
      exact hrun
    have hl := (Array.getElem?_eq_some_iff.1 hJ.loop).1
    have q1 : BuildsF w3.heap.size acc (W.putObj (w3.heap.size + 4) (.loop (rec .exhausted none))) := hac.stay (World.putObj_heap_other (by omega)) (fun k c fz hk => World.putObj_heap_other (fun e => by rw [e, hJ.loop] at hk; simp at hk))
    have q4 : (W.putObj (w3.heap.size + 4) (.loop (rec .exhausted none))).heap[w3.heap.size + 3]? = some (.deferred (some [])) := (World.putObj_heap_other (by omega)).trans hJ.defs
    have q5 := Below.putObj hJ.bel (r := w3.heap.size + 4) (by omega) (.loop (rec .exhausted none))
    have q6 : w3.heap.size ≤ (W.putObj (w3.heap.size + 4) (.loop (rec .exhausted none))).heap.size := by simp; omega
    refine ⟨v, .ready, none, rfl, by simp, hJ.loop, ?_⟩
    unfold afterSeq
    clear hJ ht4 hold hbox hbl hbl0
    generalize W.putObj (w3.heap.size + 4) (.loop (rec .exhausted none)) = W5 at *
    gi_wp2
    refine ⟨trivial, (callsIn_wide.2 (stringF_any _ acc _ q1 q6)).mono ?_⟩
    rintro e W6 ⟨rfl, hb6, ho6⟩
    have q7 : W6.heap[w3.heap.size + 3]? = some (.deferred (some [])) := ho6 _ _ q4 (by simp) (fun c fz => by simp)
    have q8 := q5.trans (hb6.mono (by omega))
    gi_wp2
    refine ⟨by simp, .inl ⟨_, _, rfl, run_takeDeferred q7, ?_⟩⟩
    exact ⟨_, results_tmp rfl _ _ _, by rw [← hfin]; rfl, Below.putObj q8 (by omega) _⟩
  · exact hS.elim
end Go.Proofs.YtpkejcjjbkgomaaGreatDoor
namespace Go.Proofs.YtpkejcjjbkgomaaGreatDoor
open Go.ChangeShapes Go.WideShapes Go.ChangeAt Go.RowKit Go.Deep
set_option maxRecDepth 100000
theorem MadeTree.trP {T : Tr} {w w' : World} {u : Value} (h1 : TrIn w' w.heap.size u T) (h2 : PlainFrom w.heap.size w') : TrP w' w.heap.size u T := TrP.of_plain h1 h2
end Go.Proofs.YtpkejcjjbkgomaaGreatDoor
namespace Go.Proofs.YtpkejcjjbkgomaaGreatDoor
open Go.ChangeShapes Go.WideShapes Go.ChangeAt Go.RowKit Go.Deep
set_option maxRecDepth 100000
def yieldTo (ks : List Tr) (i : Nat) : List UInt8 := (ks.take i).flatMap yieldL
theorem yieldTo_succ {ks : List Tr} {i : Nat} (h : i < ks.length) : yieldTo ks (i + 1) = cat (yieldTo ks i) (bytesOf (yieldL ks[i])) := by
  unfold yieldTo cat
  rw [List.take_succ_eq_append_getElem h, List.flatMap_append]
  simp [bytesOf]
theorem yieldTo_len {s : ByteArray} {r : Int} {ks : List Tr} (i : Nat) : (yieldTo ks i).length ≤ (Tr.node s r ks).sz := by
  rw [Tr.sz]
  have h1 : ∀ l : List Tr, (l.flatMap yieldL).length ≤ (l.map Tr.sz).sum := by
    intro l
    induction l with
    | nil => simp
    | cons x xs ih =>
      have := yield_len _ x (Nat.le_refl _)
      simp only [List.flatMap_cons, List.length_append, List.map_cons, List.sum_cons]
      omega
  have h2 := h1 (ks.take i)
  have h3 := szTo_le (ks := ks) i
  unfold szTo at h3
  unfold yieldTo
  omega
set_option maxHeartbeats 2000000 in
theorem l3Yield_any (m : Nat) : ∀ (T : Tr), T.sz ≤ m → T.sz ≤ 2000000 → ∀ v w, TrIn w 0 v T →
    Calls Tryz.prog 100 #[v] w fun e w' => e = .returned (.string (bytesOf (yieldL T))) ∧ Below w.heap.size w w' := by
  induction m with
  | zero =>
    intro T hT
    cases T with
    | node s r ks => rw [Tr.sz] at hT; omega
  | succ m ih =>
    intro T hT hW v w HT
    obtain ⟨s, r, ks, a, cap, rfl, rfl, hs, hr, hn, hc, HK⟩ := HT.open
    have hkid : ∀ k ∈ ks, k.sz < (Tr.node s r ks).sz := fun k hk => Tr.sz_kid hk
    have HIH := Lib.hid ih
    have HKD := Lib.hid hkid
    have HTT := Lib.hid hT
    have HWW := Lib.hid hW
    have hbA := (Below.refl w.heap.size w).alloc (Nat.le_refl _) (.cells #[.string s, .int .i64 r, .slice a ks.length cap] 30)
    have hB0 : BoxT (w.alloc (.cells #[.string s, .int .i64 r, .slice a ks.length cap] 30)) w.heap.size (.string s) (.int .i64 r) (.slice a ks.length cap) := blk_new _ _ rfl
    unfold maxLen at hn
    clear ih hkid hT HT hW
    obtain ⟨o0, o1, o2, of0, of1, of2⟩ := hB0.cells
    cases hsm : isSmallS s with
    | true =>
      have HY : Hid (yieldL (.node s r ks) = s.data.toList) := by show _ = _; rw [yieldL, if_pos hsm]
      go_enter Tryz.func100, Tryz.ntmps100
      go_wp2_with (go_at_call 86; refine (sSignSmall_any _ _).mono ?_; rintro e w' ⟨rfl, rfl⟩; rw [hsm])
      go_ret
      exact ⟨ret_string (by rw [HY.out, bytesOf_self]), hbA⟩
    | false =>
      have HY : Hid (yieldL (.node s r ks) = ks.flatMap yieldL) := by show _ = _; rw [yieldL, if_neg (by rw [hsm]; simp)]
      go_enter Tryz.func100, Tryz.ntmps100
      go_wp2_with (go_at_call 86; refine (sSignSmall_any _ _).mono ?_; rintro e w' ⟨rfl, rfl⟩; rw [hsm])
      clear o0 o1 o2 of0 of1 of2
      go_loopg [3, 4] (ks.length + 1) (fun gk nv iv wr => ∃ i : Nat, gk = ks.length + 1 - i ∧ i ≤ ks.length ∧ iv = .int .i64 (i : Int) ∧ nv = .string (bytesOf (yieldTo ks i)) ∧ BoxT wr w.heap.size (.string s) (.int .i64 r) (.slice a ks.length cap) ∧ Below w.heap.size w wr)
      case atStart => exact ⟨0, rfl, Nat.zero_le _, rfl, rfl, hB0, hbA⟩
      case round =>
        clear hB0 hbA
        obtain ⟨i, hgk, hi, rfl, rfl, hB, hb⟩ := hrel
        have HG := Lib.hid hgk
        obtain ⟨o0, o1, o2, of0, of1, of2⟩ := hB.cells
        clear hgk
        by_cases hlt : i < ks.length
        · have hil : (i : Int) < (ks.length : Int) := by omega
          obtain ⟨g, off, s', r', x, rfl, _, hg, c0, c1, c2, ht⟩ := (HK.below hb) i hlt
          obtain ⟨a3, n3, cap3, rfl⟩ := ht.third
          have HMS := Lib.hid (yieldTo_succ hlt)
          have hadd : ∀ W : World, (Op.stringOp .add (bytesOf (yieldTo ks i)) (bytesOf (yieldL ks[i]))).run Tryz.prog W = .ok (.string (bytesOf (cat (yieldTo ks i) (bytesOf (yieldL ks[i]))))) W := fun W => run_add_bytes _ _ (by have h1 := yieldTo_len (s := s) (r := r) (ks := ks) i; have h2 := yield_len _ ks[i] (Nat.le_refl _); have h3 := HKD.out ks[i] (List.getElem_mem hlt); have := HWW.out; rw [bytesOf_size]; omega) W
          go_wp2_with fail
          refine (HIH.out ks[i] (by have := HKD.out ks[i] (List.getElem_mem hlt); have := HTT.out; omega) (by have := HKD.out ks[i] (List.getElem_mem hlt); have := HWW.out; omega) _ _ ht).mono ?_
          rintro e w3 ⟨rfl, hb3⟩
          have hB3 := hB.below hb3
          have hBB := hb.trans (hb3.mono hb.size)
          clear hB hb hb3 c0 c1 c2 ht o0 o1 o2 of0 of1 of2
          go_wp2_with fail
          go_roundg (ks.length + 1 - (i + 1))
          case measure => have := HG.out; omega
          case rel => exact ⟨i + 1, rfl, by omega, by go_num, by rw [HMS.out], hB3, hBB⟩
        · have hil : ¬ (i : Int) < (ks.length : Int) := by omega
          obtain rfl : i = ks.length := by omega
          have hfin : yieldTo ks ks.length = ks.flatMap yieldL := by unfold yieldTo; rw [List.take_length]
          have HF := Lib.hid hfin
          clear hfin
          go_wp2_with fail
          go_ret
          exact ⟨ret_string (by rw [HY.out, ← HF.out]), hb⟩
end Go.Proofs.YtpkejcjjbkgomaaGreatDoor
