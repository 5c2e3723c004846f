/- The contract of the program's TreeSize. -/
import Derived.Test.YtpkejcjjbkgomaaDoorEndB
namespace Go.Proofs.YtpkejcjjbkgomaaDoor
open Go.ChangeShapes Go.WideShapes Go.ChangeAt Go.RowKit Go.Deep
attribute [local go_sem] Oper.semAt_some
set_option maxRecDepth 100000
def trues : List (PT × Bool) → Nat
  | [] => 0
  | (_, true) :: es => trues es + 1
  | (_, false) :: es => trues es
theorem trues_app : ∀ (a b : List (PT × Bool)), trues (a ++ b) = trues a + trues b
  | [], b => by simp [trues]
  | (_, true) :: a, b => by rw [List.cons_append, trues, trues, trues_app a b]; omega
  | (_, false) :: a, b => by rw [List.cons_append, trues, trues, trues_app a b]
theorem trues_kids : ∀ (l : List PT), (∀ t ∈ l, trues t.evs = t.sz) → trues (l.flatMap PT.evs) = szs l
  | [], _ => rfl
  | t :: l, h => by
    rw [List.flatMap_cons, trues_app, h t (List.mem_cons_self ..), trues_kids l (fun x hx => h x (List.mem_cons_of_mem _ hx))]
    simp [szs]
theorem sz_szs (t : PT) : t.sz = 1 + szs t.ks := by
  show t.tr.sz = _
  rw [t.tr_eq, Tr.sz, List.map_map]; rfl
theorem trues_evs (m : Nat) : ∀ (t : PT), t.sz ≤ m → trues t.evs = t.sz := by
  induction m with
  | zero => intro t h; have := t.sz_pos; omega
  | succ m ih =>
    intro t h
    have hk := trues_kids t.ks (fun k hk => ih k (by have := PT.sz_kid hk; omega))
    rw [t.evs_eq, trues, trues_app, hk, sz_szs t]
    simp [trues]
    omega
/-- what a taker of events with one cell nb holds; tb = nb + 1, the deferred's record nb + 2, the loop's nb + 3 -/
structure OneJ (w0 : World) (nb : Nat) (ty : TypeId) (rec : LoopState → Option Code → Loop) (St : List PT → List (PT × Bool) → Value → Prop) (S : List Nat) (opn : List PT) (es : List (PT × Bool)) (W : World) : Prop where
  bel : Below w0.heap.size w0 W
  cnt : ∃ v, one1 W nb v ty ∧ St opn es v
  loop : W.heap[nb + 3]? = some (.loop (rec .ready none))
  defs : W.heap[nb + 2]? = some (.deferred (some []))
  own : ∀ k ∈ S, nb + 3 < k ∧ k < W.heap.size
  low : w0.heap.size ≤ nb
theorem OneJ.apart {w0 : World} {nb : Nat} {ty : TypeId} {rec : LoopState → Option Code → Loop} {St : List PT → List (PT × Bool) → Value → Prop} {S S' : List Nat} {opn : List PT} {es : List (PT × Bool)} {W W' : World} (h : OneJ w0 nb ty rec St S opn es W) (ha : Apart S S' W W') : OneJ w0 nb ty rec St S' opn es W' := by
  have hl : nb + 3 < W.heap.size := (Array.getElem?_eq_some_iff.1 h.loop).1
  have hlow := h.low
  have same : ∀ k, k ≤ nb + 3 → W'.heap[k]? = W.heap[k]? := fun k hk => ha.block k (by omega) (fun hm => by have := h.own k hm; omega)
  obtain ⟨v, h1, h2⟩ := h.cnt
  refine ⟨ha.belowOf h.bel (fun k hk => by have := h.own k hk; omega) h.bel.size, ⟨v, (same _ (by omega)).trans h1, h2⟩, (same _ (by omega)).trans h.loop, (same _ (by omega)).trans h.defs, ?_, h.low⟩
  intro k hk
  rcases ha.own k hk with h' | h'
  · have := h.own k h'; have := ha.size; omega
  · omega
theorem OneJ.upd {w0 : World} {nb : Nat} {ty : TypeId} {rec : LoopState → Option Code → Loop} {St : List PT → List (PT × Bool) → Value → Prop} {S : List Nat} {opn opn' : List PT} {es es' : List (PT × Bool)} {W W' : World} (h : OneJ w0 nb ty rec St S opn es W) (ha : Apart [nb + 3, nb] [nb + 3, nb] W W') (v : Value) (h1 : one1 W' nb v ty) (h2 : St opn' es' v) (hl : W'.heap[nb + 3]? = some (.loop (rec .ready none))) :
    OneJ w0 nb ty rec St S opn' es' W' ∧ Keeps S (TM w0.heap.size (nb + 1)) W W' := by
  have hlt : nb + 3 < W.heap.size := (Array.getElem?_eq_some_iff.1 h.loop).1
  have hlow := h.low
  have same : ∀ k, k < W.heap.size → k ≠ nb + 3 → k ≠ nb → W'.heap[k]? = W.heap[k]? := fun k hk e1 e2 => ha.block k hk (by simp [e1, e2])
  refine ⟨⟨ha.belowOf h.bel (fun k hk => by simp only [List.mem_cons, List.not_mem_nil, or_false] at hk; omega) h.bel.size, ⟨v, h1, h2⟩, hl, (same _ (by omega) (by omega) (by omega)).trans h.defs, fun k hk => ⟨(h.own k hk).1, Nat.lt_of_lt_of_le (h.own k hk).2 ha.size⟩, h.low⟩, fun k hk => ?_, ha.size⟩
  rcases hk with hk | hk
  · have := h.own k hk; exact same k (by omega) (by omega) (by omega)
  · rcases hk with hk | hk <;> exact same k (by omega) (by omega) (by omega)
def SizSt (total : Nat) (_opn : List PT) (es : List (PT × Bool)) (v : Value) : Prop := ∃ n : Nat, v = .int .i64 (n : Int) ∧ n + trues es = total
set_option maxHeartbeats 4000000 in
theorem treeSize_any (T : Tr) (v : Value) (w : World) (B0 : Nat) (HT : TrP w B0 v T) (hz : T.sz ≤ 2000000) :
    Calls Tryd.prog 43 #[v] w fun e w' => e = .returned (.int .i64 (T.sz : Int)) ∧ Below w.heap.size w w' := by
  obtain ⟨s, r, ks, a, cap, rfl, hTe, _⟩ := HT.tr.open
  clear hTe
  have hb1 := (Below.refl w.heap.size w).alloc (Nat.le_refl _) (.cells #[.string s, .int .i64 r, .slice a ks.length cap] 29)
  have hT1 : BoxT (w.alloc (.cells #[.string s, .int .i64 r, .slice a ks.length cap] 29)) w.heap.size (.string s) (.int .i64 r) (.slice a ks.length cap) := blk_new _ _ rfl
  obtain ⟨o0, o1, o2, of0, of1, of2⟩ := hT1.cells
  refine (callsIn_wide (n := 3)).1 ?_
  refine callsIn_of_wp_marks Tryd.func43 rfl trivial ?_ rfl
  simp only [Tryd.ntmps43, List.size_toArray, List.length_cons, List.length_nil, Nat.reduceAdd, Nat.reduceSub, Array.replicate_succ, Array.replicate_zero, List.push_toArray, List.append_toArray, List.nil_append, List.cons_append]
  gi_wp2
  refine ⟨trivial, (callsIn_wide.2 (endless_any T _ _ B0 (HT.keep hb1) hz)).mono ?_⟩
  rintro e w3 ⟨rfl, hb3⟩
  have hB3 := hb1.trans (hb3.mono hb1.size)
  have hT3 := hT1.below hb3
  have hz3 : w.heap.size + 1 ≤ w3.heap.size := by have := hb3.size; simpa using this
  clear o0 o1 o2 of0 of1 of2 hb1 hT1 hb3
  have hT4 := hT3.below ((Below.refl _ _).alloc (Nat.le_refl _) (.cells #[.int .i64 0] 3))
  obtain ⟨o0, o1, o2, of0, of1, of2⟩ := hT4.cells
  gi_wp2
  refine ⟨trivial, (callsIn_wide.2 (walk_any s r _ _)).mono ?_⟩
  rintro e w5 ⟨rfl, rfl⟩
  clear o0 o1 o2 of0 of1 of2
  gi_wp2
  refine wpIn_rangeFunc_open rfl (by omega) rfl trivial (enters_of Tryd.func99 (by kernel_rfl) rfl) ?_
  intro fn hfn
  simp only [World.size_alloc, Nat.add_assoc, Nat.reduceAdd]
  generalize hrec : recOf fn _ _ _ _ _ = rec
  have hold : ∀ g, g < w.heap.size → ((((w3.alloc (.cells #[.int .i64 0] 3)).alloc (.cells #[.string s, .int .i64 r, .slice a ks.length cap] 29)).alloc (.deferred (some []))).alloc (.loop (rec .ready none))).heap[g]? = w.heap[g]? := fun g hg => by
    rw [blk_old _ _ (by simp; omega), blk_old _ _ (by simp; omega), blk_old _ _ (by simp; omega), blk_old _ _ (by omega)]
    exact hB3.block g hg
  have hbox : ((((w3.alloc (.cells #[.int .i64 0] 3)).alloc (.cells #[.string s, .int .i64 r, .slice a ks.length cap] 29)).alloc (.deferred (some []))).alloc (.loop (rec .ready none))).heap[w3.heap.size + 1]? = some (.cells #[.string s, .int .i64 r, .slice a ks.length cap] 29) := (blk_old _ _ (by simp)).trans ((blk_old _ _ (by simp)).trans (blk_new _ _ (by simp)))
  obtain ⟨t0, ht1, ht2, ht3, ht4⟩ := HT.tr.root (tb := w3.heap.size + 1) hold (by rw [cell_of_block hbox]; rfl) (by rw [cell_of_block hbox]; rfl) (by rw [cell_of_block hbox]; rfl)
  have htot : trues t0.evs = T.sz := by rw [trues_evs _ t0 (Nat.le_refl _)]; unfold PT.sz; rw [ht3]
  refine (walk1_in 2 (w3.heap.size + 3) (w3.heap.size + 1) (TM w.heap.size (w3.heap.size + 1)) t0 (OneJ w w3.heap.size 3 rec (SizSt T.sz)) (fun _ => False) (by unfold PT.sz; rw [ht3]; exact hz) ht1 ht2 ?l1 ?l2 ?l3 _ (fun k hk => by simp; rcases hk with h | h <;> omega) ?l4 (ht4.stay (fun _ _ => rfl) (fun g hg => by rcases hg with h | h; exact .inl h.2; exact .inr h))).mono ?_
  case l1 => exact fun S S' o es W W' h ha _ => h.apart ha
  case l4 =>
    refine ⟨?_, ⟨.int .i64 0, ?_, 0, rfl, by rw [htot]; omega⟩, blk_new _ _ (by simp), (blk_old _ _ (by simp)).trans (blk_new _ _ (by simp)), (fun k h => by cases h), by omega⟩
    · exact (((hB3.alloc (by omega) _).alloc (by simp; omega) _).alloc (by simp; omega) _).alloc (by simp; omega) _
    · exact (((one1.alloc (show one1 _ w3.heap.size _ _ from blk_new _ _ rfl) _).alloc _).alloc _)
  case l2 =>
    clear hold hbox ht1 ht2 ht3 ht4 hT4 hT3 hB3 htot
    intro S opn es W t hJ hpt hdec
    have j3 := hJ.loop
    have hl := (Array.getElem?_eq_some_iff.1 j3).1
    obtain ⟨v, hc, n, rfl, hn⟩ := hJ.cnt
    have hq := hc.put (c := w3.heap.size + 3) (by omega) (.loop (rec .busy none))
    have pl : (W.putObj (w3.heap.size + 3) (.loop (rec .busy none))).heap[w3.heap.size + 3]? = some (.loop (rec .busy none)) := World.putObj_heap_same hl
    have A1 : Apart [w3.heap.size + 3, w3.heap.size] [w3.heap.size + 3, w3.heap.size] W (W.putObj (w3.heap.size + 3) (.loop (rec .busy none))) := Apart.put (by simp) _
    have HJ := Lib.hid hJ
    rw [← hrec] at j3
    rw [trues] at hn
    have hw1 : IntKind.i64.wrap ((n : Int) + 1) = (n : Int) + 1 := IntWalk.i64_in _ (by omega)
    refine YieldAt.mono (R := fun e W' => ∃ j, e = .returned (.bool j.isNone) ∧ (j = none ∧ OneJ w w3.heap.size 3 rec (SizSt T.sz) S (t :: opn) es W' ∧ Keeps S (TM w.heap.size (w3.heap.size + 1)) W W')) (yieldAt_open hfn j3 rfl ?_) ?_
    rotate_left
    · rintro e W' ⟨j, rfl, rfl, h, hk⟩
      exact ⟨hk, .inl ⟨rfl, h⟩⟩
    · rw [hrec] at j3 ⊢
      clear hrec
      gi_wp2
      refine ⟨j3, ?_⟩
      clear hJ hc j3
      generalize W.putObj (w3.heap.size + 3) (.loop (rec .busy none)) = W1 at *
      obtain ⟨c1, f1⟩ := hq.cell
      have hq2 := hq.set (.int .i64 ((n : Int) + 1))
      have pl2 := blk_set pl (p := ⟨w3.heap.size, 0, none⟩) (by show w3.heap.size + 3 ≠ w3.heap.size; omega) (.int .i64 ((n : Int) + 1))
      have A2 := (A1.trans (Apart.set (b := w3.heap.size) (by simp) 0 (.int .i64 ((n : Int) + 1)))).trans (Apart.put (b := w3.heap.size + 3) (by simp) (.loop (rec .ready none)))
      have HA := Lib.hid A2
      have HQ := Lib.hid hq2
      have HP := Lib.hid pl2
      clear A1 A2 hq hq2 pl pl2
      gi_wp2
      obtain ⟨z1, z2⟩ := HJ.out.upd (opn' := t :: opn) (es' := es) HA.out _ (HQ.out.put (by omega) _) ⟨n + 1, by simp, by omega⟩ (World.putObj_heap_same (Array.getElem?_eq_some_iff.1 HP.out).1)
      exact ⟨HP.out, rfl, z1, z2⟩
  case l3 =>
    clear hold hbox ht1 ht2 ht3 ht4 hT4 hT3 hB3 htot
    intro S opn es W t hJ hpt
    have j3 := hJ.loop
    have hl := (Array.getElem?_eq_some_iff.1 j3).1
    obtain ⟨v, hc, n, rfl, hn⟩ := hJ.cnt
    have hq := hc.put (c := w3.heap.size + 3) (by omega) (.loop (rec .busy none))
    have pl : (W.putObj (w3.heap.size + 3) (.loop (rec .busy none))).heap[w3.heap.size + 3]? = some (.loop (rec .busy none)) := World.putObj_heap_same hl
    have A1 : Apart [w3.heap.size + 3, w3.heap.size] [w3.heap.size + 3, w3.heap.size] W (W.putObj (w3.heap.size + 3) (.loop (rec .busy none))) := Apart.put (by simp) _
    have HJ := Lib.hid hJ
    rw [← hrec] at j3
    rw [trues] at hn
    refine YieldAt.mono (R := fun e W' => ∃ j, e = .returned (.bool j.isNone) ∧ (j = none ∧ OneJ w w3.heap.size 3 rec (SizSt T.sz) S opn es W' ∧ Keeps S (TM w.heap.size (w3.heap.size + 1)) W W')) (yieldAt_open hfn j3 rfl ?_) ?_
    rotate_left
    · rintro e W' ⟨j, rfl, rfl, h, hk⟩
      exact ⟨hk, .inl ⟨rfl, h⟩⟩
    · rw [hrec] at j3 ⊢
      clear hrec
      gi_wp2
      refine ⟨j3, ?_⟩
      clear hJ hc j3
      generalize W.putObj (w3.heap.size + 3) (.loop (rec .busy none)) = W1 at *
      have A2 := A1.trans (Apart.put (b := w3.heap.size + 3) (by simp) (.loop (rec .ready none)))
      have HA := Lib.hid A2
      have HQ := Lib.hid hq
      have HP := Lib.hid pl
      clear A1 A2 hq pl
      gi_wp2
      obtain ⟨z1, z2⟩ := HJ.out.upd (opn' := opn) (es' := es) HA.out _ (HQ.out.put (by omega) _) ⟨n, rfl, hn⟩ (World.putObj_heap_same (Array.getElem?_eq_some_iff.1 HP.out).1)
      exact ⟨HP.out, rfl, z1, z2⟩
  rintro e W ⟨⟨v, rfl⟩, ⟨S, hJ⟩ | hS⟩
  · obtain ⟨v', hc, n, rfl, hn⟩ := hJ.cnt
    have q1 := hc.put (c := w3.heap.size + 3) (by omega) (.loop (rec .exhausted none))
    have q4 : (W.putObj (w3.heap.size + 3) (.loop (rec .exhausted none))).heap[w3.heap.size + 2]? = some (.deferred (some [])) := (World.putObj_heap_other (by omega)).trans hJ.defs
    have q5 := Below.putObj hJ.bel (r := w3.heap.size + 3) (by omega) (.loop (rec .exhausted none))
    refine ⟨v, .ready, none, rfl, by simp, hJ.loop, ?_⟩
    unfold afterSeq
    clear hJ ht4 hold hbox
    generalize W.putObj (w3.heap.size + 3) (.loop (rec .exhausted none)) = W5 at *
    obtain ⟨c1, c2⟩ := q1.cell
    have hnT : n = T.sz := by simpa [trues] using hn
    gi_wp2
    refine ⟨by simp, .inl ⟨_, _, rfl, run_takeDeferred q4, ?_⟩⟩
    exact ⟨_, results_tmp rfl _ _ _, by rw [← hnT]; rfl, Below.putObj q5 (by omega) _⟩
  · exact hS.elim
end Go.Proofs.YtpkejcjjbkgomaaDoor
