/- The contract of the program's TreeOk. -/
import Derived.Test.YtpkejcjjbkgomaaDoorNodA
import Derived.Test.YtpkejcjjbkgomaaDoorWalkB
import Derived.Test.YtpkejcjjbkgomaaDoorOne
namespace Go.Proofs.YtpkejcjjbkgomaaDoor
open Go.ChangeShapes Go.WideShapes Go.ChangeAt Go.RowKit Go.Deep
attribute [local go_sem] Oper.semAt_some
set_option maxRecDepth 100000
theorem blk_set {w : World} {k : Nat} {o : Obj} (h : w.heap[k]? = some o) {p : Addr} (hp : k ≠ p.block) (u : Value) : (w.setCell p u).heap[k]? = some o := (Below.heap_setCell w p u k hp).trans h
theorem walk_any (s : ByteArray) (r : Int) (x : Value) (w : World) :
    Calls Tryd.prog 70 #[.agg #[.string s, .int .i64 r, x]] w fun e w' => e = .returned (.func (.func 99) #[] #[.pointer (some ⟨w.heap.size, 0, none⟩)]) ∧ w' = w.alloc (.cells #[.string s, .int .i64 r, x] 29) := by
  have hmf := makeFunc_run
  go_enter Tryd.func70, Tryd.ntmps70
  go_wp2
  go_ret
  exact ⟨rfl, rfl⟩
theorem Apart.put {S : List Nat} {w : World} {b : Nat} (hb : b ∈ S) (o : Obj) : Apart S S w (w.putObj b o) :=
  ⟨rfl, rfl, rfl, by simp, fun k _ hS => World.putObj_heap_other (fun e => hS (e ▸ hb)), fun _ h => .inl h⟩
theorem Apart.below {S : List Nat} {w w' : World} (h : Below w.heap.size w w') : Apart S S w w' :=
  ⟨h.os, h.tape, h.output, h.size, fun k hk _ => h.block k hk, fun _ h => .inl h⟩
theorem Apart.fresh {S : List Nat} (w : World) (o : Obj) : Apart S S w (w.alloc o) := Apart.below ((Below.refl _ _).alloc (Nat.le_refl _) o)
theorem Apart.belowOf {S S' : List Nat} {B : Nat} {a w w' : World} (h : Apart S S' w w') (hb : Below B a w) (hS : ∀ k ∈ S, B ≤ k) (hB : B ≤ w.heap.size) : Below B a w' :=
  hb.trans ⟨h.os, h.tape, h.output, h.size, fun k hk => h.block k (by omega) (fun hm => by have := hS k hm; omega)⟩
theorem Apart.keeps {S L : List Nat} {B0 tb : Nat} {w w' : World} (h : Apart L L w w') (h1 : ∀ k ∈ L, k ∉ S ∧ ¬ TM B0 tb k) (hS : ∀ k ∈ S, k < w.heap.size) (hT : ∀ k, TM B0 tb k → k < w.heap.size) : Keeps S (TM B0 tb) w w' :=
  ⟨fun k hk => h.block k (by rcases hk with h | h; exact hS k h; exact hT k h) (fun hm => by rcases hk with h | h; exact (h1 k hm).1 h; exact (h1 k hm).2 h), h.size⟩
/-- what TreeOk holds between two events -/
structure OkJ (rs : List RuleT) (st : ByteArray) (ag : Option Addr) (cg : Nat) (w0 : World) (nb l : Nat) (rec : LoopState → Option Code → Loop) (total : Bool) (S : List Nat) (opn : List PT) (es : List (PT × Bool)) (W : World) : Prop where
  bel : Below w0.heap.size w0 W
  g : GB2 W w0.heap.size (.string st) (.slice ag rs.length cg)
  res : one1 W (w0.heap.size + 2) (.bool false) 4
  cnt : ∃ n : Nat, n ≤ 60 ∧ opn.length ≤ n ∧ one1 W nb (.int .i64 (n : Int)) 3 ∧ one1 W (nb + 1) (.int .i64 (opn.length : Int)) 3 ∧ okRun rs n opn.length es = total
  loop : W.heap[l]? = some (.loop (rec .ready none))
  defs : W.heap[l - 1]? = some (.deferred (some []))
  pos : w0.heap.size + 2 < nb ∧ nb + 2 < l - 1
  own : ∀ k ∈ S, l < k ∧ k < W.heap.size
theorem OkJ.apart {rs : List RuleT} {st : ByteArray} {ag : Option Addr} {cg : Nat} {w0 : World} {nb l : Nat} {rec : LoopState → Option Code → Loop} {total : Bool} {S S' : List Nat} {opn : List PT} {es : List (PT × Bool)} {W W' : World}
    (h : OkJ rs st ag cg w0 nb l rec total S opn es W) (ha : Apart S S' W W') : OkJ rs st ag cg w0 nb l rec total S' opn es W' := by
  have hl : l < W.heap.size := (Array.getElem?_eq_some_iff.1 h.loop).1
  have hp := h.pos
  have same : ∀ k, k ≤ l → W'.heap[k]? = W.heap[k]? := fun k hk => ha.block k (by omega) (fun hm => by have := h.own k hm; omega)
  obtain ⟨n, h1, h2, h3, h4, h5⟩ := h.cnt
  refine ⟨ha.belowOf h.bel (fun k hk => by have := h.own k hk; omega) h.bel.size, (same _ (by omega)).trans h.g, (same _ (by omega)).trans h.res, ⟨n, h1, h2, (same _ (by omega)).trans h3, (same _ (by omega)).trans h4, h5⟩, (same _ (by omega)).trans h.loop, (same _ (by omega)).trans h.defs, h.pos, ?_⟩
  intro k hk
  rcases ha.own k hk with h' | h'
  · have := h.own k h'; have := ha.size; omega
  · omega
def OkStop (w0 : World) (l : Nat) (rec : LoopState → Option Code → Loop) (total : Bool) (W : World) : Prop := Below w0.heap.size w0 W ∧ one1 W (w0.heap.size + 2) (.bool false) 4 ∧ W.heap[l]? = some (.loop (rec .done (some .ret))) ∧ W.heap[l - 1]? = some (.deferred (some [])) ∧ total = false
theorem OkJ.upd {rs : List RuleT} {st : ByteArray} {ag : Option Addr} {cg : Nat} {w0 : World} {nb l : Nat} {rec : LoopState → Option Code → Loop} {total : Bool} {S : List Nat} {opn opn' : List PT} {es es' : List (PT × Bool)} {W W' : World}
    (h : OkJ rs st ag cg w0 nb l rec total S opn es W) (ha : Apart [l, nb, nb + 1] [l, nb, nb + 1] W W') (n : Nat) (h1 : n ≤ 60) (h2 : opn'.length ≤ n) (h3 : one1 W' nb (.int .i64 (n : Int)) 3) (h4 : one1 W' (nb + 1) (.int .i64 (opn'.length : Int)) 3) (h5 : okRun rs n opn'.length es' = total) (hl : W'.heap[l]? = some (.loop (rec .ready none))) :
    OkJ rs st ag cg w0 nb l rec total S opn' es' W' := by
  have hlt : l < W.heap.size := (Array.getElem?_eq_some_iff.1 h.loop).1
  have hp := h.pos
  have same : ∀ k, k < W.heap.size → k ≠ l → k ≠ nb → k ≠ nb + 1 → W'.heap[k]? = W.heap[k]? := fun k hk e1 e2 e3 => ha.block k hk (by simp [e1, e2, e3])
  exact ⟨ha.belowOf h.bel (fun k hk => by simp only [List.mem_cons, List.not_mem_nil, or_false] at hk; omega) h.bel.size, (same _ (by omega) (by omega) (by omega) (by omega)).trans h.g, (same _ (by omega) (by omega) (by omega) (by omega)).trans h.res, ⟨n, h1, h2, h3, h4, h5⟩, hl, (same _ (by omega) (by omega) (by omega) (by omega)).trans h.defs, h.pos, fun k hk => ⟨(h.own k hk).1, Nat.lt_of_lt_of_le (h.own k hk).2 ha.size⟩⟩
theorem OkJ.keeps {rs : List RuleT} {st : ByteArray} {ag : Option Addr} {cg : Nat} {w0 : World} {nb l : Nat} {rec : LoopState → Option Code → Loop} {total : Bool} {S : List Nat} {opn : List PT} {es : List (PT × Bool)} {W W' : World}
    (h : OkJ rs st ag cg w0 nb l rec total S opn es W) (ha : Apart [l, nb, nb + 1] [l, nb, nb + 1] W W') : Keeps S (TM w0.heap.size (nb + 2)) W W' := by
  have hlt : l < W.heap.size := (Array.getElem?_eq_some_iff.1 h.loop).1
  have hp := h.pos
  refine ha.keeps (fun k hk => ?_) (fun k hk => (h.own k hk).2) (fun k hk => by rcases hk with h | h <;> omega)
  simp only [List.mem_cons, List.not_mem_nil, or_false] at hk
  refine ⟨fun hS => by have := h.own k hS; omega, fun hT => ?_⟩
  rcases hT with hT | hT <;> omega
theorem OkJ.stop {rs : List RuleT} {st : ByteArray} {ag : Option Addr} {cg : Nat} {w0 : World} {nb l : Nat} {rec : LoopState → Option Code → Loop} {total : Bool} {S : List Nat} {opn : List PT} {es : List (PT × Bool)} {W W' : World}
    (h : OkJ rs st ag cg w0 nb l rec total S opn es W) (ha : Apart [l, nb, nb + 1, w0.heap.size + 2] [l, nb, nb + 1, w0.heap.size + 2] W W') (h1 : one1 W' (w0.heap.size + 2) (.bool false) 4) (hl : W'.heap[l]? = some (.loop (rec .done (some .ret)))) (ht : total = false) : OkStop w0 l rec total W' ∧ Keeps S (TM w0.heap.size (nb + 2)) W W' := by
  have hlt : l < W.heap.size := (Array.getElem?_eq_some_iff.1 h.loop).1
  have hp := h.pos
  refine ⟨⟨ha.belowOf h.bel (fun k hk => by simp only [List.mem_cons, List.not_mem_nil, or_false] at hk; omega) h.bel.size, h1, hl, (ha.block _ (by omega) (by simp; omega)).trans h.defs, ht⟩, ?_⟩
  refine ha.keeps (fun k hk => ?_) (fun k hk => (h.own k hk).2) (fun k hk => by rcases hk with h | h <;> omega)
  simp only [List.mem_cons, List.not_mem_nil, or_false] at hk
  refine ⟨fun hS => by have := h.own k hS; omega, fun hT => ?_⟩
  rcases hT with hT | hT <;> omega
theorem Apart.more {L L' : List Nat} {w w' : World} (h : Apart L L w w') (hs : ∀ k ∈ L, k ∈ L') : Apart L' L' w w' := ⟨h.os, h.tape, h.output, h.size, fun k hk hn => h.block k hk (fun hm => hn (hs k hm)), fun _ h => .inl h⟩
theorem OkJ.stopAt {rs : List RuleT} {st : ByteArray} {ag : Option Addr} {cg : Nat} {w0 : World} {nb l : Nat} {rec : LoopState → Option Code → Loop} {total : Bool} {S : List Nat} {opn : List PT} {es : List (PT × Bool)} {W X : World}
    (h : OkJ rs st ag cg w0 nb l rec total S opn es W) (ha : Apart [l, nb, nb + 1] [l, nb, nb + 1] W X) (h1 : one1 X (w0.heap.size + 2) (.bool false) 4) (hl : X.heap[l]? = some (.loop (rec .busy none))) (ht : total = false) :
    (X.setCell ⟨w0.heap.size + 2, 0, none⟩ (.bool false)).heap[l]? = some (.loop (rec .busy none)) ∧ Keeps S (TM w0.heap.size (nb + 2)) W ((X.setCell ⟨w0.heap.size + 2, 0, none⟩ (.bool false)).putObj l (.loop (rec .done (some .ret)))) ∧ OkStop w0 l rec total ((X.setCell ⟨w0.heap.size + 2, 0, none⟩ (.bool false)).putObj l (.loop (rec .done (some .ret)))) := by
  have hp := h.pos
  have h2 := blk_set hl (p := ⟨w0.heap.size + 2, 0, none⟩) (by show l ≠ w0.heap.size + 2; omega) (.bool false)
  obtain ⟨q1, q2⟩ := h.stop (W' := (X.setCell ⟨w0.heap.size + 2, 0, none⟩ (.bool false)).putObj l (.loop (rec .done (some .ret)))) (((ha.more (by simp)).trans (Apart.set (b := w0.heap.size + 2) (by simp) 0 (.bool false))).trans (Apart.put (by simp) _)) ((h1.set (.bool false)).put (by omega) _) (World.putObj_heap_same (Array.getElem?_eq_some_iff.1 h2).1) ht
  exact ⟨h2, q2, q1⟩
set_option maxHeartbeats 4000000 in
theorem treeOk_any (st : ByteArray) (ag : Option Addr) (cg : Nat) (rs : List RuleT) (T : Tr) (v : Value) (w : World) (HR : RulesAt w ag rs) (hcg : rs.length ≤ cg) (HT : TrIn w 0 v T) (hz : T.sz ≤ 2000000) :
    Calls Tryd.prog 77 #[.agg #[.string st, .slice ag rs.length cg], v] w fun e w' => e = .returned (.bool (treeOkB st rs T)) ∧ Below w.heap.size w w' := by
  obtain ⟨s, r, ks, a, cap, rfl, hTe, hs, hr, hn, hc, _⟩ := HT.open
  have hb2 := (((Below.refl w.heap.size w).alloc (Nat.le_refl _) (.cells #[.string st, .slice ag rs.length cg] 64)).alloc (by simp) (.cells #[.string s, .int .i64 r, .slice a ks.length cap] 29)).alloc (by simp; omega) (.cells #[.bool false] 4)
  have hG2 : GB2 (((w.alloc (.cells #[.string st, .slice ag rs.length cg] 64)).alloc (.cells #[.string s, .int .i64 r, .slice a ks.length cap] 29)).alloc (.cells #[.bool false] 4)) w.heap.size (.string st) (.slice ag rs.length cg) := (blk_old _ _ (by simp; omega)).trans ((blk_old _ _ (by simp)).trans (blk_new _ _ rfl))
  have hT2 : BoxT (((w.alloc (.cells #[.string st, .slice ag rs.length cg] 64)).alloc (.cells #[.string s, .int .i64 r, .slice a ks.length cap] 29)).alloc (.cells #[.bool false] 4)) (w.heap.size + 1) (.string s) (.int .i64 r) (.slice a ks.length cap) := (blk_old _ _ (by simp)).trans (blk_new _ _ (by simp))
  have hF2 : one1 (((w.alloc (.cells #[.string st, .slice ag rs.length cg] 64)).alloc (.cells #[.string s, .int .i64 r, .slice a ks.length cap] 29)).alloc (.cells #[.bool false] 4)) (w.heap.size + 2) (.bool false) 4 := blk_new _ _ (by simp)
  have HR2 := HR.below hb2 (Nat.le_refl _)
  obtain ⟨g0, g1⟩ := hG2.cells
  refine (callsIn_wide (n := 3)).1 ?_
  refine callsIn_of_wp_marks Tryd.func77 rfl trivial ?_ rfl
  simp only [Tryd.ntmps77, List.size_toArray, List.length_cons, List.length_nil, Nat.reduceAdd, Nat.reduceSub, Array.replicate_succ, Array.replicate_zero, List.push_toArray, List.append_toArray, List.nil_append, List.cons_append]
  gi_wp2
  refine ⟨trivial, (callsIn_wide.2 (gramOk_any st ag cg rs _ HR2 hcg)).mono ?_⟩
  rintro e w3 ⟨rfl, hb3⟩
  have hG3 : GB2 w3 w.heap.size (.string st) (.slice ag rs.length cg) := (hb3.block _ hG2.lt).trans hG2
  have hT3 := hT2.below hb3
  have hF3 := hF2.below hb3
  have hB3 := hb2.trans (hb3.mono hb2.size)
  have hz3 : w.heap.size + 3 ≤ w3.heap.size := by have := hb3.size; simp at this; omega
  clear hb2 hG2 hT2 hF2 HR2 g0 g1 hb3
  obtain ⟨r0, r1⟩ := hF3.cell
  cases hok : gramOkB st rs with
  | false =>
    have hF4 := hF3.set (.bool false)
    obtain ⟨e0, _⟩ := hF4.cell
    have hB4 := hB3.setCell (p := ⟨w.heap.size + 2, 0, none⟩) (by show w.heap.size ≤ w.heap.size + 2; omega) (.bool false)
    gi_wp2
    refine ⟨.bool false, ?_, ?_⟩
    · simp [results, Tryd.results77, go_sem, e0]
    · exact ⟨ret_b (by unfold treeOkB; rw [hok]; rfl), hB4⟩
  | true =>
    have hB4 := (hB3.alloc hB3.size (.cells #[.int .i64 0] 3)).alloc (by have := hB3.size; simp; omega) (.cells #[.int .i64 0] 3)
    have hT4 := (hT3.below ((Below.refl _ _).alloc (Nat.le_refl _) (.cells #[.int .i64 0] 3))).below ((Below.refl _ _).alloc (Nat.le_refl _) (.cells #[.int .i64 0] 3))
    obtain ⟨o0, o1, o2, of0, of1, of2⟩ := hT4.cells
    gi_wp2
    refine ⟨trivial, (callsIn_wide.2 (walk_any s r _ _)).mono ?_⟩
    rintro e w5 ⟨rfl, rfl⟩
    clear o0 o1 o2 of0 of1 of2
    gi_wp2
    refine wpIn_rangeFunc_open rfl (by omega) rfl trivial (enters_of Tryd.func99 (by kernel_rfl) rfl) ?_
    intro fn hfn
    simp only [World.size_alloc, Nat.add_assoc, Nat.reduceAdd]
    generalize hrec : recOf fn _ _ _ _ _ = rec
    obtain ⟨t0, ht1, ht2, ht3, ht4⟩ := HT.root (w' := ((((w3.alloc (.cells #[.int .i64 0] 3)).alloc (.cells #[.int .i64 0] 3)).alloc (.cells #[.string s, .int .i64 r, .slice a ks.length cap] 29)).alloc (.deferred (some []))).alloc (.loop (rec .ready none))) (tb := w3.heap.size + 2)
      (fun g hg => by
        have h1 : g < w3.heap.size := by omega
        rw [blk_old _ _ (by simp; omega), blk_old _ _ (by simp; omega), blk_old _ _ (by simp; omega), blk_old _ _ (by simp; omega), blk_old _ _ h1]
        exact hB3.block g hg)
      (by rw [cell_of_block ((blk_old _ _ (by simp)).trans ((blk_old _ _ (by simp)).trans (blk_new _ _ (by simp))))]; rfl)
      (by rw [cell_of_block ((blk_old _ _ (by simp)).trans ((blk_old _ _ (by simp)).trans (blk_new _ _ (by simp))))]; rfl)
      (by rw [cell_of_block ((blk_old _ _ (by simp)).trans ((blk_old _ _ (by simp)).trans (blk_new _ _ (by simp))))]; rfl)
    have htot := okRun_all rs t0
    rw [ht3] at htot
    have hfinal : treeOkB st rs T = okRun rs 0 0 t0.evs := by rw [htot]; unfold treeOkB; rw [hok]; rfl
    refine (walk1_in 2 (w3.heap.size + 4) (w3.heap.size + 2) (TM w.heap.size (w3.heap.size + 2)) t0 (OkJ rs st ag cg w w3.heap.size (w3.heap.size + 4) rec (okRun rs 0 0 t0.evs)) (OkStop w (w3.heap.size + 4) rec (okRun rs 0 0 t0.evs)) (by unfold PT.sz; rw [ht3]; exact hz) ht1 ht2 ?l1 ?l2 ?l3 _ (fun k hk => by simp; rcases hk with h | h <;> omega) ?l4 (ht4.stay (fun _ _ => rfl) (fun g hg => by rcases hg with h | h; exact .inl h.2; exact .inr h))).mono ?_
    case l1 => exact fun S S' o es W W' h ha _ => h.apart ha
    case l4 =>
      refine ⟨?_, ?_, ?_, ⟨0, by omega, Nat.le_refl _, ?_, ?_, rfl⟩, blk_new _ _ (by simp), (blk_old _ _ (by simp)).trans (blk_new _ _ (by simp)), by omega, fun k h => by cases h⟩
      · exact (((hB4.alloc (by have := hB3.size; simp; omega) _).alloc (by have := hB3.size; simp; omega) _).alloc (by have := hB3.size; simp; omega) _)
      · exact (blk_old _ _ (by simp; omega)).trans ((blk_old _ _ (by simp; omega)).trans ((blk_old _ _ (by simp; omega)).trans ((blk_old _ _ (by simp; omega)).trans ((blk_old _ _ (by omega)).trans hG3))))
      · exact ((((hF3.alloc _).alloc _).alloc _).alloc _).alloc _
      · exact ((((one1.alloc (show one1 _ w3.heap.size _ _ from blk_new _ _ rfl) _).alloc _).alloc _).alloc _)
      · exact (((one1.alloc (show one1 _ (w3.heap.size + 1) _ _ from blk_new _ _ (by simp)) _).alloc _).alloc _)
    case l2 =>
      clear ht1 ht2 ht3 ht4 hB4 hT4 hB3 hG3 hT3 hF3 r0 r1 htot HT hz
      intro S opn es W t hJ hpt _
      generalize okRun rs 0 0 t0.evs = total at *
      obtain ⟨n, hn1, hn2, hn3, hn4, hn5⟩ := hJ.cnt
      have hp := hJ.pos
      have j3 := hJ.loop
      have hl := (Array.getElem?_eq_some_iff.1 j3).1
      have hg := hJ.g
      have hres := hJ.res
      have HJ := Lib.hid hJ
      rw [← hrec] at j3
      refine YieldAt.mono (R := fun e W' => ∃ j, e = .returned (.bool j.isNone) ∧ (Keeps S (TM w.heap.size (w3.heap.size + 2)) W W' ∧ ((j = none ∧ OkJ rs st ag cg w w3.heap.size (w3.heap.size + 4) rec total S (t :: opn) es W') ∨ (j = some Code.ret ∧ OkStop w (w3.heap.size + 4) rec total W')))) (yieldAt_open hfn j3 rfl ?_) ?_
      rotate_left
      · rintro e W' ⟨j, rfl, hk, ⟨rfl, h⟩ | ⟨rfl, h⟩⟩
        · exact ⟨hk, .inl ⟨rfl, h⟩⟩
        · exact ⟨hk, .inr ⟨rfl, h⟩⟩
      · rw [hrec] at j3 ⊢
        clear hrec
        gi_wp2
        refine ⟨j3, ?_⟩
        clear hJ
        have p1 := hn3.put (c := w3.heap.size + 4) (by omega) (.loop (rec .busy none))
        have p2 := hn4.put (c := w3.heap.size + 4) (by omega) (.loop (rec .busy none))
        have pl : (W.putObj (w3.heap.size + 4) (.loop (rec .busy none))).heap[w3.heap.size + 4]? = some (.loop (rec .busy none)) := World.putObj_heap_same hl
        have A1 : Apart [w3.heap.size + 4, w3.heap.size, w3.heap.size + 1] [w3.heap.size + 4, w3.heap.size, w3.heap.size + 1] W (W.putObj (w3.heap.size + 4) (.loop (rec .busy none))) := Apart.put (by simp) _
        generalize W.putObj (w3.heap.size + 4) (.loop (rec .busy none)) = W1 at *
        have q1 := p1.set (.int .i64 ((n : Int) + 1))
        have q2 := p2.other (c := w3.heap.size) (by omega) (.int .i64 ((n : Int) + 1))
        have ql := blk_set pl (p := ⟨w3.heap.size, 0, none⟩) (by show w3.heap.size + 4 ≠ w3.heap.size; omega) (.int .i64 ((n : Int) + 1))
        have A2 := A1.trans (Apart.set (b := w3.heap.size) (by simp) 0 (.int .i64 ((n : Int) + 1)))
        have s1 := q1.other (c := w3.heap.size + 1) (by omega) (.int .i64 ((opn.length : Int) + 1))
        have s2 := q2.set (.int .i64 ((opn.length : Int) + 1))
        have sl := blk_set ql (p := ⟨w3.heap.size + 1, 0, none⟩) (by show w3.heap.size + 4 ≠ w3.heap.size + 1; omega) (.int .i64 ((opn.length : Int) + 1))
        have A3 := A2.trans (Apart.set (b := w3.heap.size + 1) (by simp) 0 (.int .i64 ((opn.length : Int) + 1)))
        obtain ⟨c1, f1⟩ := p1.cell
        obtain ⟨c2, f2⟩ := q2.cell
        obtain ⟨c3, f3⟩ := s1.cell
        obtain ⟨c4, f4⟩ := s2.cell
        have hw1 : IntKind.i64.wrap ((n : Int) + 1) = (n : Int) + 1 := IntWalk.i64_in _ (by omega)
        have hw2 : IntKind.i64.wrap ((opn.length : Int) + 1) = (opn.length : Int) + 1 := IntWalk.i64_in _ (by omega)
        have hr3 : one1 ((W1.setCell ⟨w3.heap.size, 0, none⟩ (.int .i64 ((n : Int) + 1))).setCell ⟨w3.heap.size + 1, 0, none⟩ (.int .i64 ((opn.length : Int) + 1))) (w.heap.size + 2) (.bool false) 4 := (A3.block _ hres.lt (by simp; omega)).trans hres
        have hg3 : GB2 ((W1.setCell ⟨w3.heap.size, 0, none⟩ (.int .i64 ((n : Int) + 1))).setCell ⟨w3.heap.size + 1, 0, none⟩ (.int .i64 ((opn.length : Int) + 1))) w.heap.size (.string st) (.slice ag rs.length cg) := (A3.block _ hg.lt (by simp; omega)).trans hg
        obtain ⟨c5, f5⟩ := hr3.cell
        obtain ⟨g5, g6⟩ := hg3.cells
        have HA3 := Lib.hid A3
        have HSL := Lib.hid sl
        have HR3 := Lib.hid hr3
        have HS1 := Lib.hid s1
        have HS2 := Lib.hid s2
        have HN5 := Lib.hid hn5
        clear A1 A2 A3 sl ql pl s1 s2 q1 q2 p1 p2 hr3 hg3 hn3 hn4 hn5 hg hres j3
        by_cases h60 : (60 : Int) < (n : Int) + 1
        · gi_wp2
          refine ⟨trivial, ?_⟩
          gi_wp2
          obtain ⟨z1, z2, z3⟩ := HJ.out.stopAt HA3.out HR3.out HSL.out (by rw [← HN5.out, okRun, if_pos (.inl (by omega))])
          exact ⟨z1, z2, .inr ⟨rfl, z3⟩⟩
        · by_cases h20 : (20 : Int) < (opn.length : Int) + 1
          · gi_wp2
            refine ⟨trivial, ?_⟩
            gi_wp2
            obtain ⟨z1, z2, z3⟩ := HJ.out.stopAt HA3.out HR3.out HSL.out (by rw [← HN5.out, okRun, if_pos (.inr (.inl (by omega)))])
            exact ⟨z1, z2, .inr ⟨rfl, z3⟩⟩
          · have hbel3 := HA3.out.belowOf HJ.out.bel (fun k hk => by simp only [List.mem_cons, List.not_mem_nil, or_false] at hk; omega) HJ.out.bel.size
            have hl3 : w3.heap.size + 4 < ((W1.setCell ⟨w3.heap.size, 0, none⟩ (.int .i64 ((n : Int) + 1))).setCell ⟨w3.heap.size + 1, 0, none⟩ (.int .i64 ((opn.length : Int) + 1))).heap.size := (Array.getElem?_eq_some_iff.1 HSL.out).1
            have hcall := nodeOk_any st ag cg rs t (TM w.heap.size (w3.heap.size + 2)) _ (HR.below hbel3 (Nat.le_refl _)) (hpt.stay (fun k hk => HA3.out.block k (by rcases hk with h | h <;> omega) (by simp only [List.mem_cons, List.not_mem_nil, or_false]; rcases hk with h | h <;> omega)) (fun _ h => h)) (fun k hk => by rcases hk with h | h <;> omega)
            gi_wp2
            refine ⟨trivial, ((callsIn_wide.2 hcall).inRound _).mono ?_⟩
            rintro e W8 ⟨rfl, hb8⟩
            have A8 := HA3.out.trans (Apart.below hb8)
            have hr8 := HR3.out.below hb8
            have n8 := HS1.out.below hb8
            have d8 := HS2.out.below hb8
            have l8 := (hb8.block _ hl3).trans HSL.out
            obtain ⟨c8, f8⟩ := hr8.cell
            have HA8 := Lib.hid A8
            clear A8 hcall hb8 c1 c2 c3 c4 c5 f1 f2 f3 f4 f5 g5 g6
            cases hnb : nodeB rs t.tr with
            | false =>
              gi_wp2
              obtain ⟨z1, z2, z3⟩ := HJ.out.stopAt HA8.out hr8 l8 (by rw [← HN5.out, okRun, if_pos (.inr (.inr hnb))])
              exact ⟨z1, z2, .inr ⟨rfl, z3⟩⟩
            | true =>
              gi_wp2
              have hl8 := (Array.getElem?_eq_some_iff.1 l8).1
              have A9 := HA8.out.trans (Apart.put (b := w3.heap.size + 4) (by simp) (.loop (rec .ready none)))
              refine ⟨l8, HJ.out.keeps A9, .inl ⟨rfl, HJ.out.upd A9 (n + 1) (by omega) (by simpa using hn2) ?_ ?_ ?_ (World.putObj_heap_same hl8)⟩⟩
              · rw [show ((n + 1 : Nat) : Int) = (n : Int) + 1 from by omega]; exact n8.put (by omega) _
              · rw [show (((t :: opn).length : Nat) : Int) = (opn.length : Int) + 1 from by simp]; exact d8.put (by omega) _
              · rw [← HN5.out, okRun, if_neg (by rintro (h | h | h); omega; omega; rw [hnb] at h; cases h)]; rfl
    case l3 =>
      clear ht1 ht2 ht3 ht4 hB4 hT4 hB3 hG3 hT3 hF3 r0 r1 htot HT hz
      intro S opn es W t hJ hpt
      generalize okRun rs 0 0 t0.evs = total at *
      obtain ⟨n, hn1, hn2, hn3, hn4, hn5⟩ := hJ.cnt
      have hp := hJ.pos
      have j3 := hJ.loop
      have hl := (Array.getElem?_eq_some_iff.1 j3).1
      have HJ := Lib.hid hJ
      rw [← hrec] at j3
      rw [List.length_cons] at hn2 hn4 hn5
      refine YieldAt.mono (R := fun e W' => ∃ j, e = .returned (.bool j.isNone) ∧ (j = none ∧ Keeps S (TM w.heap.size (w3.heap.size + 2)) W W' ∧ OkJ rs st ag cg w w3.heap.size (w3.heap.size + 4) rec total S opn es W')) (yieldAt_open hfn j3 rfl ?_) ?_
      rotate_left
      · rintro e W' ⟨j, rfl, rfl, hk, h⟩
        exact ⟨hk, .inl ⟨rfl, h⟩⟩
      · rw [hrec] at j3 ⊢
        clear hrec
        gi_wp2
        refine ⟨j3, ?_⟩
        clear hJ
        have p1 := hn3.put (c := w3.heap.size + 4) (by omega) (.loop (rec .busy none))
        have p2 := hn4.put (c := w3.heap.size + 4) (by omega) (.loop (rec .busy none))
        have pl : (W.putObj (w3.heap.size + 4) (.loop (rec .busy none))).heap[w3.heap.size + 4]? = some (.loop (rec .busy none)) := World.putObj_heap_same hl
        have A1 : Apart [w3.heap.size + 4, w3.heap.size, w3.heap.size + 1] [w3.heap.size + 4, w3.heap.size, w3.heap.size + 1] W (W.putObj (w3.heap.size + 4) (.loop (rec .busy none))) := Apart.put (by simp) _
        generalize W.putObj (w3.heap.size + 4) (.loop (rec .busy none)) = W1 at *
        have s1 := p1.other (c := w3.heap.size + 1) (by omega) (.int .i64 (opn.length : Int))
        have s2 := p2.set (.int .i64 (opn.length : Int))
        have sl := blk_set pl (p := ⟨w3.heap.size + 1, 0, none⟩) (by show w3.heap.size + 4 ≠ w3.heap.size + 1; omega) (.int .i64 (opn.length : Int))
        have A3 := A1.trans (Apart.set (b := w3.heap.size + 1) (by simp) 0 (.int .i64 (opn.length : Int)))
        obtain ⟨c2, f2⟩ := p2.cell
        have hw2 : IntKind.i64.wrap (((opn.length + 1 : Nat) : Int) - 1) = (opn.length : Int) := by rw [show ((opn.length + 1 : Nat) : Int) - 1 = (opn.length : Int) from by omega]; exact IntWalk.i64_in _ (by omega)
        have HA3 := Lib.hid A3
        have HSL := Lib.hid sl
        have HS1 := Lib.hid s1
        have HS2 := Lib.hid s2
        have HN5 := Lib.hid hn5
        clear A1 A3 sl pl s1 s2 p1 p2 hn3 hn4 hn5 j3
        gi_wp2
        have hl8 := (Array.getElem?_eq_some_iff.1 HSL.out).1
        have A9 := HA3.out.trans (Apart.put (b := w3.heap.size + 4) (by simp) (.loop (rec .ready none)))
        refine ⟨HSL.out, rfl, HJ.out.keeps A9, HJ.out.upd A9 n hn1 (by omega) (HS1.out.put (by omega) _) (HS2.out.put (by omega) _) ?_ (World.putObj_heap_same hl8)⟩
        rw [← HN5.out, okRun]; rfl
    rintro e W ⟨⟨v, rfl⟩, ⟨S, hJ⟩ | hS⟩
    · obtain ⟨n, _, _, _, _, hn5⟩ := hJ.cnt
      have hp := hJ.pos
      have hpos : okRun rs 0 0 t0.evs = true := by rw [← hn5]; rfl
      have q1 := hJ.res.put (c := w3.heap.size + 4) (by omega) (.loop (rec .exhausted none))
      have q4 : (W.putObj (w3.heap.size + 4) (.loop (rec .exhausted none))).heap[w3.heap.size + 3]? = some (.deferred (some [])) := (World.putObj_heap_other (by omega)).trans hJ.defs
      have q5 := Below.putObj hJ.bel (r := w3.heap.size + 4) (by omega) (.loop (rec .exhausted none))
      refine ⟨v, .ready, none, rfl, by simp, hJ.loop, ?_⟩
      unfold afterSeq
      clear hJ ht4
      generalize W.putObj (w3.heap.size + 4) (.loop (rec .exhausted none)) = W5 at *
      obtain ⟨c1, c2⟩ := q1.cell
      have q6 := (q1.set (.bool true)).put (c := w3.heap.size + 3) (by omega) (.deferred none)
      have q7 := blk_set q4 (p := ⟨w.heap.size + 2, 0, none⟩) (by show w3.heap.size + 3 ≠ w.heap.size + 2; omega) (.bool true)
      have q8 := q5.setCell (p := ⟨w.heap.size + 2, 0, none⟩) (by show w.heap.size ≤ w.heap.size + 2; omega) (.bool true)
      gi_wp2
      refine ⟨by simp, .inl ⟨_, _, rfl, run_takeDeferred q7, ?_⟩⟩
      refine ⟨.bool true, ?_, ?_⟩
      · obtain ⟨e0, _⟩ := q6.cell
        simp [results, Tryd.results77, go_sem, e0]
      · exact ⟨ret_b (by rw [hfinal, hpos]), Below.putObj q8 (by omega) _⟩
    · obtain ⟨h1, h2, h3, h4, h5⟩ := hS
      have q1 := h2.put (c := w3.heap.size + 4) (by omega) (.loop (rec .exhausted (some .ret)))
      have q4 : (W.putObj (w3.heap.size + 4) (.loop (rec .exhausted (some .ret)))).heap[w3.heap.size + 3]? = some (.deferred (some [])) := (World.putObj_heap_other (by omega)).trans h4
      have q5 := Below.putObj h1 (r := w3.heap.size + 4) (by omega) (.loop (rec .exhausted (some .ret)))
      refine ⟨v, .done, some .ret, rfl, by simp, h3, ?_⟩
      unfold afterSeq
      generalize W.putObj (w3.heap.size + 4) (.loop (rec .exhausted (some .ret))) = W5 at *
      have q6 := q1.put (c := w3.heap.size + 3) (by omega) (.deferred none)
      gi_wp2
      refine ⟨by simp, .inl ⟨_, _, rfl, run_takeDeferred q4, ?_⟩⟩
      refine ⟨.bool false, ?_, ?_⟩
      · obtain ⟨e0, _⟩ := q6.cell
        simp [results, Tryd.results77, go_sem, e0]
      · exact ⟨ret_b (by rw [hfinal, h5]), Below.putObj q5 (by omega) _⟩
end Go.Proofs.YtpkejcjjbkgomaaDoor
