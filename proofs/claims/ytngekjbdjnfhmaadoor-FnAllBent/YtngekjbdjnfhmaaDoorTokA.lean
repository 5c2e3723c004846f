/- The contract of the program's TreeOk. -/
import Derived.Test.YtngekjbdjnfhmaaDoorNodA
import Derived.Test.YtngekjbdjnfhmaaDoorWalkB
import Derived.Test.YtngekjbdjnfhmaaDoorOne
namespace Go.Proofs.YtngekjbdjnfhmaaDoor
open Go.ChangeShapes Go.WideShapes Go.ChangeAt Go.RowKit Go.Deep
attribute [local go_sem] Oper.semAt_some
set_option maxRecDepth 100000
theorem blk_set {w : World} {k : Nat} {o : Obj} (h : w.heap[k]? = some o) {p : Addr} (hp : k ≠ p.block) (u : Value) : (w.setCell p u).heap[k]? = some o := (Below.heap_setCell w p u k hp).trans h
theorem Apart.put {S : List Nat} {w : World} {b : Nat} (hb : b ∈ S) (o : Obj) : Apart S S w (w.putObj b o) :=
  ⟨rfl, rfl, rfl, by simp, fun k _ hS => World.putObj_heap_other (fun e => hS (e ▸ hb)), fun _ h => .inl h⟩
theorem Apart.below {S : List Nat} {w w' : World} (h : Below w.heap.size w w') : Apart S S w w' :=
  ⟨h.os, h.tape, h.output, h.size, fun k hk _ => h.block k hk, fun _ h => .inl h⟩
theorem Apart.fresh {S : List Nat} (w : World) (o : Obj) : Apart S S w (w.alloc o) := Apart.below ((Below.refl _ _).alloc (Nat.le_refl _) o)
theorem Apart.belowOf {S S' : List Nat} {B : Nat} {a w w' : World} (h : Apart S S' w w') (hb : Below B a w) (hS : ∀ k ∈ S, B ≤ k) (hB : B ≤ w.heap.size) : Below B a w' :=
  hb.trans ⟨h.os, h.tape, h.output, h.size, fun k hk => h.block k (by omega) (fun hm => by have := hS k hm; omega)⟩
theorem Apart.keeps {S L : List Nat} {B0 tb : Nat} {w w' : World} (h : Apart L L w w') (h1 : ∀ k ∈ L, k ∉ S ∧ ¬ TM B0 tb k) (hS : ∀ k ∈ S, k < w.heap.size) (hT : ∀ k, TM B0 tb k → k < w.heap.size) : Keeps S (TM B0 tb) w w' :=
  ⟨fun k hk => h.block k (by rcases hk with h | h; exact hS k h; exact hT k h) (fun hm => by rcases hk with h | h; exact (h1 k hm).1 h; exact (h1 k hm).2 h), h.size⟩
/-- what TreeOk holds between two events -/
structure OkJ (rs : List RuleT) (st : ByteArray) (ag : Option Addr) (cg : Nat) (w0 : World) (nb l : Nat) (rec : LoopState → Option Code → Loop) (total : Bool) (S : List Nat) (opn : List PT) (es : List (PT × Bool)) (W : World) : Prop where
  bel : Below w0.heap.size w0 W
  g : GB2 W w0.heap.size (.string st) (.slice ag rs.length cg)
  res : one1 W (w0.heap.size + 2) (.bool false) 4
  cnt : ∃ n : Nat, n ≤ 60 ∧ opn.length ≤ n ∧ one1 W nb (.int .i64 (n : Int)) 3 ∧ one1 W (nb + 1) (.int .i64 (opn.length : Int)) 3 ∧ okRun rs n opn.length es = total
  loop : W.heap[l]? = some (.loop (rec .ready none))
  defs : W.heap[l - 1]? = some (.deferred (some []))
  pos : w0.heap.size + 2 < nb ∧ nb + 2 < l - 1
  own : ∀ k ∈ S, l < k ∧ k < W.heap.size
theorem OkJ.apart {rs : List RuleT} {st : ByteArray} {ag : Option Addr} {cg : Nat} {w0 : World} {nb l : Nat} {rec : LoopState → Option Code → Loop} {total : Bool} {S S' : List Nat} {opn : List PT} {es : List (PT × Bool)} {W W' : World}
    (h : OkJ rs st ag cg w0 nb l rec total S opn es W) (ha : Apart S S' W W') : OkJ rs st ag cg w0 nb l rec total S' opn es W' := by
  have hl : l < W.heap.size := (Array.getElem?_eq_some_iff.1 h.loop).1
  have hp := h.pos
  have same : ∀ k, k ≤ l → W'.heap[k]? = W.heap[k]? := fun k hk => ha.block k (by omega) (fun hm => by have := h.own k hm; omega)
  obtain ⟨n, h1, h2, h3, h4, h5⟩ := h.cnt
  refine ⟨ha.belowOf h.bel (fun k hk => by have := h.own k hk; omega) h.bel.size, (same _ (by omega)).trans h.g, (same _ (by omega)).trans h.res, ⟨n, h1, h2, (same _ (by omega)).trans h3, (same _ (by omega)).trans h4, h5⟩, (same _ (by omega)).trans h.loop, (same _ (by omega)).trans h.defs, h.pos, ?_⟩
  intro k hk
  rcases ha.own k hk with h' | h'
  · have := h.own k h'; have := ha.size; omega
  · omega
def OkStop (w0 : World) (l : Nat) (rec : LoopState → Option Code → Loop) (total : Bool) (W : World) : Prop := Below w0.heap.size w0 W ∧ one1 W (w0.heap.size + 2) (.bool false) 4 ∧ W.heap[l]? = some (.loop (rec .done (some .ret))) ∧ W.heap[l - 1]? = some (.deferred (some [])) ∧ total = false
theorem OkJ.upd {rs : List RuleT} {st : ByteArray} {ag : Option Addr} {cg : Nat} {w0 : World} {nb l : Nat} {rec : LoopState → Option Code → Loop} {total : Bool} {S : List Nat} {opn opn' : List PT} {es es' : List (PT × Bool)} {W W' : World}
    (h : OkJ rs st ag cg w0 nb l rec total S opn es W) (ha : Apart [l, nb, nb + 1] [l, nb, nb + 1] W W') (n : Nat) (h1 : n ≤ 60) (h2 : opn'.length ≤ n) (h3 : one1 W' nb (.int .i64 (n : Int)) 3) (h4 : one1 W' (nb + 1) (.int .i64 (opn'.length : Int)) 3) (h5 : okRun rs n opn'.length es' = total) (hl : W'.heap[l]? = some (.loop (rec .ready none))) :
    OkJ rs st ag cg w0 nb l rec total S opn' es' W' := by
  have hlt : l < W.heap.size := (Array.getElem?_eq_some_iff.1 h.loop).1
  have hp := h.pos
  have same : ∀ k, k < W.heap.size → k ≠ l → k ≠ nb → k ≠ nb + 1 → W'.heap[k]? = W.heap[k]? := fun k hk e1 e2 e3 => ha.block k hk (by simp [e1, e2, e3])
  exact ⟨ha.belowOf h.bel (fun k hk => by simp only [List.mem_cons, List.not_mem_nil, or_false] at hk; omega) h.bel.size, (same _ (by omega) (by omega) (by omega) (by omega)).trans h.g, (same _ (by omega) (by omega) (by omega) (by omega)).trans h.res, ⟨n, h1, h2, h3, h4, h5⟩, hl, (same _ (by omega) (by omega) (by omega) (by omega)).trans h.defs, h.pos, fun k hk => ⟨(h.own k hk).1, Nat.lt_of_lt_of_le (h.own k hk).2 ha.size⟩⟩
theorem OkJ.keeps {rs : List RuleT} {st : ByteArray} {ag : Option Addr} {cg : Nat} {w0 : World} {nb l : Nat} {rec : LoopState → Option Code → Loop} {total : Bool} {S : List Nat} {opn : List PT} {es : List (PT × Bool)} {W W' : World}
    (h : OkJ rs st ag cg w0 nb l rec total S opn es W) (ha : Apart [l, nb, nb + 1] [l, nb, nb + 1] W W') : Keeps S (TM w0.heap.size (nb + 2)) W W' := by
  have hlt : l < W.heap.size := (Array.getElem?_eq_some_iff.1 h.loop).1
  have hp := h.pos
  refine ha.keeps (fun k hk => ?_) (fun k hk => (h.own k hk).2) (fun k hk => by rcases hk with h | h <;> omega)
  simp only [List.mem_cons, List.not_mem_nil, or_false] at hk
  refine ⟨fun hS => by have := h.own k hS; omega, fun hT => ?_⟩
  rcases hT with hT | hT <;> omega
theorem OkJ.stop {rs : List RuleT} {st : ByteArray} {ag : Option Addr} {cg : Nat} {w0 : World} {nb l : Nat} {rec : LoopState → Option Code → Loop} {total : Bool} {S : List Nat} {opn : List PT} {es : List (PT × Bool)} {W W' : World}
    (h : OkJ rs st ag cg w0 nb l rec total S opn es W) (ha : Apart [l, nb, nb + 1, w0.heap.size + 2] [l, nb, nb + 1, w0.heap.size + 2] W W') (h1 : one1 W' (w0.heap.size + 2) (.bool false) 4) (hl : W'.heap[l]? = some (.loop (rec .done (some .ret)))) (ht : total = false) : OkStop w0 l rec total W' ∧ Keeps S (TM w0.heap.size (nb + 2)) W W' := by
  have hlt : l < W.heap.size := (Array.getElem?_eq_some_iff.1 h.loop).1
  have hp := h.pos
  refine ⟨⟨ha.belowOf h.bel (fun k hk => by simp only [List.mem_cons, List.not_mem_nil, or_false] at hk; omega) h.bel.size, h1, hl, (ha.block _ (by omega) (by simp; omega)).trans h.defs, ht⟩, ?_⟩
  refine ha.keeps (fun k hk => ?_) (fun k hk => (h.own k hk).2) (fun k hk => by rcases hk with h | h <;> omega)
  simp only [List.mem_cons, List.not_mem_nil, or_false] at hk
  refine ⟨fun hS => by have := h.own k hS; omega, fun hT => ?_⟩
  rcases hT with hT | hT <;> omega
theorem Apart.more {L L' : List Nat} {w w' : World} (h : Apart L L w w') (hs : ∀ k ∈ L, k ∈ L') : Apart L' L' w w' := ⟨h.os, h.tape, h.output, h.size, fun k hk hn => h.block k hk (fun hm => hn (hs k hm)), fun _ h => .inl h⟩
theorem OkJ.stopAt {rs : List RuleT} {st : ByteArray} {ag : Option Addr} {cg : Nat} {w0 : World} {nb l : Nat} {rec : LoopState → Option Code → Loop} {total : Bool} {S : List Nat} {opn : List PT} {es : List (PT × Bool)} {W X : World}
    (h : OkJ rs st ag cg w0 nb l rec total S opn es W) (ha : Apart [l, nb, nb + 1] [l, nb, nb + 1] W X) (h1 : one1 X (w0.heap.size + 2) (.bool false) 4) (hl : X.heap[l]? = some (.loop (rec .busy none))) (ht : total = false) :
    (X.setCell ⟨w0.heap.size + 2, 0, none⟩ (.bool false)).heap[l]? = some (.loop (rec .busy none)) ∧ Keeps S (TM w0.heap.size (nb + 2)) W ((X.setCell ⟨w0.heap.size + 2, 0, none⟩ (.bool false)).putObj l (.loop (rec .done (some .ret)))) ∧ OkStop w0 l rec total ((X.setCell ⟨w0.heap.size + 2, 0, none⟩ (.bool false)).putObj l (.loop (rec .done (some .ret)))) := by
  have hp := h.pos
  have h2 := blk_set hl (p := ⟨w0.heap.size + 2, 0, none⟩) (by show l ≠ w0.heap.size + 2; omega) (.bool false)
  obtain ⟨q1, q2⟩ := h.stop (W' := (X.setCell ⟨w0.heap.size + 2, 0, none⟩ (.bool false)).putObj l (.loop (rec .done (some .ret)))) (((ha.more (by simp)).trans (Apart.set (b := w0.heap.size + 2) (by simp) 0 (.bool false))).trans (Apart.put (by simp) _)) ((h1.set (.bool false)).put (by omega) _) (World.putObj_heap_same (Array.getElem?_eq_some_iff.1 h2).1) ht
  exact ⟨h2, q2, q1⟩
end Go.Proofs.YtngekjbdjnfhmaaDoor
