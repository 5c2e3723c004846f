/- The contract of the program's TreeSize. -/
import Derived.Test.YtngekjbdjnfhmaaDoorEndB
namespace Go.Proofs.YtngekjbdjnfhmaaDoor
open Go.ChangeShapes Go.WideShapes Go.ChangeAt Go.RowKit Go.Deep
attribute [local go_sem] Oper.semAt_some
set_option maxRecDepth 100000
def trues : List (PT × Bool) → Nat
  | [] => 0
  | (_, true) :: es => trues es + 1
  | (_, false) :: es => trues es
theorem trues_app : ∀ (a b : List (PT × Bool)), trues (a ++ b) = trues a + trues b
  | [], b => by simp [trues]
  | (_, true) :: a, b => by rw [List.cons_append, trues, trues, trues_app a b]; omega
  | (_, false) :: a, b => by rw [List.cons_append, trues, trues, trues_app a b]
theorem trues_kids : ∀ (l : List PT), (∀ t ∈ l, trues t.evs = t.sz) → trues (l.flatMap PT.evs) = szs l
  | [], _ => rfl
  | t :: l, h => by
    rw [List.flatMap_cons, trues_app, h t (List.mem_cons_self ..), trues_kids l (fun x hx => h x (List.mem_cons_of_mem _ hx))]
    simp [szs]
theorem sz_szs (t : PT) : t.sz = 1 + szs t.ks := by
  show t.tr.sz = _
  rw [t.tr_eq, Tr.sz, List.map_map]; rfl
theorem trues_evs (m : Nat) : ∀ (t : PT), t.sz ≤ m → trues t.evs = t.sz := by
  induction m with
  | zero => intro t h; have := t.sz_pos; omega
  | succ m ih =>
    intro t h
    have hk := trues_kids t.ks (fun k hk => ih k (by have := PT.sz_kid hk; omega))
    rw [t.evs_eq, trues, trues_app, hk, sz_szs t]
    simp [trues]
    omega
/-- what a taker of events with one cell nb holds; tb = nb + 1, the deferred's record nb + 2, the loop's nb + 3 -/
structure OneJ (w0 : World) (nb : Nat) (ty : TypeId) (rec : LoopState → Option Code → Loop) (St : List PT → List (PT × Bool) → Value → Prop) (S : List Nat) (opn : List PT) (es : List (PT × Bool)) (W : World) : Prop where
  bel : Below w0.heap.size w0 W
  cnt : ∃ v, one1 W nb v ty ∧ St opn es v
  loop : W.heap[nb + 3]? = some (.loop (rec .ready none))
  defs : W.heap[nb + 2]? = some (.deferred (some []))
  own : ∀ k ∈ S, nb + 3 < k ∧ k < W.heap.size
  low : w0.heap.size ≤ nb
theorem OneJ.apart {w0 : World} {nb : Nat} {ty : TypeId} {rec : LoopState → Option Code → Loop} {St : List PT → List (PT × Bool) → Value → Prop} {S S' : List Nat} {opn : List PT} {es : List (PT × Bool)} {W W' : World} (h : OneJ w0 nb ty rec St S opn es W) (ha : Apart S S' W W') : OneJ w0 nb ty rec St S' opn es W' := by
  have hl : nb + 3 < W.heap.size := (Array.getElem?_eq_some_iff.1 h.loop).1
  have hlow := h.low
  have same : ∀ k, k ≤ nb + 3 → W'.heap[k]? = W.heap[k]? := fun k hk => ha.block k (by omega) (fun hm => by have := h.own k hm; omega)
  obtain ⟨v, h1, h2⟩ := h.cnt
  refine ⟨ha.belowOf h.bel (fun k hk => by have := h.own k hk; omega) h.bel.size, ⟨v, (same _ (by omega)).trans h1, h2⟩, (same _ (by omega)).trans h.loop, (same _ (by omega)).trans h.defs, ?_, h.low⟩
  intro k hk
  rcases ha.own k hk with h' | h'
  · have := h.own k h'; have := ha.size; omega
  · omega
theorem OneJ.upd {w0 : World} {nb : Nat} {ty : TypeId} {rec : LoopState → Option Code → Loop} {St : List PT → List (PT × Bool) → Value → Prop} {S : List Nat} {opn opn' : List PT} {es es' : List (PT × Bool)} {W W' : World} (h : OneJ w0 nb ty rec St S opn es W) (ha : Apart [nb + 3, nb] [nb + 3, nb] W W') (v : Value) (h1 : one1 W' nb v ty) (h2 : St opn' es' v) (hl : W'.heap[nb + 3]? = some (.loop (rec .ready none))) :
    OneJ w0 nb ty rec St S opn' es' W' ∧ Keeps S (TM w0.heap.size (nb + 1)) W W' := by
  have hlt : nb + 3 < W.heap.size := (Array.getElem?_eq_some_iff.1 h.loop).1
  have hlow := h.low
  have same : ∀ k, k < W.heap.size → k ≠ nb + 3 → k ≠ nb → W'.heap[k]? = W.heap[k]? := fun k hk e1 e2 => ha.block k hk (by simp [e1, e2])
  refine ⟨⟨ha.belowOf h.bel (fun k hk => by simp only [List.mem_cons, List.not_mem_nil, or_false] at hk; omega) h.bel.size, ⟨v, h1, h2⟩, hl, (same _ (by omega) (by omega) (by omega)).trans h.defs, fun k hk => ⟨(h.own k hk).1, Nat.lt_of_lt_of_le (h.own k hk).2 ha.size⟩, h.low⟩, fun k hk => ?_, ha.size⟩
  rcases hk with hk | hk
  · have := h.own k hk; exact same k (by omega) (by omega) (by omega)
  · rcases hk with hk | hk <;> exact same k (by omega) (by omega) (by omega)
def SizSt (total : Nat) (_opn : List PT) (es : List (PT × Bool)) (v : Value) : Prop := ∃ n : Nat, v = .int .i64 (n : Int) ∧ n + trues es = total
end Go.Proofs.YtngekjbdjnfhmaaDoor
