/- Maps keyed by pointers to nodes; a tree made in plain memory. -/
import Derived.Test.YtngekjbdjnfhmaaDoorTokA
import Derived.LaidEql
import Derived.MapKept
namespace Go.Proofs.YtngekjbdjnfhmaaDoor
open Go.ChangeShapes Go.WideShapes Go.ChangeAt Go.RowKit Go.Deep
set_option maxRecDepth 100000
def PlainB (w : World) (k : Nat) : Prop := ∃ c t, w.heap[k]? = some (.cells c t (0, 0))
theorem PlainB.of_block {w w' : World} {k : Nat} (h : PlainB w k) (e : w'.heap[k]? = w.heap[k]?) : PlainB w' k := by
  obtain ⟨c, t, h⟩ := h
  exact ⟨c, t, e.trans h⟩
/-- a tree in plain memory, all in blocks of A -/
def TrQ (w : World) (A : Nat → Prop) (v : Value) (T : Tr) : Prop := ∃ (s : ByteArray) (r : Int) (ps : List PT) (a : Option Addr) (cap : Nat) (M : Nat → Prop), v = .agg #[.string s, .int .i64 r, .slice a ps.length cap] ∧ T = .node s r (ps.map PT.tr) ∧ s.size ≤ maxLen ∧ (Lit.int .i64 r).wf = true ∧ ps.length ≤ maxLen ∧ ps.length ≤ cap ∧
  (∀ i (h : i < ps.length), ∃ g off, a = some ⟨g, off, none⟩ ∧ ps[i].b = g ∧ ps[i].o = off + i * 3) ∧ (∀ i (h : i < ps.length), PtIn w M ps[i]) ∧ ∀ k, M k → A k ∧ PlainB w k
/-- the same, from the block B on -/
def TrP (w : World) (B : Nat) (v : Value) (T : Tr) : Prop := TrQ w (fun k => B ≤ k) v T
theorem PlainB.lt {w : World} {k : Nat} (h : PlainB w k) : k < w.heap.size := by
  obtain ⟨c, t, h⟩ := h
  exact (Array.getElem?_eq_some_iff.1 h).1
theorem TrQ.stay {w w' : World} {A : Nat → Prop} {v : Value} {T : Tr} (h : TrQ w A v T) (hb : ∀ k, A k → k < w.heap.size → w'.heap[k]? = w.heap[k]?) : TrQ w' A v T := by
  obtain ⟨s, r, ps, a, cap, M, e1, e2, h1, h2, h3, h4, h5, h6, h7⟩ := h
  have same : ∀ k, M k → w'.heap[k]? = w.heap[k]? := fun k hk => hb k (h7 k hk).1 (h7 k hk).2.lt
  exact ⟨s, r, ps, a, cap, M, e1, e2, h1, h2, h3, h4, h5, fun i hi => (h6 i hi).stay same (fun _ h => h), fun k hk => ⟨(h7 k hk).1, (h7 k hk).2.of_block (same k hk)⟩⟩
theorem TrQ.mono {w : World} {A A' : Nat → Prop} {v : Value} {T : Tr} (h : TrQ w A v T) (hA : ∀ k, A k → k < w.heap.size → A' k) : TrQ w A' v T := by
  obtain ⟨s, r, ps, a, cap, M, e1, e2, h1, h2, h3, h4, h5, h6, h7⟩ := h
  exact ⟨s, r, ps, a, cap, M, e1, e2, h1, h2, h3, h4, h5, h6, fun k hk => ⟨hA k (h7 k hk).1 (h7 k hk).2.lt, (h7 k hk).2⟩⟩
theorem TrP.stay {w w' : World} {B : Nat} {v : Value} {T : Tr} (h : TrP w B v T) (hb : ∀ k, B ≤ k → k < w.heap.size → w'.heap[k]? = w.heap[k]?) : TrP w' B v T := TrQ.stay h hb
theorem TrP.keep {w w' : World} {B : Nat} {v : Value} {T : Tr} (h : TrP w B v T) (hb : Below w.heap.size w w') : TrP w' B v T := h.stay fun k _ hk => hb.block k hk
theorem TrP.mono {w : World} {B B' : Nat} {v : Value} {T : Tr} (h : TrP w B v T) (hB : B' ≤ B) : TrP w B' v T := TrQ.mono h fun _ hk _ => Nat.le_trans hB hk
/-- a node with its place is a tree in memory -/
theorem PtIn.trIn {w : World} {M : Nat → Prop} {B : Nat} (hM : ∀ k, M k → B ≤ k ∧ k < w.heap.size) (m : Nat) : ∀ (t : PT), t.sz ≤ m → PtIn w M t → ∃ x, w.cell? ⟨t.b, t.o + 2, none⟩ = some x ∧ TrIn w B (.agg #[.string t.s, .int .i64 t.r, x]) t.tr := by
  induction m with
  | zero => intro t h; have := t.sz_pos; omega
  | succ m ih =>
    intro t h ht
    obtain ⟨a, cap, hb, c0, c1, c2, h1, h2, h3, h4, h5, h6⟩ := ht.open
    refine ⟨_, c2, ?_⟩
    rw [t.tr_eq]
    have hcl := TrIn.close (w := w) (B := B) (s := t.s) (r := t.r) (ks := t.ks.map PT.tr) (a := a) (cap := cap) h1 h2 (by simpa using h3) (by simpa using h4) (fun i hi => by
      have hi' : i < t.ks.length := by simpa using hi
      obtain ⟨g, off, e, eb, eo⟩ := h5 i hi'
      obtain ⟨x, d2, hx⟩ := ih t.ks[i] (by have := PT.sz_kid (List.getElem_mem hi'); omega) (h6 i hi')
      obtain ⟨_, _, hbk, d0, d1, _⟩ := (h6 i hi').open
      rw [eb, eo] at d0 d1 d2
      rw [eb] at hbk
      exact ⟨g, off, t.ks[i].s, t.ks[i].r, x, e, (hM _ hbk).1, (hM _ hbk).2, d0, d1, d2, by simpa using hx⟩)
    rw [List.length_map] at hcl
    exact hcl
theorem TrP.trB {w : World} {B : Nat} {v : Value} {T : Tr} (h : TrP w B v T) : TrIn w B v T := by
  obtain ⟨s, r, ps, a, cap, M, rfl, rfl, h1, h2, h3, h4, h5, h6, h7⟩ := h
  have hM : ∀ k, M k → B ≤ k ∧ k < w.heap.size := fun k hk => ⟨(h7 k hk).1, (h7 k hk).2.lt⟩
  have hcl := TrIn.close (w := w) (B := B) (s := s) (r := r) (ks := ps.map PT.tr) (a := a) (cap := cap) h1 h2 (by simpa using h3) (by simpa using h4) (fun i hi => by
    have hi' : i < ps.length := by simpa using hi
    obtain ⟨g, off, e, eb, eo⟩ := h5 i hi'
    obtain ⟨x, d2, hx⟩ := PtIn.trIn hM _ ps[i] (Nat.le_refl _) (h6 i hi')
    obtain ⟨_, _, hbk, d0, d1, _⟩ := (h6 i hi').open
    rw [eb, eo] at d0 d1 d2
    rw [eb] at hbk
    exact ⟨g, off, ps[i].s, ps[i].r, x, e, (hM _ hbk).1, (hM _ hbk).2, d0, d1, d2, by simpa using hx⟩)
  rw [List.length_map] at hcl
  exact hcl
theorem TrP.tr {w : World} {B : Nat} {v : Value} {T : Tr} (h : TrP w B v T) : TrIn w 0 v T := h.trB.mono (Nat.zero_le _)
theorem TrP.of_plain {w : World} {B : Nat} {v : Value} {T : Tr} (h : TrIn w B v T) (hp : PlainFrom B w) : TrP w B v T := by
  obtain ⟨s, r, ks, a, cap, rfl, rfl, hs, hr, hn, hc, HK⟩ := h.open
  obtain ⟨ps, e1, e2, e3⟩ := HK.pts (fun i hi b o s2 r2 x d0 d1 d2 hB2 hb2 ht => TrIn.pt _ (Nat.le_refl _) b o s2 r2 x d0 d1 d2 hB2 hb2 ht)
  have hl : ps.length = ks.length := by rw [← e1]; simp
  exact ⟨s, r, ps, a, cap, _, by rw [hl], by rw [e1], hs, hr, by omega, by omega, e2, e3, fun k hk => ⟨hk.1, hp k hk.1 hk.2⟩⟩
/-- the root laid into a new block -/
theorem TrP.root {w w' : World} {B tb : Nat} {s : ByteArray} {r : Int} {x : Value} {T : Tr} (h : TrP w B (.agg #[.string s, .int .i64 r, x]) T) (hb : ∀ g, g < w.heap.size → w'.heap[g]? = w.heap[g]?) (hbox : w'.heap[tb]? = some (.cells #[.string s, .int .i64 r, x] 56)) :
    ∃ (t : PT) (M : Nat → Prop), t.b = tb ∧ t.o = 0 ∧ t.tr = T ∧ PtIn w' M t ∧ (∀ k, M k → PlainB w' k) ∧ ∀ k, M k → k < w.heap.size ∨ k = tb := by
  obtain ⟨s', r', ps, a, cap, M, e, rfl, h1, h2, h3, h4, h5, h6, h7⟩ := h
  simp only [Value.agg.injEq, Array.mk.injEq, List.cons.injEq, Value.string.injEq, Value.int.injEq, true_and, and_true] at e
  obtain ⟨rfl, rfl, rfl⟩ := e
  have same : ∀ k, M k → w'.heap[k]? = w.heap[k]? := fun k hk => hb k (h7 k hk).2.lt
  refine ⟨.node tb 0 s r ps, fun k => M k ∨ k = tb, rfl, rfl, by rw [PT.tr], .node tb 0 s r ps a cap (.inr rfl) (by rw [cell_of_block hbox]; rfl) (by rw [cell_of_block hbox]; rfl) (by rw [cell_of_block hbox]; rfl) h1 h2 h3 h4 h5 (fun i hi => (h6 i hi).stay same (fun _ h => .inl h)), fun k hk => ?_, fun k hk => ?_⟩
  · rcases hk with hk | rfl
    · exact (h7 k hk).2.of_block (same k hk)
    · exact ⟨_, _, hbox⟩
  · rcases hk with hk | hk
    · exact .inl (h7 k hk).2.lt
    · exact .inr hk
end Go.Proofs.YtngekjbdjnfhmaaDoor
