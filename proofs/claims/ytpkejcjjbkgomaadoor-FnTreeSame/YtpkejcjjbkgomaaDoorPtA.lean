/- Trees with the places of their nodes in memory, and what a walk through one yields. -/
import Derived.Test.YtpkejcjjbkgomaaDoorTreB
namespace Go.Proofs.YtpkejcjjbkgomaaDoor
open Go.ChangeShapes Go.WideShapes Go.ChangeAt Go.RowKit Go.Deep
set_option maxRecDepth 100000
/-- a tree, each node with the address of its three cells -/
inductive PT where
  | node (b o : Nat) (s : ByteArray) (r : Int) (ks : List PT) : PT
def PT.b : PT → Nat | .node b _ _ _ _ => b
def PT.o : PT → Nat | .node _ o _ _ _ => o
def PT.s : PT → ByteArray | .node _ _ s _ _ => s
def PT.r : PT → Int | .node _ _ _ r _ => r
def PT.ks : PT → List PT | .node _ _ _ _ ks => ks
def PT.tr : PT → Tr
  | .node _ _ s r ks => .node s r (ks.map PT.tr)
def PT.evs : PT → List (PT × Bool)
  | .node b o s r ks => (.node b o s r ks, true) :: (ks.flatMap PT.evs ++ [(.node b o s r ks, false)])
theorem PT.eta (t : PT) : t = .node t.b t.o t.s t.r t.ks := by cases t; rfl
theorem PT.tr_eq (t : PT) : t.tr = .node t.s t.r (t.ks.map PT.tr) := by cases t; rw [PT.tr]; rfl
theorem PT.evs_eq (t : PT) : t.evs = (t, true) :: (t.ks.flatMap PT.evs ++ [(t, false)]) := by cases t; rw [PT.evs]; rfl
/-- what is still to come, by the places of the stack, the top first -/
def rem : List (PT × Nat) → List (PT × Bool)
  | [] => []
  | (t, d) :: st => (t.ks.drop d).flatMap PT.evs ++ (t, false) :: rem st
theorem evs_rem (t : PT) : t.evs = (t, true) :: rem [(t, 0)] := by rw [t.evs_eq]; simp [rem]
theorem rem_done {t : PT} {d : Nat} {st : List (PT × Nat)} (h : d = t.ks.length) : rem ((t, d) :: st) = (t, false) :: rem st := by
  rw [rem, h, List.drop_length]; rfl
theorem rem_kid {t : PT} {d : Nat} {st : List (PT × Nat)} (h : d < t.ks.length) : rem ((t, d) :: st) = (t.ks[d], true) :: rem ((t.ks[d], 0) :: (t, d + 1) :: st) := by
  rw [rem, List.drop_eq_getElem_cons h, List.flatMap_cons, PT.evs_eq]
  simp [rem]
/-- the nodes of t lie in blocks of M -/
inductive PtIn (w : World) (M : Nat → Prop) : PT → Prop
  | node (b o : Nat) (s : ByteArray) (r : Int) (ks : List PT) (a : Option Addr) (cap : Nat) (hM : M b)
      (h0 : w.cell? ⟨b, o, none⟩ = some (.string s)) (h1 : w.cell? ⟨b, o + 1, none⟩ = some (.int .i64 r)) (h2 : w.cell? ⟨b, o + 2, none⟩ = some (.slice a ks.length cap))
      (hs : s.size ≤ maxLen) (hr : (Lit.int .i64 r).wf = true) (hn : ks.length ≤ maxLen) (hc : ks.length ≤ cap)
      (hk : ∀ i (h : i < ks.length), ∃ g off, a = some ⟨g, off, none⟩ ∧ ks[i].b = g ∧ ks[i].o = off + i * 3)
      (ht : ∀ i (h : i < ks.length), PtIn w M ks[i]) : PtIn w M (.node b o s r ks)
theorem PtIn.stay {w w' : World} {M M' : Nat → Prop} {t : PT} (h : PtIn w M t) (hb : ∀ g, M g → w'.heap[g]? = w.heap[g]?) (hM : ∀ g, M g → M' g) : PtIn w' M' t := by
  induction h with
  | node b o s r ks a cap m h0 h1 h2 hs hr hn hc hk _ ih =>
    have hh := hb b m
    exact .node b o s r ks a cap (hM b m) (by rw [cell_same hh, h0]) (by rw [cell_same hh, h1]) (by rw [cell_same hh, h2]) hs hr hn hc hk ih
/-- one node, opened -/
theorem PtIn.open {w : World} {M : Nat → Prop} {t : PT} (h : PtIn w M t) : ∃ a cap, M t.b ∧ w.cell? ⟨t.b, t.o, none⟩ = some (.string t.s) ∧ w.cell? ⟨t.b, t.o + 1, none⟩ = some (.int .i64 t.r) ∧ w.cell? ⟨t.b, t.o + 2, none⟩ = some (.slice a t.ks.length cap) ∧
    t.s.size ≤ maxLen ∧ (Lit.int .i64 t.r).wf = true ∧ t.ks.length ≤ maxLen ∧ t.ks.length ≤ cap ∧ (∀ i (h : i < t.ks.length), ∃ g off, a = some ⟨g, off, none⟩ ∧ t.ks[i].b = g ∧ t.ks[i].o = off + i * 3) ∧ ∀ i (h : i < t.ks.length), PtIn w M t.ks[i] := by
  cases h with
  | node b o s r ks a cap m h0 h1 h2 hs hr hn hc hk ht => exact ⟨a, cap, m, h0, h1, h2, hs, hr, hn, hc, hk, ht⟩
/-- the kids of a tree in memory, with their places -/
theorem KidsIn.pts {w : World} {B : Nat} {a : Option Addr} {ks : List Tr} (H : KidsIn w B a ks) (hp : ∀ i (h : i < ks.length) b o s r x, w.cell? ⟨b, o, none⟩ = some (.string s) → w.cell? ⟨b, o + 1, none⟩ = some (.int .i64 r) → w.cell? ⟨b, o + 2, none⟩ = some x → B ≤ b → b < w.heap.size → TrIn w B (.agg #[.string s, .int .i64 r, x]) ks[i] → ∃ t : PT, t.b = b ∧ t.o = o ∧ t.tr = ks[i] ∧ PtIn w (fun k => B ≤ k ∧ k < w.heap.size) t) :
    ∃ ps : List PT, ps.map PT.tr = ks ∧ (∀ i (h : i < ps.length), ∃ g off, a = some ⟨g, off, none⟩ ∧ ps[i].b = g ∧ ps[i].o = off + i * 3) ∧ ∀ i (h : i < ps.length), PtIn w (fun k => B ≤ k ∧ k < w.heap.size) ps[i] := by
  have each : ∀ i : Nat, ∃ t : PT, ∀ h : i < ks.length, (∃ g off, a = some ⟨g, off, none⟩ ∧ t.b = g ∧ t.o = off + i * 3) ∧ t.tr = ks[i] ∧ PtIn w (fun k => B ≤ k ∧ k < w.heap.size) t := by
    intro i
    by_cases hi : i < ks.length
    · obtain ⟨g, off, s, r, x, e, hB, hg, c0, c1, c2, ht⟩ := H i hi
      obtain ⟨t, e1, e2, e3, e4⟩ := hp i hi g (off + i * 3) s r x c0 c1 c2 hB hg ht
      exact ⟨t, fun _ => ⟨⟨g, off, e, e1, e2⟩, e3, e4⟩⟩
    · exact ⟨.node 0 0 ByteArray.empty 0 [], fun h => absurd h hi⟩
  obtain ⟨q, hq⟩ := Classical.axiomOfChoice each
  refine ⟨(List.range ks.length).map q, ?_, fun i hi => ?_, fun i hi => ?_⟩
  · apply List.ext_getElem (by simp)
    intro i h1 h2
    simpa using (hq i h2).2.1
  · have hi' : i < ks.length := by simpa using hi
    simpa using (hq i hi').1
  · have hi' : i < ks.length := by simpa using hi
    simpa using (hq i hi').2.2
theorem TrIn.pt {w : World} {B : Nat} (m : Nat) : ∀ {T : Tr}, T.sz ≤ m → ∀ b o s r x, w.cell? ⟨b, o, none⟩ = some (.string s) → w.cell? ⟨b, o + 1, none⟩ = some (.int .i64 r) → w.cell? ⟨b, o + 2, none⟩ = some x → B ≤ b → b < w.heap.size → TrIn w B (.agg #[.string s, .int .i64 r, x]) T →
    ∃ t : PT, t.b = b ∧ t.o = o ∧ t.tr = T ∧ PtIn w (fun k => B ≤ k ∧ k < w.heap.size) t := by
  induction m with
  | zero =>
    intro T hT
    cases T with
    | node s r ks => rw [Tr.sz] at hT; omega
  | succ m ih =>
    intro T hT b o s r x c0 c1 c2 hB hb h
    obtain ⟨s', r', ks, a, cap, e, rfl, hs, hr, hn, hc, HK⟩ := h.open
    simp only [Value.agg.injEq, Array.mk.injEq, List.cons.injEq, Value.string.injEq, Value.int.injEq, true_and, and_true] at e
    obtain ⟨rfl, rfl, rfl⟩ := e
    obtain ⟨ps, e1, e2, e3⟩ := HK.pts (fun i hi b o s2 r2 x d0 d1 d2 hB2 hb2 ht => ih (by have := Tr.sz_kid (s := s) (r := r) (List.getElem_mem hi); omega) b o s2 r2 x d0 d1 d2 hB2 hb2 ht)
    have hl : ps.length = ks.length := by rw [← e1]; simp
    refine ⟨.node b o s r ps, rfl, rfl, by rw [PT.tr, e1], .node b o s r ps a cap ⟨hB, hb⟩ c0 c1 (by rw [hl]; exact c2) hs hr (by omega) (by omega) e2 e3⟩
/-- a tree in memory whose root is laid into a new block -/
theorem TrIn.root {w w' : World} {B tb : Nat} {s : ByteArray} {r : Int} {x : Value} {T : Tr} (h : TrIn w B (.agg #[.string s, .int .i64 r, x]) T) (hb : ∀ g, g < w.heap.size → w'.heap[g]? = w.heap[g]?)
    (c0 : w'.cell? ⟨tb, 0, none⟩ = some (.string s)) (c1 : w'.cell? ⟨tb, 1, none⟩ = some (.int .i64 r)) (c2 : w'.cell? ⟨tb, 2, none⟩ = some x) :
    ∃ t : PT, t.b = tb ∧ t.o = 0 ∧ t.tr = T ∧ PtIn w' (fun b => (B ≤ b ∧ b < w.heap.size) ∨ b = tb) t := by
  obtain ⟨s', r', ks, a, cap, e, rfl, hs, hr, hn, hc, HK⟩ := h.open
  simp only [Value.agg.injEq, Array.mk.injEq, List.cons.injEq, Value.string.injEq, Value.int.injEq, true_and, and_true] at e
  obtain ⟨rfl, rfl, rfl⟩ := e
  obtain ⟨ps, e1, e2, e3⟩ := HK.pts (fun i hi b o s2 r2 x d0 d1 d2 hB2 hb2 ht => TrIn.pt _ (Nat.le_refl _) b o s2 r2 x d0 d1 d2 hB2 hb2 ht)
  have hl : ps.length = ks.length := by rw [← e1]; simp
  exact ⟨.node tb 0 s r ps, rfl, rfl, by rw [PT.tr, e1], .node tb 0 s r ps a cap (.inr rfl) c0 c1 (by rw [hl]; exact c2) hs hr (by omega) (by omega) e2 (fun i hi => (e3 i hi).stay (fun g hg => hb g hg.2) (fun g hg => .inl hg))⟩
def PT.sz (t : PT) : Nat := t.tr.sz
theorem PT.sz_kid {t k : PT} (h : k ∈ t.ks) : k.sz < t.sz := by
  unfold PT.sz
  rw [t.tr_eq]
  exact Tr.sz_kid (List.mem_map.2 ⟨k, h, rfl⟩)
theorem PT.sz_pos (t : PT) : 1 ≤ t.sz := by unfold PT.sz; rw [t.tr_eq, Tr.sz]; omega
theorem flat_len : ∀ (l : List PT), (∀ t ∈ l, t.evs.length = 2 * t.sz) → (l.flatMap PT.evs).length = 2 * ((l.map PT.tr).map Tr.sz).sum
  | [], _ => rfl
  | t :: l, h => by
    have h1 := flat_len l (fun x hx => h x (List.mem_cons_of_mem _ hx))
    have h2 := h t (List.mem_cons_self ..)
    simp only [List.flatMap_cons, List.length_append, List.map_cons, List.sum_cons, h1, h2, PT.sz]
    omega
theorem evs_len (m : Nat) : ∀ (t : PT), t.sz ≤ m → t.evs.length = 2 * t.sz := by
  induction m with
  | zero => intro t h; have := t.sz_pos; omega
  | succ m ih =>
    intro t h
    have hk := flat_len t.ks (fun k hk => ih k (by have := PT.sz_kid hk; omega))
    rw [t.evs_eq, List.length_cons, List.length_append, hk]
    unfold PT.sz
    rw [t.tr_eq, Tr.sz]
    simp
    omega
/-- two nodes at one place are one -/
theorem PtIn.det {w : World} {M : Nat → Prop} (m : Nat) : ∀ (t a : PT), t.sz ≤ m → PtIn w M t → PtIn w M a → t.b = a.b → t.o = a.o → t = a := by
  induction m with
  | zero => intro t a h; have := t.sz_pos; omega
  | succ m ih =>
    intro t a h ht ha hb ho
    obtain ⟨ka, kc, _, c0, c1, c2, _, _, _, _, hk, hkk⟩ := ht.open
    obtain ⟨ka', kc', _, d0, d1, d2, _, _, _, _, hk', hkk'⟩ := ha.open
    rw [hb, ho] at c0 c1 c2
    rw [c0] at d0
    rw [c1] at d1
    rw [c2] at d2
    simp only [Option.some.injEq, Value.string.injEq, Value.int.injEq, Value.slice.injEq, true_and] at d0 d1 d2
    have hks : t.ks = a.ks := by
      apply List.ext_getElem d2.2.1
      intro i h1 h2
      obtain ⟨g, off, e1, e2, e3⟩ := hk i h1
      obtain ⟨g', off', e1', e2', e3'⟩ := hk' i h2
      rw [d2.1, e1'] at e1
      simp only [Option.some.injEq, Addr.mk.injEq] at e1
      exact ih _ _ (by have := PT.sz_kid (List.getElem_mem h1); omega) (hkk i h1) (hkk' i h2) (by rw [e2, e2', e1.1]) (by rw [e3, e3', e1.2.1])
    rw [t.eta, a.eta, hb, ho, d0, d1, hks]
end Go.Proofs.YtpkejcjjbkgomaaDoor
