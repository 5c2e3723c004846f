/- What the program's indexOf holds between two events. -/
import Derived.Test.YtpkejcjjbkgomaaDoorNuA
import Derived.Test.YtpkejcjjbkgomaaDoorEndB
import Derived.Test.YtpkejcjjbkgomaaDoorTokA
import Derived.Test.YtpkejcjjbkgomaaDoorShfI
namespace Go.Proofs.YtpkejcjjbkgomaaDoor
open Go.ChangeShapes Go.WideShapes Go.ChangeAt Go.RowKit Go.Deep
set_option maxRecDepth 100000
/-- a tree in plain memory whose root is laid into a new block -/
theorem TrQ.root {w w' : World} {A : Nat → Prop} {tb : Nat} {s : ByteArray} {r : Int} {x : Value} {T : Tr} (h : TrQ w A (.agg #[.string s, .int .i64 r, x]) T) (hb : ∀ g, A g → g < w.heap.size → w'.heap[g]? = w.heap[g]?)
    (c0 : w'.cell? ⟨tb, 0, none⟩ = some (.string s)) (c1 : w'.cell? ⟨tb, 1, none⟩ = some (.int .i64 r)) (c2 : w'.cell? ⟨tb, 2, none⟩ = some x) :
    ∃ t : PT, t.b = tb ∧ t.o = 0 ∧ t.tr = T ∧ PtIn w' (fun k => (A k ∧ k < w.heap.size) ∨ k = tb) t := by
  obtain ⟨s', r', ps, a, cap, M, e, rfl, hs, hr, hn, hc, hk, hp, hM⟩ := h
  simp only [Value.agg.injEq, Array.mk.injEq, List.cons.injEq, Value.string.injEq, Value.int.injEq, true_and, and_true] at e
  obtain ⟨rfl, rfl, rfl⟩ := e
  exact ⟨.node tb 0 s r ps, rfl, rfl, by rw [PT.tr], .node tb 0 s r ps a cap (.inr rfl) c0 c1 c2 hs hr hn hc hk (fun i hi => (hp i hi).stay (fun g hg => hb g (hM g hg).1 (hM g hg).2.lt) (fun g hg => .inl ⟨(hM g hg).1, (hM g hg).2.lt⟩))⟩
def rowJ (js : List Nat) : List Value := js.map fun j => .int .i64 ((j : Nat) : Int)
theorem rowJ_len (js : List Nat) : (rowJ js).length = js.length := by unfold rowJ; simp
/-- numbers of the call's own -/
def OwnJ (w : World) (B : Nat) (v : Value) (js : List Nat) : Prop := w.ownsRow B 3 1 v js.length (rowJ js)
theorem OwnJ.keep {w w' : World} {B : Nat} {v : Value} {js : List Nat} (h : OwnJ w B v js) (hk : ∀ g, v.ownBlock = some g → w'.heap[g]? = w.heap[g]?) : OwnJ w' B v js := by
  refine ⟨h.1, ?_⟩
  rcases h.2 with h0 | ⟨g, cap, cur, hv, hg, hh, hr⟩
  · exact .inl h0
  · exact .inr ⟨g, cap, cur, hv, hg, (hk g (by rw [hv]; rfl)).trans hh, hr⟩
theorem OwnJ.lt {w : World} {B : Nat} {v : Value} {js : List Nat} (h : OwnJ w B v js) {g : Nat} (e : v.ownBlock = some g) : B ≤ g ∧ g < w.heap.size := by
  rcases h.2 with ⟨h0, _⟩ | ⟨g', cap, cur, hv, hg, hh, hr⟩
  · rw [h0] at e; simp [Value.ownBlock] at e
  · rw [hv] at e
    simp only [Value.ownBlock, Option.some.injEq] at e
    subst e
    exact ⟨hg, (Array.getElem?_eq_some_iff.1 hh).1⟩
/-- the last of them, as an argument -/
theorem OwnJ.tail {w : World} {B : Nat} {g cap : Nat} {js : List Nat} {n : Nat} (h : OwnJ w B (.slice (some ⟨g, 0, none⟩) n cap) js) (a : Nat) (ha : a ≤ js.length) : KidR w (some ⟨g, a, none⟩) (js.drop a) := by
  rcases h.2 with ⟨h0, _⟩ | ⟨g', cap', cur, hv, hg, hh, hl, hm, hs, ht⟩
  · cases h0
  · simp only [Value.slice.injEq, Option.some.injEq, Addr.mk.injEq, and_true] at hv
    obtain ⟨rfl, rfl, rfl⟩ := hv
    refine ⟨fun j hj => ⟨g, a, rfl, (Array.getElem?_eq_some_iff.1 hh).1, ?_⟩, fun b off fr e => ?_⟩
    · rw [List.length_drop] at hj
      rw [cell_of_block hh]
      show cur[a + j]? = _
      have e := congrArg (fun l => l[a + j]?) ht
      simp only [List.getElem?_take, Nat.mul_one] at e
      rw [if_pos (by omega)] at e
      rw [Array.getElem?_toList] at e
      rw [e]
      unfold rowJ
      rw [List.getElem?_map, List.getElem?_eq_getElem (by omega : a + j < js.length)]
      simp only [List.getD_eq_getElem?_getD, List.getElem?_drop, List.getElem?_eq_getElem (by omega : a + j < js.length)]
      rfl
    · simp only [Option.some.injEq, Addr.mk.injEq] at e
      obtain ⟨rfl, _, _⟩ := e
      exact ⟨cur, _, hh⟩
/-- the first of them -/
theorem OwnJ.head {w : World} {B : Nat} {g cap : Nat} {js : List Nat} {n : Nat} (h : OwnJ w B (.slice (some ⟨g, 0, none⟩) n cap) js) (a : Nat) (ha : a ≤ js.length) : OwnJ w B (.slice (some ⟨g, 0, none⟩) a cap) (js.take a) := by
  rcases h.2 with ⟨h0, _⟩ | ⟨g', cap', cur, hv, hg, hh, hl, hm, hs, ht⟩
  · cases h0
  · simp only [Value.slice.injEq, Option.some.injEq, Addr.mk.injEq, and_true] at hv
    obtain ⟨rfl, rfl, rfl⟩ := hv
    have hlen : (js.take a).length = a := by rw [List.length_take]; omega
    refine ⟨by rw [rowJ_len, Nat.mul_one], .inr ⟨g, cap, cur, by rw [hlen], hg, hh, by omega, hm, hs, ?_⟩⟩
    rw [hlen]
    have e := congrArg (List.take a) ht
    rw [List.take_take, Nat.mul_one, Nat.min_eq_left ha] at e
    rw [Nat.mul_one, e]
    unfold rowJ
    rw [List.map_take]
/-- v[a:] and v[:a] -/
theorem OwnJ.cut {w : World} {B : Nat} {v : Value} {js : List Nat} (h : OwnJ w B v js) (a : Nat) (ha : a ≤ js.length) : ∃ va vc a2, v = .slice va js.length vc ∧ js.length ≤ vc ∧ (if vc = a then va else va.map (·.add a)) = a2 ∧ KidR w a2 (js.drop a) ∧ (∀ b off fr, a2 = some ⟨b, off, fr⟩ → v.ownBlock = some b) ∧ OwnJ w B (.slice va a vc) (js.take a) ∧ (Value.slice va a vc).ownBlock = v.ownBlock := by
  have h0 := h
  rcases h0.2 with ⟨rfl, hl⟩ | ⟨g, cap, cur, rfl, hg, hh, hn, hm, hs, ht⟩
  · obtain rfl : js = [] := List.eq_nil_of_length_eq_zero hl
    obtain rfl : a = 0 := by simpa using ha
    exact ⟨none, 0, none, rfl, Nat.le_refl _, by simp, ⟨RowV.nil _ _ _, fun b off fr e => by cases e⟩, (fun b off fr e => by cases e), ⟨rfl, .inl ⟨rfl, rfl⟩⟩, rfl⟩
  · by_cases hc : cap = a
    · have hd : js.drop a = [] := List.drop_eq_nil_of_le (by omega)
      refine ⟨some ⟨g, 0, none⟩, cap, some ⟨g, 0, none⟩, rfl, hn, if_pos hc, ?_, ?_, h.head a ha, rfl⟩
      · rw [hd]
        refine ⟨RowV.nil _ _ _, fun b off fr e => ?_⟩
        simp only [Option.some.injEq, Addr.mk.injEq] at e
        obtain ⟨rfl, _, _⟩ := e
        exact ⟨cur, _, hh⟩
      · intro b off fr e
        simp only [Option.some.injEq, Addr.mk.injEq] at e
        obtain ⟨rfl, _, _⟩ := e
        rfl
    · have e1 : (some (⟨g, 0, none⟩ : Addr)).map (·.add a) = some ⟨g, a, none⟩ := by
        rw [Option.map_some, WideShapes.add_plain, Nat.zero_add]
      refine ⟨some ⟨g, 0, none⟩, cap, some ⟨g, a, none⟩, rfl, hn, by rw [if_neg hc, e1], h.tail a ha, ?_, h.head a ha, rfl⟩
      intro b off fr e
      simp only [Option.some.injEq, Addr.mk.injEq] at e
      obtain ⟨rfl, _, _⟩ := e
      rfl
/-- what indexOf holds: the table's variable, done in nb + 2, the tree's root nb + 3, the deferred's record nb + 4, the loop's nb + 5 -/
structure IxJ (w0 : World) (tp Bt N : Nat) (S0 : List Nat) (fin : List Tr × List Tr) (rec : LoopState → Option Code → Loop) (S : List Nat) (_opn : List PT) (es : List (PT × Bool)) (W : World) : Prop where
  frm : Apart S0 [] w0 W
  tv : one1 W w0.heap.size (.pointer (some ⟨tp, 0, none⟩)) 76
  loop : W.heap[w0.heap.size + 5]? = some (.loop (rec .ready none))
  defs : W.heap[w0.heap.size + 4]? = some (.deferred (some []))
  own : ∀ k ∈ S, w0.heap.size + 5 < k ∧ k < W.heap.size
  st : ∃ St L ds js v, one1 W (w0.heap.size + 2) v 105 ∧ OwnJ W (w0.heap.size + 6) v js ∧ (∀ g, v.ownBlock = some g → g ∉ S ∧ g ∉ St) ∧ TabM W St tp L ∧ (∀ k ∈ St, (k ∈ S0 ∨ w0.heap.size + 5 < k) ∧ k ∉ S) ∧ IxAt L js ds ∧ Runs N es (L, ds) fin
  hp : PowB Bt W
  low : Bt ≤ w0.heap.size
  tlow : ∀ k ∈ S0, Bt ≤ k ∧ k < w0.heap.size
theorem IxJ.apart {w0 : World} {tp Bt N : Nat} {S0 : List Nat} {fin : List Tr × List Tr} {rec : LoopState → Option Code → Loop} {S S' : List Nat} {opn : List PT} {es : List (PT × Bool)} {W W' : World} (h : IxJ w0 tp Bt N S0 fin rec S opn es W) (ha : Apart S S' W W') : IxJ w0 tp Bt N S0 fin rec S' opn es W' := by
  have hl : w0.heap.size + 5 < W.heap.size := (Array.getElem?_eq_some_iff.1 h.loop).1
  have hsz := ha.size
  have same : ∀ k, k ≤ w0.heap.size + 5 → W'.heap[k]? = W.heap[k]? := fun k hk => ha.block k (by omega) (fun hm => by have := h.own k hm; omega)
  have new : ∀ k ∈ S', k < W.heap.size → k ∈ S := fun k hk hlt => by
    rcases ha.own k hk with h1 | h1
    · exact h1
    · omega
  obtain ⟨St, L, ds, js, v, a1, a2, a3, a4, a5, a6, a7⟩ := h.st
  refine ⟨?_, (same _ (by omega)).trans h.tv, (same _ (by omega)).trans h.loop, (same _ (by omega)).trans h.defs, ?_, ⟨St, L, ds, js, v, (same _ (by omega)).trans a1, a2.keep (fun g hg => ha.block g (a2.lt hg).2 (a3 g hg).1), fun g hg => ⟨fun hm => (a3 g hg).1 (new g hm (a2.lt hg).2), (a3 g hg).2⟩, a4.keep hsz (fun k hk => ha.block k (a4.lt k hk) (a5 k hk).2), fun k hk => ⟨(a5 k hk).1, fun hm => (a5 k hk).2 (new k hm (a4.lt k hk))⟩, a6, a7⟩, ?_, h.low, h.tlow⟩
  · exact ⟨ha.os.trans h.frm.os, ha.tape.trans h.frm.tape, ha.output.trans h.frm.output, Nat.le_trans h.frm.size hsz, fun k hk hS => (same k (by omega)).trans (h.frm.block k hk hS), fun k hk => by cases hk⟩
  · intro k hk
    rcases ha.own k hk with h1 | h1
    · have := h.own k h1; omega
    · omega
  · exact h.hp.on ⟨ha.os, ha.tape, ha.output, hsz, fun k hk => same k (by have := h.low; omega)⟩
/-- one event later -/
theorem IxJ.upd {w0 : World} {tp Bt N : Nat} {S0 : List Nat} {fin : List Tr × List Tr} {rec : LoopState → Option Code → Loop} {S : List Nat} {opn opn' : List PT} {es es' : List (PT × Bool)} {W W' : World} (h : IxJ w0 tp Bt N S0 fin rec S opn es W)
    {St : List Nat} {v : Value} {js : List Nat} (a2 : OwnJ W (w0.heap.size + 6) v js) (a3 : ∀ g, v.ownBlock = some g → g ∉ S ∧ g ∉ St) (a5 : ∀ k ∈ St, (k ∈ S0 ∨ w0.heap.size + 5 < k) ∧ k ∉ S)
    (hf : W'.os = W.os ∧ W'.tape = W.tape ∧ W'.output = W.output) (hsz : W.heap.size ≤ W'.heap.size) (hb : ∀ k, k < W.heap.size → k ≠ w0.heap.size + 5 → k ≠ w0.heap.size + 2 → k ∉ St → v.ownBlock ≠ some k → W'.heap[k]? = W.heap[k]?)
    {St' : List Nat} {L' ds' : List Tr} {js' : List Nat} {v' : Value} (b1 : one1 W' (w0.heap.size + 2) v' 105) (b2 : OwnJ W' (w0.heap.size + 6) v' js') (b3 : ∀ g, v'.ownBlock = some g → (v.ownBlock = some g ∨ W.heap.size ≤ g) ∧ g ∉ St')
    (b4 : TabM W' St' tp L') (b5 : ∀ k ∈ St', k ∈ St ∨ W.heap.size ≤ k) (b6 : IxAt L' js' ds') (b7 : Runs N es' (L', ds') fin) (hl : W'.heap[w0.heap.size + 5]? = some (.loop (rec .ready none))) :
    IxJ w0 tp Bt N S0 fin rec S opn' es' W' ∧ Keeps S (fun k => k < Bt ∨ k = w0.heap.size + 3) W W' := by
  have hlt : w0.heap.size + 5 < W.heap.size := (Array.getElem?_eq_some_iff.1 h.loop).1
  have hlow := h.low
  have nSt : ∀ k, k ≤ w0.heap.size + 5 → k ∉ S0 → k ∉ St := fun k hk h0 hm => by
    rcases (a5 k hm).1 with h1 | h1
    · exact h0 h1
    · omega
  have nV : ∀ k, k ≤ w0.heap.size + 5 → v.ownBlock ≠ some k := fun k hk e => by have := (a2.lt e).1; omega
  have n0 : ∀ k, w0.heap.size ≤ k → k ∉ S0 := fun k hk hm => by have := (h.tlow k hm).2; omega
  have nB : ∀ k, k < Bt → k ∉ S0 := fun k hk hm => by have := (h.tlow k hm).1; omega
  have same : ∀ k, k ≤ w0.heap.size + 5 → k ≠ w0.heap.size + 5 → k ≠ w0.heap.size + 2 → k ∉ S0 → W'.heap[k]? = W.heap[k]? := fun k hk h1 h2 h0 => hb k (by omega) h1 h2 (nSt k hk h0) (nV k hk)
  have sameS : ∀ k ∈ S, W'.heap[k]? = W.heap[k]? := fun k hk => by
    have := h.own k hk
    exact hb k this.2 (by omega) (by omega) (fun hm => (a5 k hm).2 hk) (fun e => (a3 k e).1 hk)
  refine ⟨⟨?_, (same _ (by omega) (by omega) (by omega) (n0 _ (Nat.le_refl _))).trans h.tv, hl, (same _ (by omega) (by omega) (by omega) (n0 _ (by omega))).trans h.defs, fun k hk => ⟨(h.own k hk).1, by have := (h.own k hk).2; omega⟩, ⟨St', L', ds', js', v', b1, b2, fun g hg => ⟨fun hm => ?_, (b3 g hg).2⟩, b4, fun k hk => ⟨?_, fun hm => ?_⟩, b6, b7⟩, h.hp.on ⟨hf.1, hf.2.1, hf.2.2, hsz, fun k hk => same k (by omega) (by omega) (by omega) (nB k hk)⟩, h.low, h.tlow⟩, fun k hk => ?_, hsz⟩
  · exact ⟨hf.1.trans h.frm.os, hf.2.1.trans h.frm.tape, hf.2.2.trans h.frm.output, Nat.le_trans h.frm.size hsz, fun k hk hS => (same k (by omega) (by omega) (by omega) hS).trans (h.frm.block k hk hS), fun k hk => by cases hk⟩
  · rcases (b3 g hg).1 with h1 | h1
    · exact (a3 g h1).1 hm
    · have := (h.own g hm).2; omega
  · rcases b5 k hk with h1 | h1
    · exact (a5 k h1).1
    · right; omega
  · rcases b5 k hk with h1 | h1
    · exact (a5 k h1).2 hm
    · have := (h.own k hm).2; omega
  · rcases hk with hk | hk | hk
    · exact sameS k hk
    · exact same k (by omega) (by omega) (by omega) (nB k hk)
    · subst hk
      exact same _ (by omega) (by omega) (by omega) (n0 _ (by omega))
end Go.Proofs.YtpkejcjjbkgomaaDoor
