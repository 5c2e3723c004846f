/- What the program's indexOf holds between two events. -/
import Derived.Test.YtpkejcjjbkgomaaDoorNuC
import Derived.Test.YtpkejcjjbkgomaaDoorEndB
import Derived.Test.YtpkejcjjbkgomaaDoorTokA
import Derived.Test.YtpkejcjjbkgomaaDoorShfI
import Derived.Test.YtpkejcjjbkgomaaDoorNuD
import Derived.Stop.RegionWithIn
import Derived.Test.YtpkejcjjbkgomaaDoorTreC
import Derived.Lib.LaidTab
namespace Go.Proofs.YtpkejcjjbkgomaaDoor
open Go.ChangeShapes Go.WideShapes Go.ChangeAt Go.RowKit Go.Deep
set_option maxRecDepth 100000
/-- a tree in plain memory whose root is laid into a new block -/
theorem TrQ.root {w w' : World} {A : Nat → Prop} {tb : Nat} {s : ByteArray} {r : Int} {x : Value} {T : Tr} (h : TrQ w A (.agg #[.string s, .int .i64 r, x]) T) (hb : ∀ g, A g → g < w.heap.size → w'.heap[g]? = w.heap[g]?)
    (c0 : w'.cell? ⟨tb, 0, none⟩ = some (.string s)) (c1 : w'.cell? ⟨tb, 1, none⟩ = some (.int .i64 r)) (c2 : w'.cell? ⟨tb, 2, none⟩ = some x) :
    ∃ t : PT, t.b = tb ∧ t.o = 0 ∧ t.tr = T ∧ PtIn w' (fun k => (A k ∧ k < w.heap.size) ∨ k = tb) t := by
  obtain ⟨s', r', ps, a, cap, M, e, rfl, hs, hr, hn, hc, hk, hp, hM⟩ := h
  simp only [Value.agg.injEq, Array.mk.injEq, List.cons.injEq, Value.string.injEq, Value.int.injEq, true_and, and_true] at e
  obtain ⟨rfl, rfl, rfl⟩ := e
  exact ⟨.node tb 0 s r ps, rfl, rfl, by rw [PT.tr], .node tb 0 s r ps a cap (.inr rfl) c0 c1 c2 hs hr hn hc hk (fun i hi => (hp i hi).stay (fun g hg => hb g (hM g hg).1 (hM g hg).2.lt) (fun g hg => .inl ⟨(hM g hg).1, (hM g hg).2.lt⟩))⟩
def rowJ (js : List Nat) : List Value := js.map fun j => .int .i64 ((j : Nat) : Int)
theorem rowJ_len (js : List Nat) : (rowJ js).length = js.length := by unfold rowJ; simp
/-- numbers of the call's own -/
def OwnJ (w : World) (B : Nat) (v : Value) (js : List Nat) : Prop := w.ownsRow B 3 1 v js.length (rowJ js)
theorem OwnJ.keep {w w' : World} {B : Nat} {v : Value} {js : List Nat} (h : OwnJ w B v js) (hk : ∀ g, v.ownBlock = some g → w'.heap[g]? = w.heap[g]?) : OwnJ w' B v js := by
  refine ⟨h.1, ?_⟩
  rcases h.2 with h0 | ⟨g, cap, cur, hv, hg, hh, hr⟩
  · exact .inl h0
  · exact .inr ⟨g, cap, cur, hv, hg, (hk g (by rw [hv]; rfl)).trans hh, hr⟩
theorem OwnJ.lt {w : World} {B : Nat} {v : Value} {js : List Nat} (h : OwnJ w B v js) {g : Nat} (e : v.ownBlock = some g) : B ≤ g ∧ g < w.heap.size := by
  rcases h.2 with ⟨h0, _⟩ | ⟨g', cap, cur, hv, hg, hh, hr⟩
  · rw [h0] at e; simp [Value.ownBlock] at e
  · rw [hv] at e
    simp only [Value.ownBlock, Option.some.injEq] at e
    subst e
    exact ⟨hg, (Array.getElem?_eq_some_iff.1 hh).1⟩
/-- the last of them, as an argument -/
theorem OwnJ.tail {w : World} {B : Nat} {g cap : Nat} {js : List Nat} {n : Nat} (h : OwnJ w B (.slice (some ⟨g, 0, none⟩) n cap) js) (a : Nat) (ha : a ≤ js.length) : KidR w (some ⟨g, a, none⟩) (js.drop a) := by
  rcases h.2 with ⟨h0, _⟩ | ⟨g', cap', cur, hv, hg, hh, hl, hm, hs, ht⟩
  · cases h0
  · simp only [Value.slice.injEq, Option.some.injEq, Addr.mk.injEq, and_true] at hv
    obtain ⟨rfl, rfl, rfl⟩ := hv
    refine ⟨fun j hj => ⟨g, a, rfl, (Array.getElem?_eq_some_iff.1 hh).1, ?_⟩, fun b off fr e => ?_⟩
    · rw [List.length_drop] at hj
      rw [cell_of_block hh]
      show cur[a + j]? = _
      have e := congrArg (fun l => l[a + j]?) ht
      simp only [List.getElem?_take, Nat.mul_one] at e
      rw [if_pos (by omega)] at e
      rw [Array.getElem?_toList] at e
      rw [e]
      unfold rowJ
      rw [List.getElem?_map, List.getElem?_eq_getElem (by omega : a + j < js.length)]
      simp only [List.getD_eq_getElem?_getD, List.getElem?_drop, List.getElem?_eq_getElem (by omega : a + j < js.length)]
      rfl
    · simp only [Option.some.injEq, Addr.mk.injEq] at e
      obtain ⟨rfl, _, _⟩ := e
      exact ⟨cur, _, hh⟩
/-- the first of them -/
theorem OwnJ.head {w : World} {B : Nat} {g cap : Nat} {js : List Nat} {n : Nat} (h : OwnJ w B (.slice (some ⟨g, 0, none⟩) n cap) js) (a : Nat) (ha : a ≤ js.length) : OwnJ w B (.slice (some ⟨g, 0, none⟩) a cap) (js.take a) := by
  rcases h.2 with ⟨h0, _⟩ | ⟨g', cap', cur, hv, hg, hh, hl, hm, hs, ht⟩
  · cases h0
  · simp only [Value.slice.injEq, Option.some.injEq, Addr.mk.injEq, and_true] at hv
    obtain ⟨rfl, rfl, rfl⟩ := hv
    have hlen : (js.take a).length = a := by rw [List.length_take]; omega
    refine ⟨by rw [rowJ_len, Nat.mul_one], .inr ⟨g, cap, cur, by rw [hlen], hg, hh, by omega, hm, hs, ?_⟩⟩
    rw [hlen]
    have e := congrArg (List.take a) ht
    rw [List.take_take, Nat.mul_one, Nat.min_eq_left ha] at e
    rw [Nat.mul_one, e]
    unfold rowJ
    rw [List.map_take]
/-- v[a:] and v[:a] -/
theorem OwnJ.cut {w : World} {B : Nat} {v : Value} {js : List Nat} (h : OwnJ w B v js) (a : Nat) (ha : a ≤ js.length) : ∃ va vc a2, v = .slice va js.length vc ∧ js.length ≤ vc ∧ (if vc = a then va else va.map (·.add a)) = a2 ∧ KidR w a2 (js.drop a) ∧ (∀ b off fr, a2 = some ⟨b, off, fr⟩ → v.ownBlock = some b) ∧ OwnJ w B (.slice va a vc) (js.take a) ∧ (Value.slice va a vc).ownBlock = v.ownBlock := by
  have h0 := h
  rcases h0.2 with ⟨rfl, hl⟩ | ⟨g, cap, cur, rfl, hg, hh, hn, hm, hs, ht⟩
  · obtain rfl : js = [] := List.eq_nil_of_length_eq_zero hl
    obtain rfl : a = 0 := by simpa using ha
    exact ⟨none, 0, none, rfl, Nat.le_refl _, by simp, ⟨RowV.nil _ _ _, fun b off fr e => by cases e⟩, (fun b off fr e => by cases e), ⟨rfl, .inl ⟨rfl, rfl⟩⟩, rfl⟩
  · by_cases hc : cap = a
    · have hd : js.drop a = [] := List.drop_eq_nil_of_le (by omega)
      refine ⟨some ⟨g, 0, none⟩, cap, some ⟨g, 0, none⟩, rfl, hn, if_pos hc, ?_, ?_, h.head a ha, rfl⟩
      · rw [hd]
        refine ⟨RowV.nil _ _ _, fun b off fr e => ?_⟩
        simp only [Option.some.injEq, Addr.mk.injEq] at e
        obtain ⟨rfl, _, _⟩ := e
        exact ⟨cur, _, hh⟩
      · intro b off fr e
        simp only [Option.some.injEq, Addr.mk.injEq] at e
        obtain ⟨rfl, _, _⟩ := e
        rfl
    · have e1 : (some (⟨g, 0, none⟩ : Addr)).map (·.add a) = some ⟨g, a, none⟩ := by
        rw [Option.map_some, WideShapes.add_plain, Nat.zero_add]
      refine ⟨some ⟨g, 0, none⟩, cap, some ⟨g, a, none⟩, rfl, hn, by rw [if_neg hc, e1], h.tail a ha, ?_, h.head a ha, rfl⟩
      intro b off fr e
      simp only [Option.some.injEq, Addr.mk.injEq] at e
      obtain ⟨rfl, _, _⟩ := e
      rfl
/-- what indexOf holds: the table's variable, done in nb + 2, the tree's root nb + 3, the deferred's record nb + 4, the loop's nb + 5 -/
structure IxJ (w0 : World) (tp Bt N : Nat) (S0 : List Nat) (fin : List Tr × List Tr) (rec : LoopState → Option Code → Loop) (S : List Nat) (_opn : List PT) (es : List (PT × Bool)) (W : World) : Prop where
  frm : Apart S0 [] w0 W
  tv : one1 W w0.heap.size (.pointer (some ⟨tp, 0, none⟩)) 76
  loop : W.heap[w0.heap.size + 5]? = some (.loop (rec .ready none))
  defs : W.heap[w0.heap.size + 4]? = some (.deferred (some []))
  own : ∀ k ∈ S, w0.heap.size + 5 < k ∧ k < W.heap.size
  st : ∃ St L ds js v, one1 W (w0.heap.size + 2) v 105 ∧ OwnJ W (w0.heap.size + 6) v js ∧ (∀ g, v.ownBlock = some g → g ∉ S ∧ g ∉ St) ∧ TabM W St tp L ∧ (∀ k ∈ St, (k ∈ S0 ∨ w0.heap.size + 5 < k) ∧ k ∉ S) ∧ IxAt L js ds ∧ Runs N es (L, ds) fin
  hp : PowB Bt W
  low : Bt ≤ w0.heap.size
  tlow : ∀ k ∈ S0, Bt ≤ k ∧ k < w0.heap.size
theorem IxJ.apart {w0 : World} {tp Bt N : Nat} {S0 : List Nat} {fin : List Tr × List Tr} {rec : LoopState → Option Code → Loop} {S S' : List Nat} {opn : List PT} {es : List (PT × Bool)} {W W' : World} (h : IxJ w0 tp Bt N S0 fin rec S opn es W) (ha : Apart S S' W W') : IxJ w0 tp Bt N S0 fin rec S' opn es W' := by
  have hl : w0.heap.size + 5 < W.heap.size := (Array.getElem?_eq_some_iff.1 h.loop).1
  have hsz := ha.size
  have same : ∀ k, k ≤ w0.heap.size + 5 → W'.heap[k]? = W.heap[k]? := fun k hk => ha.block k (by omega) (fun hm => by have := h.own k hm; omega)
  have new : ∀ k ∈ S', k < W.heap.size → k ∈ S := fun k hk hlt => by
    rcases ha.own k hk with h1 | h1
    · exact h1
    · omega
  obtain ⟨St, L, ds, js, v, a1, a2, a3, a4, a5, a6, a7⟩ := h.st
  refine ⟨?_, (same _ (by omega)).trans h.tv, (same _ (by omega)).trans h.loop, (same _ (by omega)).trans h.defs, ?_, ⟨St, L, ds, js, v, (same _ (by omega)).trans a1, a2.keep (fun g hg => ha.block g (a2.lt hg).2 (a3 g hg).1), fun g hg => ⟨fun hm => (a3 g hg).1 (new g hm (a2.lt hg).2), (a3 g hg).2⟩, a4.keep hsz (fun k hk => ha.block k (a4.lt k hk) (a5 k hk).2), fun k hk => ⟨(a5 k hk).1, fun hm => (a5 k hk).2 (new k hm (a4.lt k hk))⟩, a6, a7⟩, ?_, h.low, h.tlow⟩
  · exact ⟨ha.os.trans h.frm.os, ha.tape.trans h.frm.tape, ha.output.trans h.frm.output, Nat.le_trans h.frm.size hsz, fun k hk hS => (same k (by omega)).trans (h.frm.block k hk hS), fun k hk => by cases hk⟩
  · intro k hk
    rcases ha.own k hk with h1 | h1
    · have := h.own k h1; omega
    · omega
  · exact h.hp.on ⟨ha.os, ha.tape, ha.output, hsz, fun k hk => same k (by have := h.low; omega)⟩
/-- one event later -/
theorem IxJ.upd {w0 : World} {tp Bt N : Nat} {S0 : List Nat} {fin : List Tr × List Tr} {rec : LoopState → Option Code → Loop} {S : List Nat} {opn opn' : List PT} {es es' : List (PT × Bool)} {W W' : World} (h : IxJ w0 tp Bt N S0 fin rec S opn es W)
    {St : List Nat} {v : Value} {js : List Nat} (a2 : OwnJ W (w0.heap.size + 6) v js) (a3 : ∀ g, v.ownBlock = some g → g ∉ S ∧ g ∉ St) (a5 : ∀ k ∈ St, (k ∈ S0 ∨ w0.heap.size + 5 < k) ∧ k ∉ S)
    (hf : W'.os = W.os ∧ W'.tape = W.tape ∧ W'.output = W.output) (hsz : W.heap.size ≤ W'.heap.size) (hb : ∀ k, k < W.heap.size → k ≠ w0.heap.size + 5 → k ≠ w0.heap.size + 2 → k ∉ St → v.ownBlock ≠ some k → W'.heap[k]? = W.heap[k]?)
    {St' : List Nat} {L' ds' : List Tr} {js' : List Nat} {v' : Value} (b1 : one1 W' (w0.heap.size + 2) v' 105) (b2 : OwnJ W' (w0.heap.size + 6) v' js') (b3 : ∀ g, v'.ownBlock = some g → (v.ownBlock = some g ∨ W.heap.size ≤ g) ∧ g ∉ St')
    (b4 : TabM W' St' tp L') (b5 : ∀ k ∈ St', k ∈ St ∨ W.heap.size ≤ k) (b6 : IxAt L' js' ds') (b7 : Runs N es' (L', ds') fin) (hl : W'.heap[w0.heap.size + 5]? = some (.loop (rec .ready none))) :
    IxJ w0 tp Bt N S0 fin rec S opn' es' W' ∧ Keeps S (fun k => k < Bt ∨ k = w0.heap.size + 3) W W' := by
  have hlt : w0.heap.size + 5 < W.heap.size := (Array.getElem?_eq_some_iff.1 h.loop).1
  have hlow := h.low
  have nSt : ∀ k, k ≤ w0.heap.size + 5 → k ∉ S0 → k ∉ St := fun k hk h0 hm => by
    rcases (a5 k hm).1 with h1 | h1
    · exact h0 h1
    · omega
  have nV : ∀ k, k ≤ w0.heap.size + 5 → v.ownBlock ≠ some k := fun k hk e => by have := (a2.lt e).1; omega
  have n0 : ∀ k, w0.heap.size ≤ k → k ∉ S0 := fun k hk hm => by have := (h.tlow k hm).2; omega
  have nB : ∀ k, k < Bt → k ∉ S0 := fun k hk hm => by have := (h.tlow k hm).1; omega
  have same : ∀ k, k ≤ w0.heap.size + 5 → k ≠ w0.heap.size + 5 → k ≠ w0.heap.size + 2 → k ∉ S0 → W'.heap[k]? = W.heap[k]? := fun k hk h1 h2 h0 => hb k (by omega) h1 h2 (nSt k hk h0) (nV k hk)
  have sameS : ∀ k ∈ S, W'.heap[k]? = W.heap[k]? := fun k hk => by
    have := h.own k hk
    exact hb k this.2 (by omega) (by omega) (fun hm => (a5 k hm).2 hk) (fun e => (a3 k e).1 hk)
  refine ⟨⟨?_, (same _ (by omega) (by omega) (by omega) (n0 _ (Nat.le_refl _))).trans h.tv, hl, (same _ (by omega) (by omega) (by omega) (n0 _ (by omega))).trans h.defs, fun k hk => ⟨(h.own k hk).1, by have := (h.own k hk).2; omega⟩, ⟨St', L', ds', js', v', b1, b2, fun g hg => ⟨fun hm => ?_, (b3 g hg).2⟩, b4, fun k hk => ⟨?_, fun hm => ?_⟩, b6, b7⟩, h.hp.on ⟨hf.1, hf.2.1, hf.2.2, hsz, fun k hk => same k (by omega) (by omega) (by omega) (nB k hk)⟩, h.low, h.tlow⟩, fun k hk => ?_, hsz⟩
  · exact ⟨hf.1.trans h.frm.os, hf.2.1.trans h.frm.tape, hf.2.2.trans h.frm.output, Nat.le_trans h.frm.size hsz, fun k hk hS => (same k (by omega) (by omega) (by omega) hS).trans (h.frm.block k hk hS), fun k hk => by cases hk⟩
  · rcases (b3 g hg).1 with h1 | h1
    · exact (a3 g h1).1 hm
    · have := (h.own g hm).2; omega
  · rcases b5 k hk with h1 | h1
    · exact (a5 k h1).1
    · right; omega
  · rcases b5 k hk with h1 | h1
    · exact (a5 k h1).2 hm
    · have := (h.own k hm).2; omega
  · rcases hk with hk | hk | hk
    · exact sameS k hk
    · exact same k (by omega) (by omega) (by omega) (nB k hk)
    · subst hk
      exact same _ (by omega) (by omega) (by omega) (n0 _ (by omega))
end Go.Proofs.YtpkejcjjbkgomaaDoor
namespace Go.Proofs.YtpkejcjjbkgomaaDoor
open Go.ChangeShapes Go.WideShapes Go.ChangeAt Go.RowKit Go.Deep
attribute [local go_sem] Oper.semAt_some
set_option maxRecDepth 100000
/-- append, under a name that the walk does not open -/
@[irreducible] def appJ (ats : Array TypeId) (ty : TypeId) (args : Array Value) : Sem Value := Builtin.append_ ats ty args
theorem builtin_appJ (ats : Array TypeId) (ty : TypeId) (cs : Array Bool) (args : Array Value) : builtin .append ats ty cs args = (do pure (.value (← appJ ats ty args))) := by unfold appJ; rfl
attribute [-go_sem] BigFrame.builtin_append
attribute [local go_sem ↓] builtin_appJ
theorem viaP {P Q : Prop} (h : P → Q) (p : P) : Q := h p
theorem viaW {P : World → Nat → Prop} {R : Prop} (G : World → Nat → Prop) (h : (∀ w i, G w i → P w i) → R) (p : ∀ w i, G w i → P w i) : R := h p
/-- what a call of add leaves -/
def AddLeft (w0 : World) (St : List Nat) (tp : Nat) (L : List Tr) (t : Tr) (w : World) (i : Nat) : Prop := ∃ S', TabM w S' tp (addL L t) ∧ (addL L t)[i]? = some t ∧ Apart St S' w0 w
theorem infoI : (Tryd.prog.info? 3).map (fun i => (i.zero, i.size, i.bytes)) = some (some (.int .i64 0), 1, 8) := by kernel_rfl
set_option maxHeartbeats 4000000 in
theorem indexOf_any (T : Tr) (v : Value) (w : World) (S0 : List Nat) (tp Bt : Nat) (L : List Tr) (HT : TrQ w (fun k => k < Bt) v T) (hz : T.sz ≤ 2000000) (H : TabM w S0 tp L) (hn : L.Nodup) (hS : ∀ k ∈ S0, Bt ≤ k) (hp : PowB Bt w) (hBt : Bt ≤ w.heap.size) (hN : L.length + 2 * T.sz ≤ 4000000) :
    Calls Tryd.prog 48 #[.pointer (some ⟨tp, 0, none⟩), v] w fun e w' => ∃ i X S', e = .returned (.int .i64 ((i : Nat) : Int)) ∧ TabM w' S' tp (L ++ X) ∧ (L ++ X).Nodup ∧ (L ++ X)[i]? = some T ∧ Apart S0 S' w w' ∧ X.length ≤ 2 * T.sz := by
  obtain ⟨i0, hi0, hz0, hz1, hz2⟩ := info_parts infoI
  have HT0 := HT
  obtain ⟨s, r, ps, a, cap, M, rfl, hTe, hs, hr, hn', hc, hk, hp', hM⟩ := HT0
  clear hTe hk hp' hM hs hr hc
  have hT3 : BoxT (((w.alloc (.cells #[.pointer (some ⟨tp, 0, none⟩)] 76)).alloc (.cells #[.string s, .int .i64 r, .slice a ps.length cap] 29)).alloc (.cells #[.slice none 0 0] 105)) (w.heap.size + 1) (.string s) (.int .i64 r) (.slice a ps.length cap) := (blk_old _ _ (by simp)).trans (blk_new _ _ (by simp))
  obtain ⟨o0, o1, o2, of0, of1, of2⟩ := hT3.cells
  refine (callsIn_wide (n := 3)).1 ?_
  refine callsIn_of_wp_marks Tryd.func48 rfl trivial ?_ rfl
  simp only [Tryd.ntmps48, List.size_toArray, List.length_cons, List.length_nil, Nat.reduceAdd, Nat.reduceSub, Array.replicate_succ, Array.replicate_zero, List.push_toArray, List.append_toArray, List.nil_append, List.cons_append]
  gi_wp2
  refine ⟨trivial, (callsIn_wide.2 (walk_any s r _ _)).mono ?_⟩
  rintro e w5 ⟨rfl, rfl⟩
  clear o0 o1 o2 of0 of1 of2
  gi_wp2
  refine wpIn_rangeFunc_open rfl (by omega) rfl trivial (enters_of Tryd.func99 (by kernel_rfl) rfl) ?_
  intro fn hfn
  simp only [World.size_alloc, Nat.add_assoc, Nat.reduceAdd]
  generalize hrec : recOf fn _ _ _ _ _ = rec
  have hold : ∀ g, g < w.heap.size → ((((((w.alloc (.cells #[.pointer (some ⟨tp, 0, none⟩)] 76)).alloc (.cells #[.string s, .int .i64 r, .slice a ps.length cap] 29)).alloc (.cells #[.slice none 0 0] 105)).alloc (.cells #[.string s, .int .i64 r, .slice a ps.length cap] 29)).alloc (.deferred (some []))).alloc (.loop (rec .ready none))).heap[g]? = w.heap[g]? := fun g hg => by
    rw [blk_old _ _ (by simp; omega), blk_old _ _ (by simp; omega), blk_old _ _ (by simp; omega), blk_old _ _ (by simp; omega), blk_old _ _ (by simp; omega), blk_old _ _ hg]
  have hbox : ((((((w.alloc (.cells #[.pointer (some ⟨tp, 0, none⟩)] 76)).alloc (.cells #[.string s, .int .i64 r, .slice a ps.length cap] 29)).alloc (.cells #[.slice none 0 0] 105)).alloc (.cells #[.string s, .int .i64 r, .slice a ps.length cap] 29)).alloc (.deferred (some []))).alloc (.loop (rec .ready none))).heap[w.heap.size + 3]? = some (.cells #[.string s, .int .i64 r, .slice a ps.length cap] 29) := (blk_old _ _ (by simp)).trans ((blk_old _ _ (by simp)).trans (blk_new _ _ (by simp)))
  obtain ⟨t0, ht1, ht2, ht3, ht4⟩ := HT.root (tb := w.heap.size + 3) (fun g _ hg => hold g hg) (by rw [cell_of_block hbox]; rfl) (by rw [cell_of_block hbox]; rfl) (by rw [cell_of_block hbox]; rfl)
  have htz : t0.sz = T.sz := by unfold PT.sz; rw [ht3]
  have htl := evs_len _ t0 (Nat.le_refl _)
  obtain ⟨X, hX, hXn, hXl, hXm⟩ := runOk_any (N := 4000000) _ t0 (Nat.le_refl _) L [] hn (by rw [htl, htz]; exact hN) (by rw [htl, htz]; simp; omega) (by rw [htz]; exact hz)
  rw [htl, htz] at hXl
  rw [ht3] at hXm
  have HXL := Lib.hid hXl
  have HXN := Lib.hid hXn
  have HXM := Lib.hid hXm
  clear hXl hXn hXm htl
  refine (walk1_in 2 (w.heap.size + 5) (w.heap.size + 3) (fun k => k < Bt ∨ k = w.heap.size + 3) t0 (IxJ w tp Bt 4000000 S0 (L ++ X, [] ++ [t0.tr]) rec) (fun _ => False) (by rw [htz]; exact hz) ht1 ht2 ?l1 ?l2 ?l3 _ (fun k hk => by simp; rcases hk with h | h <;> omega) ?l4 (ht4.stay (fun _ _ => rfl) (fun g hg => by rcases hg with h | h; exact .inl h.1; exact .inr h))).mono ?_
  case l1 => exact fun S S' o es W W' h ha _ => h.apart ha
  case l4 =>
    refine ⟨⟨rfl, rfl, rfl, by simp; omega, fun k hk _ => hold k hk, fun k hk => by cases hk⟩, ?_, blk_new _ _ (by simp), (blk_old _ _ (by simp)).trans (blk_new _ _ (by simp)), (fun k h => by cases h), ⟨S0, L, [], [], .slice none 0 0, ?_, ⟨rfl, .inl ⟨rfl, rfl⟩⟩, (fun g h => by simp [Value.ownBlock] at h), H.keep (by simp; omega) (fun k hk => hold k (H.lt k hk)), (fun k hk => ⟨.inl hk, by simp⟩), .nil _, hX⟩, hp.on ⟨rfl, rfl, rfl, by simp; omega, fun k hk => hold k (by omega)⟩, hBt, fun k hk => ⟨hS k hk, H.lt k hk⟩⟩
    · exact ((((one1.alloc (show one1 _ w.heap.size _ _ from blk_new _ _ rfl) _).alloc _).alloc _).alloc _).alloc _
    · exact ((one1.alloc (show one1 _ (w.heap.size + 2) _ _ from blk_new _ _ (by simp)) _).alloc _).alloc _
  case l2 =>
    clear hold hbox ht1 ht2 ht3 ht4 hT3 hX htz HT H
    intro S opn es W t hJ hpt hdec
    have j3 := hJ.loop
    have hl := (Array.getElem?_eq_some_iff.1 j3).1
    have HJ := Lib.hid hJ
    obtain ⟨St, L1, ds, js, v, a1, a2, a3, a4, a5, a6, a7⟩ := hJ.st
    rw [Runs] at a7
    have pl : (W.putObj (w.heap.size + 5) (.loop (rec .busy none))).heap[w.heap.size + 5]? = some (.loop (rec .busy none)) := World.putObj_heap_same hl
    have hsm : ∀ k, k ≠ w.heap.size + 5 → ((W.putObj (w.heap.size + 5) (.loop (rec .busy none))).putObj (w.heap.size + 5) (.loop (rec .ready none))).heap[k]? = W.heap[k]? := fun k hk => (World.putObj_heap_other hk).trans (World.putObj_heap_other hk)
    have nSt : ∀ k ∈ St, k ≠ w.heap.size + 5 := fun k hk => by
      rcases (a5 k hk).1 with h | h
      · have := (hJ.tlow k h).2; omega
      · omega
    have hU := hJ.upd (opn' := t :: opn) (es' := es) (W' := (W.putObj (w.heap.size + 5) (.loop (rec .busy none))).putObj (w.heap.size + 5) (.loop (rec .ready none))) a2 a3 a5 ⟨rfl, rfl, rfl⟩ (by simp) (fun k _ hk _ _ _ => hsm k hk) ((a1.put (by omega) _).put (by omega) _) (a2.keep (fun g hg => hsm g (by have := (a2.lt hg).1; omega))) (fun g hg => ⟨.inl hg, (a3 g hg).2⟩) (a4.keep (by simp) (fun k hk => hsm k (nSt k hk))) (fun k hk => .inl hk) a6 a7 (World.putObj_heap_same (by simpa using hl))
    have HU := Lib.hid hU
    rw [← hrec] at j3
    refine YieldAt.mono (R := fun e W' => ∃ j, e = .returned (.bool j.isNone) ∧ (j = none ∧ IxJ w tp Bt 4000000 S0 (L ++ X, [] ++ [t0.tr]) rec S (t :: opn) es W' ∧ Keeps S (fun k => k < Bt ∨ k = w.heap.size + 3) W W')) (yieldAt_open hfn j3 rfl ?_) ?_
    rotate_left
    · rintro e W' ⟨j, rfl, rfl, h, hk⟩
      exact ⟨hk, .inl ⟨rfl, h⟩⟩
    · rw [hrec] at j3 ⊢
      clear hrec
      gi_wp2
      refine ⟨j3, ?_⟩
      clear hJ j3 a1 a2 a3 a4 a5 a6 a7 hsm nSt hU
      have HP := Lib.hid pl
      clear pl
      gi_wp2
      exact ⟨HP.out, rfl, HU.out.1, HU.out.2⟩
  case l3 =>
    clear hold hbox ht1 ht2 ht3 ht4 hT3 hX htz HT H
    intro S opn es W t hJ hpt
    have j3 := hJ.loop
    have hl := (Array.getElem?_eq_some_iff.1 j3).1
    have HJ := Lib.hid hJ
    obtain ⟨St, L1, ds, js, v, a1, a2, a3, a4, a5, a6, a7⟩ := hJ.st
    rw [Runs] at a7
    obtain ⟨⟨r1, r1b⟩, r2, r3, ds0, r4, r5⟩ := a7
    simp only at r1 r1b r3 r4 r5
    rw [r4] at a6 r1b
    rw [List.length_append, List.length_map] at r1b
    obtain ⟨i1, i2⟩ := IxAt.two a6
    have hjl : js.length = ds0.length + t.ks.length := by have := a6.len; simpa using this
    have nSt : ∀ k ∈ St, k ≠ w.heap.size + 5 := fun k hk => by
      rcases (a5 k hk).1 with h | h
      · have := (hJ.tlow k h).2; omega
      · omega
    have pl : (W.putObj (w.heap.size + 5) (.loop (rec .busy none))).heap[w.heap.size + 5]? = some (.loop (rec .busy none)) := World.putObj_heap_same hl
    have hsm : ∀ k, k ≠ w.heap.size + 5 → (W.putObj (w.heap.size + 5) (.loop (rec .busy none))).heap[k]? = W.heap[k]? := fun k hk => World.putObj_heap_other hk
    have hsz1 : (W.putObj (w.heap.size + 5) (.loop (rec .busy none))).heap.size = W.heap.size := by simp
    have hos1 : (W.putObj (w.heap.size + 5) (.loop (rec .busy none))).os = W.os ∧ (W.putObj (w.heap.size + 5) (.loop (rec .busy none))).tape = W.tape ∧ (W.putObj (w.heap.size + 5) (.loop (rec .busy none))).output = W.output := ⟨rfl, rfl, rfl⟩
    have tv1 := hJ.tv.put (c := w.heap.size + 5) (by omega) (.loop (rec .busy none))
    have dv1 := a1.put (c := w.heap.size + 5) (by omega) (.loop (rec .busy none))
    have own1 : OwnJ (W.putObj (w.heap.size + 5) (.loop (rec .busy none))) (w.heap.size + 6) v js := a2.keep (fun g hg => hsm g (by have := (a2.lt hg).1; omega))
    have tab1 : TabM (W.putObj (w.heap.size + 5) (.loop (rec .busy none))) St tp L1 := a4.keep (by simp) (fun k hk => hsm k (nSt k hk))
    have pow1 : PowB Bt (W.putObj (w.heap.size + 5) (.loop (rec .busy none))) := hJ.hp.on ⟨rfl, rfl, rfl, by simp, fun k hk => hsm k (by omega)⟩
    have hM1 : ∀ k, (k < Bt ∨ k = w.heap.size + 3) → (W.putObj (w.heap.size + 5) (.loop (rec .busy none))).heap[k]? = W.heap[k]? := fun k hk => hsm k (by rcases hk with h | h <;> omega)
    obtain ⟨ta, tc, hMt, n0, n1, n2, ws, wr, wn, wc, _, _⟩ := (hpt.stay hM1 (fun _ h => h)).open
    have hMt' : t.b ∉ St := fun hm => by
      rcases (a5 _ hm).1 with h | h
      · have := hJ.tlow _ h
        rcases hMt with h2 | h2 <;> omega
      · rcases hMt with h2 | h2 <;> omega
    rw [← hrec] at j3
    refine YieldAt.mono (R := fun e W' => ∃ j, e = .returned (.bool j.isNone) ∧ (j = none ∧ IxJ w tp Bt 4000000 S0 (L ++ X, [] ++ [t0.tr]) rec S opn es W' ∧ Keeps S (fun k => k < Bt ∨ k = w.heap.size + 3) W W')) (yieldAt_open hfn j3 rfl ?_) ?_
    rotate_left
    · rintro e W' ⟨j, rfl, rfl, h, hk⟩
      exact ⟨hk, .inl ⟨rfl, h⟩⟩
    · rw [hrec] at j3 ⊢
      clear hrec
      gi_wp2
      refine ⟨j3, ?_⟩
      obtain ⟨va, vc, a2', hv, hvc, hif, hkd, hkb, hhd, hob⟩ := own1.cut ds0.length (by omega)
      subst hv
      have F1 := Lib.hid (And.intro own1 (And.intro tab1 (And.intro pow1 (And.intro hsm (And.intro hsz1 (And.intro hos1 pl))))))
      have F2 := Lib.hid (And.intro a2 (And.intro a3 (And.intro a5 (And.intro i1 (And.intro i2 (And.intro r3 (And.intro r5 hMt')))))))
      have F3 := Lib.hid (And.intro hkd (And.intro hkb (And.intro hhd (And.intro hob (And.intro ws (And.intro wr (And.intro wn nSt)))))))
      have HJL := Lib.hid hjl
      have hfl : (0 : Int) ≤ (ds0.length : Int) := by omega
      have hfj : (ds0.length : Int) ≤ (js.length : Int) := by omega
      have hfc : (ds0.length : Int) ≤ (vc : Int) := by omega
      have hjc : (js.length : Int) ≤ (vc : Int) := by omega
      have hwr : IntKind.i64.wrap ((js.length : Int) - (t.ks.length : Int)) = (ds0.length : Int) := by
        rw [show (js.length : Int) - (t.ks.length : Int) = (ds0.length : Int) from by omega]
        exact IntWalk.i64_in _ (by omega)
      clear hJ j3 a1 a2 a3 a4 a5 a6 r3 r4 r5 i1 i2 hjl nSt pl hsm hsz1 hos1 own1 tab1 pow1 hM1 hMt hMt' hkd hkb hhd hob ws wr wn wc hpt
      generalize W.putObj (w.heap.size + 5) (.loop (rec .busy none)) = W1 at *
      obtain ⟨c1, f1⟩ := dv1.cell
      obtain ⟨c2, f2⟩ := tv1.cell
      gi_wp2
      apply viaP
      · intro hrest
        gi_region_with fail
        all_goals exact hrest
      have G1 : Hid (one1 W1.drew w.heap.size (.pointer (some ⟨tp, 0, none⟩)) 76 ∧ one1 W1.drew (w.heap.size + 2) (.slice va js.length vc) 105 ∧ OwnJ W1.drew (w.heap.size + 6) (.slice va js.length vc) js ∧ TabM W1.drew St tp L1 ∧ PowB Bt W1.drew ∧ (∀ k, k ≠ w.heap.size + 5 → W1.drew.heap[k]? = W.heap[k]?) ∧ W1.drew.heap.size = W.heap.size ∧ (W1.drew.os = W.os ∧ W1.drew.tape = W.tape ∧ W1.drew.output = W.output) ∧ W1.drew.heap[w.heap.size + 5]? = some (.loop (rec .busy none))) :=
        ⟨tv1, dv1, F1.out.1, F1.out.2.1.keep (Nat.le_refl _) (fun _ _ => rfl), F1.out.2.2.1.on (Below.refl _ _).drew, F1.out.2.2.2.1, F1.out.2.2.2.2.1, F1.out.2.2.2.2.2.1, F1.out.2.2.2.2.2.2⟩
      have G3 : Hid (KidR W1.drew a2' (js.drop ds0.length) ∧ OwnJ W1.drew (w.heap.size + 6) (.slice va ds0.length vc) (js.take ds0.length)) := ⟨F3.out.1, F3.out.2.2.1⟩
      have n0' : W1.drew.cell? ⟨t.b, t.o, none⟩ = some (.string t.s) := n0
      have n1' : W1.drew.cell? ⟨t.b, t.o + 1, none⟩ = some (.int .i64 t.r) := n1
      have F4 := Lib.hid F3.out.2.2.2.1
      have F5 := Lib.hid (And.intro F3.out.2.1 F3.out.2.2.2)
      clear n0 n1 n2 c1 f1 c2 f2 tv1 dv1 F1 F3 hwr
      generalize W1.drew = W2 at *
      obtain ⟨c1, f1⟩ := G1.out.2.1.cell
      obtain ⟨c2, f2⟩ := G1.out.1.cell
      have CA : Calls Tryd.prog 87 #[.pointer (some ⟨tp, 0, none⟩), .pointer (some ⟨t.b, t.o, none⟩), .slice a2' (js.length - ds0.length) (vc - ds0.length)] W2.drew fun e w' => ∃ i, e = .returned (.int .i64 ((i : Nat) : Int)) ∧ AddLeft W2 St tp L1 t.tr w' i := by
        obtain ⟨mb, nv, E, F, hEL, hTE⟩ := G1.out.2.2.2.1
        have hdl : (js.drop ds0.length).length = js.length - ds0.length := List.length_drop
        rw [← hdl, t.tr_eq, ← hEL]
        refine (add_any t.s t.r (t.ks.map PT.tr) t.b t.o W2.drew St tp mb nv E F (hTE.keep (Nat.le_refl _) (fun _ _ => rfl)) (by rw [hEL]; exact F2.out.2.2.2.2.2.1) (by have := congrArg List.length hEL; simp at this; omega) a2' (vc - ds0.length) (js.drop ds0.length) (G3.out.1.keep (Nat.le_refl _) (fun _ _ _ _ _ => rfl)) (fun b off fr e => (F2.out.2.1 b (F5.out.1 b off fr e)).2) (by rw [hEL]; exact F2.out.2.2.2.2.1) n0' n1' F2.out.2.2.2.2.2.2.2 ⟨F5.out.2.2.1, F5.out.2.2.2.1, by have := r2; have hk := len_le_sum (t.ks.map PT.tr); rw [PT.sz, t.tr_eq, Tr.sz] at this; omega⟩ (by have := r2; rw [PT.sz, t.tr_eq] at this; omega) Bt (G1.out.2.2.2.2.1.on (Below.refl _ _).drew) (by have := G1.out.2.2.2.2.2.2.1; have := HJ.out.low; show Bt ≤ W2.heap.size; omega)).mono ?_
        rintro e w' ⟨i, S', rfl, h1, h2, h3⟩
        exact ⟨i, rfl, S', h1, h2, ⟨h3.os, h3.tape, h3.output, h3.size, h3.block, h3.own⟩⟩
      have CB := ((callsIn_wide (n := 0)).2 CA).inRound (w.heap.size + 5)
      have HCA := Lib.hid CB
      clear f1 f2 CA CB n0' n1'
      gi_wp2
      apply viaW (AddLeft W2 St tp L1 t.tr)
      · intro hrest
        gi_region_with ((refine ⟨trivial, HCA.out.mono ?_⟩; rintro e w3 ⟨i, rfl, hg3⟩; have HG3 := Lib.hid hg3; clear hg3))
        all_goals exact hrest _ _ HG3.out
      intro w3 i hg3
      obtain ⟨S', tb3, ix3, ap3⟩ := hg3
      have hbg : w.heap.size + 5 < W2.heap.size := by have := G1.out.2.2.2.2.2.2.1; omega
      have nlow : ∀ k, w.heap.size ≤ k → k ≤ w.heap.size + 5 → k ∉ St := fun k h1 h2 hm => by
        rcases (F2.out.2.2.1 k hm).1 with h | h
        · have := (HJ.out.tlow k h).2; omega
        · omega
      have hs3 := ap3.size
      have dv3 : one1 w3 (w.heap.size + 2) (.slice va js.length vc) 105 := (ap3.block _ (by omega) (nlow _ (by omega) (by omega))).trans G1.out.2.1
      have pl3 : w3.heap[w.heap.size + 5]? = some (.loop (rec .busy none)) := (ap3.block _ (by omega) (nlow _ (by omega) (by omega))).trans G1.out.2.2.2.2.2.2.2.2
      have vnot : ∀ g, (Value.slice va js.length vc).ownBlock = some g → g ∉ S ∧ g ∉ St ∧ w.heap.size + 6 ≤ g ∧ g < W.heap.size := fun g hg => by
        have h1 := F2.out.2.1 g hg
        have h2 := F2.out.1.lt hg
        exact ⟨h1.1, h1.2, h2.1, h2.2⟩
      have own3 : OwnJ w3 (w.heap.size + 6) (.slice va ds0.length vc) (js.take ds0.length) := G3.out.2.keep (fun g hg => ap3.block g (by have := vnot g (by rw [← F4.out]; exact hg); have := G1.out.2.2.2.2.2.2.1; omega) (vnot g (by rw [← F4.out]; exact hg)).2.1)
      have htl : (js.take ds0.length).length = ds0.length := by rw [List.length_take]; omega
      have row3 : (w3.alloc (.cells #[.int .i64 ((i : Nat) : Int)] 3)).ownsRow (w.heap.size + 6) 3 1 (.slice va ds0.length vc) ds0.length (rowJ (js.take ds0.length)) := by
        have := own3.keep (w' := w3.alloc (.cells #[.int .i64 ((i : Nat) : Int)] 3)) (fun g hg => blk_old _ _ (own3.lt hg).2)
        unfold OwnJ at this
        rw [htl] at this
        exact this
      obtain ⟨v', w6, hap, h1, h2, _, h4⟩ := run_append_own_at (P := Tryd.prog) (w3.alloc (.cells #[.int .i64 ((i : Nat) : Int)] 3)) (w.heap.size + 6) 105 105 3 i0 (.int .i64 0) 1 8 Tryd.underlying105 hi0 hz0 hz1 hz2 rfl (by decide) (.slice va ds0.length vc) ds0.length (rowJ (js.take ds0.length)) row3 ⟨w3.heap.size, 0, none⟩ 1 1 [.int .i64 ((i : Nat) : Int)] rfl (cell_one_new w3 _ _) (by intro u hu; simp at hu; subst hu; rfl) (by unfold maxLen; omega) (by omega) (by simp; omega)
      have hap' : (appJ #[105, 105] 105 #[.slice va ds0.length vc, .slice (some ⟨w3.heap.size, 0, none⟩) 1 1]).run Tryd.prog (w3.alloc (.cells #[.int .i64 ((i : Nat) : Int)] 3)) = .ok v' w6 := by unfold appJ; exact hap
      clear hap
      have hob : (Value.slice va ds0.length vc).ownBlock = (Value.slice va js.length vc).ownBlock := F4.out
      rw [hob] at h2 h4
      have hg6 : ∀ k, k < w3.heap.size → some k ≠ (Value.slice va js.length vc).ownBlock → w6.heap[k]? = w3.heap[k]? := fun k hk hne => (h2.block k (by simp; omega) hne).trans (blk_old _ _ hk)
      have nv : ∀ k, k ≤ w.heap.size + 5 → some k ≠ (Value.slice va js.length vc).ownBlock := fun k hk e => by have := (vnot k e.symm).2.2.1; omega
      have dv6 : one1 w6 (w.heap.size + 2) (.slice va js.length vc) 105 := (hg6 _ (by omega) (nv _ (by omega))).trans dv3
      have pl6 : w6.heap[w.heap.size + 5]? = some (.loop (rec .busy none)) := (hg6 _ (by omega) (nv _ (by omega))).trans pl3
      have hs6 : w3.heap.size + 1 ≤ w6.heap.size := by have := h2.size; simpa using this
      have own6 : OwnJ w6 (w.heap.size + 6) v' (js.take ds0.length ++ [i]) := by
        unfold OwnJ
        rw [List.length_append, htl]
        unfold rowJ at h1 ⊢
        rw [List.map_append]
        exact h1
      rcases h1.2 with ⟨_, h0⟩ | ⟨g', cp', cur, hv', hgB, hgh, _⟩
      · omega
      subst hv'
      obtain ⟨c3, f3⟩ := dv3.cell
      obtain ⟨c6, f6⟩ := dv6.cell
      have E1 := Lib.hid (And.intro own6 (And.intro dv6 (And.intro pl6 (And.intro h2 (And.intro h4 (And.intro hg6 (And.intro hs6 hgh)))))))
      have E2 := Lib.hid (And.intro tb3 (And.intro ix3 (And.intro ap3 (And.intro nlow (And.intro vnot (And.intro nv (And.intro htl pl3)))))))
      have E3 := Lib.hid hgB
      clear own6 dv6 pl6 h1 h2 h4 hg6 hs6 hgh tb3 ix3 ap3 nlow vnot nv htl pl3 hgB own3 row3 hob dv3 hbg hif c1 c2
      gi_wp2
      have pl7 := blk_set E1.out.2.2.1 (p := ⟨w.heap.size + 2, 0, none⟩) (by show w.heap.size + 5 ≠ w.heap.size + 2; omega) (.slice (some ⟨g', 0, none⟩) (ds0.length + 1) cp')
      have hsW := G1.out.2.2.2.2.2.2.1
      have hs3 := E2.out.2.2.1.size
      have hs6 := E1.out.2.2.2.2.2.2.1
      have osW := G1.out.2.2.2.2.2.2.2.1
      have new' : ∀ k ∈ S', k ∈ St ∨ W.heap.size ≤ k := fun k hk => by
        rcases E2.out.2.2.1.own k hk with h | h
        · exact .inl h
        · exact .inr (by omega)
      have not' : ∀ k ∈ S', k ≠ w.heap.size + 5 ∧ k ≠ w.heap.size + 2 := fun k hk => by
        rcases new' k hk with h | h
        · exact ⟨fun e => E2.out.2.2.2.1 k (by omega) (by omega) h, fun e => E2.out.2.2.2.1 k (by omega) (by omega) h⟩
        · omega
      have vS' : ∀ k ∈ S', some k ≠ (Value.slice va js.length vc).ownBlock := fun k hk e => by
        have hv := E2.out.2.2.2.2.1 k e.symm
        rcases new' k hk with h | h
        · exact hv.2.1 h
        · omega
      obtain ⟨Y, hY⟩ := addL_more L1 t.tr
      have hU := HJ.out.upd (opn' := opn) (es' := es) (W' := (w6.setCell ⟨w.heap.size + 2, 0, none⟩ (.slice (some ⟨g', 0, none⟩) (ds0.length + 1) cp')).putObj (w.heap.size + 5) (.loop (rec .ready none))) F2.out.1 F2.out.2.1 F2.out.2.2.1
        ⟨E1.out.2.2.2.1.os.trans (E2.out.2.2.1.os.trans osW.1), E1.out.2.2.2.1.tape.trans (E2.out.2.2.1.tape.trans osW.2.1), E1.out.2.2.2.1.output.trans (E2.out.2.2.1.output.trans osW.2.2)⟩ (by simp; omega)
        (fun k hk h5 h2 hS hv => (World.putObj_heap_other h5).trans ((Below.heap_setCell _ _ _ k h2).trans ((E1.out.2.2.2.2.2.1 k (by omega) (fun e => hv e.symm)).trans ((E2.out.2.2.1.block k (by omega) hS).trans (G1.out.2.2.2.2.2.1 k h5)))))
        ((E1.out.2.1.set _).put (c := w.heap.size + 5) (by omega) _)
        (E1.out.1.keep (fun g hg => by
          have := (E1.out.1.lt hg).1
          exact (World.putObj_heap_other (by omega)).trans (Below.heap_setCell _ _ _ g (by show g ≠ w.heap.size + 2; omega))))
        (fun g hg => by
          rcases E1.out.2.2.2.2.1 with h | h
          · rw [h] at hg
            exact ⟨.inl hg, fun hm => vS' g hm hg.symm⟩
          · rw [h] at hg
            simp only [Option.some.injEq, World.size_alloc] at hg
            exact ⟨.inr (by omega), fun hm => by have := E2.out.1.lt g hm; omega⟩)
        (E2.out.1.keep (by simp; omega) (fun k hk => (World.putObj_heap_other (not' k hk).1).trans ((Below.heap_setCell _ _ _ k (not' k hk).2).trans (E1.out.2.2.2.2.2.1 k (E2.out.1.lt k hk) (vS' k hk)))))
        new' ((show IxAt (addL L1 t.tr) (js.take ds0.length) ds0 by rw [hY]; exact F2.out.2.2.2.1.mono Y).snoc E2.out.2.1) F2.out.2.2.2.2.2.2.1 (World.putObj_heap_same (Array.getElem?_eq_some_iff.1 pl7).1)
      exact ⟨pl7, rfl, hU.1, hU.2⟩
  rintro e W ⟨⟨v, rfl⟩, ⟨S, hJ⟩ | hS⟩
  · have hl := (Array.getElem?_eq_some_iff.1 hJ.loop).1
    obtain ⟨St, L1, ds, js, v', a1, a2, a3, a4, a5, a6, a7⟩ := hJ.st
    rw [Runs] at a7
    obtain ⟨rfl, rfl⟩ := Prod.mk.inj a7
    rw [List.nil_append, ht3] at a6
    have hj1 : js.length = 1 := by have := a6.len; simpa using this
    obtain ⟨i, rfl⟩ : ∃ i, js = [i] := List.length_eq_one_iff.1 hj1
    have hi0 : (L ++ X)[i]? = some T := (IxAt.cons.1 a6).1
    have nSt : ∀ k ∈ St, k ≠ w.heap.size + 5 ∧ k ≠ w.heap.size + 4 := fun k hk => by
      rcases (a5 k hk).1 with h | h
      · have := (hJ.tlow k h).2; omega
      · omega
    rcases a2.2 with ⟨_, h0⟩ | ⟨g, cp, cur, rfl, hg, hh, hlc, hm, hsz, htk⟩
    · simp at h0
    have hgl : g < W.heap.size := (Array.getElem?_eq_some_iff.1 hh).1
    have q1 := a1.put (c := w.heap.size + 5) (by omega) (.loop (rec .exhausted none))
    have q2 : (W.putObj (w.heap.size + 5) (.loop (rec .exhausted none))).heap[g]? = some (.cells cur 3 (0, 0)) := (World.putObj_heap_other (by omega)).trans hh
    have q3 : (W.putObj (w.heap.size + 5) (.loop (rec .exhausted none))).cell? ⟨g, 0, none⟩ = some (.int .i64 ((i : Nat) : Int)) := by
      rw [cell_of_block q2]
      have e := congrArg (fun l => l[0]?) htk
      simp only [List.getElem?_take] at e
      simpa [rowJ] using e
    have q4 : (W.putObj (w.heap.size + 5) (.loop (rec .exhausted none))).heap[w.heap.size + 4]? = some (.deferred (some [])) := (World.putObj_heap_other (by omega)).trans hJ.defs
    have q5 : TabM (W.putObj (w.heap.size + 5) (.loop (rec .exhausted none))) St tp (L ++ X) := a4.keep (by simp) (fun k hk => World.putObj_heap_other (nSt k hk).1)
    have q6 : Apart S0 St w (W.putObj (w.heap.size + 5) (.loop (rec .exhausted none))) := ⟨hJ.frm.os, hJ.frm.tape, hJ.frm.output, by simpa using hJ.frm.size, fun k hk h0 => (World.putObj_heap_other (by omega)).trans (hJ.frm.block k hk h0), fun k hk => by
      rcases (a5 k hk).1 with h | h
      · exact .inl h
      · exact .inr ⟨by omega, by have := a4.lt k hk; simpa using this⟩⟩
    refine ⟨v, .ready, none, rfl, by simp, hJ.loop, ?_⟩
    unfold afterSeq
    have HQ := Lib.hid (And.intro q5 (And.intro q6 hi0))
    have HNS := Lib.hid nSt
    clear hJ ht4 hold hbox q2 q5 q6 hi0 a1 a2 a3 a4 a5 a6 a7 hh htk hsz nSt hj1 HT H hX ht1 ht2 ht3 htz hT3
    generalize W.putObj (w.heap.size + 5) (.loop (rec .exhausted none)) = W5 at *
    obtain ⟨c1, c2⟩ := q1.cell
    gi_wp2
    refine ⟨by simp, .inl ⟨_, _, rfl, run_takeDeferred q4, ?_⟩⟩
    refine ⟨.int .i64 ((i : Nat) : Int), ?_, i, X, St, rfl, HQ.out.1.keep (by simp) (fun k hk => World.putObj_heap_other (HNS.out k hk).2), HXN.out, HQ.out.2.2, ⟨HQ.out.2.1.os, HQ.out.2.1.tape, HQ.out.2.1.output, by simpa using HQ.out.2.1.size, fun k hk h0 => (World.putObj_heap_other (by omega)).trans (HQ.out.2.1.block k hk h0), fun k hk => by have := HQ.out.2.1.own k hk; simpa using this⟩, HXL.out⟩
    simp [results, Tryd.results48, go_sem]
  · exact hS.elim
end Go.Proofs.YtpkejcjjbkgomaaDoor
namespace Go.Proofs.YtpkejcjjbkgomaaDoor
open Go.ChangeShapes Go.WideShapes Go.ChangeAt Go.RowKit Go.Deep
set_option maxRecDepth 100000
open Classical in
noncomputable def sameTr (A B : Tr) : Bool := decide (A = B)
open Classical in
theorem sameTr_true {A B : Tr} (h : A = B) : sameTr A B = true := decide_eq_true h
open Classical in
theorem sameTr_false {A B : Tr} (h : A ≠ B) : sameTr A B = false := decide_eq_false h
theorem sameTr_comm (A B : Tr) : sameTr A B = sameTr B A := by
  by_cases h : A = B
  · rw [sameTr_true h, sameTr_true h.symm]
  · rw [sameTr_false h, sameTr_false fun e => h e.symm]
theorem bytes_list {a b : ByteArray} (h : a.toList = b.toList) : a = b := by
  have h1 := Go.ByteArray.toList_eq a
  have h2 := Go.ByteArray.toList_eq b
  cases a; cases b
  simp_all
set_option maxHeartbeats 2000000 in
theorem sTreeSame_any (m : Nat) : ∀ (A : Tr), A.sz ≤ m → ∀ (B : Tr) v u w, TrIn w 0 v A → TrIn w 0 u B →
    Calls Tryd.prog 13 #[v, u] w fun e w' => e = .returned (.bool (sameTr A B)) ∧ Below w.heap.size w w' := by
  induction m with
  | zero =>
    intro T hT
    cases T with
    | node s r ks => rw [Tr.sz] at hT; omega
  | succ m ih =>
    intro A hA B v u w HA HB
    obtain ⟨s, r, ks, a, cap, rfl, rfl, hs, hr, hn, hc, HK⟩ := HA.open
    obtain ⟨s', r', ks', a', cap', rfl, rfl, hs', hr', hn', hc', HK'⟩ := HB.open
    have hb1 := (Below.refl w.heap.size w).alloc (Nat.le_refl _) (.cells #[.string s, .int .i64 r, .slice a ks.length cap] 29)
    have hb2 := hb1.alloc (by simp) (.cells #[.string s', .int .i64 r', .slice a' ks'.length cap'] 29)
    have hX : BoxT ((w.alloc (.cells #[.string s, .int .i64 r, .slice a ks.length cap] 29)).alloc (.cells #[.string s', .int .i64 r', .slice a' ks'.length cap'] 29)) w.heap.size (.string s) (.int .i64 r) (.slice a ks.length cap) := (blk_old _ _ (by simp)).trans (blk_new _ _ rfl)
    have hY : BoxT ((w.alloc (.cells #[.string s, .int .i64 r, .slice a ks.length cap] 29)).alloc (.cells #[.string s', .int .i64 r', .slice a' ks'.length cap'] 29)) (w.heap.size + 1) (.string s') (.int .i64 r') (.slice a' ks'.length cap') := blk_new _ _ (by simp)
    have hkids : ∀ k ∈ ks, ∀ (B : Tr) v u w, TrIn w 0 v k → TrIn w 0 u B → Calls Tryd.prog 13 #[v, u] w fun e w' => e = .returned (.bool (sameTr k B)) ∧ Below w.heap.size w w' :=
      fun k hk => ih k (by have := Tr.sz_kid (s := s) (r := r) hk; omega)
    have HIH := Lib.hid hkids
    obtain ⟨o0, o1, o2, of0, of1, of2⟩ := hX.cells
    obtain ⟨p0, p1, p2, pf0, pf1, pf2⟩ := hY.cells
    unfold maxLen at hn hn'
    clear hkids ih hA HA HB hb1
    by_cases hse : s.toList = s'.toList
    case neg =>
      have hne : (s.toList != s'.toList) = true := by simpa using hse
      have hnq : (s.toList == s'.toList) = false := by simpa using hse
      have HF : Hid (sameTr (.node s r ks) (.node s' r' ks') = false) := sameTr_false fun e => by injection e with e1; exact hse (by rw [e1])
      go_enter Tryd.func13, Tryd.ntmps13
      go_wp2_with fail
      go_ret
      exact ⟨by rw [HF.out]; rfl, hb2⟩
    have hne : (s.toList != s'.toList) = false := by simpa using hse
    have hnq : (s.toList == s'.toList) = true := by simpa using hse
    have hse' := Lib.hid (bytes_list hse)
    clear hse
    by_cases hre : r = r'
    case neg =>
      have hnr : (r != r') = true := by simpa using hre
      have hrq : (r == r') = false := by simpa using hre
      have HF : Hid (sameTr (.node s r ks) (.node s' r' ks') = false) := sameTr_false fun e => by injection e with _ e1; exact hre e1
      clear hre
      go_enter Tryd.func13, Tryd.ntmps13
      go_wp2_with fail
      go_ret
      exact ⟨by rw [HF.out]; rfl, hb2⟩
    have hnr : (r != r') = false := by simpa using hre
    have hrq : (r == r') = true := by simpa using hre
    have hre' := Lib.hid hre
    clear hre
    by_cases hle : ks.length = ks'.length
    case neg =>
      have hnl : ((ks.length : Int) != (ks'.length : Int)) = true := by simp; omega
      have hlq : ((ks.length : Int) == (ks'.length : Int)) = false := by simp; omega
      have HF : Hid (sameTr (.node s r ks) (.node s' r' ks') = false) := sameTr_false fun e => by injection e with _ _ e1; exact hle (by rw [e1])
      clear hle
      go_enter Tryd.func13, Tryd.ntmps13
      go_wp2_with fail
      go_ret
      exact ⟨by rw [HF.out]; rfl, hb2⟩
    have hnl : ((ks.length : Int) != (ks'.length : Int)) = false := by simp; omega
    have hlq : ((ks.length : Int) == (ks'.length : Int)) = true := by simp; omega
    have hle' := Lib.hid hle
    clear hle
    go_enter Tryd.func13, Tryd.ntmps13
    go_wp2_with fail
    go_loopg [5] (ks.length + 1) (fun gk iv wr => ∃ i : Nat, gk = ks.length + 1 - i ∧ i ≤ ks.length ∧ iv = .int .i64 (i : Int) ∧ Hid (∀ j (h : j < ks.length) (h' : j < ks'.length), j < i → ks[j] = ks'[j]) ∧ BoxT wr w.heap.size (.string s) (.int .i64 r) (.slice a ks.length cap) ∧ BoxT wr (w.heap.size + 1) (.string s') (.int .i64 r') (.slice a' ks'.length cap') ∧ Below w.heap.size w wr)
    case atStart => exact ⟨0, rfl, Nat.zero_le _, rfl, fun j _ _ h => absurd h (Nat.not_lt_zero _), hX, hY, hb2⟩
    case round =>
      clear hX hY hb2 o0 o1 o2 of0 of1 of2 p0 p1 p2 pf0 pf1 pf2
      obtain ⟨i, hgk, hi, rfl, HE, hB, hC, hb⟩ := hrel
      have HG := Lib.hid hgk
      obtain ⟨o0, o1, o2, of0, of1, of2⟩ := hB.cells
      obtain ⟨p0, p1, p2, pf0, pf1, pf2⟩ := hC.cells
      clear hgk
      by_cases hlt : i < ks.length
      · have hil : (i : Int) < (ks.length : Int) := by omega
        have hlt' : i < ks'.length := by have := hle'.out; omega
        have hil' : (i : Int) < (ks'.length : Int) := by omega
        have hi0 : (0 : Int) ≤ (i : Int) := by omega
        obtain ⟨g, off, sa, ra, xa, rfl, _, hg, c0, c1, c2, ht⟩ := (HK.below hb) i hlt
        obtain ⟨a3, n3, cap3, rfl⟩ := ht.third
        obtain ⟨g', off', sb, rb, xb, rfl, _, hg', d0, d1, d2, hu⟩ := (HK'.below hb) i hlt'
        obtain ⟨a4, n4, cap4, rfl⟩ := hu.third
        have q0 : ∀ y, (grow wr y).cell? ⟨g, off + i * 3, none⟩ = some (.string sa) := fun y => by rw [grow_cell _ _ _ _ hg]; exact c0
        have q1 : ∀ y, (grow wr y).cell? ⟨g, off + i * 3 + 1, none⟩ = some (.int .i64 ra) := fun y => by rw [grow_cell _ _ _ _ hg]; exact c1
        have q2 : ∀ y, (grow wr y).cell? ⟨g, off + i * 3 + 2, none⟩ = some (.slice a3 n3 cap3) := fun y => by rw [grow_cell _ _ _ _ hg]; exact c2
        have p3 : ∀ y, (grow wr y).cell? ⟨g', off' + i * 3, none⟩ = some (.string sb) := fun y => by rw [grow_cell _ _ _ _ hg']; exact d0
        have p4 : ∀ y, (grow wr y).cell? ⟨g', off' + i * 3 + 1, none⟩ = some (.int .i64 rb) := fun y => by rw [grow_cell _ _ _ _ hg']; exact d1
        have p5 : ∀ y, (grow wr y).cell? ⟨g', off' + i * 3 + 2, none⟩ = some (.slice a4 n4 cap4) := fun y => by rw [grow_cell _ _ _ _ hg']; exact d2
        have lB := (Array.getElem?_eq_some_iff.1 hB).1
        have lC := (Array.getElem?_eq_some_iff.1 hC).1
        have u2 : ∀ y, (grow wr y).cell? ⟨w.heap.size, 2, none⟩ = some (.slice (some ⟨g, off, none⟩) ks.length cap) := fun y => by rw [grow_cell _ _ _ _ lB]; exact o2
        have v2 : ∀ y, (grow wr y).cell? ⟨w.heap.size + 1, 2, none⟩ = some (.slice (some ⟨g', off', none⟩) ks'.length cap') := fun y => by rw [grow_cell _ _ _ _ lC]; exact p2
        obtain ⟨bv, hbv⟩ : ∃ bv, sameTr ks[i] ks'[i] = bv := ⟨_, rfl⟩
        have C1 : ∀ y, Calls Tryd.prog 13 #[.agg #[.string sa, .int .i64 ra, .slice a3 n3 cap3], .agg #[.string sb, .int .i64 rb, .slice a4 n4 cap4]] (grow wr y) fun e w' => e = .returned (.bool bv) ∧ ∃ z, w' = grow wr z :=
          fun y => by rw [← hbv]; exact Calls.grow_of (HIH.out ks[i] (List.getElem_mem hlt) ks'[i] _ _ _ (ht.keep (below_grow _ y)) (hu.keep (below_grow _ y)))
        have HBV := Lib.hid hbv
        clear c0 c1 c2 d0 d1 d2 ht hu hbv
        go_wp2_with fail
        refine wp_region_grow (by kernel_rfl) (by kernel_rfl) ?_
        repeat (go_big_quiet_step ((first | (go_at_call 13; exact C1 _))))
        refine wpQuiet_nil ?_
        rintro _ ⟨y, rfl⟩
        have hB3 := hB.below (below_grow wr y)
        have hC3 := hC.below (below_grow wr y)
        have hBB := hb.trans ((below_grow wr y).mono hb.size)
        generalize grow wr y = w5 at *
        clear q0 q1 q2 p3 p4 p5 C1 u2 v2 hB hC hb lB lC o0 o1 o2 of0 of1 of2 p0 p1 p2 pf0 pf1 pf2
        by_cases hk : ks[i] = ks'[i]
        · have hv := HBV.out.symm.trans (sameTr_true hk)
          have HKK := Lib.hid hk
          clear hk
          subst hv
          go_wp2_with fail
          go_roundg (ks.length + 1 - (i + 1))
          case measure => have := HG.out; omega
          case rel => exact ⟨i + 1, rfl, by omega, by go_num, fun j h h' hj => by
            by_cases e : j = i
            · subst e; exact HKK.out
            · exact HE.out j h h' (by omega), hB3, hC3, hBB⟩
        · have hv := HBV.out.symm.trans (sameTr_false hk)
          have HF : Hid (sameTr (.node s r ks) (.node s' r' ks') = false) := sameTr_false fun e => by
            injection e with _ _ e1
            subst e1
            exact hk rfl
          clear hk
          subst hv
          go_wp2_with fail
          go_ret
          exact ⟨by rw [HF.out]; rfl, hBB⟩
      · have hil : ¬ (i : Int) < (ks.length : Int) := by omega
        obtain rfl : i = ks.length := by omega
        have HF : Hid (sameTr (.node s r ks) (.node s' r' ks') = true) := sameTr_true (by
          rw [hse'.out, hre'.out, show ks = ks' from List.ext_getElem hle'.out fun j h h' => HE.out j h h' h])
        go_wp2_with fail
        go_ret
        exact ⟨by rw [HF.out]; rfl, hb⟩
end Go.Proofs.YtpkejcjjbkgomaaDoor
namespace Go.Proofs.YtpkejcjjbkgomaaDoor
open Go.ChangeShapes Go.WideShapes Go.ChangeAt Go.RowKit Go.Deep
set_option maxRecDepth 100000
theorem tabIs_name {W : World} {n n' : String} {k : IntKind} {zs : List Int} (h : Lib.TabIs Tryd.prog W n k zs) (e : Tryd.prog.globalNamed n' = Tryd.prog.globalNamed n) : Lib.TabIs Tryd.prog W n' k zs := by
  unfold Lib.TabIs World.var? at *
  rw [e]
  exact h
/-- the table of powers stands third on the row's list -/
theorem pow_third {W : World} {n1 n2 n3 : String} {d1 d2 : DataW Unit} {rest : List (String × DataW Unit)} (h : laidMet Tryd.prog ((n1, d1) :: (n2, d2) :: (n3, Lib.tabData .u64 Lib.pow10Tab) :: rest) W) (hg : Tryd.prog.globalNamed n3 = some 0)
    (hty : (Tryd.prog.globals[0]?).map (·.type) = some 205) (hce : Tryd.prog.cellsOf 197 = 1) (hct : Tryd.prog.cellsOf 205 = 20) : PowB W.heap.size W := by
  obtain ⟨ps, ⟨g1, t1, cs1, f1, p1, q1, _, _, _, _, ⟨g2, t2, cs2, f2, p2, q2, _, _, _, _, ⟨g', t', cs, fuel, p, q, hg', ht', hvar, hd, _, _⟩, _⟩, _⟩, _⟩ := h
  obtain rfl := Option.some.inj (hg.symm.trans hg')
  obtain rfl := Option.some.inj (hty.symm.trans ht')
  have h3 : Lib.TabIs Tryd.prog W n3 .u64 Lib.pow10Tab := by
    unfold Lib.TabIs
    rw [hvar, ← Lib.cells_of_tab Tryd.underlying205 Tryd.underlying197 hce hct hd]
  intro name e
  exact Lib.tabBelow_of_tabIs (tabIs_name h3 (e.trans hg.symm))
/-- where two trees stand is one place just if they are one -/
theorem place_eq {L : List Tr} (hn : L.Nodup) {i j : Nat} {A B : Tr} (hi : L[i]? = some A) (hj : L[j]? = some B) : (((i : Nat) : Int) == ((j : Nat) : Int)) = sameTr A B := by
  by_cases h : A = B
  · subst h
    rw [sameTr_true rfl, place_one hn hi hj]
    simp
  · rw [sameTr_false h]
    have : i ≠ j := by
      rintro rfl
      rw [hi] at hj
      exact h (Option.some.inj hj)
    simp
    omega
set_option maxHeartbeats 2000000 in
theorem treeSame_any (A B : Tr) (va vb : Value) (w : World) (B0 B1 : Nat) (HA : TrP w B0 va A) (HB : TrP w B1 vb B) (hA : A.sz ≤ 2000000) (hB : B.sz ≤ 2000000) (hAB : 2 * A.sz + 2 * B.sz ≤ 4000000) (hp : PowB w.heap.size w) :
    Calls Tryd.prog 15 #[va, vb] w fun e w' => e = .returned (.bool (sameTr A B)) ∧ Below w.heap.size w w' := by
  obtain ⟨s, r, ks, a, cap, rfl, hTe, _⟩ := HA.tr.open
  clear hTe
  obtain ⟨s', r', ks', a', cap', rfl, hTe, _⟩ := HB.tr.open
  clear hTe
  have hb2 := ((Below.refl w.heap.size w).alloc (Nat.le_refl _) (.cells #[.string s, .int .i64 r, .slice a ks.length cap] 29)).alloc (by simp) (.cells #[.string s', .int .i64 r', .slice a' ks'.length cap'] 29)
  have hX : BoxT ((w.alloc (.cells #[.string s, .int .i64 r, .slice a ks.length cap] 29)).alloc (.cells #[.string s', .int .i64 r', .slice a' ks'.length cap'] 29)) w.heap.size (.string s) (.int .i64 r) (.slice a ks.length cap) := (blk_old _ _ (by simp)).trans (blk_new _ _ rfl)
  have hY : BoxT ((w.alloc (.cells #[.string s, .int .i64 r, .slice a ks.length cap] 29)).alloc (.cells #[.string s', .int .i64 r', .slice a' ks'.length cap'] 29)) (w.heap.size + 1) (.string s') (.int .i64 r') (.slice a' ks'.length cap') := blk_new _ _ (by simp)
  have HA2 := HA.keep hb2
  have HB2 := HB.keep hb2
  obtain ⟨o0, o1, o2, of0, of1, of2⟩ := hX.cells
  obtain ⟨p0, p1, p2, pf0, pf1, pf2⟩ := hY.cells
  have CE1 := Lib.hid (endless_any A _ _ B0 HA2 hA)
  go_enter Tryd.func15, Tryd.ntmps15
  go_wp2_with fail
  refine CE1.out.mono ?_
  rintro e w3 ⟨rfl, hb3⟩
  have c3 := hb2.trans (hb3.mono hb2.size)
  have X3 := hX.below hb3
  have Y3 := hY.below hb3
  have HA3 := HA.keep c3
  have HB3 := HB.keep c3
  clear o0 o1 o2 of0 of1 of2 p0 p1 p2 pf0 pf1 pf2 hb2 hb3 hX hY HA2 HB2 CE1
  obtain ⟨o0, o1, o2, of0, of1, of2⟩ := X3.cells
  obtain ⟨p0, p1, p2, pf0, pf1, pf2⟩ := Y3.cells
  have CE2 := Lib.hid (endless_any B _ _ B1 HB3 hB)
  go_wp2_with fail
  refine CE2.out.mono ?_
  rintro e w4 ⟨rfl, hb4⟩
  have c4 := c3.trans (hb4.mono c3.size)
  have X4 := X3.below hb4
  have Y4 := Y3.below hb4
  clear o0 o1 o2 of0 of1 of2 p0 p1 p2 pf0 pf1 pf2 c3 hb4 X3 Y3 HA3 HB3 CE2
  go_wp2_with fail
  refine (newNodeTable_any w4).mono ?_
  rintro e w5 ⟨rfl, ht5, hb5⟩
  have c5 := c4.trans (hb5.mono c4.size)
  have X5 : BoxT w5 w.heap.size (.string s) (.int .i64 r) (.slice a ks.length cap) := X4.below hb5
  have Y5 : BoxT w5 (w.heap.size + 1) (.string s') (.int .i64 r') (.slice a' ks'.length cap') := Y4.below hb5
  have lX : w.heap.size < w4.heap.size := (Array.getElem?_eq_some_iff.1 X4).1
  have lY : w.heap.size + 1 < w4.heap.size := (Array.getElem?_eq_some_iff.1 Y4).1
  have QA : TrQ w5 (fun k => k < w4.heap.size) (.agg #[.string s, .int .i64 r, .slice a ks.length cap]) A := TrQ.stay (TrQ.mono (HA.keep c4) (fun k _ hk => hk)) (fun k hk _ => hb5.block k hk)
  have QB : TrQ w5 (fun k => k < w4.heap.size) (.agg #[.string s', .int .i64 r', .slice a' ks'.length cap']) B := TrQ.stay (TrQ.mono (HB.keep c4) (fun k _ hk => hk)) (fun k hk _ => hb5.block k hk)
  have P5 : PowB w4.heap.size w5.drew := ((hp.on c4).up c4.size).on ((hb5).trans (Below.refl _ _).drew)
  have hs5 := hb5.size
  have C1 := indexOf_any A (.agg #[.string s, .int .i64 r, .slice a ks.length cap]) w5.drew [w4.heap.size, w4.heap.size + 1] (w4.heap.size + 1) w4.heap.size [] (TrQ.stay QA (fun _ _ _ => rfl)) hA (ht5.keep (Nat.le_refl _) (fun _ _ => rfl)) List.nodup_nil (fun k hk => by simp at hk; omega) P5 hs5 (by simp; omega)
  have C2 : ∀ (w6 : World) (S' : List Nat) (X : List Tr), TabM w6 S' (w4.heap.size + 1) X → X.Nodup → X.length ≤ 2 * A.sz → Apart [w4.heap.size, w4.heap.size + 1] S' w5.drew w6 → Calls Tryd.prog 48 #[.pointer (some ⟨w4.heap.size + 1, 0, none⟩), .agg #[.string s', .int .i64 r', .slice a' ks'.length cap']] w6 fun e w' => ∃ j Y, e = .returned (.int .i64 ((j : Nat) : Int)) ∧ (X ++ Y).Nodup ∧ (X ++ Y)[j]? = some B ∧ Below w4.heap.size w5.drew w' := by
    intro w6 S' X h1 h2 h3 h4
    have old : ∀ k, k < w4.heap.size → w6.heap[k]? = w5.heap[k]? := fun k hk => h4.block k (by show k < w5.heap.size; omega) (fun hm => by simp at hm; omega)
    have hs6 : w5.heap.size ≤ w6.heap.size := h4.size
    have b6 : Below w4.heap.size w5.drew w6 := ⟨h4.os, h4.tape, h4.output, h4.size, fun k hk => old k hk⟩
    refine (indexOf_any B (.agg #[.string s', .int .i64 r', .slice a' ks'.length cap']) w6 S' (w4.heap.size + 1) w4.heap.size X (TrQ.stay QB (fun k hk _ => old k hk)) hB h1 h2 (fun k hk => ?_) (P5.on b6) (by omega) (by omega)).mono ?_
    · rcases h4.own k hk with h | h
      · simp at h; omega
      · have : w5.heap.size ≤ k := h.1
        omega
    · rintro e w' ⟨j, Y, S2, rfl, _, n1, j1, a1, _⟩
      refine ⟨j, Y, rfl, n1, j1, ?_⟩
      refine b6.trans ⟨a1.os, a1.tape, a1.output, a1.size, fun k hk => a1.block k (by omega) (fun hm => ?_)⟩
      rcases h4.own k hm with h | h
      · simp at h; omega
      · have : w5.heap.size ≤ k := h.1
        omega
  have keep6B : ∀ (w6 : World), Below w4.heap.size w5.drew w6 → w6.cell? ⟨w.heap.size, 0, none⟩ = some (.string s) ∧ w6.cell? ⟨w.heap.size, 1, none⟩ = some (.int .i64 r) ∧ w6.cell? ⟨w.heap.size, 2, none⟩ = some (.slice a ks.length cap) ∧ w6.cell? ⟨w.heap.size + 1, 0, none⟩ = some (.string s') ∧ w6.cell? ⟨w.heap.size + 1, 1, none⟩ = some (.int .i64 r') ∧ w6.cell? ⟨w.heap.size + 1, 2, none⟩ = some (.slice a' ks'.length cap') := by
    intro w6 h4
    have old : ∀ k, k < w4.heap.size → w6.heap[k]? = w5.heap[k]? := fun k hk => h4.block k hk
    have X6 : BoxT w6 w.heap.size (.string s) (.int .i64 r) (.slice a ks.length cap) := (old _ lX).trans X5
    have Y6 : BoxT w6 (w.heap.size + 1) (.string s') (.int .i64 r') (.slice a' ks'.length cap') := (old _ lY).trans Y5
    obtain ⟨u0, u1, u2, _, _, _⟩ := X6.cells
    obtain ⟨v0, v1, v2, _, _, _⟩ := Y6.cells
    exact ⟨u0, u1, u2, v0, v1, v2⟩
  have apB : ∀ (w6 : World) (S' : List Nat), Apart [w4.heap.size, w4.heap.size + 1] S' w5.drew w6 → Below w4.heap.size w5.drew w6 := fun w6 S' h4 => ⟨h4.os, h4.tape, h4.output, h4.size, fun k hk => h4.block k (by show k < w5.heap.size; omega) (fun hm => by simp at hm; omega)⟩
  have BWh : Hid (∀ w' : World, Below w4.heap.size w5.drew w' → Below w.heap.size w w') := fun w' h => (c5.trans (Below.refl w.heap.size w5).drew).trans (h.mono (by omega))
  have APh := Lib.hid apB
  have C1h := Lib.hid (C1.mono (R' := fun e w' => ∃ i X S', e = .returned (.int .i64 ((i : Nat) : Int)) ∧ TabM w' S' (w4.heap.size + 1) X ∧ X.Nodup ∧ X[i]? = some A ∧ Apart [w4.heap.size, w4.heap.size + 1] S' w5.drew w' ∧ X.length ≤ 2 * A.sz) (fun e w' h => by simpa using h))
  have C2h := Lib.hid C2
  have K6h := Lib.hid keep6B
  obtain ⟨o0, o1, o2, of0, of1, of2⟩ := X5.cells
  obtain ⟨p0, p1, p2, pf0, pf1, pf2⟩ := Y5.cells
  clear C1 C2 keep6B apB QA QB P5 hs5 ht5 hb5 c4 c5 X4 Y4 X5 Y5 HA HB hp
  go_wp2_with fail
  go_region_held3 (fun w' => w'.cell? ⟨w.heap.size, 0, none⟩ = some (.string s) ∧ w'.cell? ⟨w.heap.size, 1, none⟩ = some (.int .i64 r) ∧ w'.cell? ⟨w.heap.size, 2, none⟩ = some (.slice a ks.length cap) ∧ w'.cell? ⟨w.heap.size + 1, 0, none⟩ = some (.string s') ∧ w'.cell? ⟨w.heap.size + 1, 1, none⟩ = some (.int .i64 r') ∧ w'.cell? ⟨w.heap.size + 1, 2, none⟩ = some (.slice a' ks'.length cap'))
    (first
      | go_keep
      | with_reducible exact hk6
      | with_reducible exact hk7
      | fail)
    (first
      | (go_at_call 48; (with_reducible refine C1h.out.mono ?_); rintro e w6 ⟨i, X, S', rfl, ht6, hn6, hi6, ha6, hl6⟩; have hk6 := K6h.out _ (APh.out _ _ ha6); have HH6 := Lib.hid (And.intro ht6 (And.intro hn6 (And.intro hl6 (And.intro ha6 hi6)))); clear ht6 hn6 hl6 ha6 hi6)
      | (go_at_call 48; (with_reducible refine (C2h.out w6 S' X HH6.out.1 HH6.out.2.1 HH6.out.2.2.1 HH6.out.2.2.2.1).mono ?_); rintro e w7 ⟨j, Y, rfl, hn7, hj7, hb7⟩; have HEQ := Lib.hid (place_eq hn7 (place_more Y HH6.out.2.2.2.2) hj7); have HB7 := Lib.hid (BWh.out _ hb7); have hk7 := K6h.out _ hb7; clear hn7 hj7 hb7)
      | fail)
  go_wp2_with fail
  go_ret
  exact ⟨by rw [← HEQ.out]; rfl, HB7.out⟩
end Go.Proofs.YtpkejcjjbkgomaaDoor
