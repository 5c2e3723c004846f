/- The contract of the program's endless at a tree made in plain memory: it is not endless. -/
import Derived.Test.YtpkejcjjbkgomaaDoorEndA
namespace Go.Proofs.YtpkejcjjbkgomaaDoor
open Go.ChangeShapes Go.WideShapes Go.ChangeAt Go.RowKit Go.Deep
attribute [local go_sem] Oper.semAt_some
set_option maxRecDepth 100000
def keyOf (t : PT) : Value := .pointer (some ⟨t.b, t.o, none⟩)
/-- what endless holds between two events; B: its first block -/
structure EndJ (w0 : World) (M : Nat → Prop) (rec : LoopState → Option Code → Loop) (S : List Nat) (opn : List PT) (es : List (PT × Bool)) (W : World) : Prop where
  bel : Below w0.heap.size w0 W
  res : one1 W (w0.heap.size + 1) (.bool false) 4
  var : one1 W (w0.heap.size + 3) (.map (some (w0.heap.size + 2))) 132
  mp : ∃ en ck, W.heap[w0.heap.size + 2]? = some (.map en ck) ∧ en.toList.map (·.key) = opn.reverse.map keyOf
  loop : W.heap[w0.heap.size + 6]? = some (.loop (rec .ready none))
  defs : W.heap[w0.heap.size + 5]? = some (.deferred (some []))
  own : ∀ k ∈ S, w0.heap.size + 6 < k ∧ k < W.heap.size
  pts : ∀ a ∈ opn, PtIn W M a
  chain : opn.Pairwise (fun a b => a.sz < b.sz)
  pl : ∀ k, M k → PlainB W k
  low : ∀ k, M k → TM w0.heap.size (w0.heap.size + 4) k
theorem EndJ.apart {w0 : World} {M : Nat → Prop} {rec : LoopState → Option Code → Loop} {S S' : List Nat} {opn : List PT} {es : List (PT × Bool)} {W W' : World} (h : EndJ w0 M rec S opn es W) (ha : Apart S S' W W') : EndJ w0 M rec S' opn es W' := by
  have hl : w0.heap.size + 6 < W.heap.size := (Array.getElem?_eq_some_iff.1 h.loop).1
  have same : ∀ k, k ≤ w0.heap.size + 6 → W'.heap[k]? = W.heap[k]? := fun k hk => ha.block k (by omega) (fun hm => by have := h.own k hm; omega)
  have sameM : ∀ k, M k → W'.heap[k]? = W.heap[k]? := fun k hk => same k (by rcases h.low k hk with h | h <;> omega)
  obtain ⟨en, ck, h1, h2⟩ := h.mp
  refine ⟨ha.belowOf h.bel (fun k hk => by have := h.own k hk; omega) h.bel.size, (same _ (by omega)).trans h.res, (same _ (by omega)).trans h.var, ⟨en, ck, (same _ (by omega)).trans h1, h2⟩, (same _ (by omega)).trans h.loop, (same _ (by omega)).trans h.defs, ?_, fun a hm => (h.pts a hm).stay sameM (fun _ h => h), h.chain, fun k hk => (h.pl k hk).of_block (sameM k hk), h.low⟩
  intro k hk
  rcases ha.own k hk with h' | h'
  · have := h.own k h'; have := ha.size; omega
  · omega
/-- one event later -/
theorem EndJ.upd {w0 : World} {M : Nat → Prop} {rec : LoopState → Option Code → Loop} {S : List Nat} {opn opn' : List PT} {es es' : List (PT × Bool)} {W W' : World} (h : EndJ w0 M rec S opn es W) (ha : Apart [w0.heap.size + 6, w0.heap.size + 2] [w0.heap.size + 6, w0.heap.size + 2] W W')
    (hm : ∃ en ck, W'.heap[w0.heap.size + 2]? = some (.map en ck) ∧ en.toList.map (·.key) = opn'.reverse.map keyOf) (hl : W'.heap[w0.heap.size + 6]? = some (.loop (rec .ready none))) (hp : ∀ a ∈ opn', PtIn W M a) (hc : opn'.Pairwise (fun a b => a.sz < b.sz)) : EndJ w0 M rec S opn' es' W' ∧ Keeps S M W W' := by
  have hlt : w0.heap.size + 6 < W.heap.size := (Array.getElem?_eq_some_iff.1 h.loop).1
  have same : ∀ k, k < W.heap.size → k ≠ w0.heap.size + 6 → k ≠ w0.heap.size + 2 → W'.heap[k]? = W.heap[k]? := fun k hk e1 e2 => ha.block k hk (by simp [e1, e2])
  have sameM : ∀ k, M k → W'.heap[k]? = W.heap[k]? := fun k hk => same k (by rcases h.low k hk with h | h <;> omega) (by rcases h.low k hk with h | h <;> omega) (by rcases h.low k hk with h | h <;> omega)
  refine ⟨⟨ha.belowOf h.bel (fun k hk => by simp only [List.mem_cons, List.not_mem_nil, or_false] at hk; omega) h.bel.size, (same _ (by omega) (by omega) (by omega)).trans h.res, (same _ (by omega) (by omega) (by omega)).trans h.var, hm, hl, (same _ (by omega) (by omega) (by omega)).trans h.defs, fun k hk => ⟨(h.own k hk).1, Nat.lt_of_lt_of_le (h.own k hk).2 ha.size⟩, fun a hm => (hp a hm).stay sameM (fun _ h => h), hc, fun k hk => (h.pl k hk).of_block (sameM k hk), h.low⟩, ?_⟩
  refine ⟨fun k hk => ?_, ha.size⟩
  rcases hk with hk | hk
  · have := h.own k hk; exact same k (by omega) (by omega) (by omega)
  · exact sameM k hk
theorem key_ne {W : World} {M : Nat → Prop} {t a : PT} (ht : PtIn W M t) (ha : PtIn W M a) (h : t.sz < a.sz) : (⟨t.b, t.o, none⟩ : Addr) ≠ ⟨a.b, a.o, none⟩ := fun e => by
  simp only [Addr.mk.injEq, and_true] at e
  have := PtIn.det _ t a (Nat.le_refl _) ht ha e.1 e.2
  rw [this] at h
  omega
theorem PtIn.inM {W : World} {M : Nat → Prop} {t : PT} (ht : PtIn W M t) : M t.b := by
  obtain ⟨_, _, h, _⟩ := ht.open
  exact h
/-- none of the keys is that of a node that is none of the open ones -/
theorem keys_other {W : World} {M : Nat → Prop} {en : List MapEntry} {opn : List PT} {t : PT} (hk : en.map (·.key) = opn.reverse.map keyOf) (hp : ∀ a ∈ opn, PtIn W M a) (ht : PtIn W M t) (hlt : ∀ a ∈ opn, t.sz < a.sz) (W' : World) (hpl : ∀ k, M k → PlainB W' k) :
    ∀ e ∈ en, (Op.equal 109 (keyOf t) e.key).run Tryd.prog W' = .ok false W' := by
  intro e he
  have hm : e.key ∈ opn.reverse.map keyOf := by rw [← hk]; exact List.mem_map.2 ⟨e, he, rfl⟩
  obtain ⟨a, ha, e1⟩ := List.mem_map.1 hm
  have ha' : a ∈ opn := by simpa using ha
  rw [← e1]
  exact equal_other (key_ne ht (hp a ha') (hlt a ha')) (hpl _ ht.inM) (hpl _ (hp a ha').inM)
set_option maxHeartbeats 4000000 in
theorem endless_any (T : Tr) (v : Value) (w : World) (B0 : Nat) (HT : TrP w B0 v T) (hz : T.sz ≤ 2000000) :
    Calls Tryd.prog 46 #[v] w fun e w' => e = .returned (.bool false) ∧ Below w.heap.size w w' := by
  obtain ⟨s, r, ks, a, cap, rfl, hTe, _⟩ := HT.tr.open
  clear hTe
  have hmk : ∀ W : World, (Instr.makeMap 132 none).run Tryd.prog W = .ok (.map (some W.heap.size)) (W.alloc (.map #[] 0)) := fun W => by simp [Instr.makeMap]
  have hb4 := ((((Below.refl w.heap.size w).alloc (Nat.le_refl _) (.cells #[.string s, .int .i64 r, .slice a ks.length cap] 29)).alloc (by simp) (.cells #[.bool false] 4)).alloc (by simp; omega) (.map #[] 0)).alloc (by simp; omega) (.cells #[.map (some (w.heap.size + 2))] 132)
  have hT4 : BoxT ((((w.alloc (.cells #[.string s, .int .i64 r, .slice a ks.length cap] 29)).alloc (.cells #[.bool false] 4)).alloc (.map #[] 0)).alloc (.cells #[.map (some (w.heap.size + 2))] 132)) w.heap.size (.string s) (.int .i64 r) (.slice a ks.length cap) := (blk_old _ _ (by simp; omega)).trans ((blk_old _ _ (by simp; omega)).trans ((blk_old _ _ (by simp)).trans (blk_new _ _ rfl)))
  obtain ⟨o0, o1, o2, of0, of1, of2⟩ := hT4.cells
  refine (callsIn_wide (n := 3)).1 ?_
  refine callsIn_of_wp_marks Tryd.func46 rfl trivial ?_ rfl
  simp only [Tryd.ntmps46, List.size_toArray, List.length_cons, List.length_nil, Nat.reduceAdd, Nat.reduceSub, Array.replicate_succ, Array.replicate_zero, List.push_toArray, List.append_toArray, List.nil_append, List.cons_append]
  gi_wp2
  refine ⟨trivial, (callsIn_wide.2 (walk_any s r _ _)).mono ?_⟩
  rintro e w5 ⟨rfl, rfl⟩
  clear o0 o1 o2 of0 of1 of2
  gi_wp2
  refine wpIn_rangeFunc_open rfl (by omega) rfl trivial (enters_of Tryd.func99 (by kernel_rfl) rfl) ?_
  intro fn hfn
  simp only [World.size_alloc, Nat.add_assoc, Nat.reduceAdd]
  generalize hrec : recOf fn _ _ _ _ _ = rec
  have hold : ∀ g, g < w.heap.size → (((((((w.alloc (.cells #[.string s, .int .i64 r, .slice a ks.length cap] 29)).alloc (.cells #[.bool false] 4)).alloc (.map #[] 0)).alloc (.cells #[.map (some (w.heap.size + 2))] 132)).alloc (.cells #[.string s, .int .i64 r, .slice a ks.length cap] 29)).alloc (.deferred (some []))).alloc (.loop (rec .ready none))).heap[g]? = w.heap[g]? := fun g hg => by
    rw [blk_old _ _ (by simp; omega), blk_old _ _ (by simp; omega), blk_old _ _ (by simp; omega), blk_old _ _ (by simp; omega), blk_old _ _ (by simp; omega), blk_old _ _ (by simp; omega), blk_old _ _ hg]
  have hbox : (((((((w.alloc (.cells #[.string s, .int .i64 r, .slice a ks.length cap] 29)).alloc (.cells #[.bool false] 4)).alloc (.map #[] 0)).alloc (.cells #[.map (some (w.heap.size + 2))] 132)).alloc (.cells #[.string s, .int .i64 r, .slice a ks.length cap] 29)).alloc (.deferred (some []))).alloc (.loop (rec .ready none))).heap[w.heap.size + 4]? = some (.cells #[.string s, .int .i64 r, .slice a ks.length cap] 29) := (blk_old _ _ (by simp)).trans ((blk_old _ _ (by simp)).trans (blk_new _ _ (by simp)))
  obtain ⟨t0, M, ht1, ht2, ht3, ht4, hpl0, hlow0⟩ := HT.root (tb := w.heap.size + 4) hold hbox
  refine (walk1_in 2 (w.heap.size + 6) (w.heap.size + 4) M t0 (EndJ w M rec) (fun _ => False) (by unfold PT.sz; rw [ht3]; exact hz) ht1 ht2 ?l1 ?l2 ?l3 _ (fun k hk => (hpl0 k hk).lt) ?l4 ht4).mono ?_
  case l1 => exact fun S S' o es W W' h ha _ => h.apart ha
  case l4 =>
    refine ⟨?_, ?_, ?_, ⟨#[], 0, ?_, rfl⟩, blk_new _ _ (by simp), (blk_old _ _ (by simp)).trans (blk_new _ _ (by simp)), (fun k h => by cases h), (fun a h => by cases h), .nil, ?_, fun k hk => ?_⟩
    · exact ((hb4.alloc (by simp; omega) _).alloc (by simp; omega) _).alloc (by simp; omega) _
    · exact (((((one1.alloc (show one1 _ (w.heap.size + 1) _ _ from blk_new _ _ (by simp)) _).alloc _).alloc _).alloc _).alloc _)
    · exact (((one1.alloc (show one1 _ (w.heap.size + 3) _ _ from blk_new _ _ (by simp)) _).alloc _).alloc _)
    · exact (blk_old _ _ (by simp)).trans ((blk_old _ _ (by simp)).trans ((blk_old _ _ (by simp)).trans ((blk_old _ _ (by simp)).trans (blk_new _ _ (by simp)))))
    · exact hpl0
    · exact hlow0 k hk
  case l2 =>
    clear hold hbox ht1 ht2 ht3 ht4 hb4 hT4 hz hmk hpl0 hlow0
    intro S opn es W t hJ hpt hdec
    have j3 := hJ.loop
    have hl := (Array.getElem?_eq_some_iff.1 j3).1
    have HJ := Lib.hid hJ
    obtain ⟨en, ck, hm1, hm2⟩ := hJ.mp
    have hvar := hJ.var.put (c := w.heap.size + 6) (by omega) (.loop (rec .busy none))
    have hlow := hJ.low
    have hpl1 : ∀ k, M k → PlainB (W.putObj (w.heap.size + 6) (.loop (rec .busy none))) k := fun k hk => (hJ.pl k hk).of_block (World.putObj_heap_other (by rcases hlow k hk with h | h <;> omega))
    have hmp1 : (W.putObj (w.heap.size + 6) (.loop (rec .busy none))).heap[w.heap.size + 2]? = some (.map en ck) := (World.putObj_heap_other (by omega)).trans hm1
    have hko := keys_other hm2 hJ.pts hpt hdec _ hpl1
    have hlook : (Instr.lookup 132 (.map (some (w.heap.size + 2))) (.pointer (some ⟨t.b, t.o, none⟩)) false).run Tryd.prog (W.putObj (w.heap.size + 6) (.loop (rec .busy none))) = .ok (.bool false) (W.putObj (w.heap.size + 6) (.loop (rec .busy none))) := lookup_none hmp1 hko
    have hupd : (Instr.mapUpdate 132 (.map (some (w.heap.size + 2))) (.pointer (some ⟨t.b, t.o, none⟩)) (.bool true)).run Tryd.prog (W.putObj (w.heap.size + 6) (.loop (rec .busy none))) = .ok () ((W.putObj (w.heap.size + 6) (.loop (rec .busy none))).putObj (w.heap.size + 2) (.map (en.push { key := .pointer (some ⟨t.b, t.o, none⟩), val := .bool true, born := ck }) (ck + 1))) := update_new hmp1 hko
    have pl : (W.putObj (w.heap.size + 6) (.loop (rec .busy none))).heap[w.heap.size + 6]? = some (.loop (rec .busy none)) := World.putObj_heap_same hl
    have A1 : Apart [w.heap.size + 6, w.heap.size + 2] [w.heap.size + 6, w.heap.size + 2] W (W.putObj (w.heap.size + 6) (.loop (rec .busy none))) := Apart.put (by simp) _
    have hmlt := (Array.getElem?_eq_some_iff.1 hmp1).1
    rw [← hrec] at j3
    refine YieldAt.mono (R := fun e W' => ∃ j, e = .returned (.bool j.isNone) ∧ (j = none ∧ EndJ w M rec S (t :: opn) es W' ∧ Keeps S M W W')) (yieldAt_open hfn j3 rfl ?_) ?_
    rotate_left
    · rintro e W' ⟨j, rfl, rfl, h, hk⟩
      exact ⟨hk, .inl ⟨rfl, h⟩⟩
    · rw [hrec] at j3 ⊢
      clear hrec
      gi_wp2
      refine ⟨j3, ?_⟩
      obtain ⟨c1, _⟩ := hvar.cell
      clear hJ hm1 hpl1 hko hmp1 j3 hvar hlow
      generalize W.putObj (w.heap.size + 6) (.loop (rec .busy none)) = W1 at *
      gi_wp2
      have hz : w.heap.size + 6 < W1.heap.size := (Array.getElem?_eq_some_iff.1 pl).1
      have pl2 : (W1.putObj (w.heap.size + 2) (.map (en.push { key := .pointer (some ⟨t.b, t.o, none⟩), val := .bool true, born := ck }) (ck + 1))).heap[w.heap.size + 6]? = some (.loop (rec .busy none)) := (World.putObj_heap_other (by omega)).trans pl
      have A2 := (A1.trans (Apart.put (b := w.heap.size + 2) (by simp) (.map (en.push { key := .pointer (some ⟨t.b, t.o, none⟩), val := .bool true, born := ck }) (ck + 1)))).trans (Apart.put (b := w.heap.size + 6) (by simp) (.loop (rec .ready none)))
      obtain ⟨z1, z2⟩ := HJ.out.upd (opn' := t :: opn) (es' := es) A2 ⟨_, _, (World.putObj_heap_other (by omega)).trans (World.putObj_heap_same hmlt), by simp [hm2, keyOf]⟩ (World.putObj_heap_same (Array.getElem?_eq_some_iff.1 pl2).1) (fun a ha => by
        rcases List.mem_cons.1 ha with rfl | h
        · exact hpt
        · exact HJ.out.pts a h) (List.pairwise_cons.2 ⟨hdec, HJ.out.chain⟩)
      exact ⟨pl2, rfl, z1, z2⟩
  case l3 =>
    clear hold hbox ht1 ht2 ht3 ht4 hb4 hT4 hz hmk hpl0 hlow0
    intro S opn es W t hJ hpt
    have j3 := hJ.loop
    have hl := (Array.getElem?_eq_some_iff.1 j3).1
    have HJ := Lib.hid hJ
    obtain ⟨en, ck, hm1, hm2⟩ := hJ.mp
    have hvar := hJ.var.put (c := w.heap.size + 6) (by omega) (.loop (rec .busy none))
    have hlow := hJ.low
    have hpl1 : ∀ k, M k → PlainB (W.putObj (w.heap.size + 6) (.loop (rec .busy none))) k := fun k hk => (hJ.pl k hk).of_block (World.putObj_heap_other (by rcases hlow k hk with h | h <;> omega))
    have hmp1 : (W.putObj (w.heap.size + 6) (.loop (rec .busy none))).heap[w.heap.size + 2]? = some (.map en ck) := (World.putObj_heap_other (by omega)).trans hm1
    rw [List.reverse_cons, List.map_append] at hm2
    obtain ⟨l1, l2, hen, hl1, hl2⟩ := List.map_eq_append_iff.1 hm2
    obtain ⟨x, rfl, hx⟩ : ∃ x, l2 = [x] ∧ x.key = keyOf t := by
      have hlen := congrArg List.length hl2
      simp only [List.length_map, List.length_cons, List.length_nil] at hlen
      obtain ⟨x, rfl⟩ := List.length_eq_one_iff.1 hlen
      exact ⟨x, rfl, by simpa using hl2⟩
    have hko := keys_other hl1 (fun a ha => hJ.pts a (List.mem_cons_of_mem _ ha)) hpt (List.pairwise_cons.1 hJ.chain).1 _ hpl1
    have hdel : ∀ ty, (Builtin.delete_ #[132, 109] ty #[.map (some (w.heap.size + 2)), .pointer (some ⟨t.b, t.o, none⟩)]).run Tryd.prog (W.putObj (w.heap.size + 6) (.loop (rec .busy none))) = .ok (.tuple #[]) ((W.putObj (w.heap.size + 6) (.loop (rec .busy none))).putObj (w.heap.size + 2) (.map (en.eraseIdxIfInBounds l1.length) ck)) := fun ty => delete_last hmp1 hen (by rw [hx]; exact equal_same _ _) hko ty
    have hkeys : (en.eraseIdxIfInBounds l1.length).toList.map (·.key) = opn.reverse.map keyOf := by rw [erase_last hen]; exact hl1
    have pl : (W.putObj (w.heap.size + 6) (.loop (rec .busy none))).heap[w.heap.size + 6]? = some (.loop (rec .busy none)) := World.putObj_heap_same hl
    have A1 : Apart [w.heap.size + 6, w.heap.size + 2] [w.heap.size + 6, w.heap.size + 2] W (W.putObj (w.heap.size + 6) (.loop (rec .busy none))) := Apart.put (by simp) _
    have hmlt := (Array.getElem?_eq_some_iff.1 hmp1).1
    rw [← hrec] at j3
    refine YieldAt.mono (R := fun e W' => ∃ j, e = .returned (.bool j.isNone) ∧ (j = none ∧ EndJ w M rec S opn es W' ∧ Keeps S M W W')) (yieldAt_open hfn j3 rfl ?_) ?_
    rotate_left
    · rintro e W' ⟨j, rfl, rfl, h, hk⟩
      exact ⟨hk, .inl ⟨rfl, h⟩⟩
    · rw [hrec] at j3 ⊢
      clear hrec
      gi_wp2
      refine ⟨j3, ?_⟩
      obtain ⟨c1, _⟩ := hvar.cell
      clear hJ hm1 hpl1 hko hmp1 j3 hvar hlow hm2 hen hl1 hl2 hx
      generalize W.putObj (w.heap.size + 6) (.loop (rec .busy none)) = W1 at *
      generalize en.eraseIdxIfInBounds l1.length = en2 at *
      gi_wp2
      have hz : w.heap.size + 6 < W1.heap.size := (Array.getElem?_eq_some_iff.1 pl).1
      have pl2 : (W1.putObj (w.heap.size + 2) (.map en2 ck)).heap[w.heap.size + 6]? = some (.loop (rec .busy none)) := (World.putObj_heap_other (by omega)).trans pl
      have A2 := (A1.trans (Apart.put (b := w.heap.size + 2) (by simp) (.map en2 ck))).trans (Apart.put (b := w.heap.size + 6) (by simp) (.loop (rec .ready none)))
      obtain ⟨z1, z2⟩ := HJ.out.upd (opn' := opn) (es' := es) A2 ⟨_, _, (World.putObj_heap_other (by omega)).trans (World.putObj_heap_same hmlt), hkeys⟩ (World.putObj_heap_same (Array.getElem?_eq_some_iff.1 pl2).1) (fun a ha => HJ.out.pts a (List.mem_cons_of_mem _ ha)) (List.pairwise_cons.1 HJ.out.chain).2
      exact ⟨pl2, rfl, z1, z2⟩
  rintro e W ⟨⟨v, rfl⟩, ⟨S, hJ⟩ | hS⟩
  · have q1 := hJ.res.put (c := w.heap.size + 6) (by omega) (.loop (rec .exhausted none))
    have q4 : (W.putObj (w.heap.size + 6) (.loop (rec .exhausted none))).heap[w.heap.size + 5]? = some (.deferred (some [])) := (World.putObj_heap_other (by omega)).trans hJ.defs
    have q5 := Below.putObj hJ.bel (r := w.heap.size + 6) (by omega) (.loop (rec .exhausted none))
    refine ⟨v, .ready, none, rfl, by simp, hJ.loop, ?_⟩
    unfold afterSeq
    clear hJ ht4 hold hbox
    generalize W.putObj (w.heap.size + 6) (.loop (rec .exhausted none)) = W5 at *
    obtain ⟨c1, c2⟩ := q1.cell
    have q6 := (q1.set (.bool false)).put (c := w.heap.size + 5) (by omega) (.deferred none)
    have q7 := blk_set q4 (p := ⟨w.heap.size + 1, 0, none⟩) (by show w.heap.size + 5 ≠ w.heap.size + 1; omega) (.bool false)
    have q8 := q5.setCell (p := ⟨w.heap.size + 1, 0, none⟩) (by show w.heap.size ≤ w.heap.size + 1; omega) (.bool false)
    gi_wp2
    refine ⟨by simp, .inl ⟨_, _, rfl, run_takeDeferred q7, ?_⟩⟩
    refine ⟨.bool false, ?_, ?_⟩
    · obtain ⟨e0, _⟩ := q6.cell
      simp [results, Tryd.results46, go_sem, e0]
    · exact ⟨rfl, Below.putObj q8 (by omega) _⟩
  · exact hS.elim
end Go.Proofs.YtpkejcjjbkgomaaDoor
