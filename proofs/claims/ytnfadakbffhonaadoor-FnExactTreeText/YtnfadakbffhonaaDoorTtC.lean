/- The contract of the program's TreeText. -/
import Derived.Test.YtnfadakbffhonaaDoorTtB
namespace Go.Proofs.YtnfadakbffhonaaDoor
open Go.ChangeShapes Go.WideShapes Go.ChangeAt Go.RowKit Go.Deep
attribute [local go_sem] Oper.semAt_some
set_option maxRecDepth 100000
set_option linter.unusedVariables false
/-- what TreeText holds between two events: the builder in nb, the tree's root in nb + 1 -/
structure TxtJ (w0 : World) (nb : Nat) (M : Nat → Prop) (rec : LoopState → Option Code → Loop) (total : List UInt8) (S : List Nat) (opn : List PT) (es : List (PT × Bool)) (W : World) : Prop where
  bel : Below w0.heap.size w0 W
  st : ∃ acc, BuildsF nb acc W ∧ acc ++ tRun es = total ∧ ∀ x ∈ es, okR x.1
  loop : W.heap[nb + 3]? = some (.loop (rec .ready none))
  defs : W.heap[nb + 2]? = some (.deferred (some []))
  box : ∃ c, W.heap[nb + 1]? = some (.cells c 37 (0, 0))
  own : ∀ k ∈ S, nb + 3 < k ∧ k < W.heap.size
  typ : ∀ k ∈ S, PlaceB W k
  low : ∀ k, M k → TM w0.heap.size (nb + 1) k
  pos : w0.heap.size ≤ nb
theorem place_not_row {w : World} {k : Nat} {c : Array Value} {fz : Nat × Nat} (h : PlaceB w k) (h2 : w.heap[k]? = some (.cells c 5 fz)) : False := by
  obtain ⟨c', h⟩ := h
  rw [h] at h2
  simp at h2
theorem TxtJ.apart {w0 : World} {nb : Nat} {M : Nat → Prop} {rec : LoopState → Option Code → Loop} {total : List UInt8} {S S' : List Nat} {opn : List PT} {es : List (PT × Bool)} {W W' : World} (h : TxtJ w0 nb M rec total S opn es W) (ha : Apart S S' W W') (ht : (∀ k ∈ S, PlaceB W k) → ∀ k ∈ S', PlaceB W' k) : TxtJ w0 nb M rec total S' opn es W' := by
  have hl : nb + 3 < W.heap.size := (Array.getElem?_eq_some_iff.1 h.loop).1
  have hpos := h.pos
  have same : ∀ k, k ≤ nb + 3 → W'.heap[k]? = W.heap[k]? := fun k hk => ha.block k (by omega) (fun hm => by have := h.own k hm; omega)
  have row : ∀ (k : Nat) c fz, W.heap[k]? = some (.cells c 5 fz) → W'.heap[k]? = W.heap[k]? := fun k c fz hk => ha.block k (Array.getElem?_eq_some_iff.1 hk).1 (fun hm => place_not_row (h.typ k hm) hk)
  obtain ⟨acc, h1, h3, h4⟩ := h.st
  obtain ⟨cb, hb⟩ := h.box
  refine ⟨ha.belowOf h.bel (fun k hk => by have := h.own k hk; omega) h.bel.size, ⟨acc, h1.stay (same _ (by omega)) row, h3, h4⟩, (same _ (by omega)).trans h.loop, (same _ (by omega)).trans h.defs, ⟨cb, (same _ (by omega)).trans hb⟩, ?_, ht h.typ, h.low, hpos⟩
  intro k hk
  rcases ha.own k hk with h' | h'
  · have := h.own k h'; have := ha.size; omega
  · omega
/-- what one event may turn: the loop's record, the builder, rows of bytes -/
structure TurnsT (nb : Nat) (W W' : World) : Prop where
  os : W'.os = W.os
  tape : W'.tape = W.tape
  output : W'.output = W.output
  size : W.heap.size ≤ W'.heap.size
  low : ∀ k, k < nb → W'.heap[k]? = W.heap[k]?
  high : ∀ k o, W.heap[k]? = some o → k ≠ nb → k ≠ nb + 3 → (∀ c fz, o ≠ .cells c 5 fz) → W'.heap[k]? = some o
theorem TurnsT.trans {nb : Nat} {a b c : World} (h : TurnsT nb a b) (k : TurnsT nb b c) : TurnsT nb a c :=
  ⟨k.os.trans h.os, k.tape.trans h.tape, k.output.trans h.output, Nat.le_trans h.size k.size, fun i hi => (k.low i hi).trans (h.low i hi), fun i o hi h1 h2 h4 => k.high i o (h.high i o hi h1 h2 h4) h1 h2 h4⟩
theorem TurnsT.put (nb : Nat) (W : World) (o : Obj) : TurnsT nb W (W.putObj (nb + 3) o) :=
  ⟨rfl, rfl, rfl, by simp, fun k hk => World.putObj_heap_other (by omega), fun k _ h _ h3 _ => (World.putObj_heap_other h3).trans h⟩
theorem TurnsT.write {nb : Nat} {W W' : World} (hb : Below nb W W') (ho : Lib.OthersKept 5 (some nb) W W') : TurnsT nb W W' :=
  ⟨hb.os, hb.tape, hb.output, hb.size, hb.block, fun k o h h1 _ h4 => ho k o h (by simpa using h1) h4⟩
theorem TxtJ.upd {w0 : World} {nb : Nat} {M : Nat → Prop} {rec : LoopState → Option Code → Loop} {total : List UInt8} {S : List Nat} {opn opn' : List PT} {es es' : List (PT × Bool)} {W W' : World} (h : TxtJ w0 nb M rec total S opn es W) (ht : TurnsT nb W W')
    (hs : ∃ acc, BuildsF nb acc W' ∧ acc ++ tRun es' = total ∧ ∀ x ∈ es', okR x.1) (hl : W'.heap[nb + 3]? = some (.loop (rec .ready none))) :
    TxtJ w0 nb M rec total S opn' es' W' ∧ Keeps S M W W' := by
  have hlt : nb + 3 < W.heap.size := (Array.getElem?_eq_some_iff.1 h.loop).1
  have hpos := h.pos
  obtain ⟨cb, hbx⟩ := h.box
  have sameM : ∀ k, M k → W'.heap[k]? = W.heap[k]? := fun k hk => by
    rcases h.low k hk with h' | h'
    · exact ht.low k (by omega)
    · subst h'
      rw [hbx]
      exact ht.high _ _ hbx (by omega) (by omega) (fun c fz => by simp)
  have sameS : ∀ k ∈ S, W'.heap[k]? = W.heap[k]? := fun k hk => by
    obtain ⟨c, hc⟩ := h.typ k hk
    have := h.own k hk
    rw [hc]
    exact ht.high _ _ hc (by omega) (by omega) (fun c fz => by simp)
  refine ⟨⟨h.bel.trans ⟨ht.os, ht.tape, ht.output, ht.size, fun k hk => ht.low k (by omega)⟩, hs, hl, ht.high _ _ h.defs (by omega) (by omega) (fun c fz => by simp), ⟨cb, ht.high _ _ hbx (by omega) (by omega) (fun c fz => by simp)⟩, fun k hk => ⟨(h.own k hk).1, Nat.lt_of_lt_of_le (h.own k hk).2 ht.size⟩, fun k hk => ?_, h.low, hpos⟩, ?_⟩
  · obtain ⟨c, hc⟩ := h.typ k hk
    exact ⟨c, (sameS k hk).trans hc⟩
  · refine ⟨fun k hk => ?_, ht.size⟩
    rcases hk with hk | hk
    · exact sameS k hk
    · exact sameM k hk
set_option maxHeartbeats 8000000 in
theorem treeText_any (st : ByteArray) (ag : Option Addr) (cg : Nat) (rs : List RuleT) (T : Tr) (v : Value) (w : World) (HR : RulesAt w ag rs) (hcg : rs.length ≤ cg) (HT : TrIn w 0 v T) (hz : T.sz ≤ 2000000) :
    Calls Tryd.prog 9 #[.agg #[.string st, .slice ag rs.length cg], v] w fun e w' => e = .returned (.string (treeTextS st rs T)) ∧ Below w.heap.size w w' := by
  obtain ⟨s, r, ks, a, cap, rfl, hTe, _⟩ := HT.open
  clear hTe
  have hb2 := ((Below.refl w.heap.size w).alloc (Nat.le_refl _) (.cells #[.string st, .slice ag rs.length cg] 33)).alloc (by simp) (.cells #[.string s, .int .i64 r, .slice a ks.length cap] 37)
  have hG2 : GB2 ((w.alloc (.cells #[.string st, .slice ag rs.length cg] 33)).alloc (.cells #[.string s, .int .i64 r, .slice a ks.length cap] 37)) w.heap.size (.string st) (.slice ag rs.length cg) := (blk_old _ _ (by simp)).trans (blk_new _ _ rfl)
  have hT2 : BoxT ((w.alloc (.cells #[.string st, .slice ag rs.length cg] 33)).alloc (.cells #[.string s, .int .i64 r, .slice a ks.length cap] 37)) (w.heap.size + 1) (.string s) (.int .i64 r) (.slice a ks.length cap) := blk_new _ _ (by simp)
  have HR2 := HR.below hb2 (Nat.le_refl _)
  have HT2 := HT.keep hb2
  obtain ⟨g0, g1⟩ := hG2.cells
  obtain ⟨o0, o1, o2, of0, of1, of2⟩ := hT2.cells
  refine (callsIn_wide (n := 3)).1 ?_
  refine callsIn_of_wp_marks Tryd.func9 rfl trivial ?_ rfl
  simp only [Tryd.ntmps9, List.size_toArray, List.length_cons, List.length_nil, Nat.reduceAdd, Nat.reduceSub, Array.replicate_succ, Array.replicate_zero, List.push_toArray, List.append_toArray, List.nil_append, List.cons_append]
  gi_wp2
  refine ⟨trivial, (callsIn_wide.2 (treeOk_any st ag cg rs T _ _ HR2 hcg HT2 hz)).mono ?_⟩
  rintro e w3 ⟨rfl, hb3⟩
  have hT3 := hT2.below hb3
  have hB3 := hb2.trans (hb3.mono hb2.size)
  have hz3 : w.heap.size + 2 ≤ w3.heap.size := by have := hb3.size; simpa using this
  clear hb2 hG2 hT2 HR2 HT2 g0 g1 hb3 o0 o1 o2 of0 of1 of2
  cases hok : treeOkB st rs T with
  | false =>
    have HI : Hid (treeTextS st rs T = ⟨#[]⟩) := by show _ = _; unfold treeTextS; rw [hok]; rfl
    gi_wp2
    exact ⟨_, results_tmp rfl _ _ _, by rw [HI.out]; rfl, hB3⟩
  | true =>
    have HI : Hid (treeTextS st rs T = bytesOf (textN T)) := by show _ = _; unfold treeTextS; rw [hok]; rfl
    obtain ⟨h8, hsh⟩ := ok_shape hok
    have htl := textN_len rs 20 T hsh
    have hT4 := hT3.below ((Below.refl _ _).alloc (Nat.le_refl _) (.cells #[.pointer none, .slice none 0 0] 51))
    obtain ⟨o0, o1, o2, of0, of1, of2⟩ := hT4.cells
    gi_wp2
    refine ⟨trivial, (callsIn_wide.2 (walk_any s r _ _)).mono ?_⟩
    rintro e w5 ⟨rfl, rfl⟩
    clear o0 o1 o2 of0 of1 of2
    gi_wp2
    refine wpIn_rangeFunc_open rfl (by omega) rfl trivial (enters_of Tryd.func33 (by kernel_rfl) rfl) ?_
    intro fn hfn
    simp only [World.size_alloc, Nat.add_assoc, Nat.reduceAdd]
    generalize hrec : recOf fn _ _ _ _ _ = rec
    have hold : ∀ g, g < w3.heap.size → ((((w3.alloc (.cells #[.pointer none, .slice none 0 0] 51)).alloc (.cells #[.string s, .int .i64 r, .slice a ks.length cap] 37)).alloc (.deferred (some []))).alloc (.loop (rec .ready none))).heap[g]? = w3.heap[g]? := fun g hg => by
      rw [blk_old _ _ (by simp; omega), blk_old _ _ (by simp; omega), blk_old _ _ (by simp; omega), blk_old _ _ hg]
    have hbox : ((((w3.alloc (.cells #[.pointer none, .slice none 0 0] 51)).alloc (.cells #[.string s, .int .i64 r, .slice a ks.length cap] 37)).alloc (.deferred (some []))).alloc (.loop (rec .ready none))).heap[w3.heap.size + 1]? = some (.cells #[.string s, .int .i64 r, .slice a ks.length cap] 37) := (blk_old _ _ (by simp)).trans ((blk_old _ _ (by simp)).trans (blk_new _ _ (by simp)))
    have hbl0 : Builds w3.heap.size w3.heap.size [] (w3.alloc (.cells #[.pointer none, .slice none 0 0] 51)) := Lib.fresh_isBuilder _ _ _
    have hbl : BuildsF w3.heap.size [] ((((w3.alloc (.cells #[.pointer none, .slice none 0 0] 51)).alloc (.cells #[.string s, .int .i64 r, .slice a ks.length cap] 37)).alloc (.deferred (some []))).alloc (.loop (rec .ready none))) := Lib.IsBuilderF.of (((hbl0.alloc _).alloc _).alloc _)
    obtain ⟨t0, ht1, ht2, ht3, ht4⟩ := HT.root (tb := w3.heap.size + 1) (fun g hg => (hold g (by omega)).trans (hB3.block g hg)) (by rw [cell_of_block hbox]; rfl) (by rw [cell_of_block hbox]; rfl) (by rw [cell_of_block hbox]; rfl)
    have htot : tRun t0.evs = textN T := by rw [tRun_all, ht3]
    have hevs := evs_ok rs h8 20 t0 (by rw [ht3]; exact hsh)
    refine (walk1_in 2 (w3.heap.size + 3) (w3.heap.size + 1) (TM w.heap.size (w3.heap.size + 1)) t0 (TxtJ w w3.heap.size (TM w.heap.size (w3.heap.size + 1)) rec (textN T)) (fun _ => False) (by unfold PT.sz; rw [ht3]; exact hz) ht1 ht2 ?l1 ?l2 ?l3 _ (fun k hk => by simp; rcases hk with h | h <;> omega) ?l4 (ht4.stay (fun _ _ => rfl) (fun g hg => by rcases hg with h | h; exact Or.inl h.2; exact Or.inr h))).mono ?_
    case l1 => exact fun S S' o es W W' h ha ht => h.apart ha ht
    case l4 =>
      refine ⟨?_, ⟨[], hbl, htot, hevs⟩, blk_new _ _ (by simp), (blk_old _ _ (by simp)).trans (blk_new _ _ (by simp)), ⟨_, hbox⟩, (fun k h => by cases h), (fun k h => by cases h), fun k hk => hk, by omega⟩
      exact (((hB3.alloc (by omega) _).alloc (by simp; omega) _).alloc (by simp; omega) _).alloc (by simp; omega) _
    case l2 =>
      clear hold hbox hbl hbl0 ht1 ht2 ht3 ht4 hT4 hT3 hB3 htot hevs HT
      intro S opn es W t hJ hpt hdec
      have j3 := hJ.loop
      have hl := (Array.getElem?_eq_some_iff.1 j3).1
      have HJ := Lib.hid hJ
      obtain ⟨acc, hac, hrun, hokr⟩ := hJ.st
      have T1 := TurnsT.put w3.heap.size W (.loop (rec .busy none))
      have pl : (W.putObj (w3.heap.size + 3) (.loop (rec .busy none))).heap[w3.heap.size + 3]? = some (.loop (rec .busy none)) := World.putObj_heap_same hl
      have hac1 : BuildsF w3.heap.size acc (W.putObj (w3.heap.size + 3) (.loop (rec .busy none))) := hac.stay (World.putObj_heap_other (by omega)) (fun k c fz hk => World.putObj_heap_other (fun e => by rw [e, j3] at hk; simp at hk))
      have hM1 : ∀ k, TM w.heap.size (w3.heap.size + 1) k → (W.putObj (w3.heap.size + 3) (.loop (rec .busy none))).heap[k]? = W.heap[k]? := fun k hk => World.putObj_heap_other (by rcases hJ.low k hk with h | h <;> have := hJ.pos <;> omega)
      obtain ⟨_, _, hMt, k0, k1, _⟩ := (hpt.stay hM1 (fun _ h => h)).open
      rw [← hrec] at j3
      refine YieldAt.mono (R := fun e W' => ∃ j, e = .returned (.bool j.isNone) ∧ (j = none ∧ TxtJ w w3.heap.size (TM w.heap.size (w3.heap.size + 1)) rec (textN T) S (t :: opn) es W' ∧ Keeps S (TM w.heap.size (w3.heap.size + 1)) W W')) (yieldAt_open hfn j3 rfl ?_) ?_
      rotate_left
      · rintro e W' ⟨j, rfl, rfl, h, hk⟩
        exact ⟨hk, .inl ⟨rfl, h⟩⟩
      · rw [hrec] at j3 ⊢
        clear hrec
        gi_wp2
        refine ⟨j3, ?_⟩
        have hpos := hJ.pos
        rw [tRun] at hrun
        have HRUN := Lib.hid hrun
        have HOKR : Hid (∀ x ∈ es, okR x.1) := fun x hx => hokr x (List.mem_cons_of_mem _ hx)
        have hal : acc.length + (entL t.s t.r).length ≤ 6000000 := by have := congrArg List.length hrun; rw [List.length_append, List.length_append] at this; omega
        have hnode := hokr (t, true) (List.mem_cons_self ..)
        clear hJ hac j3 hdec hM1 hrun hokr
        generalize W.putObj (w3.heap.size + 3) (.loop (rec .busy none)) = W1 at *
        have hnb1 : w3.heap.size ≤ W1.heap.size := by have := (Array.getElem?_eq_some_iff.1 pl).1; omega
        rcases hnode with ⟨hr1, hs1⟩ | ⟨n, hn8, hrn⟩
        · have hr1' : t.r = -1 := hr1
          have HEN : Hid (entL t.s t.r = t.s.data.toList) := by show _ = _; unfold entL; rw [if_pos hr1']
          rw [HEN.out] at hal
          rw [hr1'] at k1
          have hal2 : acc.length + t.s.size ≤ 100000000 := by simp at hal; omega
          gi_wp2
          refine ⟨trivial, ((callsIn_wide.2 (writeF_any _ acc t.s _ hac1 hal2 hnb1)).inRound _).mono ?_⟩
          rintro e W2 ⟨rfl, hac2, hb2, ho2⟩
          have pl2 : W2.heap[w3.heap.size + 3]? = some (.loop (rec .busy none)) := ho2 _ _ pl (by simp) (fun c fz => by simp)
          have T2 := T1.trans (TurnsT.write hb2 ho2)
          clear hac1 pl T1 hb2 ho2 k0 k1
          gi_wp2
          obtain ⟨z1, z2⟩ := HJ.out.upd (opn' := t :: opn) (es' := es) (T2.trans (TurnsT.put _ _ (.loop (rec .ready none)))) ⟨_, hac2.stay (World.putObj_heap_other (by omega)) (fun k c fz hk => World.putObj_heap_other (fun e => by rw [e, pl2] at hk; simp at hk)), by rw [List.append_assoc, ← HEN.out]; exact HRUN.out, HOKR.out⟩ (World.putObj_heap_same (Array.getElem?_eq_some_iff.1 pl2).1)
          exact ⟨pl2, rfl, z1, z2⟩
        · have hrn' : t.r = (n : Int) := hrn
          have HEN : Hid (entL t.s t.r = (bytesOf (91 :: (decS n).data.toList)).data.toList) := by show _ = _; unfold entL; rw [if_neg (by omega), hrn']; simp [bytesOf]
          rw [HEN.out] at hal
          rw [hrn'] at k1
          have hal2 : acc.length + (bytesOf (91 :: (decS n).data.toList)).size ≤ 100000000 := by simp at hal; omega
          have hne : ((n : Int) == -1) = false := by rw [beq_eq_false_iff_ne]; omega
          have hadd : ∀ w, (Op.stringOp .add (⟨#[91]⟩ : ByteArray) (decS n)).run Tryd.prog w = .ok (.string (bytesOf (91 :: (decS n).data.toList))) w := fun w => by
            rw [run_string_add_sum w _ _ (by have : (decS n).size = 1 := rfl; rw [this, one_size]; omega)]
            congr 2
          gi_wp2
          refine ⟨trivial, ((callsIn_wide.2 (itoa_any n hn8 _)).inRound _).mono ?_⟩
          rintro e w' ⟨rfl, rfl⟩
          gi_wp2
          refine ⟨trivial, ((callsIn_wide.2 (writeF_any _ acc _ _ hac1 hal2 hnb1)).inRound _).mono ?_⟩
          clear hadd hne
          rintro e W2 ⟨rfl, hac2, hb2, ho2⟩
          have pl2 : W2.heap[w3.heap.size + 3]? = some (.loop (rec .busy none)) := ho2 _ _ pl (by simp) (fun c fz => by simp)
          have T2 := T1.trans (TurnsT.write hb2 ho2)
          clear hac1 pl T1 hb2 ho2 k0 k1
          gi_wp2
          obtain ⟨z1, z2⟩ := HJ.out.upd (opn' := t :: opn) (es' := es) (T2.trans (TurnsT.put _ _ (.loop (rec .ready none)))) ⟨_, hac2.stay (World.putObj_heap_other (by omega)) (fun k c fz hk => World.putObj_heap_other (fun e => by rw [e, pl2] at hk; simp at hk)), by rw [List.append_assoc, ← HEN.out]; exact HRUN.out, HOKR.out⟩ (World.putObj_heap_same (Array.getElem?_eq_some_iff.1 pl2).1)
          exact ⟨pl2, rfl, z1, z2⟩
    case l3 =>
      clear hold hbox hbl hbl0 ht1 ht2 ht3 ht4 hT4 hT3 hB3 htot hevs HT
      intro S opn es W t hJ hpt
      have j3 := hJ.loop
      have hl := (Array.getElem?_eq_some_iff.1 j3).1
      have HJ := Lib.hid hJ
      obtain ⟨acc, hac, hrun, hokr⟩ := hJ.st
      have T1 := TurnsT.put w3.heap.size W (.loop (rec .busy none))
      have pl : (W.putObj (w3.heap.size + 3) (.loop (rec .busy none))).heap[w3.heap.size + 3]? = some (.loop (rec .busy none)) := World.putObj_heap_same hl
      have hac1 : BuildsF w3.heap.size acc (W.putObj (w3.heap.size + 3) (.loop (rec .busy none))) := hac.stay (World.putObj_heap_other (by omega)) (fun k c fz hk => World.putObj_heap_other (fun e => by rw [e, j3] at hk; simp at hk))
      have hM1 : ∀ k, TM w.heap.size (w3.heap.size + 1) k → (W.putObj (w3.heap.size + 3) (.loop (rec .busy none))).heap[k]? = W.heap[k]? := fun k hk => World.putObj_heap_other (by rcases hJ.low k hk with h | h <;> have := hJ.pos <;> omega)
      obtain ⟨_, _, hMt, k0, k1, _⟩ := (hpt.stay hM1 (fun _ h => h)).open
      rw [← hrec] at j3
      refine YieldAt.mono (R := fun e W' => ∃ j, e = .returned (.bool j.isNone) ∧ (j = none ∧ TxtJ w w3.heap.size (TM w.heap.size (w3.heap.size + 1)) rec (textN T) S opn es W' ∧ Keeps S (TM w.heap.size (w3.heap.size + 1)) W W')) (yieldAt_open hfn j3 rfl ?_) ?_
      rotate_left
      · rintro e W' ⟨j, rfl, rfl, h, hk⟩
        exact ⟨hk, .inl ⟨rfl, h⟩⟩
      · rw [hrec] at j3 ⊢
        clear hrec
        gi_wp2
        refine ⟨j3, ?_⟩
        have hpos := hJ.pos
        rw [tRun] at hrun
        have HRUN := Lib.hid hrun
        have HOKR : Hid (∀ x ∈ es, okR x.1) := fun x hx => hokr x (List.mem_cons_of_mem _ hx)
        have hal : acc.length + (levL t.r).length ≤ 6000000 := by have := congrArg List.length hrun; rw [List.length_append, List.length_append] at this; omega
        have hnode := hokr (t, false) (List.mem_cons_self ..)
        clear hJ hac j3 hM1 hrun hokr
        generalize W.putObj (w3.heap.size + 3) (.loop (rec .busy none)) = W1 at *
        have hnb1 : w3.heap.size ≤ W1.heap.size := by have := (Array.getElem?_eq_some_iff.1 pl).1; omega
        rcases hnode with ⟨hr1, hs1⟩ | ⟨n, hn8, hrn⟩
        · have hr1' : t.r = -1 := hr1
          have HEN : Hid (levL t.r = []) := by show _ = _; unfold levL; rw [if_pos hr1']
          rw [hr1'] at k1
          gi_wp2
          obtain ⟨z1, z2⟩ := HJ.out.upd (opn' := opn) (es' := es) (T1.trans (TurnsT.put _ _ (.loop (rec .ready none)))) ⟨acc, hac1.stay (World.putObj_heap_other (by omega)) (fun k c fz hk => World.putObj_heap_other (fun e => by rw [e, pl] at hk; simp at hk)), by have := HRUN.out; rw [HEN.out] at this; exact this, HOKR.out⟩ (World.putObj_heap_same (Array.getElem?_eq_some_iff.1 pl).1)
          exact ⟨pl, rfl, z1, z2⟩
        · have hrn' : t.r = (n : Int) := hrn
          have HEN : Hid (levL t.r = (⟨#[93]⟩ : ByteArray).data.toList) := by show _ = _; unfold levL; rw [if_neg (by omega)]
          rw [hrn'] at k1
          have hal2 : acc.length + (⟨#[93]⟩ : ByteArray).size ≤ 100000000 := by rw [one_size]; omega
          have hne : ((n : Int) == -1) = false := by rw [beq_eq_false_iff_ne]; omega
          gi_wp2
          refine ⟨trivial, ((callsIn_wide.2 (writeF_any _ acc _ _ hac1 hal2 hnb1)).inRound _).mono ?_⟩
          clear hne
          rintro e W2 ⟨rfl, hac2, hb2, ho2⟩
          have pl2 : W2.heap[w3.heap.size + 3]? = some (.loop (rec .busy none)) := ho2 _ _ pl (by simp) (fun c fz => by simp)
          have T2 := T1.trans (TurnsT.write hb2 ho2)
          clear hac1 pl T1 hb2 ho2 k0 k1
          gi_wp2
          obtain ⟨z1, z2⟩ := HJ.out.upd (opn' := opn) (es' := es) (T2.trans (TurnsT.put _ _ (.loop (rec .ready none)))) ⟨_, hac2.stay (World.putObj_heap_other (by omega)) (fun k c fz hk => World.putObj_heap_other (fun e => by rw [e, pl2] at hk; simp at hk)), by rw [List.append_assoc, ← HEN.out]; exact HRUN.out, HOKR.out⟩ (World.putObj_heap_same (Array.getElem?_eq_some_iff.1 pl2).1)
          exact ⟨pl2, rfl, z1, z2⟩
    rintro e W ⟨⟨v, rfl⟩, ⟨S, hJ⟩ | hS⟩
    · obtain ⟨acc, hac, hrun, _⟩ := hJ.st
      have hfin : acc = textN T := by
        rw [show tRun [] = [] from rfl, List.append_nil] at hrun
        exact hrun
      have hl := (Array.getElem?_eq_some_iff.1 hJ.loop).1
      have q1 : BuildsF w3.heap.size acc (W.putObj (w3.heap.size + 3) (.loop (rec .exhausted none))) := hac.stay (World.putObj_heap_other (by omega)) (fun k c fz hk => World.putObj_heap_other (fun e => by rw [e, hJ.loop] at hk; simp at hk))
      have q4 : (W.putObj (w3.heap.size + 3) (.loop (rec .exhausted none))).heap[w3.heap.size + 2]? = some (.deferred (some [])) := (World.putObj_heap_other (by omega)).trans hJ.defs
      have q5 := Below.putObj hJ.bel (r := w3.heap.size + 3) (by omega) (.loop (rec .exhausted none))
      have q6 : w3.heap.size ≤ (W.putObj (w3.heap.size + 3) (.loop (rec .exhausted none))).heap.size := by simp; omega
      refine ⟨v, .ready, none, rfl, by simp, hJ.loop, ?_⟩
      unfold afterSeq
      clear hJ ht4 hold hbox hbl hbl0
      generalize W.putObj (w3.heap.size + 3) (.loop (rec .exhausted none)) = W5 at *
      gi_wp2
      refine ⟨trivial, (callsIn_wide.2 (stringF_any _ acc _ q1 q6)).mono ?_⟩
      rintro e W6 ⟨rfl, hb6, ho6⟩
      have q7 : W6.heap[w3.heap.size + 2]? = some (.deferred (some [])) := ho6 _ _ q4 (by simp) (fun c fz => by simp)
      have q8 := q5.trans (hb6.mono (by omega))
      gi_wp2
      refine ⟨by simp, .inl ⟨_, _, rfl, run_takeDeferred q7, ?_⟩⟩
      exact ⟨_, results_tmp rfl _ _ _, by rw [HI.out, ← hfin]; rfl, Below.putObj q8 (by omega) _⟩
    · exact hS.elim
end Go.Proofs.YtnfadakbffhonaaDoor
