/- leastFixedPoint at FIRST sets. -/
import Derived.Test.YtjpkohahabclgaaFirD
namespace Go.Proofs.Ytjpkohahabclgaa
open Go.ChangeShapes Go.WideShapes Go.ChangeAt Go.RowKit
attribute [local go_sem] Oper.semAt_some
set_option maxRecDepth 100000
def zero5 : V5 := ⟨0, 0, 0, 0, 0⟩
theorem FBox.put {w : World} {b c n : Nat} {F : V5} (h : FBox w b n F) (hc : b ≠ c) (o : Obj) : FBox (w.putObj c o) b n F := (World.putObj_heap_other hc).trans h
theorem FBox.store {w : World} {b c n m : Nat} {F G : V5} (h : FBox w b n F) (hc : b ≠ c) : FBox (store6 w c m G) b n F := store6_other h hc
theorem bodyF (l B n Bx : Nat) (x y : V5) (t0 t1 t2 t4 t7 t8 t9 t10 t11 : Value) (W : World) (Q : Exit → Act → World → Prop) (hx : FBox W Bx n x) (hy : FBox W B n y)
   (h : ∀ a, Q .normal a (store6 W B n x)) :
  Code.wpIn (Fence.wide.inRound l) (2 - 1) Try.prog
    (Code.block 1
      (Code.region 4
        #[{ dst := some 12, op := Op.load 104 (Operand.tmp 6), type := 104, pos := "l2_sets.go:86", after := #[],
            guard := none },
          { dst := none, op := Op.store 104 (Operand.tmp 5) (Operand.tmp 12), type := 0, pos := "l2_sets.go:86",
            after := #[{ on := 0, ground := Ground.data }, { on := 0, ground := Ground.phase }], guard := none }]
        false)) Q
    { tmps := #[t0, t1, t2, undef, t4, .pointer (some ⟨B, 0, none⟩), .pointer (some ⟨Bx, 0, none⟩), t7, t8, t9, t10, t11, undef, undef], defers := [] } W := by
  obtain ⟨c0, c1, c2, c3, c4, c5⟩ := hy.cells
  obtain ⟨e0, e1, e2, e3, e4, e5⟩ := hx.cells
  have g0 := hy.frozen 0
  have g1 := hy.frozen 1
  have g2 := hy.frozen 2
  have g3 := hy.frozen 3
  have g4 := hy.frozen 4
  have g5 := hy.frozen 5
  clear hx hy
  unfold store6 at h
  have H := Lib.hid h
  clear h
  gi_wp2
  exact H.out _
def LfpF (w0 W : World) (B n : Nat) (rec : Loop) (fv : Value) (y : V5) : Prop :=
  FBox W (B + 1) 0 zero5 ∧ FBox W (B + 2) n y ∧ one1 W (B + 4) fv 135 ∧ W.heap[B + 6]? = some (.loop rec) ∧ W.heap[B + 5]? = some (.deferred (some [])) ∧ Below B w0 W
set_option maxHeartbeats 2000000 in
theorem lfpF_any (n : Nat) (caps : Array Value) (f : V5 → V5) (Inv : V5 → Prop) (hInv : ∀ x, Inv x → Inv (f x) ∧ Sub5 x (f x) ∧ (f x).ok) (w : World)
    (hG : ∀ (x : V5) W, Inv x → Below w.heap.size w W → Calls Try.prog 125 (#[.agg (firstCells n x)] ++ caps) W (fun e W' => e = .returned (.agg (firstCells n (f x))) ∧ Below W.heap.size W W'))
    (x0 : V5) (hx0 : Inv x0) :
    Calls Try.prog 124 #[.agg (firstCells n x0), .func (.func 125) #[] caps] w fun e w' => ∃ R, e = .returned (.agg (firstCells n R)) ∧ Inv R ∧ f R = R ∧ Below w.heap.size w w' := by
  refine (callsIn_wide (n := 3)).1 ?_
  refine callsIn_of_wp_marks Try.func124 rfl trivial ?_ rfl
  simp only [Try.ntmps124, List.size_toArray, List.length_cons, List.length_nil, Nat.reduceAdd, Nat.reduceSub, Array.replicate_succ, Array.replicate_zero, List.push_toArray, List.append_toArray, List.nil_append, List.cons_append]
  unfold firstCells
  gi_wp2
  refine ⟨trivial, (callsIn_wide.2 (growingF_any n x0 _ caps _)).mono ?_⟩
  rintro e w2 ⟨rfl, rfl⟩
  unfold firstCells
  gi_wp2
  refine wpIn_rangeFunc_open rfl (by omega) rfl trivial (enters_of Try.func142 (by kernel_rfl) rfl) ?_
  intro fn hfn
  simp only [World.size_alloc, Nat.add_assoc, Nat.reduceAdd]
  generalize hrec : recOf fn _ _ _ _ _ = rec
  refine (growingF1_in 2 (w.heap.size + 6) (w.heap.size + 3) (w.heap.size + 4) n caps f Inv (fun y W => LfpF w W w.heap.size n (rec .ready none) (.func (.func 125) #[] caps) y) hInv ?l1 ?l2 ?l3 ?l4 ?l5 x0 x0 _ hx0 ?l6 ?l7).mono ?_
  case l1 =>
    rintro y W F ⟨j0, j1, j2, j3, j4, j5⟩
    exact ⟨j0.store (by omega), j1.store (by omega), store6_other j2 (by omega), store6_other j3 (by omega), store6_other j4 (by omega), store6_below j5 (by omega) n F⟩
  case l2 =>
    rintro y W W' ⟨j0, j1, j2, j3, j4, j5⟩ hb
    exact ⟨j0.below hb, j1.below hb, j2.below hb, (hb.block _ (Array.getElem?_eq_some_iff.1 j3).1).trans j3, (hb.block _ (Array.getElem?_eq_some_iff.1 j4).1).trans j4, j5.trans (hb.mono j5.size)⟩
  case l3 => exact fun y W h => h.2.2.1
  case l5 =>
    rintro x y W hx ⟨j0, j1, j2, j3, j4, j5⟩
    exact hG x W hx j5
  case l6 => exact FBox.alloc (FBox.alloc (FBox.alloc (show FBox _ (w.heap.size + 3) n x0 from blk_new _ _ (by simp)) _) _) _
  case l7 =>
    refine ⟨FBox.alloc (FBox.alloc (FBox.alloc (FBox.alloc (FBox.alloc (show FBox _ (w.heap.size + 1) 0 zero5 from blk_new _ _ (by simp)) _) _) _) _) _, FBox.alloc (FBox.alloc (FBox.alloc (FBox.alloc (show FBox _ (w.heap.size + 2) n x0 from blk_new _ _ (by simp)) _) _) _) _, ((one1.alloc (show one1 _ (w.heap.size + 4) _ _ from blk_new _ _ (by simp)) _).alloc _), blk_new _ _ (by simp), (blk_old _ _ (by simp)).trans (blk_new _ _ (by simp)), ?_⟩
    exact (((((((Below.refl _ _).alloc (Nat.le_refl _) _).alloc (by simp) _).alloc (by simp; omega) _).alloc (by simp; omega) _).alloc (by simp; omega) _).alloc (by simp; omega) _).alloc (by simp; omega) _
  case l4 =>
    rintro x y W hx hv ⟨j0, j1, j2, j3, j4, j5⟩
    rw [← hrec] at j3
    refine YieldAt.mono (R := fun e W' => ∃ j, e = .returned (.bool j.isNone) ∧ (j = none ∧ LfpF w W' w.heap.size n (rec .ready none) (.func (.func 125) #[] caps) x ∧ FBox W' (w.heap.size + 3) n x)) (yieldAt_open hfn j3 rfl ?_) ?_
    · rw [hrec] at j3 ⊢
      have hl := (Array.getElem?_eq_some_iff.1 j3).1
      unfold firstCells
      gi_wp2
      refine ⟨(blk_old _ _ hl).trans j3, ?_⟩
      have hx1 : FBox ((W.alloc (.cells (firstCells n x) 104)).putObj (w.heap.size + 6) (.loop (rec .busy none))) W.heap.size n x := FBox.put (blk_new _ _ rfl) (by omega) _
      have k0 := (j0.alloc (.cells (firstCells n x) 104)).put (c := w.heap.size + 6) (by omega) (.loop (rec .busy none))
      have k1 := (j1.alloc (.cells (firstCells n x) 104)).put (c := w.heap.size + 6) (by omega) (.loop (rec .busy none))
      have k2 := (j2.alloc (.cells (firstCells n x) 104)).put (c := w.heap.size + 6) (by omega) (.loop (rec .busy none))
      have k3 : ((W.alloc (.cells (firstCells n x) 104)).putObj (w.heap.size + 6) (.loop (rec .busy none))).heap[w.heap.size + 6]? = some (.loop (rec .busy none)) := World.putObj_heap_same (by simp; omega)
      have k4 : ((W.alloc (.cells (firstCells n x) 104)).putObj (w.heap.size + 6) (.loop (rec .busy none))).heap[w.heap.size + 5]? = some (.deferred (some [])) := (World.putObj_heap_other (by omega)).trans ((blk_old _ _ (Array.getElem?_eq_some_iff.1 j4).1).trans j4)
      have k5 : Below w.heap.size w ((W.alloc (.cells (firstCells n x) 104)).putObj (w.heap.size + 6) (.loop (rec .busy none))) := Below.putObj (j5.alloc j5.size _) (by omega) _
      have k6 := (hv.alloc (.cells (firstCells n x) 104)).put (c := w.heap.size + 6) (by omega) (.loop (rec .busy none))
      refine bodyF (w.heap.size + 6) (w.heap.size + 2) n W.heap.size x y _ _ _ _ _ _ _ _ _ _ _ hx1 k1 ?_
      intro a2
      have K0 := Lib.hid k0
      have K1 := Lib.hid k1
      have K2 := Lib.hid k2
      have K3 := Lib.hid k3
      have K4 := Lib.hid k4
      have K5 := Lib.hid k5
      have K6 := Lib.hid k6
      have p3 := store6_other (b := w.heap.size + 2) (n := n) (F := x) K3.out (by omega)
      refine ⟨p3, rfl, ⟨?_, ?_, ?_, ?_, ?_, ?_⟩, ?_⟩
      · exact (K0.out.store (c := w.heap.size + 2) (m := n) (G := x) (by omega)).put (by omega) _
      · exact FBox.put (store6_same (n := n) (F := x) K1.out) (by omega) _
      · exact one1.put (store6_other (b := w.heap.size + 2) (n := n) (F := x) K2.out (by omega)) (by omega) _
      · exact World.putObj_heap_same (Array.getElem?_eq_some_iff.1 p3).1
      · exact (World.putObj_heap_other (by omega)).trans (store6_other (b := w.heap.size + 2) (n := n) (F := x) K4.out (by omega))
      · exact Below.putObj (store6_below K5.out (b := w.heap.size + 2) (by omega) n x) (by omega) _
      · exact (K6.out.store (c := w.heap.size + 2) (m := n) (G := x) (by omega)).put (by omega) _
    · rintro e W' ⟨j, rfl, rfl, h1, h2⟩
      exact ⟨rfl, h1, h2⟩
  rintro e W ⟨⟨v, rfl⟩, R, hR, hfix, j0, j1, j2, j3, j4, j5⟩
  have q0 := j0.put (c := w.heap.size + 6) (by omega) (.loop (rec .exhausted none))
  have q1 := j1.put (c := w.heap.size + 6) (by omega) (.loop (rec .exhausted none))
  have q4 : (W.putObj (w.heap.size + 6) (.loop (rec .exhausted none))).heap[w.heap.size + 5]? = some (.deferred (some [])) := (World.putObj_heap_other (by omega)).trans j4
  have q5 := Below.putObj j5 (r := w.heap.size + 6) (by omega) (.loop (rec .exhausted none))
  refine ⟨v, .ready, none, rfl, by simp, j3, ?_⟩
  unfold afterSeq
  generalize W.putObj (w.heap.size + 6) (.loop (rec .exhausted none)) = W5 at *
  clear j0 j1 j2 j3 j4 j5 hInv hG
  obtain ⟨c0, c1, c2, c3, c4, c5⟩ := q0.cells
  obtain ⟨e0, e1, e2, e3, e4, e5⟩ := q1.cells
  have g0 := q0.frozen 0
  have g1 := q0.frozen 1
  have g2 := q0.frozen 2
  have g3 := q0.frozen 3
  have g4 := q0.frozen 4
  have g5 := q0.frozen 5
  have Q0 := Lib.hid q0
  have Q4 := Lib.hid q4
  have Q5 := Lib.hid q5
  clear q0 q1 q4 q5
  gi_wp2
  have p4 := store6_other (b := w.heap.size + 1) (n := n) (F := R) Q4.out (by omega)
  have p0 := FBox.put (store6_same (n := n) (F := R) Q0.out) (c := w.heap.size + 5) (by omega) (.deferred none)
  obtain ⟨d0, d1, d2, d3, d4, d5⟩ := p0.cells
  unfold store6 at p4 d0 d1 d2 d3 d4 d5
  refine ⟨by simp, .inl ⟨_, _, rfl, run_takeDeferred p4, ?_⟩⟩
  refine ⟨.agg (firstCells n R), ?_, R, rfl, hR, hfix, Below.putObj (store6_below Q5.out (b := w.heap.size + 1) (by omega) n R) (by omega) _⟩
  unfold firstCells
  simp [results, Try.results124, go_sem, d0, d1, d2, d3, d4, d5]
end Go.Proofs.Ytjpkohahabclgaa
