/- The least fixed point at five sets: contracts of growing and leastFixedPoint. -/
import Derived.Test.YtjpkohahabclgaaFirF
namespace Go.Proofs.Ytjpkohahabclgaa
open Go.ChangeShapes Go.WideShapes Go.ChangeAt Go.RowKit
attribute [local go_sem] Oper.semAt_some
set_option maxRecDepth 100000
/-- the cells of five sets; the first number is not looked at -/
def fiveC (_n : Nat) (F : V5) : Array Value := #[.int .u16 (F.a : Nat), .int .u16 (F.b : Nat), .int .u16 (F.c : Nat), .int .u16 (F.d : Nat), .int .u16 (F.e : Nat)]
def SBox (w : World) (b n : Nat) (F : V5) : Prop := w.heap[b]? = some (.cells (fiveC n F) 77)
theorem SBox.lt {w : World} {b n : Nat} {F : V5} (h : SBox w b n F) : b < w.heap.size := (Array.getElem?_eq_some_iff.1 h).1
theorem SBox.below {w w' : World} {b n : Nat} {F : V5} (h : SBox w b n F) (hb : Below w.heap.size w w') : SBox w' b n F := (hb.block b h.lt).trans h
theorem SBox.cells {w : World} {b n : Nat} {F : V5} (h : SBox w b n F) : True ∧ w.cell? ⟨b, 0, none⟩ = some (.int .u16 (F.a : Nat)) ∧ w.cell? ⟨b, 1, none⟩ = some (.int .u16 (F.b : Nat)) ∧ w.cell? ⟨b, 2, none⟩ = some (.int .u16 (F.c : Nat)) ∧ w.cell? ⟨b, 3, none⟩ = some (.int .u16 (F.d : Nat)) ∧ w.cell? ⟨b, 4, none⟩ = some (.int .u16 (F.e : Nat)) :=
  ⟨trivial, by rw [cell_of_block h 0]; rfl, by rw [cell_of_block h 1]; rfl, by rw [cell_of_block h 2]; rfl, by rw [cell_of_block h 3]; rfl, by rw [cell_of_block h 4]; rfl⟩
theorem run_eql_fiveC (n : Nat) (v u : V5) (w : World) : Sem.run Try.prog (binOp .eql 77 (.agg (fiveC n v)) (.agg (fiveC n u))) w = .ok (.bool (eq5 v u)) w := run_eql_five v u w
theorem equalIn_fiveC (n : Nat) (v u : V5) (w : World) : Sem.run Try.prog (Op.equalIn 10000 77 (.agg (fiveC n v)) (.agg (fiveC n u))) w = .ok (eq5 v u) w := equalIn_five 9998 v u w
def store5 (w : World) (b _n : Nat) (F : V5) : World :=
  ((((w.setCell ⟨b, 0, none⟩ (.int .u16 (F.a : Nat))).setCell ⟨b, 1, none⟩ (.int .u16 (F.b : Nat))).setCell ⟨b, 2, none⟩ (.int .u16 (F.c : Nat))).setCell ⟨b, 3, none⟩ (.int .u16 (F.d : Nat))).setCell ⟨b, 4, none⟩ (.int .u16 (F.e : Nat))
theorem store5_other {w : World} {b n : Nat} {F : V5} {k : Nat} {o : Obj} (h : w.heap[k]? = some o) (hk : k ≠ b) : (store5 w b n F).heap[k]? = some o :=
  blk_set (blk_set (blk_set (blk_set (blk_set h hk _) hk _) hk _) hk _) hk _
theorem store5_below {B : Nat} {a w : World} (h : Below B a w) {b : Nat} (hb : B ≤ b) (n : Nat) (F : V5) : Below B a (store5 w b n F) :=
  ((((h.setCell (p := ⟨b, 0, none⟩) hb _).setCell (p := ⟨b, 1, none⟩) hb _).setCell (p := ⟨b, 2, none⟩) hb _).setCell (p := ⟨b, 3, none⟩) hb _).setCell (p := ⟨b, 4, none⟩) hb _
theorem store5_same {w : World} {b n n' : Nat} {F G : V5} (h : SBox w b n' G) : SBox (store5 w b n F) b n F := by
  unfold SBox at *; unfold store5; simp [World.setCell, Array.getElem?_modify, h, fiveC]
def cellS (w : World) (b : Nat) : Nat := cellAt w b 0 + cellAt w b 1 + cellAt w b 2 + cellAt w b 3 + cellAt w b 4
theorem SBox.cellS {w : World} {b n : Nat} {F : V5} (h : SBox w b n F) : cellS w b = F.sum := by
  obtain ⟨_, h1, h2, h3, h4, h5⟩ := h.cells
  unfold Go.Proofs.Ytjpkohahabclgaa.cellS
  rw [cellAt_of h1, cellAt_of h2, cellAt_of h3, cellAt_of h4, cellAt_of h5]; rfl
theorem SBox.alloc {w : World} {b n : Nat} {F : V5} (h : SBox w b n F) (o : Obj) : SBox (w.alloc o) b n F := (blk_old _ _ h.lt).trans h
theorem SBox.frozen {w : World} {b n : Nat} {F : V5} (h : SBox w b n F) (i : Nat) : w.frozen? ⟨b, i, none⟩ = false := frozen_of_block h i
theorem growingS_any (n : Nat) (F : V5) (gf : Nat) (caps : Array Value) (w : World) :
    Calls Try.prog 129 #[.agg (fiveC n F), .func (.func gf) #[] caps] w fun e w' => e = .returned (.func (.func 140) #[] #[.pointer (some ⟨w.heap.size, 0, none⟩), .pointer (some ⟨w.heap.size + 1, 0, none⟩)]) ∧ w' = (w.alloc (.cells (fiveC n F) 77)).alloc (.cells #[.func (.func gf) #[] caps] 121) := by
  have hmf := makeFunc_run
  unfold fiveC
  go_enter Try.func129, Try.ntmps129
  go_wp2
  go_ret
  exact ⟨rfl, rfl⟩
set_option maxHeartbeats 2000000 in
theorem growingS1_in (d : Nat) (l Bv Bg n : Nat) (caps : Array Value) (f : V5 → V5) (Inv : V5 → Prop) (J : V5 → World → Prop)
    (hInv : ∀ x, Inv x → Inv (f x) ∧ Sub5 x (f x) ∧ (f x).ok)
    (hJc : ∀ y W F, J y W → J y (store5 W Bv n F)) (hJb : ∀ y W W', J y W → Below W.heap.size W W' → J y W')
    (hJg : ∀ y W, J y W → one1 W Bg (.func (.func 108) #[] caps) 121)
    (hY : ∀ (x y : V5) W, Inv x → SBox W Bv n x → J y W → YieldAt Fence.wide (d - 1) Try.prog l #[.agg (fiveC n x)] W (fun e W' => e = .returned (.bool true) ∧ J x W' ∧ SBox W' Bv n x))
    (hG : ∀ (x y : V5) W, Inv x → J y W → Calls Try.prog 108 (#[.agg (fiveC n x)] ++ caps) W (fun e W' => e = .returned (.agg (fiveC n (f x))) ∧ Below W.heap.size W W'))
    (x0 y0 : V5) (W : World) (hx0 : Inv x0) (hv0 : SBox W Bv n x0) (hJ0 : J y0 W) :
    CallsIn Fence.wide d Try.prog 140 #[.func (.yield l) #[] #[], .pointer (some ⟨Bv, 0, none⟩), .pointer (some ⟨Bg, 0, none⟩)] W fun e W' => (∃ v, e = .returned v) ∧ ∃ R, Inv R ∧ f R = R ∧ J R W' := by
  have heq := equalIn_fiveC 0
  have hgd := eqGuard_five
  unfold fiveC at hY hG heq
  refine callsIn_of_wp Try.func140 rfl trivial ?_ rfl
  simp only [Try.ntmps140, List.size_toArray, List.length_cons, List.length_nil, Nat.reduceAdd, Nat.reduceSub, Array.replicate_succ, Array.replicate_zero, List.push_toArray, List.append_toArray, List.nil_append, List.cons_append]
  gi_wp2
  gi_loopw [4] (fun _ wr => ∃ x y : V5, Inv x ∧ SBox wr Bv n x ∧ J y wr) (fun _ wr => 5120 - cellS wr Bv)
  case atStart => exact ⟨x0, y0, hx0, hv0, hJ0⟩
  case round =>
    obtain ⟨x, y, hx, hv, hJ⟩ := hrel
    obtain ⟨fn, tmps, assign, body, hy, hR⟩ := hY x y wr hx hv hJ
    obtain ⟨c0, c1, c2, c3, c4, c5⟩ := hv.cells
    gi_wp2
    refine ⟨fun h => (by cases h), hR.mono ?_⟩
    rintro e W3 ⟨rfl, hJ3, hv3⟩
    clear hy hR c0 c1 c2 c3 c4 c5
    obtain ⟨c0, c1, c2, c3, c4, c5⟩ := hv3.cells
    have hg := (hJg _ _ hJ3).cell.1
    have eg : ∀ args w, (callFunc 108 args).run Try.prog w = .ok (.enter 108 args) w := enters_of Try.func108 (by kernel_rfl) rfl
    gi_wp2
    refine ⟨trivial, fun h => (by cases h), (callsIn_wide.2 (hG x x W3 hx hJ3)).mono ?_⟩
    rintro e W4 ⟨rfl, hb4⟩
    obtain ⟨i1, i2, i3⟩ := hInv x hx
    have hv4 := (hv3.below hb4).alloc (.cells (fiveC n (f x)) 77)
    have hJw := hJb _ _ _ hJ3 hb4
    have hJ4 := hJb _ _ _ hJw ((Below.refl _ _).alloc (Nat.le_refl _) (.cells (fiveC n (f x)) 77))
    have hvw := hv3.below hb4
    have hlt4 := hvw.lt
    have hn4 : ¬ Bv = W4.heap.size := by omega
    have HI1 := Lib.hid i1
    clear i1 hg eg c0 c1 c2 c3 c4 c5 hv0 hJ0 hx0 hv3 hJ3
    have hv4' := hv4
    unfold fiveC at hv4'
    obtain ⟨c0, c1, c2, c3, c4, c5⟩ := hvw.cells
    obtain ⟨e0, e1, e2, e3, e4, e5⟩ := hv4'.cells
    have g0 := hvw.frozen 0
    have g1 := hvw.frozen 1
    have g2 := hvw.frozen 2
    have g3 := hvw.frozen 3
    have g4 := hvw.frozen 4
    have g5 := hvw.frozen 5
    have f0 := hv4.frozen 0
    have f1 := hv4.frozen 1
    have f2 := hv4.frozen 2
    have f3 := hv4.frozen 3
    have f4 := hv4.frozen 4
    have f5 := hv4.frozen 5
    unfold fiveC at f0 f1 f2 f3 f4 f5
    cases he : eq5 (f x) x with
    | true =>
      have HE := Lib.hid ((eq5_iff _ _).1 he)
      gi_wp2
      refine bodyPost_ret (results_none rfl _ _ _) rfl ?_
      exact ⟨⟨_, rfl⟩, x, hx, HE.out, hJ4⟩
    | false =>
      have hgrow := i2.grows (fun e => by rw [← e] at he; rw [(eq5_iff x x).2 rfl] at he; cases he)
      have hs := i3.sum
      have hv5 := (store5_same (n := n) (F := f x) hvw).alloc (.cells (fiveC n (f x)) 77)
      have hJ5 := hJb _ _ _ (hJc _ _ (f x) hJw) ((Below.refl _ _).alloc (Nat.le_refl _) (.cells (fiveC n (f x)) 77))
      have hm5 := hv5.cellS
      have hm0 := hv.cellS
      have HV := Lib.hid hv5
      have HJ := Lib.hid hJ5
      have HM := Lib.hid hm5
      have HM0 := Lib.hid hm0
      clear hJ hv hv4 hv4' hvw hJ4 hv5 hJ5 hm5 hm0 hInv hJc hJb hJg hY hG i2 hb4
      unfold store5 fiveC at HV HJ HM
      gi_wp2
      refine ⟨⟨f x, x, HI1.out, HV.out, HJ.out⟩, ?_⟩
      rw [HM0.out, HM.out]; omega
theorem SBox.put {w : World} {b c n : Nat} {F : V5} (h : SBox w b n F) (hc : b ≠ c) (o : Obj) : SBox (w.putObj c o) b n F := (World.putObj_heap_other hc).trans h
theorem SBox.store {w : World} {b c n m : Nat} {F G : V5} (h : SBox w b n F) (hc : b ≠ c) : SBox (store5 w c m G) b n F := store5_other h hc
theorem bodyS (l B n Bx : Nat) (x y : V5) (t0 t1 t2 t4 t7 t8 t9 t10 t11 : Value) (W : World) (Q : Exit → Act → World → Prop) (hx : SBox W Bx n x) (hy : SBox W B n y)
   (h : ∀ a, Q .normal a (store5 W B n x)) :
  Code.wpIn (Fence.wide.inRound l) (2 - 1) Try.prog
    (Code.block 1
      (Code.region 4
        #[{ dst := some 12, op := Op.load 77 (Operand.tmp 6), type := 77, pos := "l2_sets.go:86", after := #[],
            guard := none },
          { dst := none, op := Op.store 77 (Operand.tmp 5) (Operand.tmp 12), type := 0, pos := "l2_sets.go:86",
            after := #[{ on := 0, ground := Ground.data }, { on := 0, ground := Ground.phase }], guard := none }]
        false)) Q
    { tmps := #[t0, t1, t2, undef, t4, .pointer (some ⟨B, 0, none⟩), .pointer (some ⟨Bx, 0, none⟩), t7, t8, t9, t10, t11, undef, undef], defers := [] } W := by
  obtain ⟨c0, c1, c2, c3, c4, c5⟩ := hy.cells
  obtain ⟨e0, e1, e2, e3, e4, e5⟩ := hx.cells
  have g0 := hy.frozen 0
  have g1 := hy.frozen 1
  have g2 := hy.frozen 2
  have g3 := hy.frozen 3
  have g4 := hy.frozen 4
  have g5 := hy.frozen 5
  clear hx hy
  unfold store5 at h
  have H := Lib.hid h
  clear h
  gi_wp2
  exact H.out _
def LfpS (w0 W : World) (B n : Nat) (rec : Loop) (fv : Value) (y : V5) : Prop :=
  SBox W (B + 1) 0 zero5 ∧ SBox W (B + 2) n y ∧ one1 W (B + 4) fv 121 ∧ W.heap[B + 6]? = some (.loop rec) ∧ W.heap[B + 5]? = some (.deferred (some [])) ∧ Below B w0 W
set_option maxHeartbeats 2000000 in
theorem lfpS_any (n : Nat) (caps : Array Value) (f : V5 → V5) (Inv : V5 → Prop) (hInv : ∀ x, Inv x → Inv (f x) ∧ Sub5 x (f x) ∧ (f x).ok) (w : World)
    (hG : ∀ (x : V5) W, Inv x → Below w.heap.size w W → Calls Try.prog 108 (#[.agg (fiveC n x)] ++ caps) W (fun e W' => e = .returned (.agg (fiveC n (f x))) ∧ Below W.heap.size W W'))
    (x0 : V5) (hx0 : Inv x0) :
    Calls Try.prog 107 #[.agg (fiveC n x0), .func (.func 108) #[] caps] w fun e w' => ∃ R, e = .returned (.agg (fiveC n R)) ∧ Inv R ∧ f R = R ∧ Below w.heap.size w w' := by
  refine (callsIn_wide (n := 3)).1 ?_
  refine callsIn_of_wp_marks Try.func107 rfl trivial ?_ rfl
  simp only [Try.ntmps107, List.size_toArray, List.length_cons, List.length_nil, Nat.reduceAdd, Nat.reduceSub, Array.replicate_succ, Array.replicate_zero, List.push_toArray, List.append_toArray, List.nil_append, List.cons_append]
  unfold fiveC
  gi_wp2
  refine ⟨trivial, (callsIn_wide.2 (growingS_any n x0 _ caps _)).mono ?_⟩
  rintro e w2 ⟨rfl, rfl⟩
  unfold fiveC
  gi_wp2
  refine wpIn_rangeFunc_open rfl (by omega) rfl trivial (enters_of Try.func140 (by kernel_rfl) rfl) ?_
  intro fn hfn
  simp only [World.size_alloc, Nat.add_assoc, Nat.reduceAdd]
  generalize hrec : recOf fn _ _ _ _ _ = rec
  refine (growingS1_in 2 (w.heap.size + 6) (w.heap.size + 3) (w.heap.size + 4) n caps f Inv (fun y W => LfpS w W w.heap.size n (rec .ready none) (.func (.func 108) #[] caps) y) hInv ?l1 ?l2 ?l3 ?l4 ?l5 x0 x0 _ hx0 ?l6 ?l7).mono ?_
  case l1 =>
    rintro y W F ⟨j0, j1, j2, j3, j4, j5⟩
    exact ⟨j0.store (by omega), j1.store (by omega), store5_other j2 (by omega), store5_other j3 (by omega), store5_other j4 (by omega), store5_below j5 (by omega) n F⟩
  case l2 =>
    rintro y W W' ⟨j0, j1, j2, j3, j4, j5⟩ hb
    exact ⟨j0.below hb, j1.below hb, j2.below hb, (hb.block _ (Array.getElem?_eq_some_iff.1 j3).1).trans j3, (hb.block _ (Array.getElem?_eq_some_iff.1 j4).1).trans j4, j5.trans (hb.mono j5.size)⟩
  case l3 => exact fun y W h => h.2.2.1
  case l5 =>
    rintro x y W hx ⟨j0, j1, j2, j3, j4, j5⟩
    exact hG x W hx j5
  case l6 => exact SBox.alloc (SBox.alloc (SBox.alloc (show SBox _ (w.heap.size + 3) n x0 from blk_new _ _ (by simp)) _) _) _
  case l7 =>
    refine ⟨SBox.alloc (SBox.alloc (SBox.alloc (SBox.alloc (SBox.alloc (show SBox _ (w.heap.size + 1) 0 zero5 from blk_new _ _ (by simp)) _) _) _) _) _, SBox.alloc (SBox.alloc (SBox.alloc (SBox.alloc (show SBox _ (w.heap.size + 2) n x0 from blk_new _ _ (by simp)) _) _) _) _, ((one1.alloc (show one1 _ (w.heap.size + 4) _ _ from blk_new _ _ (by simp)) _).alloc _), blk_new _ _ (by simp), (blk_old _ _ (by simp)).trans (blk_new _ _ (by simp)), ?_⟩
    exact (((((((Below.refl _ _).alloc (Nat.le_refl _) _).alloc (by simp) _).alloc (by simp; omega) _).alloc (by simp; omega) _).alloc (by simp; omega) _).alloc (by simp; omega) _).alloc (by simp; omega) _
  case l4 =>
    rintro x y W hx hv ⟨j0, j1, j2, j3, j4, j5⟩
    rw [← hrec] at j3
    refine YieldAt.mono (R := fun e W' => ∃ j, e = .returned (.bool j.isNone) ∧ (j = none ∧ LfpS w W' w.heap.size n (rec .ready none) (.func (.func 108) #[] caps) x ∧ SBox W' (w.heap.size + 3) n x)) (yieldAt_open hfn j3 rfl ?_) ?_
    · rw [hrec] at j3 ⊢
      have hl := (Array.getElem?_eq_some_iff.1 j3).1
      unfold fiveC
      gi_wp2
      refine ⟨(blk_old _ _ hl).trans j3, ?_⟩
      have hx1 : SBox ((W.alloc (.cells (fiveC n x) 77)).putObj (w.heap.size + 6) (.loop (rec .busy none))) W.heap.size n x := SBox.put (blk_new _ _ rfl) (by omega) _
      have k0 := (j0.alloc (.cells (fiveC n x) 77)).put (c := w.heap.size + 6) (by omega) (.loop (rec .busy none))
      have k1 := (j1.alloc (.cells (fiveC n x) 77)).put (c := w.heap.size + 6) (by omega) (.loop (rec .busy none))
      have k2 := (j2.alloc (.cells (fiveC n x) 77)).put (c := w.heap.size + 6) (by omega) (.loop (rec .busy none))
      have k3 : ((W.alloc (.cells (fiveC n x) 77)).putObj (w.heap.size + 6) (.loop (rec .busy none))).heap[w.heap.size + 6]? = some (.loop (rec .busy none)) := World.putObj_heap_same (by simp; omega)
      have k4 : ((W.alloc (.cells (fiveC n x) 77)).putObj (w.heap.size + 6) (.loop (rec .busy none))).heap[w.heap.size + 5]? = some (.deferred (some [])) := (World.putObj_heap_other (by omega)).trans ((blk_old _ _ (Array.getElem?_eq_some_iff.1 j4).1).trans j4)
      have k5 : Below w.heap.size w ((W.alloc (.cells (fiveC n x) 77)).putObj (w.heap.size + 6) (.loop (rec .busy none))) := Below.putObj (j5.alloc j5.size _) (by omega) _
      have k6 := (hv.alloc (.cells (fiveC n x) 77)).put (c := w.heap.size + 6) (by omega) (.loop (rec .busy none))
      refine bodyS (w.heap.size + 6) (w.heap.size + 2) n W.heap.size x y _ _ _ _ _ _ _ _ _ _ _ hx1 k1 ?_
      intro a2
      have K0 := Lib.hid k0
      have K1 := Lib.hid k1
      have K2 := Lib.hid k2
      have K3 := Lib.hid k3
      have K4 := Lib.hid k4
      have K5 := Lib.hid k5
      have K6 := Lib.hid k6
      have p3 := store5_other (b := w.heap.size + 2) (n := n) (F := x) K3.out (by omega)
      refine ⟨p3, rfl, ⟨?_, ?_, ?_, ?_, ?_, ?_⟩, ?_⟩
      · exact (K0.out.store (c := w.heap.size + 2) (m := n) (G := x) (by omega)).put (by omega) _
      · exact SBox.put (store5_same (n := n) (F := x) K1.out) (by omega) _
      · exact one1.put (store5_other (b := w.heap.size + 2) (n := n) (F := x) K2.out (by omega)) (by omega) _
      · exact World.putObj_heap_same (Array.getElem?_eq_some_iff.1 p3).1
      · exact (World.putObj_heap_other (by omega)).trans (store5_other (b := w.heap.size + 2) (n := n) (F := x) K4.out (by omega))
      · exact Below.putObj (store5_below K5.out (b := w.heap.size + 2) (by omega) n x) (by omega) _
      · exact (K6.out.store (c := w.heap.size + 2) (m := n) (G := x) (by omega)).put (by omega) _
    · rintro e W' ⟨j, rfl, rfl, h1, h2⟩
      exact ⟨rfl, h1, h2⟩
  rintro e W ⟨⟨v, rfl⟩, R, hR, hfix, j0, j1, j2, j3, j4, j5⟩
  have q0 := j0.put (c := w.heap.size + 6) (by omega) (.loop (rec .exhausted none))
  have q1 := j1.put (c := w.heap.size + 6) (by omega) (.loop (rec .exhausted none))
  have q4 : (W.putObj (w.heap.size + 6) (.loop (rec .exhausted none))).heap[w.heap.size + 5]? = some (.deferred (some [])) := (World.putObj_heap_other (by omega)).trans j4
  have q5 := Below.putObj j5 (r := w.heap.size + 6) (by omega) (.loop (rec .exhausted none))
  refine ⟨v, .ready, none, rfl, by simp, j3, ?_⟩
  unfold afterSeq
  generalize W.putObj (w.heap.size + 6) (.loop (rec .exhausted none)) = W5 at *
  clear j0 j1 j2 j3 j4 j5 hInv hG
  obtain ⟨c0, c1, c2, c3, c4, c5⟩ := q0.cells
  obtain ⟨e0, e1, e2, e3, e4, e5⟩ := q1.cells
  have g0 := q0.frozen 0
  have g1 := q0.frozen 1
  have g2 := q0.frozen 2
  have g3 := q0.frozen 3
  have g4 := q0.frozen 4
  have g5 := q0.frozen 5
  have Q0 := Lib.hid q0
  have Q4 := Lib.hid q4
  have Q5 := Lib.hid q5
  clear q0 q1 q4 q5
  gi_wp2
  have p4 := store5_other (b := w.heap.size + 1) (n := n) (F := R) Q4.out (by omega)
  have p0 := SBox.put (store5_same (n := n) (F := R) Q0.out) (c := w.heap.size + 5) (by omega) (.deferred none)
  obtain ⟨d0, d1, d2, d3, d4, d5⟩ := p0.cells
  unfold store5 at p4 d1 d2 d3 d4 d5
  refine ⟨by simp, .inl ⟨_, _, rfl, run_takeDeferred p4, ?_⟩⟩
  refine ⟨.agg (fiveC n R), ?_, R, rfl, hR, hfix, Below.putObj (store5_below Q5.out (b := w.heap.size + 1) (by omega) n R) (by omega) _⟩
  unfold fiveC
  simp [results, Try.results107, go_sem, d1, d2, d3, d4, d5]
end Go.Proofs.Ytjpkohahabclgaa
