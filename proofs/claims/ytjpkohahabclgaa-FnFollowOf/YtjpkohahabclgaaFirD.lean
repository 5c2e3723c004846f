/- The least fixed point at FIRST sets: contracts of growing and leastFixedPoint. -/
import Derived.Test.YtjpkohahabclgaaFirC
namespace Go.Proofs.Ytjpkohahabclgaa
open Go.ChangeShapes Go.WideShapes Go.ChangeAt Go.RowKit
attribute [local go_sem] Oper.semAt_some
set_option maxRecDepth 100000
def store6 (w : World) (b n : Nat) (F : V5) : World :=
  (((((w.setCell ⟨b, 0, none⟩ (.int .u16 (n : Nat))).setCell ⟨b, 1, none⟩ (.int .u16 (F.a : Nat))).setCell ⟨b, 2, none⟩ (.int .u16 (F.b : Nat))).setCell ⟨b, 3, none⟩ (.int .u16 (F.c : Nat))).setCell ⟨b, 4, none⟩ (.int .u16 (F.d : Nat))).setCell ⟨b, 5, none⟩ (.int .u16 (F.e : Nat))
theorem blk_set {w : World} {k : Nat} {o : Obj} (h : w.heap[k]? = some o) {p : Addr} (hp : k ≠ p.block) (u : Value) : (w.setCell p u).heap[k]? = some o := (Below.heap_setCell w p u k hp).trans h
theorem store6_other {w : World} {b n : Nat} {F : V5} {k : Nat} {o : Obj} (h : w.heap[k]? = some o) (hk : k ≠ b) : (store6 w b n F).heap[k]? = some o :=
  blk_set (blk_set (blk_set (blk_set (blk_set (blk_set h hk _) hk _) hk _) hk _) hk _) hk _
theorem store6_below {B : Nat} {a w : World} (h : Below B a w) {b : Nat} (hb : B ≤ b) (n : Nat) (F : V5) : Below B a (store6 w b n F) :=
  (((((h.setCell (p := ⟨b, 0, none⟩) hb _).setCell (p := ⟨b, 1, none⟩) hb _).setCell (p := ⟨b, 2, none⟩) hb _).setCell (p := ⟨b, 3, none⟩) hb _).setCell (p := ⟨b, 4, none⟩) hb _).setCell (p := ⟨b, 5, none⟩) hb _
theorem store6_same {w : World} {b n n' : Nat} {F G : V5} (h : FBox w b n' G) : FBox (store6 w b n F) b n F := by
  unfold FBox at *; unfold store6; simp [World.setCell, Array.getElem?_modify, h, firstCells]
theorem FBox.alloc {w : World} {b n : Nat} {F : V5} (h : FBox w b n F) (o : Obj) : FBox (w.alloc o) b n F := (blk_old _ _ h.lt).trans h
theorem FBox.frozen {w : World} {b n : Nat} {F : V5} (h : FBox w b n F) (i : Nat) : w.frozen? ⟨b, i, none⟩ = false := frozen_of_block h i
theorem growingF_any (n : Nat) (F : V5) (gf : Nat) (caps : Array Value) (w : World) :
    Calls Try.prog 135 #[.agg (firstCells n F), .func (.func gf) #[] caps] w fun e w' => e = .returned (.func (.func 142) #[] #[.pointer (some ⟨w.heap.size, 0, none⟩), .pointer (some ⟨w.heap.size + 1, 0, none⟩)]) ∧ w' = (w.alloc (.cells (firstCells n F) 104)).alloc (.cells #[.func (.func gf) #[] caps] 135) := by
  have hmf := makeFunc_run
  unfold firstCells
  go_enter Try.func135, Try.ntmps135
  go_wp2
  go_ret
  exact ⟨rfl, rfl⟩
def cellAt (w : World) (b i : Nat) : Nat := match w.cell? ⟨b, i, none⟩ with
  | some (.int _ v) => v.toNat
  | _ => 0
def cellF (w : World) (b : Nat) : Nat := cellAt w b 1 + cellAt w b 2 + cellAt w b 3 + cellAt w b 4 + cellAt w b 5
theorem cellAt_of {w : World} {b i x : Nat} {k : IntKind} (h : w.cell? ⟨b, i, none⟩ = some (.int k (x : Nat))) : cellAt w b i = x := by
  unfold cellAt; rw [h]; simp
theorem FBox.cellF {w : World} {b n : Nat} {F : V5} (h : FBox w b n F) : cellF w b = F.sum := by
  obtain ⟨_, h1, h2, h3, h4, h5⟩ := h.cells
  unfold Go.Proofs.Ytjpkohahabclgaa.cellF
  rw [cellAt_of h1, cellAt_of h2, cellAt_of h3, cellAt_of h4, cellAt_of h5]; rfl
set_option maxHeartbeats 2000000 in
theorem growingF1_in (d : Nat) (l Bv Bg n : Nat) (caps : Array Value) (f : V5 → V5) (Inv : V5 → Prop) (J : V5 → World → Prop)
    (hInv : ∀ x, Inv x → Inv (f x) ∧ Sub5 x (f x) ∧ (f x).ok)
    (hJc : ∀ y W F, J y W → J y (store6 W Bv n F)) (hJb : ∀ y W W', J y W → Below W.heap.size W W' → J y W')
    (hJg : ∀ y W, J y W → one1 W Bg (.func (.func 125) #[] caps) 135)
    (hY : ∀ (x y : V5) W, Inv x → FBox W Bv n x → J y W → YieldAt Fence.wide (d - 1) Try.prog l #[.agg (firstCells n x)] W (fun e W' => e = .returned (.bool true) ∧ J x W' ∧ FBox W' Bv n x))
    (hG : ∀ (x y : V5) W, Inv x → J y W → Calls Try.prog 125 (#[.agg (firstCells n x)] ++ caps) W (fun e W' => e = .returned (.agg (firstCells n (f x))) ∧ Below W.heap.size W W'))
    (x0 y0 : V5) (W : World) (hx0 : Inv x0) (hv0 : FBox W Bv n x0) (hJ0 : J y0 W) :
    CallsIn Fence.wide d Try.prog 142 #[.func (.yield l) #[] #[], .pointer (some ⟨Bv, 0, none⟩), .pointer (some ⟨Bg, 0, none⟩)] W fun e W' => (∃ v, e = .returned v) ∧ ∃ R, Inv R ∧ f R = R ∧ J R W' := by
  have heq := run_eql_first
  have hgd := eqGuard_first
  unfold firstCells at hY hG heq
  refine callsIn_of_wp Try.func142 rfl trivial ?_ rfl
  simp only [Try.ntmps142, List.size_toArray, List.length_cons, List.length_nil, Nat.reduceAdd, Nat.reduceSub, Array.replicate_succ, Array.replicate_zero, List.push_toArray, List.append_toArray, List.nil_append, List.cons_append]
  gi_wp2
  gi_loopw [4] (fun _ wr => ∃ x y : V5, Inv x ∧ FBox wr Bv n x ∧ J y wr) (fun _ wr => 5120 - cellF wr Bv)
  case atStart => exact ⟨x0, y0, hx0, hv0, hJ0⟩
  case round =>
    obtain ⟨x, y, hx, hv, hJ⟩ := hrel
    obtain ⟨fn, tmps, assign, body, hy, hR⟩ := hY x y wr hx hv hJ
    obtain ⟨c0, c1, c2, c3, c4, c5⟩ := hv.cells
    gi_wp2
    refine ⟨fun h => (by cases h), hR.mono ?_⟩
    rintro e W3 ⟨rfl, hJ3, hv3⟩
    clear hy hR c0 c1 c2 c3 c4 c5
    obtain ⟨c0, c1, c2, c3, c4, c5⟩ := hv3.cells
    have hg := (hJg _ _ hJ3).cell.1
    have eg : ∀ args w, (callFunc 125 args).run Try.prog w = .ok (.enter 125 args) w := enters_of Try.func125 (by kernel_rfl) rfl
    gi_wp2
    refine ⟨trivial, fun h => (by cases h), (callsIn_wide.2 (hG x x W3 hx hJ3)).mono ?_⟩
    rintro e W4 ⟨rfl, hb4⟩
    obtain ⟨i1, i2, i3⟩ := hInv x hx
    have hv4 := (hv3.below hb4).alloc (.cells (firstCells n (f x)) 104)
    have hJw := hJb _ _ _ hJ3 hb4
    have hJ4 := hJb _ _ _ hJw ((Below.refl _ _).alloc (Nat.le_refl _) (.cells (firstCells n (f x)) 104))
    have hvw := hv3.below hb4
    have hlt4 := hvw.lt
    have hn4 : ¬ Bv = W4.heap.size := by omega
    have HI1 := Lib.hid i1
    clear i1 hg eg c0 c1 c2 c3 c4 c5 hv0 hJ0 hx0 hv3 hJ3
    have hv4' := hv4
    unfold firstCells at hv4'
    obtain ⟨c0, c1, c2, c3, c4, c5⟩ := hvw.cells
    obtain ⟨e0, e1, e2, e3, e4, e5⟩ := hv4'.cells
    have g0 := hvw.frozen 0
    have g1 := hvw.frozen 1
    have g2 := hvw.frozen 2
    have g3 := hvw.frozen 3
    have g4 := hvw.frozen 4
    have g5 := hvw.frozen 5
    have f0 := hv4.frozen 0
    have f1 := hv4.frozen 1
    have f2 := hv4.frozen 2
    have f3 := hv4.frozen 3
    have f4 := hv4.frozen 4
    have f5 := hv4.frozen 5
    unfold firstCells at f0 f1 f2 f3 f4 f5
    cases he : eq5 (f x) x with
    | true =>
      have HE := Lib.hid ((eq5_iff _ _).1 he)
      gi_wp2
      refine bodyPost_ret (results_none rfl _ _ _) rfl ?_
      exact ⟨⟨_, rfl⟩, x, hx, HE.out, hJ4⟩
    | false =>
      have hgrow := i2.grows (fun e => by rw [← e] at he; rw [(eq5_iff x x).2 rfl] at he; cases he)
      have hs := i3.sum
      have hv5 := (store6_same (n := n) (F := f x) hvw).alloc (.cells (firstCells n (f x)) 104)
      have hJ5 := hJb _ _ _ (hJc _ _ (f x) hJw) ((Below.refl _ _).alloc (Nat.le_refl _) (.cells (firstCells n (f x)) 104))
      have hm5 := hv5.cellF
      have hm0 := hv.cellF
      have HV := Lib.hid hv5
      have HJ := Lib.hid hJ5
      have HM := Lib.hid hm5
      have HM0 := Lib.hid hm0
      clear hJ hv hv4 hv4' hvw hJ4 hv5 hJ5 hm5 hm0 hInv hJc hJb hJg hY hG i2 hb4
      unfold store6 firstCells at HV HJ HM
      gi_wp2
      refine ⟨⟨f x, x, HI1.out, HV.out, HJ.out⟩, ?_⟩
      rw [HM0.out, HM.out]; omega
end Go.Proofs.Ytjpkohahabclgaa
