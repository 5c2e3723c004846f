/- The least fixed point of a growing number: contracts of growing and of leastFixedPoint at sets of symbols. -/
import Derived.Test.YtpbimoodihbliaaSetD
import Derived.Test.YtpbimoodihbliaaSeq
namespace Go.Proofs.Ytpbimoodihbliaa
open Go.ChangeShapes Go.WideShapes Go.ChangeAt Go.RowKit
attribute [local go_sem] Oper.semAt_some
set_option maxRecDepth 100000
def one1 (w : World) (b : Nat) (v : Value) (T : TypeId) : Prop := w.heap[b]? = some (.cells #[v] T)
theorem one1.lt {w : World} {b : Nat} {v : Value} {T : TypeId} (h : one1 w b v T) : b < w.heap.size := (Array.getElem?_eq_some_iff.1 h).1
theorem one1.cell {w : World} {b : Nat} {v : Value} {T : TypeId} (h : one1 w b v T) : w.cell? ⟨b, 0, none⟩ = some v ∧ w.frozen? ⟨b, 0, none⟩ = false := ⟨by rw [cell_of_block h 0]; rfl, frozen_of_block h 0⟩
theorem one1.below {w w' : World} {b : Nat} {v : Value} {T : TypeId} (h : one1 w b v T) (hb : Below w.heap.size w w') : one1 w' b v T := (hb.block b h.lt).trans h
theorem one1.alloc {w : World} {b : Nat} {v : Value} {T : TypeId} (h : one1 w b v T) (o : Obj) : one1 (w.alloc o) b v T := (blk_old _ _ h.lt).trans h
theorem one1.set {w : World} {b : Nat} {v : Value} {T : TypeId} (h : one1 w b v T) (u : Value) : one1 (w.setCell ⟨b, 0, none⟩ u) b u T := by
  unfold one1 at *; simp [World.setCell, Array.getElem?_modify, h]
theorem one1.other {w : World} {b c : Nat} {v : Value} {T : TypeId} (h : one1 w b v T) (hc : b ≠ c) (u : Value) : one1 (w.setCell ⟨c, 0, none⟩ u) b v T := (Below.heap_setCell w _ u b hc).trans h
theorem one1.put {w : World} {b c : Nat} {v : Value} {T : TypeId} (h : one1 w b v T) (hc : b ≠ c) (o : Obj) : one1 (w.putObj c o) b v T := (World.putObj_heap_other hc).trans h
theorem makeFunc_run : ∀ (fn : Fn) (first cap : Array Value) (w : World), (Instr.makeFunc fn first cap).run Try.prog w = .ok (.func fn first cap) w := fun _ _ _ _ => rfl
def GF : Nat := 120
theorem growing_any (x : Int) (gf : Nat) (caps : Array Value) (w : World) :
    Calls Try.prog 123 #[.int .u16 x, .func (.func gf) #[] caps] w fun e w' => e = .returned (.func (.func 124) #[] #[.pointer (some ⟨w.heap.size, 0, none⟩), .pointer (some ⟨w.heap.size + 1, 0, none⟩)]) ∧ w' = (w.alloc (.cells #[.int .u16 x] 68)).alloc (.cells #[.func (.func gf) #[] caps] 161) := by
  have hmf := makeFunc_run
  go_enter Try.func123, Try.ntmps123
  go_wp2
  go_ret
  exact ⟨rfl, rfl⟩
def cellN (w : World) (b : Nat) : Nat := match w.cell? ⟨b, 0, none⟩ with
  | some (.int _ v) => v.toNat
  | _ => 0
theorem one1.cellN {w : World} {b : Nat} {x : Nat} {k : IntKind} {T : TypeId} (h : one1 w b (.int k (x : Int)) T) : cellN w b = x := by
  unfold Go.Proofs.Ytpbimoodihbliaa.cellN; rw [h.cell.1]; simp
set_option maxHeartbeats 1000000 in
theorem growing1_in (n : Nat) (l Bv Bg : Nat) (caps : Array Value) (f : Nat → Nat) (Inv : Nat → Prop) (J : Nat → World → Prop)
    (hInv : ∀ x, Inv x → Inv (f x) ∧ x ≤ f x ∧ f x < 1024)
    (hJc : ∀ y W u, J y W → J y (W.setCell ⟨Bv, 0, none⟩ u)) (hJb : ∀ y W W', J y W → Below W.heap.size W W' → J y W')
    (hJg : ∀ y W, J y W → one1 W Bg (.func (.func 120) #[] caps) 161)
    (hY : ∀ (x y : Nat) W, Inv x → one1 W Bv (.int .u16 (x : Int)) 68 → J y W → YieldAt Fence.wide (n - 1) Try.prog l #[.int .u16 (x : Int)] W (fun e W' => e = .returned (.bool true) ∧ J x W' ∧ one1 W' Bv (.int .u16 (x : Int)) 68))
    (hG : ∀ (x y : Nat) W, Inv x → J y W → Calls Try.prog 120 (#[.int .u16 (x : Int)] ++ caps) W (fun e W' => e = .returned (.int .u16 (f x : Nat)) ∧ Below W.heap.size W W'))
    (x0 y0 : Nat) (W : World) (hx0 : Inv x0) (hv0 : one1 W Bv (.int .u16 (x0 : Int)) 68) (hJ0 : J y0 W) :
    CallsIn Fence.wide n Try.prog 124 #[.func (.yield l) #[] #[], .pointer (some ⟨Bv, 0, none⟩), .pointer (some ⟨Bg, 0, none⟩)] W fun e W' => (∃ v, e = .returned v) ∧ ∃ R, Inv R ∧ f R = R ∧ J R W' := by
  refine callsIn_of_wp Try.func124 rfl trivial ?_ rfl
  simp only [Try.ntmps124, List.size_toArray, List.length_cons, List.length_nil, Nat.reduceAdd, Nat.reduceSub, Array.replicate_succ, Array.replicate_zero, List.push_toArray, List.append_toArray, List.nil_append, List.cons_append]
  gi_wp2
  gi_loopw [4] (fun _ wr => ∃ x y : Nat, Inv x ∧ one1 wr Bv (.int .u16 (x : Int)) 68 ∧ J y wr) (fun _ wr => 1024 - cellN wr Bv)
  case atStart => exact ⟨x0, y0, hx0, hv0, hJ0⟩
  case round =>
    obtain ⟨x, y, hx, hv, hJ⟩ := hrel
    obtain ⟨fn, tmps, assign, body, hy, hR⟩ := hY x y wr hx hv hJ
    have hc := hv.cell.1
    gi_wp2
    refine ⟨fun h => (by cases h), hR.mono ?_⟩
    rintro e W3 ⟨rfl, hJ3, hv3⟩
    clear hy hR hc
    have hc := hv3.cell.1
    have hg := (hJg _ _ hJ3).cell.1
    have eg : ∀ args w, (callFunc 120 args).run Try.prog w = .ok (.enter 120 args) w := enters_of Try.func120 (by kernel_rfl) rfl
    gi_wp2
    refine ⟨trivial, fun h => (by cases h), (callsIn_wide.2 (hG x x W3 hx hJ3)).mono ?_⟩
    rintro e W4 ⟨rfl, hb4⟩
    obtain ⟨i1, i2, i3⟩ := hInv x hx
    have hv4 := hv3.below hb4
    have hJ4 := hJb _ _ _ hJ3 hb4
    have HI1 := Lib.hid i1
    clear i1 hc hg eg
    have hc := hv4.cell.1
    have hf := hv4.cell.2
    have hmx := hv4.cellN
    by_cases he : f x = x
    · have he' : (((f x : Nat) : Int) == (x : Int)) = true := by rw [he]; simp
      have HE := Lib.hid he
      clear he hmx
      gi_wp2
      refine bodyPost_ret (results_none rfl _ _ _) rfl ?_
      exact ⟨⟨_, rfl⟩, x, hx, HE.out, hJ4⟩
    · have he' : (((f x : Nat) : Int) == (x : Int)) = false := by rw [beq_eq_false_iff_ne]; omega
      have hlt : x < f x := by omega
      have hv5 := hv4.set (.int .u16 (f x : Nat))
      have hJ5 := hJc _ _ (.int .u16 (f x : Nat)) hJ4
      have hm5 := hv5.cellN
      clear he
      generalize f x = y at *
      gi_wp2
      exact ⟨⟨y, x, HI1.out, hv5, hJ5⟩, by rw [hm5, hv.cellN]; omega⟩

/-- the world of leastFixedPoint: all but the cell of the value -/
def LfpJ (w0 W : World) (B : Nat) (rec : Loop) (fv : Value) (y : Nat) : Prop :=
  one1 W B (.int .u16 (y : Int)) 68 ∧ one1 W (B + 2) fv 161 ∧ W.heap[B + 4]? = some (.loop rec) ∧ W.heap[B + 3]? = some (.deferred (some [])) ∧ Below B w0 W
set_option maxHeartbeats 1000000 in
theorem lfp_any (caps : Array Value) (f : Nat → Nat) (Inv : Nat → Prop) (hInv : ∀ x, Inv x → Inv (f x) ∧ x ≤ f x ∧ f x < 1024) (w : World)
    (hG : ∀ (x : Nat) W, Inv x → Below w.heap.size w W → Calls Try.prog 120 (#[.int .u16 (x : Int)] ++ caps) W (fun e W' => e = .returned (.int .u16 (f x : Nat)) ∧ Below W.heap.size W W'))
    (x0 : Nat) (hx0 : Inv x0) :
    Calls Try.prog 119 #[.int .u16 (x0 : Int), .func (.func 120) #[] caps] w fun e w' => ∃ R, e = .returned (.int .u16 (R : Nat)) ∧ Inv R ∧ f R = R ∧ Below w.heap.size w w' := by
  refine (callsIn_wide (n := 3)).1 ?_
  refine callsIn_of_wp_marks Try.func119 rfl trivial ?_ rfl
  simp only [Try.ntmps119, List.size_toArray, List.length_cons, List.length_nil, Nat.reduceAdd, Nat.reduceSub, Array.replicate_succ, Array.replicate_zero, List.push_toArray, List.append_toArray, List.nil_append, List.cons_append]
  gi_wp2
  refine ⟨trivial, (callsIn_wide.2 (growing_any x0 _ caps _)).mono ?_⟩
  rintro e w2 ⟨rfl, rfl⟩
  gi_wp2
  refine wpIn_rangeFunc_open rfl (by omega) rfl trivial (enters_of Try.func124 (by kernel_rfl) rfl) ?_
  intro fn hfn
  simp only [World.size_alloc, Nat.add_assoc, Nat.reduceAdd]
  generalize hrec : recOf fn _ _ _ _ _ = rec
  refine (growing1_in 2 (w.heap.size + 4) (w.heap.size + 1) (w.heap.size + 2) caps f Inv (fun y W => LfpJ w W w.heap.size (rec .ready none) (.func (.func 120) #[] caps) y) hInv ?l1 ?l2 ?l3 ?l4 ?l5 x0 x0 _ hx0 ?l6 ?l7).mono ?_
  case l1 =>
    rintro y W u ⟨j1, j2, j3, j4, j5⟩
    exact ⟨j1.other (by omega) u, j2.other (by omega) u, (Below.heap_setCell W _ u _ (by show w.heap.size + 4 ≠ w.heap.size + 1; omega)).trans j3, (Below.heap_setCell W _ u _ (by show w.heap.size + 3 ≠ w.heap.size + 1; omega)).trans j4, j5.setCell (p := ⟨w.heap.size + 1, 0, none⟩) (by show w.heap.size ≤ w.heap.size + 1; omega) u⟩
  case l2 =>
    rintro y W W' ⟨j1, j2, j3, j4, j5⟩ hb
    exact ⟨j1.below hb, j2.below hb, (hb.block _ (Array.getElem?_eq_some_iff.1 j3).1).trans j3, (hb.block _ (Array.getElem?_eq_some_iff.1 j4).1).trans j4, j5.trans (hb.mono j5.size)⟩
  case l3 => exact fun y W h => h.2.1
  case l5 =>
    rintro x y W hx ⟨j1, j2, j3, j4, j5⟩
    exact hG x W hx j5
  case l6 => exact (((one1.alloc (show one1 _ (w.heap.size + 1) _ _ from blk_new _ _ (by simp)) _).alloc _).alloc _)
  case l7 =>
    refine ⟨((((one1.alloc (show one1 _ w.heap.size _ _ from blk_new _ _ rfl) _).alloc _).alloc _).alloc _), ((one1.alloc (show one1 _ (w.heap.size + 2) _ _ from blk_new _ _ (by simp)) _).alloc _), blk_new _ _ (by simp), (blk_old _ _ (by simp)).trans (blk_new _ _ (by simp)), ?_⟩
    exact (((((Below.refl _ _).alloc (Nat.le_refl _) _).alloc (by simp) _).alloc (by simp; omega) _).alloc (by simp; omega) _).alloc (by simp; omega) _
  case l4 =>
    rintro x y W hx hv ⟨j1, j2, j3, j4, j5⟩
    rw [← hrec] at j3
    obtain ⟨c1, c2⟩ := (j1.put (c := w.heap.size + 4) (by omega) (.loop (rec .busy none))).cell
    have k1 := ((j1.put (c := w.heap.size + 4) (by omega) (.loop (rec .busy none))).set (.int .u16 (x : Int))).put (c := w.heap.size + 4) (by omega) (.loop (rec .ready none))
    refine YieldAt.mono (R := fun e W' => ∃ j, e = .returned (.bool j.isNone) ∧ (j = none ∧ LfpJ w W' w.heap.size (rec .ready none) (.func (.func 120) #[] caps) x ∧ one1 W' (w.heap.size + 1) (.int .u16 (x : Int)) 68)) (yieldAt_open hfn j3 rfl ?_) ?_
    · rw [hrec] at j3 ⊢
      have hl := (Array.getElem?_eq_some_iff.1 j3).1
      gi_wp2
      refine ⟨j3, ?_⟩
      gi_wp2
      have p1 : ((W.putObj (w.heap.size + 4) (.loop (rec .busy none))).setCell ⟨w.heap.size, 0, none⟩ (.int .u16 (x : Int))).heap[w.heap.size + 4]? = some (.loop (rec .busy none)) := (Below.heap_setCell _ _ _ _ (by show w.heap.size + 4 ≠ w.heap.size; omega)).trans (World.putObj_heap_same hl)
      refine ⟨p1, rfl, ⟨k1, ?_, ?_, ?_, ?_⟩, ?_⟩
      · exact ((j2.put (by omega) _).other (by omega) _).put (by omega) _
      · exact World.putObj_heap_same (Array.getElem?_eq_some_iff.1 p1).1
      · exact (World.putObj_heap_other (by omega)).trans ((Below.heap_setCell _ _ _ _ (by show w.heap.size + 3 ≠ w.heap.size; omega)).trans ((World.putObj_heap_other (by omega)).trans j4))
      · exact Below.putObj ((Below.putObj j5 (by omega) _).setCell (p := ⟨w.heap.size, 0, none⟩) (Nat.le_refl _) _) (by omega) _
      · exact ((hv.put (by omega) _).other (by omega) _).put (by omega) _
    · rintro e W' ⟨j, rfl, rfl, h1, h2⟩
      exact ⟨rfl, h1, h2⟩
  rintro e W ⟨⟨v, rfl⟩, R, hR, hfix, j1, j2, j3, j4, j5⟩
  have q1 := j1.put (c := w.heap.size + 4) (by omega) (.loop (rec .exhausted none))
  have q4 : (W.putObj (w.heap.size + 4) (.loop (rec .exhausted none))).heap[w.heap.size + 3]? = some (.deferred (some [])) := (World.putObj_heap_other (by omega)).trans j4
  have q5 := Below.putObj j5 (r := w.heap.size + 4) (by omega) (.loop (rec .exhausted none))
  obtain ⟨c1, c2⟩ := q1.cell
  refine ⟨v, .ready, none, rfl, by simp, j3, ?_⟩
  unfold afterSeq
  generalize W.putObj (w.heap.size + 4) (.loop (rec .exhausted none)) = W5 at *
  gi_wp2
  refine ⟨by simp, .inl ⟨_, _, rfl, run_takeDeferred q4, ?_⟩⟩
  exact ⟨_, results_tmp rfl _ _ _, R, rfl, hR, hfix, Below.putObj q5 (by omega) _⟩
end Go.Proofs.Ytpbimoodihbliaa
