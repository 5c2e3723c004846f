/- The least fixed point of a growing number: contracts of growing and of leastFixedPoint at sets of symbols. -/
import Derived.Test.YtngekjbdjnfhmaaSetD
import Derived.Test.YtngekjbdjnfhmaaSeq
import Derived.Test.YtngekjbdjnfhmaaOne
namespace Go.Proofs.Ytngekjbdjnfhmaa
open Go.ChangeShapes Go.WideShapes Go.ChangeAt Go.RowKit
attribute [local go_sem] Oper.semAt_some
set_option maxRecDepth 100000
def GF : Nat := 62
theorem growing_any (x : Int) (gf : Nat) (caps : Array Value) (w : World) :
    Calls Try.prog 65 #[.int .u16 x, .func (.func gf) #[] caps] w fun e w' => e = .returned (.func (.func 67) #[] #[.pointer (some ⟨w.heap.size, 0, none⟩), .pointer (some ⟨w.heap.size + 1, 0, none⟩)]) ∧ w' = (w.alloc (.cells #[.int .u16 x] 59)).alloc (.cells #[.func (.func gf) #[] caps] 111) := by
  have hmf := makeFunc_run
  go_enter Try.func65, Try.ntmps65
  go_wp2
  go_ret
  exact ⟨rfl, rfl⟩
def cellN (w : World) (b : Nat) : Nat := match w.cell? ⟨b, 0, none⟩ with
  | some (.int _ v) => v.toNat
  | _ => 0
theorem one1.cellN {w : World} {b : Nat} {x : Nat} {k : IntKind} {T : TypeId} (h : one1 w b (.int k (x : Int)) T) : cellN w b = x := by
  unfold Go.Proofs.Ytngekjbdjnfhmaa.cellN; rw [h.cell.1]; simp
set_option maxHeartbeats 1000000 in
theorem growing1_in (n : Nat) (l Bv Bg : Nat) (caps : Array Value) (f : Nat → Nat) (Inv : Nat → Prop) (J : Nat → World → Prop)
    (hInv : ∀ x, Inv x → Inv (f x) ∧ x ≤ f x ∧ f x < 1024)
    (hJc : ∀ y W u, J y W → J y (W.setCell ⟨Bv, 0, none⟩ u)) (hJb : ∀ y W W', J y W → Below W.heap.size W W' → J y W')
    (hJg : ∀ y W, J y W → one1 W Bg (.func (.func 62) #[] caps) 111)
    (hY : ∀ (x y : Nat) W, Inv x → one1 W Bv (.int .u16 (x : Int)) 59 → J y W → YieldAt Fence.wide (n - 1) Try.prog l #[.int .u16 (x : Int)] W (fun e W' => e = .returned (.bool true) ∧ J x W' ∧ one1 W' Bv (.int .u16 (x : Int)) 59))
    (hG : ∀ (x y : Nat) W, Inv x → J y W → Calls Try.prog 62 (#[.int .u16 (x : Int)] ++ caps) W (fun e W' => e = .returned (.int .u16 (f x : Nat)) ∧ Below W.heap.size W W'))
    (x0 y0 : Nat) (W : World) (hx0 : Inv x0) (hv0 : one1 W Bv (.int .u16 (x0 : Int)) 59) (hJ0 : J y0 W) :
    CallsIn Fence.wide n Try.prog 67 #[.func (.yield l) #[] #[], .pointer (some ⟨Bv, 0, none⟩), .pointer (some ⟨Bg, 0, none⟩)] W fun e W' => (∃ v, e = .returned v) ∧ ∃ R, Inv R ∧ f R = R ∧ J R W' := by
  refine callsIn_of_wp Try.func67 rfl trivial ?_ rfl
  simp only [Try.ntmps67, List.size_toArray, List.length_cons, List.length_nil, Nat.reduceAdd, Nat.reduceSub, Array.replicate_succ, Array.replicate_zero, List.push_toArray, List.append_toArray, List.nil_append, List.cons_append]
  gi_wp2
  gi_loopw [4] (fun _ wr => ∃ x y : Nat, Inv x ∧ one1 wr Bv (.int .u16 (x : Int)) 59 ∧ J y wr) (fun _ wr => 1024 - cellN wr Bv)
  case atStart => exact ⟨x0, y0, hx0, hv0, hJ0⟩
  case round =>
    obtain ⟨x, y, hx, hv, hJ⟩ := hrel
    obtain ⟨fn, tmps, assign, body, hy, hR⟩ := hY x y wr hx hv hJ
    have hc := hv.cell.1
    gi_wp2
    refine ⟨fun h => (by cases h), hR.mono ?_⟩
    rintro e W3 ⟨rfl, hJ3, hv3⟩
    clear hy hR hc
    have hc := hv3.cell.1
    have hg := (hJg _ _ hJ3).cell.1
    have eg : ∀ args w, (callFunc 62 args).run Try.prog w = .ok (.enter 62 args) w := enters_of Try.func62 (by kernel_rfl) rfl
    gi_wp2
    refine ⟨trivial, fun h => (by cases h), (callsIn_wide.2 (hG x x W3 hx hJ3)).mono ?_⟩
    rintro e W4 ⟨rfl, hb4⟩
    obtain ⟨i1, i2, i3⟩ := hInv x hx
    have hv4 := hv3.below hb4
    have hJ4 := hJb _ _ _ hJ3 hb4
    have HI1 := Lib.hid i1
    clear i1 hc hg eg
    have hc := hv4.cell.1
    have hf := hv4.cell.2
    have hmx := hv4.cellN
    by_cases he : f x = x
    · have he' : (((f x : Nat) : Int) == (x : Int)) = true := by rw [he]; simp
      have HE := Lib.hid he
      clear he hmx
      gi_wp2
      refine bodyPost_ret (results_none rfl _ _ _) rfl ?_
      exact ⟨⟨_, rfl⟩, x, hx, HE.out, hJ4⟩
    · have he' : (((f x : Nat) : Int) == (x : Int)) = false := by rw [beq_eq_false_iff_ne]; omega
      have hlt : x < f x := by omega
      have hv5 := hv4.set (.int .u16 (f x : Nat))
      have hJ5 := hJc _ _ (.int .u16 (f x : Nat)) hJ4
      have hm5 := hv5.cellN
      clear he
      generalize f x = y at *
      gi_wp2
      exact ⟨⟨y, x, HI1.out, hv5, hJ5⟩, by rw [hm5, hv.cellN]; omega⟩

/-- the world of leastFixedPoint: all but the cell of the value -/
def LfpJ (w0 W : World) (B : Nat) (rec : Loop) (fv : Value) (y : Nat) : Prop :=
  one1 W B (.int .u16 (y : Int)) 59 ∧ one1 W (B + 2) fv 111 ∧ W.heap[B + 4]? = some (.loop rec) ∧ W.heap[B + 3]? = some (.deferred (some [])) ∧ Below B w0 W
set_option maxHeartbeats 1000000 in
theorem lfp_any (caps : Array Value) (f : Nat → Nat) (Inv : Nat → Prop) (hInv : ∀ x, Inv x → Inv (f x) ∧ x ≤ f x ∧ f x < 1024) (w : World)
    (hG : ∀ (x : Nat) W, Inv x → Below w.heap.size w W → Calls Try.prog 62 (#[.int .u16 (x : Int)] ++ caps) W (fun e W' => e = .returned (.int .u16 (f x : Nat)) ∧ Below W.heap.size W W'))
    (x0 : Nat) (hx0 : Inv x0) :
    Calls Try.prog 61 #[.int .u16 (x0 : Int), .func (.func 62) #[] caps] w fun e w' => ∃ R, e = .returned (.int .u16 (R : Nat)) ∧ Inv R ∧ f R = R ∧ Below w.heap.size w w' := by
  refine (callsIn_wide (n := 3)).1 ?_
  refine callsIn_of_wp_marks Try.func61 rfl trivial ?_ rfl
  simp only [Try.ntmps61, List.size_toArray, List.length_cons, List.length_nil, Nat.reduceAdd, Nat.reduceSub, Array.replicate_succ, Array.replicate_zero, List.push_toArray, List.append_toArray, List.nil_append, List.cons_append]
  gi_wp2
  refine ⟨trivial, (callsIn_wide.2 (growing_any x0 _ caps _)).mono ?_⟩
  rintro e w2 ⟨rfl, rfl⟩
  gi_wp2
  refine wpIn_rangeFunc_open rfl (by omega) rfl trivial (enters_of Try.func67 (by kernel_rfl) rfl) ?_
  intro fn hfn
  simp only [World.size_alloc, Nat.add_assoc, Nat.reduceAdd]
  generalize hrec : recOf fn _ _ _ _ _ = rec
  refine (growing1_in 2 (w.heap.size + 4) (w.heap.size + 1) (w.heap.size + 2) caps f Inv (fun y W => LfpJ w W w.heap.size (rec .ready none) (.func (.func 62) #[] caps) y) hInv ?l1 ?l2 ?l3 ?l4 ?l5 x0 x0 _ hx0 ?l6 ?l7).mono ?_
  case l1 =>
    rintro y W u ⟨j1, j2, j3, j4, j5⟩
    exact ⟨j1.other (by omega) u, j2.other (by omega) u, (Below.heap_setCell W _ u _ (by show w.heap.size + 4 ≠ w.heap.size + 1; omega)).trans j3, (Below.heap_setCell W _ u _ (by show w.heap.size + 3 ≠ w.heap.size + 1; omega)).trans j4, j5.setCell (p := ⟨w.heap.size + 1, 0, none⟩) (by show w.heap.size ≤ w.heap.size + 1; omega) u⟩
  case l2 =>
    rintro y W W' ⟨j1, j2, j3, j4, j5⟩ hb
    exact ⟨j1.below hb, j2.below hb, (hb.block _ (Array.getElem?_eq_some_iff.1 j3).1).trans j3, (hb.block _ (Array.getElem?_eq_some_iff.1 j4).1).trans j4, j5.trans (hb.mono j5.size)⟩
  case l3 => exact fun y W h => h.2.1
  case l5 =>
    rintro x y W hx ⟨j1, j2, j3, j4, j5⟩
    exact hG x W hx j5
  case l6 => exact (((one1.alloc (show one1 _ (w.heap.size + 1) _ _ from blk_new _ _ (by simp)) _).alloc _).alloc _)
  case l7 =>
    refine ⟨((((one1.alloc (show one1 _ w.heap.size _ _ from blk_new _ _ rfl) _).alloc _).alloc _).alloc _), ((one1.alloc (show one1 _ (w.heap.size + 2) _ _ from blk_new _ _ (by simp)) _).alloc _), blk_new _ _ (by simp), (blk_old _ _ (by simp)).trans (blk_new _ _ (by simp)), ?_⟩
    exact (((((Below.refl _ _).alloc (Nat.le_refl _) _).alloc (by simp) _).alloc (by simp; omega) _).alloc (by simp; omega) _).alloc (by simp; omega) _
  case l4 =>
    rintro x y W hx hv ⟨j1, j2, j3, j4, j5⟩
    rw [← hrec] at j3
    obtain ⟨c1, c2⟩ := (j1.put (c := w.heap.size + 4) (by omega) (.loop (rec .busy none))).cell
    have k1 := ((j1.put (c := w.heap.size + 4) (by omega) (.loop (rec .busy none))).set (.int .u16 (x : Int))).put (c := w.heap.size + 4) (by omega) (.loop (rec .ready none))
    refine YieldAt.mono (R := fun e W' => ∃ j, e = .returned (.bool j.isNone) ∧ (j = none ∧ LfpJ w W' w.heap.size (rec .ready none) (.func (.func 62) #[] caps) x ∧ one1 W' (w.heap.size + 1) (.int .u16 (x : Int)) 59)) (yieldAt_open hfn j3 rfl ?_) ?_
    · rw [hrec] at j3 ⊢
      have hl := (Array.getElem?_eq_some_iff.1 j3).1
      gi_wp2
      refine ⟨j3, ?_⟩
      gi_wp2
      have p1 : ((W.putObj (w.heap.size + 4) (.loop (rec .busy none))).setCell ⟨w.heap.size, 0, none⟩ (.int .u16 (x : Int))).heap[w.heap.size + 4]? = some (.loop (rec .busy none)) := (Below.heap_setCell _ _ _ _ (by show w.heap.size + 4 ≠ w.heap.size; omega)).trans (World.putObj_heap_same hl)
      refine ⟨p1, rfl, ⟨k1, ?_, ?_, ?_, ?_⟩, ?_⟩
      · exact ((j2.put (by omega) _).other (by omega) _).put (by omega) _
      · exact World.putObj_heap_same (Array.getElem?_eq_some_iff.1 p1).1
      · exact (World.putObj_heap_other (by omega)).trans ((Below.heap_setCell _ _ _ _ (by show w.heap.size + 3 ≠ w.heap.size; omega)).trans ((World.putObj_heap_other (by omega)).trans j4))
      · exact Below.putObj ((Below.putObj j5 (by omega) _).setCell (p := ⟨w.heap.size, 0, none⟩) (Nat.le_refl _) _) (by omega) _
      · exact ((hv.put (by omega) _).other (by omega) _).put (by omega) _
    · rintro e W' ⟨j, rfl, rfl, h1, h2⟩
      exact ⟨rfl, h1, h2⟩
  rintro e W ⟨⟨v, rfl⟩, R, hR, hfix, j1, j2, j3, j4, j5⟩
  have q1 := j1.put (c := w.heap.size + 4) (by omega) (.loop (rec .exhausted none))
  have q4 : (W.putObj (w.heap.size + 4) (.loop (rec .exhausted none))).heap[w.heap.size + 3]? = some (.deferred (some [])) := (World.putObj_heap_other (by omega)).trans j4
  have q5 := Below.putObj j5 (r := w.heap.size + 4) (by omega) (.loop (rec .exhausted none))
  obtain ⟨c1, c2⟩ := q1.cell
  refine ⟨v, .ready, none, rfl, by simp, j3, ?_⟩
  unfold afterSeq
  generalize W.putObj (w.heap.size + 4) (.loop (rec .exhausted none)) = W5 at *
  gi_wp2
  refine ⟨by simp, .inl ⟨_, _, rfl, run_takeDeferred q4, ?_⟩⟩
  exact ⟨_, results_tmp rfl _ _ _, R, rfl, hR, hfix, Below.putObj q5 (by omega) _⟩
end Go.Proofs.Ytngekjbdjnfhmaa
namespace Go.Proofs.Ytngekjbdjnfhmaa
open Go.ChangeShapes Go.WideShapes Go.ChangeAt Go.RowKit
set_option maxRecDepth 100000
/-- a grammar's box -/
def GBox (w : World) (b : Nat) (st : ByteArray) (a : Option Addr) (n cap : Nat) : Prop := w.heap[b]? = some (.cells #[.string st, .slice a n cap] 25)
theorem GBox.lt {w : World} {b : Nat} {st : ByteArray} {a : Option Addr} {n cap : Nat} (h : GBox w b st a n cap) : b < w.heap.size := (Array.getElem?_eq_some_iff.1 h).1
theorem GBox.below {w w' : World} {b : Nat} {st : ByteArray} {a : Option Addr} {n cap : Nat} (h : GBox w b st a n cap) (hb : Below w.heap.size w w') : GBox w' b st a n cap := (hb.block b h.lt).trans h
theorem GBox.cells {w : World} {b : Nat} {st : ByteArray} {a : Option Addr} {n cap : Nat} (h : GBox w b st a n cap) : w.cell? ⟨b, 0, none⟩ = some (.string st) ∧ w.cell? ⟨b, 1, none⟩ = some (.slice a n cap) := ⟨by rw [cell_of_block h 0]; rfl, by rw [cell_of_block h 1]; rfl⟩
set_option maxHeartbeats 1000000 in
theorem lefts1_any (st : ByteArray) (a : Option Addr) (cap : Nat) (rs : List RuleT) (b1 b2 g x : Nat) (w : World) (H : RulesAt w a rs) (hx : x < 1024) (hg : g < 1024) (hG : GBox w b1 st a rs.length cap) (hV : one1 w b2 (.int .u16 (g : Int)) 59) :
    Calls Try.prog 62 #[.int .u16 (x : Int), .pointer (some ⟨b1, 0, none⟩), .pointer (some ⟨b2, 0, none⟩)] w fun e w' => e = .returned (.int .u16 (leftsTo rs g x rs.length : Nat)) ∧ Below w.heap.size w w' := by
  have hn := H.1
  unfold maxLen at hn
  obtain ⟨g0, g1⟩ := hG.cells
  go_enter Try.func62, Try.ntmps62
  go_wp2
  go_loopw [0, 10] (fun v i wr => ∃ k : Nat, k ≤ rs.length ∧ i = .int .i64 k ∧ v = .int .u16 (leftsTo rs g x k : Nat) ∧ Below w.heap.size w wr) (fun _ i _ => rs.length - (intOf i).toNat)
  case atStart => exact ⟨0, Nat.zero_le _, rfl, rfl, Below.refl _ _⟩
  case round =>
    obtain ⟨k, hk, rfl, rfl, hb⟩ := hrel
    by_cases hlt : k < rs.length
    · obtain ⟨z1, z2, b, off, e, hbb, c1, c2⟩ := H.2 k hlt
      subst e
      have d1 : wr.cell? ⟨b, off + k * 2, none⟩ = some (.string rs[k].1) := by rw [hb.cell (p := ⟨b, _, none⟩) hbb, c1]
      have d2 : wr.cell? ⟨b, off + k * 2 + 1, none⟩ = some (.string rs[k].2) := by rw [hb.cell (p := ⟨b, _, none⟩) hbb, c2]
      have hkl : (k : Int) < (rs.length : Int) := by omega
      have hlm := leftsTo_lt rs g x k hx
      have HS := Lib.hid (leftsTo_succ rs g x k hlt)
      have hor := bits_or (leftsTo rs g x k) g hlm hg
      have hol := or_lt hlm hg
      have hb2 := hb.alloc hb.size (.cells #[.string rs[k].1, .string rs[k].2] 78)
      have hV2 := (((hV.below hb).alloc (.cells #[.string rs[k].1, .string rs[k].2] 78))).cell.1
      have hor2 := bits_or (leftsTo rs g x k) (setN rs[k].1.data.toList) hlm (setN_lt _)
      generalize leftsTo rs g x k = m at *
      go_wp2_with fail
      refine (hasAll_any (m ||| g) rs[k].2 _ hol z2).mono ?_
      rintro e w2 ⟨rfl, rfl⟩
      cases hh : hasAllN (m ||| g) rs[k].2.data.toList with
      | false =>
        go_wp2
        go_roundw
        case rel => exact ⟨k + 1, by omega, by go_num, by rw [HS.out, leftsStep, if_neg (by rw [hh]; simp)], hb2⟩
        case measure => simp [intOf]; omega
      | true =>
        go_wp2_with fail
        refine (setOf_any rs[k].1 _ z1).mono ?_
        rintro e w3 ⟨rfl, rfl⟩
        go_wp2
        go_roundw
        case rel => exact ⟨k + 1, by omega, by go_num, by rw [HS.out, leftsStep, if_pos hh], hb2⟩
        case measure => simp [intOf]; omega
    · have hkl : ¬ (k : Int) < (rs.length : Int) := by omega
      obtain rfl : k = rs.length := by omega
      go_wp2
      go_ret
      exact ⟨rfl, hb⟩
set_option maxHeartbeats 1000000 in
theorem leftsClosed_any (st : ByteArray) (a : Option Addr) (cap : Nat) (rs : List RuleT) (g : Nat) (w : World) (H : RulesAt w a rs) (hg : g < 1024) :
    Calls Try.prog 58 #[.agg #[.string st, .slice a rs.length cap], .int .u16 (g : Int)] w fun e w' => e = .returned (.int .u16 (leftsLeast rs g : Nat)) ∧ Below w.heap.size w w' := by
  have hmf := makeFunc_run
  have hbw := ((Below.refl w.heap.size w).alloc (Nat.le_refl _) (.cells #[.string st, .slice a rs.length cap] 25)).alloc (by simp) (.cells #[.int .u16 (g : Int)] 59)
  have hG : GBox ((w.alloc (.cells #[.string st, .slice a rs.length cap] 25)).alloc (.cells #[.int .u16 (g : Int)] 59)) w.heap.size st a rs.length cap := (blk_old _ _ (by simp)).trans (blk_new _ _ rfl)
  have hV : one1 ((w.alloc (.cells #[.string st, .slice a rs.length cap] 25)).alloc (.cells #[.int .u16 (g : Int)] 59)) (w.heap.size + 1) (.int .u16 (g : Int)) 59 := blk_new _ _ (by simp)
  have H1 := H.below hbw (Nat.le_refl _)
  go_enter Try.func58, Try.ntmps58
  go_wp2_with fail
  refine (lfp_any #[.pointer (some ⟨w.heap.size, 0, none⟩), .pointer (some ⟨w.heap.size + 1, 0, none⟩)] (fun x => leftsTo rs g x rs.length) (fun x => x < 1024 ∧ ∀ S, leftsClosedB rs g S = true → Sub x S) ?_ _ ?_ 0 ⟨by omega, fun S _ => Sub.zero S⟩).mono ?_
  · rintro x ⟨h1, h2⟩
    exact ⟨⟨leftsTo_lt rs g x _ h1, fun S hS => leftsTo_below hS (h2 S hS)⟩, (leftsTo_sub rs g x _).le, leftsTo_lt rs g x _ h1⟩
  · rintro x W ⟨h1, _⟩ hb
    exact lefts1_any st a cap rs _ _ g x W (H1.below hb (Nat.le_refl _)) h1 hg (hG.below hb) (hV.below hb)
  · rintro e w2 ⟨R, rfl, ⟨h1, h2⟩, hfix, hb2⟩
    have hL : leftsLeast rs g = R := leftsLeast_eq (leftsTo_fix hfix) h1 h2
    go_wp2
    go_ret
    exact ⟨ret_u16 (by rw [hL]), hbw.trans (hb2.mono (by simp; omega))⟩
end Go.Proofs.Ytngekjbdjnfhmaa
namespace Go.Proofs.Ytngekjbdjnfhmaa
open Go.ChangeShapes Go.WideShapes Go.ChangeAt Go.RowKit
set_option maxRecDepth 100000
theorem leftsLeast_lt (rs : List RuleT) (g : Nat) : leftsLeast rs g < 1024 := by
  unfold leftsLeast leastN
  have : ∀ (l : List Nat) (acc : Nat), acc < 1024 → l.foldl (fun acc S => if leftsClosedB rs g S then acc &&& S else acc) acc < 1024 := by
    intro l
    induction l with
    | nil => intro acc h; exact h
    | cons S l ih =>
      intro acc h
      refine ih _ ?_
      show (if leftsClosedB rs g S = true then acc &&& S else acc) < 1024
      split
      · exact Nat.lt_of_le_of_lt Nat.and_le_left h
      · exact h
  exact this _ _ (by omega)
def noneL (st : ByteArray) (rs : List RuleT) : List UInt8 := if gramOkB st rs = true then textN (leftsLeast rs 0) else []
def madeL (st : ByteArray) (rs : List RuleT) : List UInt8 := if gramOkB st rs = true then textN (leftsLeast rs 960) else []
theorem nullableSet_any (st : ByteArray) (a : Option Addr) (cap : Nat) (rs : List RuleT) (w : World) (H : RulesAt w a rs) :
    Calls Try.prog 44 #[.agg #[.string st, .slice a rs.length cap]] w fun e w' => e = .returned (.int .u16 (leftsLeast rs 0 : Nat)) ∧ Below w.heap.size w w' := by
  have hbw := (Below.refl w.heap.size w).alloc (Nat.le_refl _) (.cells #[.string st, .slice a rs.length cap] 25)
  go_enter Try.func44, Try.ntmps44
  go_wp2_with fail
  refine (leftsClosed_any st a cap rs 0 _ (H.below hbw (Nat.le_refl _)) (by omega)).mono ?_
  rintro e w2 ⟨rfl, hb2⟩
  go_wp2
  go_ret
  exact ⟨rfl, hbw.trans (hb2.mono (by simp))⟩
end Go.Proofs.Ytngekjbdjnfhmaa
namespace Go.Proofs.Ytngekjbdjnfhmaa
open Go.ChangeShapes Go.WideShapes Go.ChangeAt Go.RowKit
set_option maxRecDepth 100000
def inL (l : List UInt8) (c : UInt8) : Bool := l.contains c
theorem contains_at {s : ByteArray} {c : UInt8} {k : Nat} (h : k < s.size) (e : s[k] = c) : inL s.data.toList c = true := by
  rw [inL, List.contains_iff_mem, ← e]; show s.data[k] ∈ _; simp
theorem contains_not {s : ByteArray} {c : UInt8} (h : ∀ k (hk : k < s.size), ¬ s[k] = c) : inL s.data.toList c = false := by
  cases hh : inL s.data.toList c with
  | false => rfl
  | true =>
    rw [inL, List.contains_iff_mem] at hh
    obtain ⟨k, hk, e⟩ := List.getElem_of_mem hh
    exact absurd e (h k (by simpa using hk))
theorem u8_eq (a b : UInt8) : (((a.toNat : Nat) : Int) == ((b.toNat : Nat) : Int)) = decide (a = b) := by
  by_cases h : a = b
  · subst h; simp
  · have : ¬ a.toNat = b.toNat := fun e => h (UInt8.toNat_inj.1 e)
    rw [decide_eq_false h, beq_eq_false_iff_ne]; omega
theorem small_all : ∀ n : Fin 256, hasN 960 (UInt8.ofNat n.val) = smallN ((UInt8.ofNat n.val).toNat : Int) := by decide +kernel
theorem has_small (c : UInt8) : hasN 960 c = smallN (c.toNat : Int) := by
  have h := small_all ⟨c.toNat, c.toNat_lt⟩
  simpa only [UInt8.ofNat_toNat] using h
theorem hasN_zero (c : UInt8) : hasN 0 c = false := by simp [hasN]
def smallSet (b : Bool) : Nat := if b then 960 else 0
theorem smallSet_lt (b : Bool) : smallSet b < 1024 := by cases b <;> simp [smallSet]
theorem has_smallSet (m : Nat) (b : Bool) (c : UInt8) : hasN (m ||| smallSet b) c = (hasN m c || (b && smallN (c.toNat : Int))) := by
  rw [hasN_or]
  cases b
  · simp [smallSet, hasN_zero]
  · simp [smallSet, has_small]
theorem hasAll_bad {m : Nat} {s : ByteArray} {k : Nat} (h : k < s.size) (hb : hasN m s[k] = false) : hasAllN m s.data.toList = false := by
  cases hh : hasAllN m s.data.toList with
  | false => rfl
  | true =>
    unfold hasAllN at hh
    rw [List.all_eq_true] at hh
    have := hh s[k] (by show s.data[k] ∈ _; simp)
    rw [hb] at this; cases this
theorem ok_left {st : ByteArray} {rs : List RuleT} (h : gramOkB st rs = true) {k : Nat} (hk : k < rs.length) : ∃ c : UInt8, rs[k].1 = ⟨#[c]⟩ ∧ bigN (c.toNat : Int) = true := by
  unfold gramOkB at h
  simp only [Bool.and_eq_true, decide_eq_true_eq, List.all_eq_true, List.mem_range] at h
  have h4 := h.2.2 k hk
  rw [goodB_at hk] at h4
  simp only [ruleOkB, Bool.and_eq_true] at h4
  have h5 := h4.1.1
  simp only [isBigS, Bool.and_eq_true, decide_eq_true_eq, byteAt] at h5
  obtain ⟨h6, h7⟩ := h5
  have hl : rs[k].1.data.toList.length = 1 := by simpa using h6
  match hs : rs[k].1.data.toList, hl with
  | [x], _ =>
    rw [hs] at h7
    exact ⟨x, bytesOf_ext (by rw [hs]), by simpa using h7⟩
theorem big_ord {c : UInt8} (h : bigN (c.toNat : Int) = true) : c ∈ ordL := by
  rcases bigN_cases h with rfl | rfl | rfl | rfl | rfl <;> decide
end Go.Proofs.Ytngekjbdjnfhmaa
namespace Go.Proofs.Ytngekjbdjnfhmaa
open Go.ChangeShapes Go.WideShapes Go.ChangeAt Go.RowKit
set_option maxRecDepth 100000
def setV : Value → Nat
  | .string s => setN s.data.toList
  | _ => 0
theorem setV_text {m : Nat} (h : m < 1024) : setV (.string (bytesOf (textN m))) = m := set_text h
/-- the rules up to k ask nothing more of the set m -/
def doneTo (rs : List RuleT) (g m k : Nat) : Prop := ∀ j (h : j < rs.length), j < k → hasAllN (m ||| g) rs[j].2.data.toList = true → Sub (setN rs[j].1.data.toList) m
theorem or_grows {m : Nat} {c : UInt8} (hc : c ∈ ordL) (h : hasN m c = false) : m < m ||| bitN c := by
  have h1 := (sub_or_left m (bitN c)).le
  by_cases e : m = m ||| bitN c
  · have : hasN (m ||| bitN c) c = true := by rw [hasN_or, hasN_self hc]; simp
    rw [← e, h] at this; cases this
  · omega
end Go.Proofs.Ytngekjbdjnfhmaa
