/- leastFixedPoint at FIRST sets. -/
import Derived.Test.YtngekjbdjnfhmaaFirD
import Derived.Test.YtngekjbdjnfhmaaSetH
import Derived.Test.YtngekjbdjnfhmaaTyA
namespace Go.Proofs.Ytngekjbdjnfhmaa
open Go.ChangeShapes Go.WideShapes Go.ChangeAt Go.RowKit
attribute [local go_sem] Oper.semAt_some
set_option maxRecDepth 100000
def zero5 : V5 := ⟨0, 0, 0, 0, 0⟩
theorem FBox.put {w : World} {b c n : Nat} {F : V5} (h : FBox w b n F) (hc : b ≠ c) (o : Obj) : FBox (w.putObj c o) b n F := (World.putObj_heap_other hc).trans h
theorem FBox.store {w : World} {b c n m : Nat} {F G : V5} (h : FBox w b n F) (hc : b ≠ c) : FBox (store6 w c m G) b n F := store6_other h hc
theorem bodyF (l B n Bx : Nat) (x y : V5) (t0 t1 t2 t4 t7 t8 t9 t10 t11 : Value) (W : World) (Q : Exit → Act → World → Prop) (hx : FBox W Bx n x) (hy : FBox W B n y)
   (h : ∀ a, Q .normal a (store6 W B n x)) :
  Code.wpIn (Fence.wide.inRound l) (2 - 1) Try.prog
    (Code.block 1
      (Code.region 4
        #[{ dst := some 12, op := Op.load 64 (Operand.tmp 6), type := 64, pos := "l2_sets.go:86", after := #[],
            guard := none },
          { dst := none, op := Op.store 64 (Operand.tmp 5) (Operand.tmp 12), type := 0, pos := "l2_sets.go:86",
            after := #[{ on := 0, ground := Ground.data }, { on := 0, ground := Ground.phase }], guard := none }]
        false)) Q
    { tmps := #[t0, t1, t2, undef, t4, .pointer (some ⟨B, 0, none⟩), .pointer (some ⟨Bx, 0, none⟩), t7, t8, t9, t10, t11, undef, undef], defers := [] } W := by
  obtain ⟨c0, c1, c2, c3, c4, c5⟩ := hy.cells
  obtain ⟨e0, e1, e2, e3, e4, e5⟩ := hx.cells
  have g0 := hy.frozen 0
  have g1 := hy.frozen 1
  have g2 := hy.frozen 2
  have g3 := hy.frozen 3
  have g4 := hy.frozen 4
  have g5 := hy.frozen 5
  clear hx hy
  unfold store6 at h
  have H := Lib.hid h
  clear h
  gi_wp2
  exact H.out _
def LfpF (w0 W : World) (B n : Nat) (rec : Loop) (fv : Value) (y : V5) : Prop :=
  FBox W (B + 1) 0 zero5 ∧ FBox W (B + 2) n y ∧ one1 W (B + 4) fv 96 ∧ W.heap[B + 6]? = some (.loop rec) ∧ W.heap[B + 5]? = some (.deferred (some [])) ∧ Below B w0 W
set_option maxHeartbeats 2000000 in
theorem lfpF_any (n : Nat) (caps : Array Value) (f : V5 → V5) (Inv : V5 → Prop) (hInv : ∀ x, Inv x → Inv (f x) ∧ Sub5 x (f x) ∧ (f x).ok) (w : World)
    (hG : ∀ (x : V5) W, Inv x → Below w.heap.size w W → Calls Try.prog 46 (#[.agg (firstCells n x)] ++ caps) W (fun e W' => e = .returned (.agg (firstCells n (f x))) ∧ Below W.heap.size W W'))
    (x0 : V5) (hx0 : Inv x0) :
    Calls Try.prog 45 #[.agg (firstCells n x0), .func (.func 46) #[] caps] w fun e w' => ∃ R, e = .returned (.agg (firstCells n R)) ∧ Inv R ∧ f R = R ∧ Below w.heap.size w w' := by
  refine (callsIn_wide (n := 3)).1 ?_
  refine callsIn_of_wp_marks Try.func45 rfl trivial ?_ rfl
  simp only [Try.ntmps45, List.size_toArray, List.length_cons, List.length_nil, Nat.reduceAdd, Nat.reduceSub, Array.replicate_succ, Array.replicate_zero, List.push_toArray, List.append_toArray, List.nil_append, List.cons_append]
  unfold firstCells
  gi_wp2
  refine ⟨trivial, (callsIn_wide.2 (growingF_any n x0 _ caps _)).mono ?_⟩
  rintro e w2 ⟨rfl, rfl⟩
  unfold firstCells
  gi_wp2
  refine wpIn_rangeFunc_open rfl (by omega) rfl trivial (enters_of Try.func63 (by kernel_rfl) rfl) ?_
  intro fn hfn
  simp only [World.size_alloc, Nat.add_assoc, Nat.reduceAdd]
  generalize hrec : recOf fn _ _ _ _ _ = rec
  refine (growingF1_in 2 (w.heap.size + 6) (w.heap.size + 3) (w.heap.size + 4) n caps f Inv (fun y W => LfpF w W w.heap.size n (rec .ready none) (.func (.func 46) #[] caps) y) hInv ?l1 ?l2 ?l3 ?l4 ?l5 x0 x0 _ hx0 ?l6 ?l7).mono ?_
  case l1 =>
    rintro y W F ⟨j0, j1, j2, j3, j4, j5⟩
    exact ⟨j0.store (by omega), j1.store (by omega), store6_other j2 (by omega), store6_other j3 (by omega), store6_other j4 (by omega), store6_below j5 (by omega) n F⟩
  case l2 =>
    rintro y W W' ⟨j0, j1, j2, j3, j4, j5⟩ hb
    exact ⟨j0.below hb, j1.below hb, j2.below hb, (hb.block _ (Array.getElem?_eq_some_iff.1 j3).1).trans j3, (hb.block _ (Array.getElem?_eq_some_iff.1 j4).1).trans j4, j5.trans (hb.mono j5.size)⟩
  case l3 => exact fun y W h => h.2.2.1
  case l5 =>
    rintro x y W hx ⟨j0, j1, j2, j3, j4, j5⟩
    exact hG x W hx j5
  case l6 => exact FBox.alloc (FBox.alloc (FBox.alloc (show FBox _ (w.heap.size + 3) n x0 from blk_new _ _ (by simp)) _) _) _
  case l7 =>
    refine ⟨FBox.alloc (FBox.alloc (FBox.alloc (FBox.alloc (FBox.alloc (show FBox _ (w.heap.size + 1) 0 zero5 from blk_new _ _ (by simp)) _) _) _) _) _, FBox.alloc (FBox.alloc (FBox.alloc (FBox.alloc (show FBox _ (w.heap.size + 2) n x0 from blk_new _ _ (by simp)) _) _) _) _, ((one1.alloc (show one1 _ (w.heap.size + 4) _ _ from blk_new _ _ (by simp)) _).alloc _), blk_new _ _ (by simp), (blk_old _ _ (by simp)).trans (blk_new _ _ (by simp)), ?_⟩
    exact (((((((Below.refl _ _).alloc (Nat.le_refl _) _).alloc (by simp) _).alloc (by simp; omega) _).alloc (by simp; omega) _).alloc (by simp; omega) _).alloc (by simp; omega) _).alloc (by simp; omega) _
  case l4 =>
    rintro x y W hx hv ⟨j0, j1, j2, j3, j4, j5⟩
    rw [← hrec] at j3
    refine YieldAt.mono (R := fun e W' => ∃ j, e = .returned (.bool j.isNone) ∧ (j = none ∧ LfpF w W' w.heap.size n (rec .ready none) (.func (.func 46) #[] caps) x ∧ FBox W' (w.heap.size + 3) n x)) (yieldAt_open hfn j3 rfl ?_) ?_
    · rw [hrec] at j3 ⊢
      have hl := (Array.getElem?_eq_some_iff.1 j3).1
      unfold firstCells
      gi_wp2
      refine ⟨(blk_old _ _ hl).trans j3, ?_⟩
      have hx1 : FBox ((W.alloc (.cells (firstCells n x) 64)).putObj (w.heap.size + 6) (.loop (rec .busy none))) W.heap.size n x := FBox.put (blk_new _ _ rfl) (by omega) _
      have k0 := (j0.alloc (.cells (firstCells n x) 64)).put (c := w.heap.size + 6) (by omega) (.loop (rec .busy none))
      have k1 := (j1.alloc (.cells (firstCells n x) 64)).put (c := w.heap.size + 6) (by omega) (.loop (rec .busy none))
      have k2 := (j2.alloc (.cells (firstCells n x) 64)).put (c := w.heap.size + 6) (by omega) (.loop (rec .busy none))
      have k3 : ((W.alloc (.cells (firstCells n x) 64)).putObj (w.heap.size + 6) (.loop (rec .busy none))).heap[w.heap.size + 6]? = some (.loop (rec .busy none)) := World.putObj_heap_same (by simp; omega)
      have k4 : ((W.alloc (.cells (firstCells n x) 64)).putObj (w.heap.size + 6) (.loop (rec .busy none))).heap[w.heap.size + 5]? = some (.deferred (some [])) := (World.putObj_heap_other (by omega)).trans ((blk_old _ _ (Array.getElem?_eq_some_iff.1 j4).1).trans j4)
      have k5 : Below w.heap.size w ((W.alloc (.cells (firstCells n x) 64)).putObj (w.heap.size + 6) (.loop (rec .busy none))) := Below.putObj (j5.alloc j5.size _) (by omega) _
      have k6 := (hv.alloc (.cells (firstCells n x) 64)).put (c := w.heap.size + 6) (by omega) (.loop (rec .busy none))
      refine bodyF (w.heap.size + 6) (w.heap.size + 2) n W.heap.size x y _ _ _ _ _ _ _ _ _ _ _ hx1 k1 ?_
      intro a2
      have K0 := Lib.hid k0
      have K1 := Lib.hid k1
      have K2 := Lib.hid k2
      have K3 := Lib.hid k3
      have K4 := Lib.hid k4
      have K5 := Lib.hid k5
      have K6 := Lib.hid k6
      have p3 := store6_other (b := w.heap.size + 2) (n := n) (F := x) K3.out (by omega)
      refine ⟨p3, rfl, ⟨?_, ?_, ?_, ?_, ?_, ?_⟩, ?_⟩
      · exact (K0.out.store (c := w.heap.size + 2) (m := n) (G := x) (by omega)).put (by omega) _
      · exact FBox.put (store6_same (n := n) (F := x) K1.out) (by omega) _
      · exact one1.put (store6_other (b := w.heap.size + 2) (n := n) (F := x) K2.out (by omega)) (by omega) _
      · exact World.putObj_heap_same (Array.getElem?_eq_some_iff.1 p3).1
      · exact (World.putObj_heap_other (by omega)).trans (store6_other (b := w.heap.size + 2) (n := n) (F := x) K4.out (by omega))
      · exact Below.putObj (store6_below K5.out (b := w.heap.size + 2) (by omega) n x) (by omega) _
      · exact (K6.out.store (c := w.heap.size + 2) (m := n) (G := x) (by omega)).put (by omega) _
    · rintro e W' ⟨j, rfl, rfl, h1, h2⟩
      exact ⟨rfl, h1, h2⟩
  rintro e W ⟨⟨v, rfl⟩, R, hR, hfix, j0, j1, j2, j3, j4, j5⟩
  have q0 := j0.put (c := w.heap.size + 6) (by omega) (.loop (rec .exhausted none))
  have q1 := j1.put (c := w.heap.size + 6) (by omega) (.loop (rec .exhausted none))
  have q4 : (W.putObj (w.heap.size + 6) (.loop (rec .exhausted none))).heap[w.heap.size + 5]? = some (.deferred (some [])) := (World.putObj_heap_other (by omega)).trans j4
  have q5 := Below.putObj j5 (r := w.heap.size + 6) (by omega) (.loop (rec .exhausted none))
  refine ⟨v, .ready, none, rfl, by simp, j3, ?_⟩
  unfold afterSeq
  generalize W.putObj (w.heap.size + 6) (.loop (rec .exhausted none)) = W5 at *
  clear j0 j1 j2 j3 j4 j5 hInv hG
  obtain ⟨c0, c1, c2, c3, c4, c5⟩ := q0.cells
  obtain ⟨e0, e1, e2, e3, e4, e5⟩ := q1.cells
  have g0 := q0.frozen 0
  have g1 := q0.frozen 1
  have g2 := q0.frozen 2
  have g3 := q0.frozen 3
  have g4 := q0.frozen 4
  have g5 := q0.frozen 5
  have Q0 := Lib.hid q0
  have Q4 := Lib.hid q4
  have Q5 := Lib.hid q5
  clear q0 q1 q4 q5
  gi_wp2
  have p4 := store6_other (b := w.heap.size + 1) (n := n) (F := R) Q4.out (by omega)
  have p0 := FBox.put (store6_same (n := n) (F := R) Q0.out) (c := w.heap.size + 5) (by omega) (.deferred none)
  obtain ⟨d0, d1, d2, d3, d4, d5⟩ := p0.cells
  unfold store6 at p4 d0 d1 d2 d3 d4 d5
  refine ⟨by simp, .inl ⟨_, _, rfl, run_takeDeferred p4, ?_⟩⟩
  refine ⟨.agg (firstCells n R), ?_, R, rfl, hR, hfix, Below.putObj (store6_below Q5.out (b := w.heap.size + 1) (by omega) n R) (by omega) _⟩
  unfold firstCells
  simp [results, Try.results45, go_sem, d0, d1, d2, d3, d4, d5]
end Go.Proofs.Ytngekjbdjnfhmaa
namespace Go.Proofs.Ytngekjbdjnfhmaa
open Go.ChangeShapes Go.WideShapes Go.ChangeAt Go.RowKit
set_option maxRecDepth 100000
def leftC (r : RuleT) : UInt8 := r.1.data.toList.headD 0
theorem firstA_mono {n : Nat} {F G : V5} (h : Sub5 F G) : ∀ (l : List UInt8) {a b : Nat}, Sub a b → Sub (firstA n F a l).1 (firstA n G b l).1
  | [], _, _, hab => hab
  | c :: r, a, b, hab => by
    unfold firstA
    split
    · exact hab.or_mono (Sub.refl _)
    split
    · exact firstA_mono h r (hab.or_mono (h.get c))
    · exact hab.or_mono (h.get c)
def firStep (n : Nat) (F : V5) (r : RuleT) : V5 := F.upd (leftC r) (F.get (leftC r) ||| (firstA n F 0 r.2.data.toList).1)
def firTo (rs : List RuleT) (n : Nat) (F : V5) (k : Nat) : V5 := (rs.take k).foldl (firStep n) F
def firClosed (rs : List RuleT) (n : Nat) (F : V5) : Prop := ∀ r ∈ rs, Sub (firstA n F 0 r.2.data.toList).1 (F.get (leftC r))
/-- F is the least family of FIRST sets -/
def IsFirst (rs : List RuleT) (n : Nat) (F : V5) : Prop := F.ok ∧ firClosed rs n F ∧ ∀ G, firClosed rs n G → Sub5 F G
theorem IsFirst.unique {rs : List RuleT} {n : Nat} {F G : V5} (h : IsFirst rs n F) (k : IsFirst rs n G) : F = G := (h.2.2 G k.2.1).antisymm (k.2.2 F h.2.1)
theorem firTo_succ (rs : List RuleT) (n : Nat) (F : V5) (k : Nat) (h : k < rs.length) : firTo rs n F (k + 1) = firStep n (firTo rs n F k) rs[k] := by
  unfold firTo; rw [List.take_succ_eq_append_getElem h, List.foldl_append]; rfl
theorem firStep_ok {n : Nat} {F : V5} (h : F.ok) (r : RuleT) : (firStep n F r).ok := h.upd _ (or_lt (h.get _) (firstA_lt h _ 0 (by omega)))
theorem firStep_sub (n : Nat) (F : V5) (r : RuleT) : Sub5 F (firStep n F r) := sub5_upd F _ (sub_or_left _ _)
theorem firFold_ok (n : Nat) : ∀ (l : List RuleT) (F : V5), F.ok → (l.foldl (firStep n) F).ok
  | [], _, h => h
  | r :: l, _, h => firFold_ok n l _ (firStep_ok h r)
theorem firTo_ok (rs : List RuleT) (n : Nat) {F : V5} (h : F.ok) (k : Nat) : (firTo rs n F k).ok := firFold_ok n _ F h
theorem firFold_sub (n : Nat) : ∀ (l : List RuleT) (F : V5), Sub5 F (l.foldl (firStep n) F)
  | [], F => Sub5.refl F
  | r :: l, F => (firStep_sub n F r).trans (firFold_sub n l _)
theorem firTo_sub (rs : List RuleT) (n : Nat) (F : V5) (k : Nat) : Sub5 F (firTo rs n F k) := firFold_sub n _ F
theorem firFold_fix (n : Nat) : ∀ (l : List RuleT) (F : V5), l.foldl (firStep n) F = F → ∀ r ∈ l, firStep n F r = F
  | [], _, _ => fun r hr => by cases hr
  | r :: l, F, h => by
    have h1 : firStep n F r = F := ((firStep_sub n F r).antisymm (by have := firFold_sub n l (firStep n F r); rw [List.foldl_cons] at h; rwa [h] at this)).symm
    intro x hx
    rcases List.mem_cons.1 hx with rfl | hx
    · exact h1
    · exact firFold_fix n l F (by rw [List.foldl_cons, h1] at h; exact h) x hx
theorem firTo_fix {rs : List RuleT} {n : Nat} {F : V5} (h : firTo rs n F rs.length = F) : firClosed rs n F := by
  unfold firTo at h
  rw [List.take_of_length_le (Nat.le_refl _)] at h
  intro r hr
  have h1 := firFold_fix n rs F h r hr
  have h2 : (firStep n F r).get (leftC r) = F.get (leftC r) ||| (firstA n F 0 r.2.data.toList).1 := V5.upd_get _ _ _
  rw [h1] at h2
  rw [h2]
  exact sub_or_right _ _
theorem firFold_below {n : Nat} {G : V5} : ∀ (l : List RuleT) (F : V5), (∀ r ∈ l, Sub (firstA n G 0 r.2.data.toList).1 (G.get (leftC r))) → Sub5 F G → Sub5 (l.foldl (firStep n) F) G
  | [], _, _, h => h
  | r :: l, F, hc, h => by
    refine firFold_below l _ (fun x hx => hc x (List.mem_cons_of_mem _ hx)) ?_
    exact h.upd _ ((h.get _).or ((firstA_mono h _ (Sub.refl 0)).trans (hc r (List.mem_cons_self ..))))
theorem firTo_below {rs : List RuleT} {n : Nat} {F G : V5} {k : Nat} (hc : firClosed rs n G) (h : Sub5 F G) : Sub5 (firTo rs n F k) G :=
  firFold_below _ F (fun r hr => hc r (List.mem_of_mem_take hr)) h
theorem zero5_sub (G : V5) : Sub5 zero5 G := ⟨Sub.zero _, Sub.zero _, Sub.zero _, Sub.zero _, Sub.zero _⟩
theorem zero5_ok : zero5.ok := ⟨by decide, by decide, by decide, by decide, by decide⟩
theorem FBox.upd {w : World} {b n : Nat} {F : V5} (h : FBox w b n F) {c : UInt8} (hc : bigN (c.toNat : Int) = true) (m : Nat) : FBox (w.setCell ⟨b, 1 + (c.toNat - 65), none⟩ (.int .u16 (m : Nat))).drew b n (F.upd c m) := by
  unfold FBox at *
  rcases bigN_cases hc with rfl | rfl | rfl | rfl | rfl <;> simp [World.setCell, Array.getElem?_modify, h, firstCells, V5.upd, World.drew]
theorem FBox.at5 {w : World} {b n : Nat} {F : V5} (h : FBox w b n F) : At5 w b 1 F := by
  obtain ⟨_, h1, h2, h3, h4, h5⟩ := h.cells
  intro i hi
  refine ⟨?_, h.frozen _⟩
  match i, hi with
  | 0, _ => exact h1
  | 1, _ => exact h2
  | 2, _ => exact h3
  | 3, _ => exact h4
  | 4, _ => exact h5
theorem ok_right {st : ByteArray} {rs : List RuleT} (h : gramOkB st rs = true) {k : Nat} (hk : k < rs.length) : allSym rs[k].2 = true ∧ rs[k].2.size ≤ 4 := by
  unfold gramOkB at h
  simp only [Bool.and_eq_true, decide_eq_true_eq, List.all_eq_true, List.mem_range] at h
  have h4 := h.2.2 k hk
  rw [goodB_at hk] at h4
  simp only [ruleOkB, Bool.and_eq_true, decide_eq_true_eq] at h4
  exact ⟨h4.1.2.2, h4.1.2.1⟩
set_option maxHeartbeats 2000000 in
theorem first1_any (st : ByteArray) (a : Option Addr) (cap : Nat) (rs : List RuleT) (b1 n : Nat) (F : V5) (w : World) (H : RulesAt w a rs) (hok : gramOkB st rs = true) (hn : n < 1024) (hF : F.ok) (hG : GBox w b1 st a rs.length cap) :
    Calls Try.prog 46 #[.agg (firstCells n F), .pointer (some ⟨b1, 0, none⟩)] w fun e w' => e = .returned (.agg (firstCells n (firTo rs n F rs.length))) ∧ Below w.heap.size w w' := by
  have hl := (gramOk_facts hok).2.1
  have HOK := Lib.hid hok
  clear hok
  have hK0 : FBox ((w.alloc (.cells (firstCells n F) 64)).alloc (.cells (firstCells 0 zero5) 64)) w.heap.size n F := FBox.alloc (blk_new _ _ rfl) _
  have hR0 : FBox ((w.alloc (.cells (firstCells n F) 64)).alloc (.cells (firstCells 0 zero5) 64)) (w.heap.size + 1) 0 zero5 := blk_new _ _ (by simp)
  have hb0 := ((Below.refl w.heap.size w).alloc (Nat.le_refl _) (.cells (firstCells n F) 64)).alloc (by simp) (.cells (firstCells 0 zero5) 64)
  obtain ⟨g0, g1⟩ := (hG.below hb0).cells
  unfold firstCells at g0 g1 hK0 hR0 hb0 ⊢
  have hb1 := hG.lt
  obtain ⟨m0, m1⟩ := hG.cells
  have hn1 : ¬ b1 = w.heap.size := by omega
  have hn2 : ¬ b1 = w.heap.size + 1 := by omega
  go_enter Try.func46, Try.ntmps46
  go_wp2
  clear g0 g1 m0 m1
  go_loopw [11] (fun i wr => ∃ k : Nat, k ≤ rs.length ∧ i = .int .i64 k ∧ FBox wr w.heap.size n (firTo rs n F k) ∧ FBox wr (w.heap.size + 1) 0 zero5 ∧ Below w.heap.size w wr) (fun i _ => rs.length - (intOf i).toNat)
  case atStart => exact ⟨0, Nat.zero_le _, rfl, hK0, hR0, hb0⟩
  case round =>
    obtain ⟨k, hk, rfl, hK, hR, hb⟩ := hrel
    obtain ⟨c0, c1, c2, c3, c4, c5⟩ := hK.cells
    by_cases hlt : k < rs.length
    · obtain ⟨z1, z2, b, off, e, hbb, d1', d2'⟩ := H.2 k hlt
      obtain ⟨c, hc, hbig⟩ := ok_left HOK.out hlt
      obtain ⟨hsym, hsz⟩ := ok_right HOK.out hlt
      subst e
      have HC : Hid (leftC rs[k] = c) := by show _ = _; unfold leftC; rw [hc]; rfl
      have HS := Lib.hid (firTo_succ rs n F k hlt)
      have hFk := firTo_ok rs n hF k
      have d1 : wr.cell? ⟨b, off + k * 2, none⟩ = some (.string ⟨#[c]⟩) := by rw [hb.cell (p := ⟨b, _, none⟩) hbb, d1', hc]
      have d2 : wr.cell? ⟨b, off + k * 2 + 1, none⟩ = some (.string rs[k].2) := by rw [hb.cell (p := ⟨b, _, none⟩) hbb, d2']
      have hkl : (k : Int) < (rs.length : Int) := by omega
      have hlt1 := hK.lt
      have hn3 : ¬ w.heap.size = wr.heap.size := by omega
      have hK2 := hK.alloc (.cells #[.string ⟨#[c]⟩, .string rs[k].2] 78)
      have hR2 := hR.alloc (.cells #[.string ⟨#[c]⟩, .string rs[k].2] 78)
      have hb2 := hb.alloc hb.size (.cells #[.string ⟨#[c]⟩, .string rs[k].2] 78)
      clear d1' d2' hc hK0 hR0 hb0
      generalize firTo rs n F k = Fk at *
      go_wp2_with fail
      refine (ofFirst_any n Fk rs[k].2 _ hn hFk (by omega) hsym).mono ?_
      rintro e w2 ⟨rfl, hb3⟩
      have hK3 := hK2.below hb3
      have hR3 := hR2.below hb3
      have hb4 : Below w.heap.size w w2 := hb2.trans (hb3.mono (by have := hb.size; simp; omega))
      have x0 : w2.cell? ⟨wr.heap.size, 0, none⟩ = some (.string ⟨#[c]⟩) := by rw [hb3.cell (p := ⟨wr.heap.size, 0, none⟩) (by simp)]; simp
      have hm := firstA_lt (n := n) hFk rs[k].2.data.toList 0 (by omega)
      have HE : Hid (firStep n Fk rs[k] = Fk.upd c (Fk.get c ||| (firstA n Fk 0 rs[k].2.data.toList).1)) := by show _ = _; unfold firStep; rw [HC.out]
      generalize firstA n Fk 0 rs[k].2.data.toList = res at *
      clear c0 c1 c2 c3 c4 c5 d1 d2 hK hR hb hK2 hR2 hb2 hb3
      go_wp2_with fail
      refine (add5_any Fk c _ 1 res.1 _ hbig hFk hm hK3.at5).mono ?_
      rintro e w3 ⟨⟨u, rfl⟩, rfl⟩
      have hK4 := hK3.upd hbig (Fk.get c ||| res.1)
      have hR4 : FBox (w2.setCell ⟨w.heap.size, 1 + (c.toNat - 65), none⟩ (.int .u16 (Fk.get c ||| res.1 : Nat))).drew (w.heap.size + 1) 0 zero5 := blk_set (p := ⟨w.heap.size, 1 + (c.toNat - 65), none⟩) hR3 (by show w.heap.size + 1 ≠ w.heap.size; omega) _
      have hb5 := (hb4.setCell (p := ⟨w.heap.size, 1 + (c.toNat - 65), none⟩) (Nat.le_refl _) (.int .u16 (Fk.get c ||| res.1 : Nat))).drew
      rw [← HE.out, ← HS.out] at hK4
      generalize (w2.setCell ⟨w.heap.size, 1 + (c.toNat - 65), none⟩ (.int .u16 (Fk.get c ||| res.1 : Nat))).drew = w5 at *
      go_wp2
      go_roundw
      case rel => exact ⟨k + 1, by omega, by go_num, hK4, hR4, hb5⟩
      case measure => simp [intOf]; omega
    · have hkl : ¬ (k : Int) < (rs.length : Int) := by omega
      obtain rfl : k = rs.length := by omega
      obtain ⟨r0, r1, r2, r3, r4, r5⟩ := hR.cells
      have f0 := hR.frozen 0
      have f1 := hR.frozen 1
      have f2 := hR.frozen 2
      have f3 := hR.frozen 3
      have f4 := hR.frozen 4
      have f5 := hR.frozen 5
      generalize hRR : firTo rs n F rs.length = R at *
      have HRR := Lib.hid hRR
      clear hRR
      have p0 := store6_same (n := n) (F := R) hR
      obtain ⟨q0, q1, q2, q3, q4, q5⟩ := p0.cells
      have p1 := store6_below hb (b := w.heap.size + 1) (by omega) n R
      unfold store6 at q0 q1 q2 q3 q4 q5 p1
      have P1 := Lib.hid p1
      clear hK hR hb p0 p1 hK0 hR0 hb0
      go_wp2
      exact bodyPost_ret (v := .agg #[.int .u16 (n : Nat), .int .u16 (R.a : Nat), .int .u16 (R.b : Nat), .int .u16 (R.c : Nat), .int .u16 (R.d : Nat), .int .u16 (R.e : Nat)]) (by simp [results, Try.results46, go_sem, q0, q1, q2, q3, q4, q5]) rfl ⟨by rw [HRR.out], P1.out⟩
set_option maxHeartbeats 1000000 in
theorem firstSetsOf_any (st : ByteArray) (a : Option Addr) (cap : Nat) (rs : List RuleT) (w : World) (H : RulesAt w a rs) (hok : gramOkB st rs = true) :
    Calls Try.prog 23 #[.agg #[.string st, .slice a rs.length cap]] w fun e w' => ∃ F, e = .returned (.agg (firstCells (leftsLeast rs 0) F)) ∧ IsFirst rs (leftsLeast rs 0) F ∧ Below w.heap.size w w' := by
  have hmf := makeFunc_run
  have hlm := leftsLeast_lt rs 0
  obtain ⟨n, hnn⟩ : ∃ n, leftsLeast rs 0 = n := ⟨_, rfl⟩
  simp only [hnn] at hlm ⊢
  have HN := Lib.hid hnn
  clear hnn
  have hG : GBox ((w.alloc (.cells #[.string st, .slice a rs.length cap] 25)).alloc (.cells (firstCells 0 zero5) 64)) w.heap.size st a rs.length cap := (blk_old _ _ (by simp)).trans (blk_new _ _ rfl)
  have hR : FBox ((w.alloc (.cells #[.string st, .slice a rs.length cap] 25)).alloc (.cells (firstCells 0 zero5) 64)) (w.heap.size + 1) 0 zero5 := blk_new _ _ (by simp)
  have hb0 := ((Below.refl w.heap.size w).alloc (Nat.le_refl _) (.cells #[.string st, .slice a rs.length cap] 25)).alloc (by simp) (.cells (firstCells 0 zero5) 64)
  go_enter Try.func23, Try.ntmps23
  go_wp2_with fail
  refine (nullableSet_any st a cap rs _ (H.below hb0 (Nat.le_refl _))).mono ?_
  rintro e w2 ⟨rfl, hb2⟩
  rw [HN.out]
  have hG2 := (hG.below hb2)
  have hR2 := (hR.below hb2)
  have hB2 : Below w.heap.size w w2 := hb0.trans (hb2.mono (by simp; omega))
  clear hG hR hb0 hb2
  go_wp2_with fail
  have hb3 := (Below.refl w2.heap.size w2).alloc (Nat.le_refl _) (.cells (firstCells n zero5) 64)
  have hG3 := hG2.below hb3
  have hR3 := hR2.below hb3
  have H3 := (H.below hB2 (Nat.le_refl _)).below hb3 (Nat.le_refl _)
  refine (lfpF_any n #[.pointer (some ⟨w.heap.size, 0, none⟩)] (fun F => firTo rs n F rs.length) (fun F => F.ok ∧ ∀ G, firClosed rs n G → Sub5 F G) ?_ _ ?_ zero5 ⟨zero5_ok, fun G _ => zero5_sub G⟩).mono ?_
  · rintro x ⟨h1, h2⟩
    exact ⟨⟨firTo_ok rs n h1 _, fun S hS => firTo_below hS (h2 S hS)⟩, firTo_sub rs n x _, firTo_ok rs n h1 _⟩
  · rintro x W ⟨h1, _⟩ hb
    exact first1_any st a cap rs _ n x W (H3.below hb (Nat.le_refl _)) hok hlm h1 (hG3.below hb)
  · rintro e w4 ⟨R, rfl, ⟨h1, h2⟩, hfix, hb4⟩
    have hF : IsFirst rs n R := ⟨h1, firTo_fix hfix, h2⟩
    have hR4 := hR3.below hb4
    have hB4 : Below w.heap.size w w4 := hB2.trans ((hb3.trans (hb4.mono (by simp))).mono hB2.size)
    obtain ⟨r0, r1, r2, r3, r4, r5⟩ := hR4.cells
    have f0 := hR4.frozen 0
    have f1 := hR4.frozen 1
    have f2 := hR4.frozen 2
    have f3 := hR4.frozen 3
    have f4 := hR4.frozen 4
    have f5 := hR4.frozen 5
    have p0 := store6_same (n := n) (F := R) hR4
    obtain ⟨q0, q1, q2, q3, q4, q5⟩ := p0.cells
    have p1 := store6_below hB4 (b := w.heap.size + 1) (by omega) n R
    unfold store6 at q0 q1 q2 q3 q4 q5 p1
    have P1 := Lib.hid p1
    have HF := Lib.hid hF
    clear hR4 hB4 p0 p1 hG2 hR2 hG3 hR3 hb3 hb4 hF h2 hfix
    unfold firstCells
    go_wp2
    exact bodyPost_ret (v := .agg #[.int .u16 (n : Nat), .int .u16 (R.a : Nat), .int .u16 (R.b : Nat), .int .u16 (R.c : Nat), .int .u16 (R.d : Nat), .int .u16 (R.e : Nat)]) (by simp [results, Try.results23, go_sem, q0, q1, q2, q3, q4, q5]) rfl ⟨R, rfl, HF.out, P1.out⟩
end Go.Proofs.Ytngekjbdjnfhmaa
namespace Go.Proofs.Ytngekjbdjnfhmaa
open Go.ChangeShapes Go.WideShapes Go.ChangeAt Go.RowKit
set_option maxRecDepth 100000
def firstAsk (st : ByteArray) (rs : List RuleT) (s : ByteArray) : Bool := gramOkB st rs && (decide (s.size ≤ 8) && allSym s)
/-- what FirstOf tells, by the FIRST sets -/
def firstRes (st : ByteArray) (rs : List RuleT) (F : V5) (s : ByteArray) : List UInt8 × Bool := if firstAsk st rs s = true then (textN (firstA (leftsLeast rs 0) F 0 s.data.toList).1, (firstA (leftsLeast rs 0) F 0 s.data.toList).2) else ([], false)
def FirstSays (st : ByteArray) (rs : List RuleT) (s : ByteArray) (w : World) (e : Ending) (w' : World) : Prop :=
  ∃ F, (firstAsk st rs s = true → IsFirst rs (leftsLeast rs 0) F) ∧ e = .returned (.tuple #[.string (bytesOf (firstRes st rs F s).1), .bool (firstRes st rs F s).2]) ∧ Below w.heap.size w w'
set_option maxHeartbeats 1000000 in
theorem firstOf_any (st : ByteArray) (a : Option Addr) (cap : Nat) (rs : List RuleT) (s : ByteArray) (w : World) (H : RulesAt w a rs) (hcap : rs.length ≤ cap) (hs : s.size ≤ maxLen) :
    Calls Try.prog 8 #[.agg #[.string st, .slice a rs.length cap], .string s] w (FirstSays st rs s w) := by
  have hG : GBox (w.alloc (.cells #[.string st, .slice a rs.length cap] 25)) w.heap.size st a rs.length cap := blk_new _ _ rfl
  have hbw := (Below.refl w.heap.size w).alloc (Nat.le_refl _) (.cells #[.string st, .slice a rs.length cap] 25)
  go_enter Try.func8, Try.ntmps8
  go_wp2_with fail
  refine (gramOk_any _ _ _ rs _ (H.below hbw (Nat.le_refl _)) hcap).mono ?_
  rintro e w2 ⟨rfl, hb2⟩
  have c2 : Below w.heap.size w w2 := hbw.trans (hb2.mono (by simp))
  obtain ⟨g0, g1⟩ := (hG.below hb2).cells
  have H2 := H.below c2 (Nat.le_refl _)
  clear hG hbw hb2
  cases hok : gramOkB st rs with
  | false =>
    go_wp2
    exact bodyPost_ret (v := .tuple #[.string ⟨#[]⟩, .bool false]) (by simp [results, Try.results8, go_sem]) rfl ⟨zero5, (fun h => by simp [firstAsk, hok] at h), by simp [firstRes, firstAsk, hok, bytesOf], c2⟩
  | true =>
    by_cases h8 : (8 : Int) < (s.size : Int)
    · have h8' : ¬ s.size ≤ 8 := by omega
      go_wp2_with fail
      exact bodyPost_ret (v := .tuple #[.string ⟨#[]⟩, .bool false]) (by simp [results, Try.results8, go_sem]) rfl ⟨zero5, (fun h => by simp [firstAsk, h8'] at h), by simp [firstRes, firstAsk, h8', bytesOf], c2⟩
    · have h8' : s.size ≤ 8 := by omega
      have h8d : decide ((8 : Int) < (s.size : Int)) = false := by simpa using h8
      clear h8
      go_wp2_with fail
      refine (allSymbols_any s _ hs).mono ?_
      rintro e w3 ⟨rfl, rfl⟩
      cases hsym : allSym s with
      | false =>
        go_wp2
        exact bodyPost_ret (v := .tuple #[.string ⟨#[]⟩, .bool false]) (by simp [results, Try.results8, go_sem]) rfl ⟨zero5, (fun h => by simp [firstAsk, hsym] at h), by simp [firstRes, firstAsk, hsym, bytesOf], c2⟩
      | true =>
        go_wp2_with fail
        refine (firstSetsOf_any st a cap rs _ H2 hok).mono ?_
        rintro e w4 ⟨F, rfl, hF, hb4⟩
        have hn := leftsLeast_lt rs 0
        have hask : firstAsk st rs s = true := by simp [firstAsk, hok, hsym]; omega
        have hlt := firstA_lt (n := leftsLeast rs 0) hF.1 s.data.toList 0 (by omega)
        go_wp2_with fail
        refine (ofFirst_any (leftsLeast rs 0) F s _ hn hF.1 (by omega) hsym).mono ?_
        rintro e w5 ⟨rfl, hb5⟩
        go_wp2_with fail
        refine (setText_any _ _ hlt).mono ?_
        rintro e w6 ⟨rfl, hb6⟩
        have hfin : Below w.heap.size w w6 := c2.trans (((hb4.trans (hb5.mono hb4.size)).trans (hb6.mono (Nat.le_trans hb4.size hb5.size))).mono c2.size)
        go_wp2
        exact bodyPost_ret (v := .tuple #[.string (bytesOf (textN (firstA (leftsLeast rs 0) F 0 s.data.toList).1)), .bool (firstA (leftsLeast rs 0) F 0 s.data.toList).2]) (by simp [results, Try.results8, go_sem]) rfl ⟨F, (fun _ => hF), by unfold firstRes; rw [if_pos hask], hfin⟩
end Go.Proofs.Ytngekjbdjnfhmaa
namespace Go.Proofs.Ytngekjbdjnfhmaa
open Go.ChangeShapes Go.WideShapes Go.ChangeAt Go.RowKit
set_option maxRecDepth 100000
theorem Sub.and {a b c : Nat} (h : Sub a b) (k : Sub a c) : Sub a (b &&& c) := by
  unfold Sub at *
  apply Nat.eq_of_testBit_eq
  intro i
  have h1 := congrArg (fun x => Nat.testBit x i) h
  have h2 := congrArg (fun x => Nat.testBit x i) k
  simp only [Nat.testBit_or, Nat.testBit_and] at *
  cases ha : a.testBit i
  · simp
  · rw [ha] at h1 h2; simp at h1 h2; simp [h1, h2]
theorem and_sub_left (a b : Nat) : Sub (a &&& b) a := by
  unfold Sub
  apply Nat.eq_of_testBit_eq
  intro i
  simp only [Nat.testBit_or, Nat.testBit_and]
  cases a.testBit i <;> simp
theorem and_sub_right (a b : Nat) : Sub (a &&& b) b := by rw [Nat.and_comm]; exact and_sub_left b a
theorem sub_all : ∀ m : Fin 1024, m.val ||| 1023 = 1023 := by decide +kernel
theorem sub_1023 {m : Nat} (h : m < 1024) : Sub m 1023 := sub_all ⟨m, h⟩
theorem leftsClosed_and {rs : List RuleT} {g S T : Nat} (hS : leftsClosedB rs g S = true) (hT : leftsClosedB rs g T = true) : leftsClosedB rs g (S &&& T) = true := by
  rw [leftsClosed_iff] at *
  intro r hr hh
  exact (hS r hr (hasAllN_mono ((and_sub_left S T).or_mono (Sub.refl g)) hh)).and (hT r hr (hasAllN_mono ((and_sub_right S T).or_mono (Sub.refl g)) hh))
theorem leftsClosed_top (rs : List RuleT) (g : Nat) : leftsClosedB rs g 1023 = true := by
  rw [leftsClosed_iff]
  intro r _ _
  exact sub_1023 (setN_lt _)
theorem leftsLeast_closed (rs : List RuleT) (g : Nat) : leftsClosedB rs g (leftsLeast rs g) = true := by
  unfold leftsLeast leastN
  have : ∀ (l : List Nat) (acc : Nat), leftsClosedB rs g acc = true → leftsClosedB rs g (l.foldl (fun acc S => if leftsClosedB rs g S then acc &&& S else acc) acc) = true := by
    intro l
    induction l with
    | nil => intro acc h; exact h
    | cons S l ih =>
      intro acc h
      refine ih _ ?_
      show leftsClosedB rs g (if leftsClosedB rs g S = true then acc &&& S else acc) = true
      split
      · rename_i hS; exact leftsClosed_and h hS
      · exact h
  exact this _ _ (leftsClosed_top rs g)
theorem leastFold_sub (rs : List RuleT) (g : Nat) : ∀ (l : List Nat) (acc : Nat), Sub (l.foldl (fun acc S => if leftsClosedB rs g S then acc &&& S else acc) acc) acc
  | [], acc => Sub.refl acc
  | S :: l, acc => by
    refine (leastFold_sub rs g l _).trans ?_
    show Sub (if leftsClosedB rs g S = true then acc &&& S else acc) acc
    split
    · exact and_sub_left _ _
    · exact Sub.refl _
theorem leftsLeast_sub {rs : List RuleT} {g S : Nat} (hS : leftsClosedB rs g S = true) : Sub (leftsLeast rs g) S := by
  have key : ∀ T, T < 1024 → leftsClosedB rs g T = true → Sub (leftsLeast rs g) T := by
    intro T hT hc
    unfold leftsLeast leastN
    have : ∀ (l : List Nat) (acc : Nat), T ∈ l → Sub (l.foldl (fun acc S => if leftsClosedB rs g S then acc &&& S else acc) acc) T := by
      intro l
      induction l with
      | nil => intro acc h; cases h
      | cons S l ih =>
        intro acc h
        rcases List.mem_cons.1 h with rfl | h
        · refine (leastFold_sub rs g l _).trans ?_
          show Sub (if leftsClosedB rs g T = true then acc &&& T else acc) T
          rw [if_pos hc]; exact and_sub_right _ _
        · exact ih _ h
    exact this _ _ (List.mem_range.2 hT)
  have h2 := leftsClosed_and hS (leftsClosed_top rs g)
  have hlt : S &&& 1023 < 1024 := Nat.lt_of_le_of_lt Nat.and_le_right (by omega)
  exact (key _ hlt h2).trans (and_sub_left _ _)
end Go.Proofs.Ytngekjbdjnfhmaa
namespace Go.Proofs.Ytngekjbdjnfhmaa
open Go.ChangeShapes Go.WideShapes Go.ChangeAt Go.RowKit
theorem firstA_keeps {n : Nat} {F : V5} : ∀ (l : List UInt8) (acc : Nat), Sub acc (firstA n F acc l).1
  | [], acc => Sub.refl acc
  | c :: r, acc => by
    unfold firstA
    split
    · exact sub_or_left _ _
    split
    · exact (sub_or_left _ _).trans (firstA_keeps r _)
    · exact sub_or_left _ _
/-- what holds of a tree whose sign is c -/
def GoodT (N : Nat) (F : V5) (c : UInt8) (T : Tr) : Prop :=
  (yieldL T = [] → smallN (c.toNat : Int) = false ∧ hasN N c = true) ∧ ∀ b ys, yieldL T = b :: ys → (if smallN (c.toNat : Int) = true then b = c else hasN (F.get c) b = true)
def KidsR (N : Nat) (F : V5) : List UInt8 → List Tr → Prop
  | [], [] => True
  | c :: cs, k :: ks => GoodT N F c k ∧ KidsR N F cs ks
  | _, _ => False
theorem kidsR_of {N : Nat} {F : V5} : ∀ (cs : List UInt8) (ks : List Tr), cs.length = ks.length → (∀ i (h : i < ks.length) (h' : i < cs.length), GoodT N F cs[i] ks[i]) → KidsR N F cs ks
  | [], [], _, _ => trivial
  | [], k :: ks, h, _ => by simp at h
  | c :: cs, [], h, _ => by simp at h
  | c :: cs, k :: ks, h, H => ⟨H 0 (by simp) (by simp), kidsR_of cs ks (by simpa using h) (fun i h1 h2 => H (i + 1) (by simpa using h1) (by simpa using h2))⟩
theorem kidsR_none {N : Nat} {F : V5} : ∀ (cs : List UInt8) (ks : List Tr), KidsR N F cs ks → ks.flatMap yieldL = [] → hasAllN N cs = true
  | [], [], _, _ => rfl
  | [], k :: ks, h, _ => h.elim
  | c :: cs, [], h, _ => h.elim
  | c :: cs, k :: ks, h, e => by
    rw [List.flatMap_cons, List.append_eq_nil_iff] at e
    unfold hasAllN
    rw [List.all_cons, Bool.and_eq_true]
    exact ⟨(h.1.1 e.1).2, kidsR_none cs ks h.2 e.2⟩
theorem sym_ord {c : UInt8} (h : smallN (c.toNat : Int) = true) : c ∈ ordL := by
  have : hasN 960 c = true := by rw [has_small]; exact h
  exact hasN_mem this
theorem kidsR_first {N : Nat} {F : V5} : ∀ (cs : List UInt8) (ks : List Tr) (acc : Nat), KidsR N F cs ks → ∀ b ys, ks.flatMap yieldL = b :: ys → hasN (firstA N F acc cs).1 b = true
  | [], [], _, _, b, ys, e => by cases e
  | [], k :: ks, _, h, _, _, _ => h.elim
  | c :: cs, [], _, h, _, _, _ => h.elim
  | c :: cs, k :: ks, acc, h, b, ys, e => by
    rw [List.flatMap_cons] at e
    cases hy : yieldL k with
    | nil =>
      rw [hy, List.nil_append] at e
      obtain ⟨h1, h2⟩ := h.1.1 hy
      unfold firstA
      rw [if_neg (by rw [h1]; simp), if_pos h2]
      exact kidsR_first cs ks _ h.2 b ys e
    | cons x xs =>
      rw [hy] at e
      simp only [List.cons_append, List.cons.injEq] at e
      have h3 := h.1.2 x xs hy
      rw [e.1] at h3
      unfold firstA
      by_cases hs : smallN (c.toNat : Int) = true
      · rw [if_pos hs] at h3 ⊢
        subst h3
        exact hasN_mono (sub_or_right _ _) (hasN_self (sym_ord hs))
      · rw [if_neg hs] at h3 ⊢
        split
        · exact hasN_mono ((sub_or_right _ _).trans (firstA_keeps _ _)) h3
        · exact hasN_mono (sub_or_right _ _) h3
theorem kidsTo_at {f : Tr → Bool} {rt : ByteArray} {ks : List Tr} : ∀ n, n ≤ ks.length → kidsTo f rt ks n = true → ∀ i (h : i < ks.length), i < n → kidB f rt ks[i] i = true
  | 0, _, _, i, _, hi => absurd hi (Nat.not_lt_zero _)
  | n + 1, hn, hk, i, h, hi => by
    rw [kidsTo_succ (by omega), Bool.and_eq_true] at hk
    by_cases e : i = n
    · subst e; exact hk.2
    · exact kidsTo_at n (by omega) hk.1 i h (by omega)
theorem left_one {st : ByteArray} {rs : List RuleT} (h : gramOkB st rs = true) {k : Nat} (hk : k < rs.length) : isBigS rs[k].1 = true := by
  unfold gramOkB at h
  simp only [Bool.and_eq_true, decide_eq_true_eq, List.all_eq_true, List.mem_range] at h
  have h4 := h.2.2 k hk
  rw [goodB_at hk] at h4
  simp only [ruleOkB, Bool.and_eq_true] at h4
  exact h4.1.1
theorem one_byte {s : ByteArray} (h : s.size = 1) : ∃ c, s = ⟨#[c]⟩ := by
  rcases s with ⟨⟨l⟩⟩
  match l, h with
  | [c], _ => exact ⟨c, rfl⟩
theorem big_not_small {c : Int} (h : bigN c = true) : smallN c = false := by
  unfold bigN at h
  unfold smallN
  simp at h ⊢
  omega
theorem tree_good {st : ByteArray} {rs : List RuleT} (hok : gramOkB st rs = true) {F : V5} (hF : firClosed rs (leftsLeast rs 0) F) : ∀ (d : Nat) (T : Tr), shapeB rs d T = true → ∃ c, T.sign = ⟨#[c]⟩ ∧ symN (c.toNat : Int) = true ∧ GoodT (leftsLeast rs 0) F c T
  | 0, _, h => by rw [shapeB] at h; cases h
  | d + 1, .node s r ks, h => by
    rw [shapeB] at h
    by_cases hs : isSmallS s = true
    · have h1 : s.size = 1 := by unfold isSmallS at hs; simp at hs; exact hs.1
      obtain ⟨c, rfl⟩ := one_byte h1
      rw [small_one] at hs
      refine ⟨c, rfl, by unfold symN; rw [hs]; simp, ?_, ?_⟩
      · intro e
        rw [yield_node, small_one, if_pos hs] at e
        cases e
      · intro b ys e
        rw [yield_node, small_one, if_pos hs] at e
        rw [if_pos hs]
        have e' : [c] = b :: ys := e
        simp only [List.cons.injEq] at e'
        exact e'.1.symm
    · rw [if_neg hs] at h
      cases hr : ruleAt rs r s ks.length with
      | none => rw [hr] at h; cases h
      | some rt =>
        rw [hr] at h
        unfold ruleAt at hr
        by_cases hneg : r < 0
        · rw [if_pos hneg] at hr; cases hr
        rw [if_neg hneg] at hr
        by_cases hlt : r.toNat < rs.length
        · rw [List.getElem?_eq_getElem hlt] at hr
          simp only [] at hr
          split at hr
          · rename_i hc
            simp only [Option.some.injEq] at hr
            subst hr
            have hse : rs[r.toNat].1 = s := by
              have := hc.1
              rw [beq_iff_eq, ByteArray.toList_eq, ByteArray.toList_eq] at this
              exact bytesOf_ext this
            have hb := left_one hok hlt
            rw [hse] at hb
            have h1 : s.size = 1 := by unfold isBigS at hb; simp at hb; exact hb.1
            obtain ⟨c, rfl⟩ := one_byte h1
            rw [big_one] at hb
            have hns := big_not_small hb
            have hl : leftC rs[r.toNat] = c := by unfold leftC; rw [hse]; rfl
            have hK : KidsR (leftsLeast rs 0) F rs[r.toNat].2.data.toList ks := by
              refine kidsR_of _ _ (by simp [hc.2]) (fun i hi hi' => ?_)
              have hkb := kidsTo_at _ (Nat.le_refl _) h i hi hi
              unfold kidB at hkb
              rw [Bool.and_eq_true, beq_iff_eq] at hkb
              obtain ⟨c', e1, _, g⟩ := tree_good hok hF d ks[i] hkb.2
              have hsz : i < rs[r.toNat].2.size := by simpa using hi'
              have e2 := hkb.1
              rw [e1, cut_one _ i hsz, ByteArray.toList_eq, ByteArray.toList_eq] at e2
              have e3 : c' = rs[r.toNat].2[i] := by
                have : [c'] = [rs[r.toNat].2[i]] := e2
                simpa using this
              rw [e3] at g
              exact g
            refine ⟨c, rfl, by unfold symN; rw [hb]; rfl, ?_, ?_⟩
            · intro e
              rw [yield_node, if_neg hs] at e
              have hall := kidsR_none _ _ hK e
              have hcl := (leftsClosed_iff rs 0 _).1 (leftsLeast_closed rs 0) rs[r.toNat] (List.getElem_mem hlt) (by rw [Nat.or_zero]; exact hall)
              rw [hse] at hcl
              refine ⟨hns, hasN_mono hcl ?_⟩
              have hco : c ∈ ordL := by
                have : ∀ n : Fin 256, bigN ((UInt8.ofNat n.val).toNat : Int) = true → UInt8.ofNat n.val ∈ ordL := by decide +kernel
                have := this ⟨c.toNat, c.toNat_lt⟩
                simpa using this (by simpa using hb)
              have : setN [c] = bitN c := by simp [setN]
              show hasN (setN [c]) c = true
              rw [this]
              exact hasN_self hco
            · intro b ys e
              rw [yield_node, if_neg hs] at e
              have h2 := kidsR_first _ _ 0 hK b ys e
              have h3 := hF rs[r.toNat] (List.getElem_mem hlt)
              rw [hl] at h3
              rw [if_neg (by rw [hns]; simp)]
              exact hasN_mono h3 h2
          · cases hr
        · rw [List.getElem?_eq_none (by omega)] at hr
          cases hr
/-- what FirstOf tells of the sign of a tree, by what the tree yields -/
theorem first_of_tree {st : ByteArray} {rs : List RuleT} {F : V5} {T : Tr} (hT : treeOkB st rs T = true) (hF : firstAsk st rs T.sign = true → IsFirst rs (leftsLeast rs 0) F) :
    (yieldL T = [] → (firstRes st rs F T.sign).2 = true) ∧ ∀ b ys, yieldL T = b :: ys → ∃ m, (firstRes st rs F T.sign).1 = textN m ∧ hasN m b = true := by
  unfold treeOkB at hT
  simp only [Bool.and_eq_true, decide_eq_true_eq] at hT
  obtain ⟨hg, hs, _⟩ := hT
  have hsign : ∃ c, T.sign = ⟨#[c]⟩ ∧ symN (c.toNat : Int) = true := by
    obtain ⟨c, h1, h2, _⟩ := tree_good hg (F := ⟨1023, 1023, 1023, 1023, 1023⟩) (fun r _ => by
      have hok : (⟨1023, 1023, 1023, 1023, 1023⟩ : V5).ok := ⟨by decide, by decide, by decide, by decide, by decide⟩
      have hge : (⟨1023, 1023, 1023, 1023, 1023⟩ : V5).get (leftC r) = 1023 := by unfold V5.get; split <;> (try rfl); split <;> (try rfl); split <;> (try rfl); split <;> rfl
      rw [hge]
      exact sub_1023 (firstA_lt hok _ 0 (by omega))) 20 T hs
    exact ⟨c, h1, h2⟩
  obtain ⟨c, hc, hsym⟩ := hsign
  have hask : firstAsk st rs T.sign = true := by
    unfold firstAsk
    rw [hg, hc]
    have : allSym (⟨#[c]⟩ : ByteArray) = true := by
      show ([c].take 1).all (fun c => symN (c.toNat : Int)) = true
      simp [hsym]
    rw [this]; rfl
  obtain ⟨c', e1, _, g1, g2⟩ := tree_good hg (hF hask).2.1 20 T hs
  have hcc : c' = c := by
    rw [hc] at e1
    have : (⟨#[c]⟩ : ByteArray).data.toList = (⟨#[c']⟩ : ByteArray).data.toList := by rw [e1]
    have h3 : [c] = [c'] := this
    simpa using h3.symm
  subst hcc
  have hl : (T.sign).data.toList = [c'] := by rw [hc]
  constructor
  · intro e
    obtain ⟨h1, h2⟩ := g1 e
    unfold firstRes
    rw [if_pos hask, hl]
    unfold firstA
    rw [if_neg (by rw [h1]; simp), if_pos h2]
    rfl
  · intro b ys e
    have h2 := g2 b ys e
    unfold firstRes
    rw [if_pos hask, hl]
    refine ⟨_, rfl, ?_⟩
    unfold firstA
    by_cases hsm : smallN (c'.toNat : Int) = true
    · rw [if_pos hsm] at h2 ⊢
      subst h2
      exact hasN_mono (sub_or_right _ _) (hasN_self (sym_ord hsm))
    · rw [if_neg hsm] at h2 ⊢
      split
      · unfold firstA
        exact hasN_mono (sub_or_right _ _) h2
      · exact hasN_mono (sub_or_right _ _) h2
end Go.Proofs.Ytngekjbdjnfhmaa
