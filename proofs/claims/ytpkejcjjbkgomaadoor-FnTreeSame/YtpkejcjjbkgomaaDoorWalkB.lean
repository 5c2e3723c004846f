/- The contract of the program's walk: its iterator, an event a round. -/
import Derived.Test.YtpkejcjjbkgomaaDoorWalkA
import Derived.Maps.OwnIn
namespace Go.Proofs.YtpkejcjjbkgomaaDoor
open Go.ChangeShapes Go.WideShapes Go.ChangeAt Go.RowKit Go.Deep
attribute [local go_sem] Oper.semAt_some
set_option maxRecDepth 100000
/-- the blocks that hold the tree -/
def TM (B0 tb : Nat) (k : Nat) : Prop := k < B0 ∨ k = tb
/-- what an event's taker leaves as it is: the tree's blocks and the walk's own -/
def Keeps (S : List Nat) (M : Nat → Prop) (W W' : World) : Prop := (∀ k, k ∈ S ∨ M k → W'.heap[k]? = W.heap[k]?) ∧ W.heap.size ≤ W'.heap.size
theorem chain_len (N : Nat) : ∀ (st : List (PT × Nat)) (lo : Nat), st.Pairwise (fun a b => a.1.sz < b.1.sz) → (∀ x ∈ st, lo < x.1.sz ∧ x.1.sz ≤ N) → lo + st.length ≤ max lo N
  | [], lo, _, _ => by simp; omega
  | x :: st, lo, h, hb => by
    have h1 := hb x (List.mem_cons_self ..)
    rw [List.pairwise_cons] at h
    have := chain_len N st x.1.sz h.2 (fun y hy => ⟨h.1 y hy, (hb y (List.mem_cons_of_mem _ hy)).2⟩)
    rw [List.length_cons]
    omega
/-- a row of the walk's places -/
def PlaceB (w : World) (k : Nat) : Prop := ∃ c, w.heap[k]? = some (.cells c 162 (0, 0))
theorem PlaceB.set {w : World} {k : Nat} (h : PlaceB w k) (b o : Nat) (v : Value) : PlaceB (w.setCell ⟨b, o, none⟩ v) k := by
  obtain ⟨c, h⟩ := h
  by_cases hk : k = b
  · subst hk
    exact ⟨_, by simp [World.setCell, Array.getElem?_modify, h]; rfl⟩
  · exact ⟨c, (Below.heap_setCell w _ v k hk).trans h⟩
def fsts (st : List (PT × Nat)) : List PT := st.map Prod.fst
structure WInv (J : List Nat → List PT → List (PT × Bool) → World → Prop) (M : Nat → Prop) (B1 N : Nat) (S : List Nat) (g cap : Nat) (st : List (PT × Nat)) (w : World) : Prop where
  stack : StackIn w g cap st
  mine : g ∈ S
  own : ∀ k ∈ S, B1 ≤ k
  big : B1 ≤ w.heap.size
  j : J S (fsts st) (rem st) w
  pts : ∀ x ∈ st, PtIn w M x.1 ∧ x.2 ≤ x.1.ks.length ∧ x.1.sz ≤ N
  chain : st.Pairwise (fun a b => a.1.sz < b.1.sz)
theorem WInv.len {J : List Nat → List PT → List (PT × Bool) → World → Prop} {M : Nat → Prop} {B1 N : Nat} {S : List Nat} {g cap : Nat} {st : List (PT × Nat)} {w : World} (h : WInv J M B1 N S g cap st w) : st.length ≤ N := by
  have := chain_len N st 0 h.chain (fun x hx => ⟨x.1.sz_pos, (h.pts x hx).2.2⟩)
  omega
theorem WInv.move {J : List Nat → List PT → List (PT × Bool) → World → Prop} {M : Nat → Prop} {B1 N : Nat} {S : List Nat} {g cap : Nat} {st : List (PT × Nat)} {w w' : World} (h : WInv J M B1 N S g cap st w) (hb : ∀ k : Nat, w'.heap[k]? = w.heap[k]?) (hz : w.heap.size ≤ w'.heap.size) (hj : J S (fsts st) (rem st) w') : WInv J M B1 N S g cap st w' :=
  ⟨h.stack.of_block (hb g), h.mine, h.own, Nat.le_trans h.big hz, hj, fun x hx => ⟨(h.pts x hx).1.stay (fun k _ => hb k) (fun _ h => h), (h.pts x hx).2⟩, h.chain⟩
theorem WInv.left {J : List Nat → List PT → List (PT × Bool) → World → Prop} {M : Nat → Prop} {B1 N : Nat} {S : List Nat} {g cap : Nat} {x : PT × Nat} {st : List (PT × Nat)} {w w' : World} (h : WInv J M B1 N S g cap (x :: st) w) (hk : Keeps S M w w') (hj : J S (fsts st) (rem st) w') : WInv J M B1 N S g cap st w' :=
  ⟨h.stack.pop.of_block (hk.1 g (.inl h.mine)), h.mine, h.own, Nat.le_trans h.big hk.2, hj, fun y hy => ⟨(h.pts y (List.mem_cons_of_mem _ hy)).1.stay (fun k hM => hk.1 k (.inr hM)) (fun _ h => h), (h.pts y (List.mem_cons_of_mem _ hy)).2⟩, (List.pairwise_cons.1 h.chain).2⟩
/-- the top's count goes on, the kid is handed out -/
theorem WInv.step {J : List Nat → List PT → List (PT × Bool) → World → Prop} {M : Nat → Prop} {B1 N : Nat} {S : List Nat} {g cap : Nat} {t : PT} {d : Nat} {st : List (PT × Nat)} {w : World} (h : WInv J M B1 N S g cap ((t, d) :: st) w) (hd : d < t.ks.length) (hB : ∀ k, M k → k < B1)
    (hJ : ∀ S S' st es W W', J S st es W → Apart S S' W W' → ((∀ k ∈ S, PlaceB W k) → ∀ k ∈ S', PlaceB W' k) → J S' st es W') :
    J S (t :: fsts st) ((t.ks[d], true) :: rem ((t.ks[d], 0) :: (t, d + 1) :: st)) (w.setCell ⟨g, st.length * 2 + 1, none⟩ (.int .i64 ((d : Int) + 1))) ∧
    StackIn (w.setCell ⟨g, st.length * 2 + 1, none⟩ (.int .i64 ((d : Int) + 1))) g cap ((t, d + 1) :: st) ∧
    (∀ x ∈ (t.ks[d], 0) :: (t, d + 1) :: st, PtIn (w.setCell ⟨g, st.length * 2 + 1, none⟩ (.int .i64 ((d : Int) + 1))) M x.1 ∧ x.2 ≤ x.1.ks.length ∧ x.1.sz ≤ N) ∧
    ((t.ks[d], 0) :: (t, d + 1) :: st).Pairwise (fun a b => a.1.sz < b.1.sz) ∧ (∀ a ∈ t :: fsts st, t.ks[d].sz < a.sz) := by
  have hj := h.j
  rw [rem_kid hd] at hj
  obtain ⟨h1, h2⟩ := List.pairwise_cons.1 h.chain
  have hlt := PT.sz_kid (List.getElem_mem hd)
  have hst : ∀ x, PtIn w M x → PtIn (w.setCell ⟨g, st.length * 2 + 1, none⟩ (.int .i64 ((d : Int) + 1))) M x := fun x hx => hx.stay (fun k hM => Below.heap_setCell w _ _ k (fun e => by have := h.own g h.mine; have := hB k hM; simp at e; omega)) (fun _ h => h)
  have hpt := h.pts (t, d) (List.mem_cons_self ..)
  obtain ⟨_, _, _, _, _, _, _, _, _, _, _, hkids⟩ := hpt.1.open
  refine ⟨hJ _ _ _ _ _ _ hj (Apart.set h.mine _ _) (fun ht k hk => (ht k hk).set _ _ _), h.stack.next, ?_, ?_, ?_⟩
  · intro x hx
    rcases List.mem_cons.1 hx with rfl | hx
    · exact ⟨hst _ (hkids d hd), Nat.zero_le _, by have := hpt.2.2; show t.ks[d].sz ≤ N; simp at this; omega⟩
    · rcases List.mem_cons.1 hx with rfl | hx
      · exact ⟨hst _ hpt.1, hd, hpt.2.2⟩
      · exact ⟨hst _ (h.pts x (List.mem_cons_of_mem _ hx)).1, (h.pts x (List.mem_cons_of_mem _ hx)).2⟩
  · rw [List.pairwise_cons, List.pairwise_cons]
    refine ⟨?_, h1, h2⟩
    intro a ha
    rcases List.mem_cons.1 ha with rfl | ha
    · exact hlt
    · exact Nat.lt_trans hlt (h1 a ha)
  · intro a ha
    rcases List.mem_cons.1 ha with rfl | ha
    · exact hlt
    · obtain ⟨y, hy, rfl⟩ := List.mem_map.1 ha
      exact Nat.lt_trans hlt (h1 y hy)
/-- the kid is pushed -/
theorem WInv.push {J : List Nat → List PT → List (PT × Bool) → World → Prop} {M : Nat → Prop} {B1 N : Nat} {S : List Nat} {g cap : Nat} {k : PT} {st : List (PT × Nat)} {w w' : World} {v : Value} {o : Obj} (hst : StackIn w g cap st) (hmine : g ∈ S) (hown : ∀ k ∈ S, B1 ≤ k) (hbig : B1 ≤ w.heap.size) (hB : ∀ k, M k → k < B1)
    (hj : J S (fsts ((k, 0) :: st)) (rem ((k, 0) :: st)) w) (hpts : ∀ x ∈ (k, 0) :: st, PtIn w M x.1 ∧ x.2 ≤ x.1.ks.length ∧ x.1.sz ≤ N) (hch : ((k, 0) :: st).Pairwise (fun a b => a.1.sz < b.1.sz))
    (hJ : ∀ S S' st es W W', J S st es W → Apart S S' W W' → ((∀ k ∈ S, PlaceB W k) → ∀ k ∈ S', PlaceB W' k) → J S' st es W')
    (h1 : w'.ownsRow B1 162 2 v (st.length + 1) (flatP st ++ [.pointer (some ⟨k.b, k.o, none⟩), .int .i64 0])) (h2 : (w.alloc o).grownBy w' (some g)) (h3 : v.ownBlock = some g ∨ v.ownBlock = some (w.alloc o).heap.size) :
    ∃ g' cap' S', v = .slice (some ⟨g', 0, none⟩) (st.length + 1) cap' ∧ WInv J M B1 N S' g' cap' ((k, 0) :: st) w' := by
  rcases h1.2 with ⟨_, h0⟩ | ⟨g', cap', cur, rfl, hg', hh, hl, hm, hs, ht⟩
  · omega
  have hgw := hst.lt
  have hlt' : g' < w'.heap.size := (Array.getElem?_eq_some_iff.1 hh).1
  have hat : g' = g ∨ g' = w.heap.size + 1 := by
    simp only [Value.ownBlock, Option.some.injEq] at h3
    rcases h3 with h | h
    · exact .inl h
    · exact .inr (by simpa using h)
  have hz : w.heap.size + 1 ≤ w'.heap.size := by have := h2.size; simpa using this
  have hA : Apart S (g' :: S.filter (fun k => k != g)) w w' := by
    refine ⟨h2.os, h2.tape, h2.output, by omega, fun i hi hS => ?_, fun i hi => ?_⟩
    · have hne : some i ≠ some g := fun e => by simp only [Option.some.injEq] at e; exact hS (e ▸ hmine)
      rw [h2.block i (by simp; omega) hne, blk_old _ _ hi]
    · rcases List.mem_cons.1 hi with rfl | h
      · rcases hat with h | h
        · exact .inl (h ▸ hmine)
        · exact .inr ⟨by omega, hlt'⟩
      · exact .inl (List.mem_filter.1 h).1
  have hTy : (∀ k ∈ S, PlaceB w k) → ∀ k ∈ g' :: S.filter (fun k => k != g), PlaceB w' k := by
    intro ht i hi
    rcases List.mem_cons.1 hi with rfl | h
    · exact ⟨cur, hh⟩
    · obtain ⟨h1, h3⟩ := List.mem_filter.1 h
      obtain ⟨c, hc⟩ := ht i h1
      have hil : i < w.heap.size := (Array.getElem?_eq_some_iff.1 hc).1
      exact ⟨c, by rw [h2.block i (by simp; omega) (by simpa using h3), blk_old _ _ hil]; exact hc⟩
  refine ⟨g', cap', g' :: S.filter (fun k => k != g), rfl, ⟨⟨cur, hh, by simpa using hl, hm, hs, by rw [flatP_cons]; simpa using ht⟩, by simp, ?_, by omega, hJ _ _ _ _ _ _ hj hA hTy, fun x hx => ?_, hch⟩⟩
  · intro i hi
    rcases List.mem_cons.1 hi with rfl | h
    · exact hg'
    · exact hown i (List.mem_filter.1 h).1
  · refine ⟨(hpts x hx).1.stay (fun i hM => ?_) (fun _ h => h), (hpts x hx).2⟩
    have hi := hB i hM
    exact hA.block i (by omega) (fun h => by have := hown i h; omega)
def EnterY (n l : Nat) (M : Nat → Prop) (J : List Nat → List PT → List (PT × Bool) → World → Prop) (Stop : World → Prop) : Prop := ∀ S st es W t, J S st ((t, true) :: es) W → PtIn W M t → (∀ a ∈ st, t.sz < a.sz) →
  YieldAt Fence.wide (n - 1) Tryd.prog l #[.pointer (some ⟨t.b, t.o, none⟩), .bool true] W (fun e W' => Keeps S M W W' ∧ ((e = .returned (.bool true) ∧ J S (t :: st) es W') ∨ (e = .returned (.bool false) ∧ Stop W')))
def LeaveY (n l : Nat) (M : Nat → Prop) (J : List Nat → List PT → List (PT × Bool) → World → Prop) (Stop : World → Prop) : Prop := ∀ S st es W t, J S (t :: st) ((t, false) :: es) W → PtIn W M t →
  YieldAt Fence.wide (n - 1) Tryd.prog l #[.pointer (some ⟨t.b, t.o, none⟩), .bool false] W (fun e W' => Keeps S M W W' ∧ ((e = .returned (.bool true) ∧ J S st es W') ∨ (e = .returned (.bool false) ∧ Stop W')))
set_option maxHeartbeats 4000000 in
theorem walk1_in (n l tb : Nat) (M : Nat → Prop) (t0 : PT) (J : List Nat → List PT → List (PT × Bool) → World → Prop) (Stop : World → Prop)
    (hN : t0.sz ≤ 2000000) (htb : t0.b = tb) (hto : t0.o = 0)
    (hJ : ∀ S S' st es W W', J S st es W → Apart S S' W W' → ((∀ k ∈ S, PlaceB W k) → ∀ k ∈ S', PlaceB W' k) → J S' st es W')
    (hE : EnterY n l M J Stop) (hL : LeaveY n l M J Stop)
    (W : World) (hMW : ∀ k, M k → k < W.heap.size) (hJ0 : J [] [] t0.evs W) (hT0 : PtIn W M t0) :
    CallsIn Fence.wide n Tryd.prog 99 #[.func (.yield l) #[] #[], .pointer (some ⟨tb, 0, none⟩)] W fun e W' => (∃ v, e = .returned v) ∧ ((∃ S, J S [] [] W') ∨ Stop W') := by
  rw [evs_rem] at hJ0
  obtain ⟨fn, tmps, assign, body, hy, hR⟩ := hE [] [] _ W t0 hJ0 hT0 (fun a h => by cases h)
  rw [htb, hto] at hy
  refine callsIn_of_wp Tryd.func99 rfl trivial ?_ rfl
  simp only [Tryd.ntmps99, List.size_toArray, List.length_cons, List.length_nil, Nat.reduceAdd, Nat.reduceSub, Array.replicate_succ, Array.replicate_zero, List.push_toArray, List.append_toArray, List.nil_append, List.cons_append]
  have HE := Lib.hid hE
  have HL := Lib.hid hL
  have HJ := Lib.hid hJ
  clear hE hL hJ
  gi_wp2
  refine ⟨fun h => (by cases h), hR.mono ?_⟩
  rintro e W2 ⟨hk, ⟨rfl, hJ2⟩ | ⟨rfl, hs⟩⟩
  · clear hy hR
    gi_wp2
    have hA := Apart.alloc [] W2 (.cells #[.pointer (some ⟨tb, 0, none⟩), .int .i64 0] 162)
    have hS0 : StackIn (W2.alloc (.cells #[.pointer (some ⟨tb, 0, none⟩), .int .i64 0] 162)) W2.heap.size 1 [(t0, 0)] := by
      refine ⟨#[.pointer (some ⟨tb, 0, none⟩), .int .i64 0], blk_new _ _ rfl, by simp, by unfold maxLen; omega, rfl, ?_⟩
      unfold flatP
      simp [htb, hto]
    have hTy0 : (∀ k ∈ ([] : List Nat), PlaceB W2 k) → ∀ k ∈ [W2.heap.size], PlaceB (W2.alloc (.cells #[.pointer (some ⟨tb, 0, none⟩), .int .i64 0] 162)) k := by
      intro _ k hk
      have e : k = W2.heap.size := by simpa using hk
      exact ⟨_, blk_new _ _ e⟩
    have hI0 : WInv J M W.heap.size t0.sz [W2.heap.size] W2.heap.size 1 [(t0, 0)] (W2.alloc (.cells #[.pointer (some ⟨tb, 0, none⟩), .int .i64 0] 162)) := by
      refine ⟨hS0, by simp, by simpa using hk.2, by simp; have := hk.2; omega, HJ.out _ _ _ _ _ _ hJ2 hA hTy0, ?_, by simp⟩
      intro x hx
      obtain rfl : x = (t0, 0) := by simpa using hx
      refine ⟨hT0.stay (fun g hg => ?_) (fun _ h => h), Nat.zero_le _, Nat.le_refl _⟩
      have hg1 : g < W2.heap.size := Nat.lt_of_lt_of_le (hMW g hg) hk.2
      rw [blk_old _ _ hg1]
      exact hk.1 g (.inr hg)
    have HI0 := Lib.hid hI0
    clear hI0 hS0 hA hk hJ2 hJ0 hT0
    gi_loopg [3] (rem [(t0, 0)]).length (fun gk v3 wr => ∃ S g cap st, gk = (rem st).length ∧ v3 = .slice (some ⟨g, 0, none⟩) st.length cap ∧ WInv J M W.heap.size t0.sz S g cap st wr)
    case atStart => exact ⟨_, _, _, _, rfl, rfl, HI0.out⟩
    case round =>
      obtain ⟨S, g, cap, st, hgk, rfl, hI⟩ := hrel
      have HG := Lib.hid hgk
      have hlen := hI.len
      clear hgk HI0
      cases st with
      | nil =>
        gi_wp2
        refine bodyPost_end (results_none rfl _ _ _) rfl ?_
        exact ⟨⟨_, rfl⟩, .inl ⟨S, hI.j⟩⟩
      | cons x st =>
        obtain ⟨t, d⟩ := x
        obtain ⟨c0, c1, cf⟩ := hI.stack.top
        obtain ⟨hpt, hd, hsz⟩ := hI.pts (t, d) (List.mem_cons_self ..)
        obtain ⟨a, kc, hM, k0, k1, k2, hs, hr, hn, hc, hk, ht⟩ := hpt.open
        have HI := Lib.hid hI
        have HK := Lib.hid hk
        have HT := Lib.hid ht
        unfold maxLen at hn
        rw [List.length_cons] at hlen
        have hw0 : (0 : Int) < ((st.length + 1 : Nat) : Int) := by omega
        have hw1 : IntKind.i64.wrap (((st.length + 1 : Nat) : Int) - 1) = (st.length : Int) := by rw [show ((st.length + 1 : Nat) : Int) - 1 = (st.length : Int) from by omega]; exact IntWalk.i64_in _ (by omega)
        clear hI hk ht hpt
        simp only [List.length_cons]
        gi_wp2
        by_cases hdk : d = t.ks.length
        · have hde : ((d : Int) == (t.ks.length : Int)) = true := by rw [hdk]; simp
          have HD := Lib.hid hdk
          clear hdk
          gi_quiet (fail)
          have hI3 := HI.out.move (w' := wr.drewN nq) (fun _ => rfl) (by simp) (HJ.out _ _ _ _ _ _ HI.out.j (Apart.drewN S wr nq) (fun h => h))
          have hj3 := hI3.j
          rw [rem_done HD.out] at hj3
          obtain ⟨fn5, tm5, as5, bo5, hy5, hR5⟩ := HL.out S (fsts st) (rem st) _ t hj3 (hI3.pts _ (List.mem_cons_self ..)).1
          obtain ⟨c0, c1, cf⟩ := hI3.stack.top
          have HI3 := Lib.hid hI3
          clear hj3 hI3 k0 k1 k2 HI
          generalize wr.drewN nq = W3 at *
          gi_wp2
          refine ⟨fun h => (by cases h), hR5.mono ?_⟩
          rintro e W4 ⟨hk4, ⟨rfl, hJ4⟩ | ⟨rfl, hs4⟩⟩
          · have hI4 := HI3.out.left hk4 hJ4
            have HI4 := Lib.hid hI4
            have hcap := HI3.out.stack
            have hcp : st.length + 1 ≤ cap := by obtain ⟨_, _, h1, _⟩ := hcap; simpa using h1
            have hcp2 : (st.length : Int) ≤ (cap : Int) := by omega
            clear hy5 hR5 hI4 hcap c0 c1 cf hk4 hJ4
            gi_wp2
            gi_roundg (rem st).length
            case measure => have := HG.out; rw [rem_done HD.out] at this; simp at this; omega
            case rel => exact ⟨S, g, cap, st, rfl, rfl, HI4.out⟩
          · clear hy5 hR5 c0 c1 cf
            gi_wp2
            refine bodyPost_ret (results_none rfl _ _ _) rfl ?_
            exact ⟨⟨_, rfl⟩, .inr hs4⟩
        · have hde : ((d : Int) == (t.ks.length : Int)) = false := by rw [beq_eq_false_iff_ne]; omega
          have hdl : d < t.ks.length := by omega
          obtain ⟨kg, koff, rfl, kb, ko⟩ := HK.out d hdl
          have hdi : (d : Int) < (t.ks.length : Int) := by omega
          have hd0 : (0 : Int) ≤ (d : Int) := by omega
          have hdw : IntKind.i64.wrap ((d : Int) + 1) = (d : Int) + 1 := IntWalk.i64_in _ (by omega)
          clear hdk
          gi_quiet (fail)
          have hI3 := HI.out.move (w' := wr.drewN nq) (fun _ => rfl) (by simp) (HJ.out _ _ _ _ _ _ HI.out.j (Apart.drewN S wr nq) (fun h => h))
          obtain ⟨c0, c1, cf⟩ := hI3.stack.top
          have cfo := cf (st.length * 2 + 1)
          have k2' : (wr.drewN nq).cell? ⟨t.b, t.o + 2, none⟩ = some (.slice (some ⟨kg, koff, none⟩) t.ks.length kc) := k2
          have HI3 := Lib.hid hI3
          clear hI3 HI k0 k1 k2
          generalize wr.drewN nq = W3 at *
          gi_wp2
          gi_quiet (fail)
          have hI7 := HI3.out.move (w' := W3.drewN nq) (fun _ => rfl) (by simp) (HJ.out _ _ _ _ _ _ HI3.out.j (Apart.drewN S W3 nq) (fun h => h))
          have hB1 := hMW
          obtain ⟨hj7, hst7, hpts7, hch7, hdec7⟩ := hI7.step hdl hB1 HJ.out
          obtain ⟨fn9, tm9, as9, bo9, hy9, hR9⟩ := HE.out S (t :: fsts st) (rem ((t.ks[d], 0) :: (t, d + 1) :: st)) _ t.ks[d] hj7 (hpts7 _ (List.mem_cons_self ..)).1 hdec7
          rw [kb, ko] at hy9
          obtain ⟨c0, c1, cf⟩ := hI7.stack.top
          have cfo := cf (st.length * 2 + 1)
          have HB1 := Lib.hid hB1
          have HI7 := Lib.hid hI7
          have HST := Lib.hid hst7
          have HPT := Lib.hid hpts7
          have HCH := Lib.hid hch7
          clear hj7 hst7 hpts7 hch7 hdec7 HI3 hI7 k2' cf hB1
          generalize W3.drewN nq = W7 at *
          gi_wp2
          refine ⟨fun h => (by cases h), hR9.mono ?_⟩
          rintro e W9 ⟨hk9, ⟨rfl, hJ9⟩ | ⟨rfl, hs9⟩⟩
          · have hst9 := HST.out.of_block (hk9.1 g (.inl HI7.out.mine))
            have hpts9 : ∀ x ∈ (t.ks[d], 0) :: (t, d + 1) :: st, PtIn W9 M x.1 ∧ x.2 ≤ x.1.ks.length ∧ x.1.sz ≤ t0.sz := fun x hx => ⟨(HPT.out x hx).1.stay (fun k hM => hk9.1 k (.inr hM)) (fun _ h => h), (HPT.out x hx).2⟩
            have hz9 : W.heap.size ≤ W9.heap.size := Nat.le_trans HI7.out.big (by simpa using hk9.2)
            have hgB := HI7.out.own g HI7.out.mine
            have hown9 : (W9.alloc (.cells #[.pointer (some ⟨kg, koff + d * 3, none⟩), .int .i64 0] 162)).ownsRow W.heap.size 162 2 (.slice (some ⟨g, 0, none⟩) (st.length + 1) cap) (st.length + 1) (flatP ((t, d + 1) :: st)) := (hst9.of_block (blk_old _ _ hst9.lt)).owns hgB
            obtain ⟨i0, hi0, hzz0⟩ := Option.map_eq_some_iff.1 infoPlace
            simp only [Prod.mk.injEq] at hzz0
            obtain ⟨hz0, hz1, hz2⟩ := hzz0
            have HP9 := Lib.hid hpts9
            have HJ9 := Lib.hid hJ9
            have HS9 := Lib.hid hst9
            clear hy9 hR9 c0 c1 cfo hpts9 hJ9 hst9 hk9 HST HPT
            gi_wp2_with (gi_at_builtin; refine wpListIn_append_own_at _ rfl _ _ 163 rfl W.heap.size 162 i0 (.agg #[.pointer none, .int .i64 0]) 2 16 Tryd.underlying163 hi0 hz0 hz1 hz2 rfl (by decide) _ _ _ rfl hown9 ⟨W9.heap.size, 0, none⟩ 1 1 [.pointer (some ⟨kg, koff + d * 3, none⟩), .int .i64 0] rfl rfl ?c1 ?c2 (by unfold maxLen; omega) (by omega) (by simp; omega) ?_; rotate_right 1; intro v' w1 hown' hgrow _ hat)
            case c1 =>
              have hn := blk_new W9 (.cells #[.pointer (some ⟨kg, koff + d * 3, none⟩), .int .i64 0] 162) rfl
              intro j u hj
              rw [WideShapes.add_plain]
              match j, hj with
              | 0, hj => rw [cell_of_block hn]; simpa using hj
              | 1, hj => rw [cell_of_block hn]; simpa using hj
            case c2 =>
              intro u hu
              simp only [List.mem_cons, List.not_mem_nil, or_false] at hu
              rcases hu with rfl | rfl <;> rfl
            obtain ⟨g', cap', S', rfl, hI9⟩ := WInv.push (J := J) (k := t.ks[d]) (st := (t, d + 1) :: st) (o := .cells #[.pointer (some ⟨kg, koff + d * 3, none⟩), .int .i64 0] 162) HS9.out HI7.out.mine HI7.out.own hz9 HB1.out HJ9.out HP9.out HCH.out HJ.out (by rw [kb, ko]; exact hown') hgrow hat
            gi_roundg (rem ((t.ks[d], 0) :: (t, d + 1) :: st)).length
            case measure => have := HG.out; rw [rem_kid hdl] at this; simp at this; omega
            case rel => exact ⟨S', g', cap', (t.ks[d], 0) :: (t, d + 1) :: st, rfl, rfl, hI9⟩
          · clear hy9 hR9 c0 c1 cfo
            gi_wp2
            refine bodyPost_ret (results_none rfl _ _ _) rfl ?_
            exact ⟨⟨_, rfl⟩, .inr hs9⟩
  · clear hy hR
    gi_wp2
    refine bodyPost_ret (results_none rfl _ _ _) rfl ?_
    exact ⟨⟨_, rfl⟩, .inr hs⟩
end Go.Proofs.YtpkejcjjbkgomaaDoor
