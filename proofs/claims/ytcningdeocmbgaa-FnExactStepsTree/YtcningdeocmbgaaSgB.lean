/- The contract of the model's l7Join. -/
import Derived.Test.YtcningdeocmbgaaSgC
import Derived.Deep.Cut
import Derived.Deep.DeepCutAuto
namespace Go.Proofs.Ytcningdeocmbgaa
open Go.ChangeShapes Go.WideShapes Go.ChangeAt Go.RowKit Go.Deep
set_option maxRecDepth 100000
/-- a step of a region: an append whose run is known -/
theorem step_appT {ops : Array Oper} {o : Oper} {a : Act} {w : World} {K : Act → World → Prop} {Q : Exit → Act → World → Prop} {E : Prop} (hgd : o.guard = none) (s x : Operand)
    (ho : o.op = .call { callee := .builtin .append, args := #[s, x], argTypes := #[28, 28] }) (hty : o.type = 28) {v y v' : Value} {w' : World} (hs : a.eval s = v) (hx : a.eval x = y)
    (hrun : (appT #[28, 28] 28 #[v, y]).run Try.prog w = .ok v' w') (h : K (a.put o.dst v') w') :
    if Region.wanted o (yielded ops a.tmps) = true then Oper.wp Try.prog o a w K Q else E := by
  have hw : Region.wanted o (yielded ops a.tmps) = true := by simp [Region.wanted, hgd]
  rw [if_pos hw]
  unfold appT at hrun
  unfold Oper.wp execOp
  simp only [ho, hty, resolve, invoke, builtin, Sem.run_bind, Sem.run_pure, Result.andThen_ok, List.map_toArray, List.map_cons, List.map_nil, hs, hx, hrun]
  exact h
/-- what an append onto a new, empty row e leaves -/
structure Onto (X w7 : World) (e : Nat) (v : Value) : Prop where
  os : w7.os = X.os
  tape : w7.tape = X.tape
  output : w7.output = X.output
  size : X.heap.size ≤ w7.heap.size
  block : ∀ b, b < X.heap.size → b ≠ e → w7.heap[b]? = X.heap[b]?
  own : ∀ g, v.ownBlock = some g → g = e ∨ (X.heap.size ≤ g ∧ g < w7.heap.size)
theorem empty_row {X : World} {B e : Nat} (he : B ≤ e) (hh : X.heap[e]? = some (.cells #[] 30)) : X.ownsRow B 30 3 (.slice (some ⟨e, 0, none⟩) 0 0) ([] : List KidO).length (flatO []) :=
  ⟨rfl, .inr ⟨e, 0, #[], rfl, he, hh, Nat.le_refl _, Nat.zero_le _, rfl, rfl⟩⟩
/-- trees are appended onto a new, empty row -/
theorem onto_row {X : World} {B e : Nat} {vs : List KidO} {ad : Option Addr} {c2 : Nat} (he : B ≤ e) (hh : X.heap[e]? = some (.cells #[] 30)) (hcase : (ad = none ∧ vs = [] ∧ c2 = 0) ∨ ∃ p, ad = some p ∧ ∀ j u, (flatO vs)[j]? = some u → X.cell? (p.add j) = some u)
    (hone : ∀ u ∈ vs, u.2.2.oneCell' = true) (hn : vs.length ≤ 1000) :
    ∃ a3 c3 w7, (appT #[28, 28] 28 #[.slice (some ⟨e, 0, none⟩) 0 0, .slice ad vs.length c2]).run Try.prog X = .ok (.slice a3 vs.length c3) w7 ∧ w7.ownsRow B 30 3 (.slice a3 vs.length c3) vs.length (flatO vs) ∧ Onto X w7 e (.slice a3 vs.length c3) := by
  have hel : e < X.heap.size := (Array.getElem?_eq_some_iff.1 hh).1
  rcases hcase with ⟨rfl, rfl, rfl⟩ | ⟨p, rfl, hc⟩
  · exact ⟨some ⟨e, 0, none⟩, 0, X, run_appT_none (empty_row he hh), empty_row he hh, rfl, rfl, rfl, Nat.le_refl _, fun _ _ _ => rfl, fun g hg => .inl (by simp [Value.ownBlock] at hg; exact hg.symm)⟩
  · obtain ⟨v, w7, h1, h2, h3, _, h5⟩ := run_appT (empty_row he hh) p vs c2 hc hone (by simp; omega) (by omega)
    simp only [List.length_nil, Nat.zero_add, List.nil_append] at h2
    obtain ⟨a3, c3, rfl, _⟩ := owns_at h2
    refine ⟨a3, c3, w7, h1, h2, h3.os, h3.tape, h3.output, h3.size, fun b hb hne => h3.block b hb (fun e => hne (by simp [Value.ownBlock] at e; exact e)), fun g hg => ?_⟩
    rcases h5 with h | h
    · rw [h] at hg; simp [Value.ownBlock] at hg; exact .inl hg.symm
    · rw [h] at hg
      simp at hg
      subst hg
      rcases h2.2 with ⟨h0, _⟩ | ⟨g', cap', cur, hv, _, hh', _⟩
      · rw [h0] at h; simp [Value.ownBlock] at h
      · rw [hv] at h
        simp [Value.ownBlock] at h
        exact .inr ⟨Nat.le_refl _, by rw [← h]; exact (Array.getElem?_eq_some_iff.1 hh').1⟩
/-- a copy of the first trees in a row of its own -/
theorem TreesW.copy {X w7 : World} {B e n : Nat} {v v3 : Value} {us : List KidO} {ts : List OT} (H : TreesW X B v us ts) (k : Nat) (hk : k ≤ us.length) (hrow : w7.ownsRow B 30 3 v3 n (flatO (us.take k))) (hn : n = (us.take k).length) (hO : Onto X w7 e v3) (he : e ∉ ts.flatMap OT.bs) : TreesW w7 B v3 (us.take k) (ts.take k) := by
  have hl := H.len
  have hsub : ∀ b ∈ (ts.take k).flatMap OT.bs, b ∈ ts.flatMap OT.bs := fun b hb => by
    obtain ⟨t, ht, hb⟩ := List.mem_flatMap.1 hb
    exact List.mem_flatMap.2 ⟨t, List.mem_of_mem_take ht, hb⟩
  have hnd : ((ts.take k).flatMap OT.bs).Nodup := by
    have := H.nd
    rw [← List.take_append_drop k ts, List.flatMap_append, List.nodup_append] at this
    exact this.1
  subst hn
  refine ⟨hrow, by simp [hl], fun j hj => ?_, hnd, fun b hb => ?_⟩
  · have hj' : j < us.length := by rw [List.length_take] at hj; omega
    simp only [List.getElem_take]
    refine (H.kid j hj').keep fun b hb => ?_
    have hm := mem_bs (ts := ts) (j := j) (by omega) hb
    exact hO.block b (H.low b hm).2.1 (fun e' => he (e' ▸ hm))
  · have hm := hsub b hb
    have h3 := H.low b hm
    refine ⟨h3.1, Nat.lt_of_lt_of_le h3.2.1 hO.size, fun e' => ?_⟩
    rcases hO.own b e' with h | h
    · exact he (h ▸ hm)
    · omega
/-- the row of trees, whole -/
theorem TreesW.allJ {w : World} {B : Nat} {v : Value} {us : List KidO} {ts : List OT} (H : TreesW w B v us ts) : ∃ a cap, v = .slice a us.length cap ∧ us.length ≤ cap ∧ TreesAt w a us := by
  rcases H.at with ⟨rfl, rfl, rfl⟩ | ⟨g, cap, rfl, hc, _, _, hat⟩
  · exact ⟨none, 0, rfl, Nat.le_refl _, fun j hj => absurd hj (Nat.not_lt_zero _)⟩
  · refine ⟨some ⟨g, 0, none⟩, cap, rfl, hc, ?_⟩
    have := hat 0 (Nat.zero_le _)
    rw [Nat.zero_mul, List.drop_zero] at this
    exact this
theorem zeroBoxT {w : World} {b : Nat} {v0 v1 v2 : Value} (h : BoxT w b v0 v1 v2) (u0 u1 u2 : Value) : BoxT (((w.setCell ⟨b, 0, none⟩ u0).setCell ⟨b, 1, none⟩ u1).setCell ⟨b, 2, none⟩ u2) b u0 u1 u2 := by unfold BoxT at h ⊢; simp [World.setCell, Array.getElem?_modify, h]
/-- the node is made: its cells in p, its kids in a row of their own -/
def NodeAt (W : World) (B p : Nat) (s : ByteArray) (r : Int) (vx : Option Addr) (m vc : Nat) (vs : List KidO) (wx : World) : Prop :=
  BoxT wx p (.string s) (.int .i64 r) (.slice vx m vc) ∧ wx.ownsRow B 30 3 (.slice vx m vc) m (flatO vs) ∧ (∀ g, (Value.slice vx m vc).ownBlock = some g → W.heap.size ≤ g) ∧ Below W.heap.size W wx ∧ W.heap.size ≤ p
theorem owns_frame {w w' : World} {B : Nat} {ty : TypeId} {m : Nat} {v : Value} {n : Nat} {xs : List Value} (h : w.ownsRow B ty m v n xs) (hk : ∀ g, v.ownBlock = some g → w'.heap[g]? = w.heap[g]?) : w'.ownsRow B ty m v n xs := by
  refine ⟨h.1, ?_⟩
  rcases h.2 with h0 | ⟨g, cap, cur, hv, hg, hh, hl, hm, hs, ht⟩
  · exact .inl h0
  · exact .inr ⟨g, cap, cur, hv, hg, (hk g (by rw [hv]; rfl)).trans hh, hl, hm, hs, ht⟩
/-- the node, its cells written over a block that was there before the kids' row -/
theorem node_over {W X w7 : World} {B e p : Nat} {s : ByteArray} {r : Int} {vx : Option Addr} {m vc : Nat} {vs : List KidO} (hO : Onto X w7 e (.slice vx m vc)) (hrow : w7.ownsRow B 30 3 (.slice vx m vc) m (flatO vs)) (hp : p < X.heap.size) (hpe : p ≠ e) (he : W.heap.size ≤ e) (hpW : W.heap.size ≤ p)
    (hX : Below W.heap.size W X) {v0 v1 v2 : Value} (hz : BoxT X p v0 v1 v2) : NodeAt W B p s r vx m vc vs (((w7.setCell ⟨p, 0, none⟩ (.string s)).setCell ⟨p, 1, none⟩ (.int .i64 r)).setCell ⟨p, 2, none⟩ (.slice vx m vc)) ∧ BoxT w7 p v0 v1 v2 := by
  have hz7 : BoxT w7 p v0 v1 v2 := (hO.block p hp hpe).trans hz
  have hgp : ∀ g, (Value.slice vx m vc).ownBlock = some g → g ≠ p ∧ W.heap.size ≤ g := fun g hg => by
    rcases hO.own g hg with h | h
    · exact ⟨by omega, by omega⟩
    · exact ⟨by omega, by have := hX.size; omega⟩
  have hbW : Below W.heap.size W w7 := hX.trans ⟨hO.os, hO.tape, hO.output, hO.size, fun b hb => hO.block b (by have := hX.size; omega) (by omega)⟩
  refine ⟨⟨zeroBoxT hz7 _ _ _, owns_frame hrow (fun g hg => ?_), fun g hg => (hgp g hg).2, ((hbW.setCell hpW _).setCell hpW _).setCell hpW _, hpW⟩, hz7⟩
  have := (hgp g hg).1
  rw [Below.heap_setCell _ _ _ _ (by show g ≠ p; exact this), Below.heap_setCell _ _ _ _ (by show g ≠ p; exact this), Below.heap_setCell _ _ _ _ (by show g ≠ p; exact this)]
/-- the node, its cells in a new block behind the kids' row -/
theorem node_new {W X w7 : World} {B e : Nat} {s : ByteArray} {r : Int} {vx : Option Addr} {m vc : Nat} {vs : List KidO} (hO : Onto X w7 e (.slice vx m vc)) (hrow : w7.ownsRow B 30 3 (.slice vx m vc) m (flatO vs)) (he : W.heap.size ≤ e)
    (hX : Below W.heap.size W X) : NodeAt W B w7.heap.size s r vx m vc vs (w7.alloc (.cells #[.string s, .int .i64 r, .slice vx m vc] 30)) := by
  have hbW : Below W.heap.size W w7 := hX.trans ⟨hO.os, hO.tape, hO.output, hO.size, fun b hb => hO.block b (by have := hX.size; omega) (by omega)⟩
  have hbA := (Below.refl _ _).alloc (Nat.le_refl w7.heap.size) (.cells #[.string s, .int .i64 r, .slice vx m vc] 30)
  refine ⟨blk_new _ _ rfl, owns_below hrow hbA, fun g hg => ?_, hbW.alloc hbW.size _, hbW.size⟩
  rcases hO.own g hg with h | h
  · omega
  · have := hX.size; omega
/-- the node is put behind the copied trees -/
theorem join_push {Y : World} {B k U : Nat} {a3 : Option Addr} {c3 : Nat} {us : List KidO} {ts : List OT} {u : KidO} {t : OT} (H3 : TreesW Y B (.slice a3 k c3) (us.take k) (ts.take k)) (hkid : KidOk Y u t) (hnd : ((ts.take k ++ [t]).flatMap OT.bs).Nodup) (hlow : ∀ b ∈ t.bs, B ≤ b ∧ (Value.slice a3 k c3).ownBlock ≠ some b)
    (hU : Y.heap[U]? = some (.cells #[.string u.1, .int .i64 u.2.1, u.2.2] 30)) (hk : (us.take k).length ≤ 300) (hB : B ≤ Y.heap.size) :
    ∃ v4 z, (appT #[28, 28] 28 #[.slice a3 k c3, .slice (some ⟨U, 0, none⟩) 1 1]).run Try.prog Y = .ok v4 z ∧ TreesW z B v4 (us.take k ++ [u]) (ts.take k ++ [t]) ∧ Y.grownBy z (Value.slice a3 k c3).ownBlock := by
  obtain ⟨v4, z, h1, h2, h3, _, h5⟩ := run_appT H3.row ⟨U, 0, none⟩ [u] 1 (fun j x hj => by
    rw [WideShapes.add_plain, cell_of_block hU]
    simpa [flatO] using hj) (fun x hx => by rw [List.mem_singleton] at hx; subst hx; exact hkid.one) (by simp only [List.length_cons, List.length_nil]; omega) hB
  exact ⟨v4, z, h1, H3.push hkid h2 (fun b hb hne => h3.block b hb (fun e => hne e.symm)) h3.size h5 (Nat.le_refl _) hnd hlow, h3⟩
theorem grown_low {W Y z : World} {v : Value} (hg : Y.grownBy z v.ownBlock) (hY : Below W.heap.size W Y) (hv : ∀ g, v.ownBlock = some g → W.heap.size ≤ g) : Below W.heap.size W z := hY.trans ⟨hg.os, hg.tape, hg.output, hg.size, fun b hb => hg.block b (by have := hY.size; omega) (fun e => by have := hv b e.symm; omega)⟩
theorem keep3 {w w' : World} {p : Nat} {u0 u1 u2 : Value} (h0 : w.cell? ⟨p, 0, none⟩ = some u0) (h1 : w.cell? ⟨p, 1, none⟩ = some u1) (h2 : w.cell? ⟨p, 2, none⟩ = some u2) (hp : p < w.heap.size) (hb : Below w.heap.size w w') : w'.cell? ⟨p, 0, none⟩ = some u0 ∧ w'.cell? ⟨p, 1, none⟩ = some u1 ∧ w'.cell? ⟨p, 2, none⟩ = some u2 :=
  ⟨(hb.cell (p := ⟨p, _, none⟩) hp).trans h0, (hb.cell (p := ⟨p, _, none⟩) hp).trans h1, (hb.cell (p := ⟨p, _, none⟩) hp).trans h2⟩
theorem Onto.below {W X w7 : World} {e : Nat} {v : Value} (hO : Onto X w7 e v) (he : W.heap.size ≤ e) (hX : Below W.heap.size W X) : Below W.heap.size W w7 := hX.trans ⟨hO.os, hO.tape, hO.output, hO.size, fun b hb => hO.block b (by have := hX.size; omega) (by omega)⟩
theorem keepJ {w w' : World} {b c d : Nat} {u0 u1 : Value} (h0 : w.cell? ⟨b, 1, none⟩ = some u0) (h1 : w.cell? ⟨c, d, none⟩ = some u1) (hb1 : b < w.heap.size) (hb2 : c < w.heap.size) (hb : Below w.heap.size w w') : w'.cell? ⟨b, 1, none⟩ = some u0 ∧ w'.cell? ⟨c, d, none⟩ = some u1 :=
  ⟨(hb.cell (p := ⟨b, _, none⟩) hb1).trans h0, (hb.cell (p := ⟨c, _, none⟩) hb2).trans h1⟩
attribute [-go_sem] BigFrame.builtin_append
attribute [local go_sem ↓] builtin_appT
set_option maxHeartbeats 8000000 in
theorem l7Join_any (B : Nat) (st : ByteArray) (a : Option Addr) (cg : Nat) (rs : List RuleT) (v : Value) (us : List KidO) (ts : List OT) (r : Int) (w : World) (HT : TreesW w B v us ts) (HR : RulesAt w a rs) (hB : B ≤ w.heap.size)
    (hrs : ∀ x ∈ rs, x.1.size = 1 ∧ x.2.size ≤ 4) (hr : (Lit.int .i64 r).wf = true) (hn : us.length ≤ 201) (hs : ∀ t ∈ ts, t.s.size = 1) :
    Calls Try.prog 26 #[.agg #[.string st, .slice a rs.length cg], v, .int .i64 r] w fun e w' => Below w.heap.size w w' ∧
      ((joinT rs (ts.map OT.tr) r = none ∧ e = .returned (.tuple #[v, .bool false])) ∨
       ∃ v' us' ts', joinT rs (ts.map OT.tr) r = some (ts'.map OT.tr) ∧ e = .returned (.tuple #[v', .bool true]) ∧ TreesW w' B v' us' ts') := by
  have hbG := (Below.refl w.heap.size w).alloc (Nat.le_refl _) (.cells #[.string st, .slice a rs.length cg] 35)
  have hG2 : GB2 (w.alloc (.cells #[.string st, .slice a rs.length cg] 35)) w.heap.size (.string st) (.slice a rs.length cg) := blk_new _ _ rfl
  obtain ⟨g0, g1⟩ := hG2.cells
  obtain ⟨av, cv, rfl, hcv, hAll⟩ := HT.allJ
  by_cases hneg : r < 0
  · have hd : decide (r < 0) = true := decide_eq_true hneg
    go_enter Try.func26, Try.ntmps26
    go_wp2
    exact bodyPost_ret (v := .tuple #[.slice av us.length cv, .bool false]) (by simp [results, Try.results26, go_sem]) rfl ⟨hbG, .inl ⟨joinT_neg hneg, rfl⟩⟩
  have hd : decide (r < 0) = false := decide_eq_false hneg
  by_cases hout : (rs.length : Int) ≤ r
  · have hd2 : decide ((rs.length : Int) ≤ r) = true := decide_eq_true hout
    go_enter Try.func26, Try.ntmps26
    go_wp2
    exact bodyPost_ret (v := .tuple #[.slice av us.length cv, .bool false]) (by simp [results, Try.results26, go_sem]) rfl ⟨hbG, .inl ⟨joinT_out hout, rfl⟩⟩
  have hd2 : decide ((rs.length : Int) ≤ r) = false := decide_eq_false hout
  obtain ⟨i, hi, rfl⟩ : ∃ i : Nat, i < rs.length ∧ r = (i : Int) := ⟨r.toNat, by omega, by omega⟩
  have HR1 := HR.below hbG (Nat.le_refl _)
  obtain ⟨z1, z2, gR, offR, e, hgR, c1, c2⟩ := HR1.2 i hi
  subst e
  obtain ⟨hx1, hx2⟩ := hrs rs[i] (List.getElem_mem hi)
  have HJ := Lib.hid (joinT_in (Ts := ts.map OT.tr) hi)
  have HLEN := Lib.hid HT.len
  by_cases hm : us.length < rs[i].2.size
  · have hm' : decide (((us.length : Nat) : Int) < ((rs[i].2.size : Nat) : Int)) = true := decide_eq_true (by omega)
    go_enter Try.func26, Try.ntmps26
    go_wp2
    exact bodyPost_ret (v := .tuple #[.slice av us.length cv, .bool false]) (by simp [results, Try.results26, go_sem]) rfl ⟨hbG, .inl ⟨by rw [HJ.out, if_neg (by rw [List.length_map, ← HLEN.out]; omega)], rfl⟩⟩
  have hm' : decide (((us.length : Nat) : Int) < ((rs[i].2.size : Nat) : Int)) = false := decide_eq_false (by omega)
  obtain ⟨k, hk⟩ : ∃ k, us.length = k + rs[i].2.size := ⟨us.length - rs[i].2.size, by omega⟩
  have hkk : ((us.length : Nat) : Int) - ((rs[i].2.size : Nat) : Int) = (k : Int) := by omega
  obtain ⟨a', cap', a2, e, hcap, hif, hA, hfirst, hcase⟩ := HT.cuts k (by omega)
  simp only [Value.slice.injEq, true_and] at e
  obtain ⟨rfl, rfl⟩ := e
  have hdl : (us.drop k).length = rs[i].2.size := by rw [List.length_drop]; omega
  have hsu : ∀ u ∈ us.drop k, u.1.size ≤ 1 ∧ ∃ c n d, u.2.2 = .slice c n d := fun u hu => by
    obtain ⟨j, hj, rfl⟩ := List.getElem_of_mem (List.mem_of_mem_drop hu)
    obtain ⟨x, c, e, _⟩ := HT.kid j hj
    have hl := HT.len
    rw [e]
    exact ⟨by have := hs _ (List.getElem_mem (show j < ts.length by omega)); show ts[j].s.size ≤ 1; omega, _, _, _, rfl⟩
  have hone : ∀ u ∈ us.drop k, u.2.2.oneCell' = true := fun u hu => by obtain ⟨_, c, n, d, e⟩ := hsu u hu; rw [e]; rfl
  have hone1 : ∀ u ∈ us.take k, u.2.2.oneCell' = true := fun u hu => by
    obtain ⟨j, hj, rfl⟩ := List.getElem_of_mem (List.mem_of_mem_take hu)
    exact (HT.kid j hj).one
  have hsg := signsU_eq HT k
  have C : ∀ W, TreesAt W a2 (us.drop k) → Calls Try.prog 27 #[.slice a2 (us.length - k) (cv - k)] W fun e w' => e = .returned (.string (bytesOf (signsL (ts.drop k)))) ∧ Below W.heap.size W w' := fun W h => by
    rw [← List.length_drop, ← hsg]
    exact l7Signs_any a2 (cv - k) (us.drop k) W h (by omega) (fun u hu => (hsu u hu).1)
  have hbe : (bytesOf (signsL (ts.drop k))).toList = signsL (ts.drop k) := by rw [Go.ByteArray.toList_eq]; rfl
  have hsg2 : signsT ((ts.map OT.tr).drop ((ts.map OT.tr).length - rs[i].2.size)) = signsL (ts.drop k) := by
    rw [List.length_map, ← HLEN.out, show us.length - rs[i].2.size = k from by omega, signsL_tr, List.map_drop]
  have HBE := Lib.hid hbe
  have HSG := Lib.hid hsg2
  have hk1 : ((k : Nat) : Int) ≤ ((us.length : Nat) : Int) := by omega
  have hk2 : (0 : Int) ≤ ((k : Nat) : Int) := by omega
  have hk3 : ((k : Nat) : Int) ≤ ((cv : Nat) : Int) := by omega
  have HK := Lib.hid hk
  have hA1 := hA.below hbG
  have HT1 := HT.below hbG
  have hif0 : (if cv = 0 then av else Option.map (fun x => x.add 0) av) = av := by
    have : (fun x : Addr => x.add 0) = id := by funext x; simp [Addr.add]
    rw [this]; simp
  clear hbe hsg2 hk hdl hsg hA hfirst
  have hs1 : w.heap.size + 1 = (w.alloc (.cells #[.string st, .slice (some ⟨gR, offR, none⟩) rs.length cg] 35)).heap.size := by simp
  cases hq : ((bytesOf (signsL (ts.drop k))).toList == rs[i].2.toList) with
  | false =>
    have hq2 : ((bytesOf (signsL (ts.drop k))).toList != rs[i].2.toList) = true := by rw [bne, hq]; rfl
    have hne : signsL (ts.drop k) ≠ rs[i].2.data.toList := fun e => by
      rw [HBE.out, e, Go.ByteArray.toList_eq] at hq
      simp at hq
    have HNE := Lib.hid hne
    clear hne
    go_enter Try.func26, Try.ntmps26
    go_wp2_with fail
    go_region_held3 (fun w' => w'.cell? ⟨w.heap.size, 1, none⟩ = some (.slice (some ⟨gR, offR, none⟩) rs.length cg) ∧ w'.cell? ⟨gR, offR + i * 2 + 1, none⟩ = some (.string rs[i].2))
      (first
        | go_keep
        | with_reducible exact keepJ g1 c2 (by omega) hgR hb2
        | fail)
      (first
        | (go_at_call 27; (with_reducible refine (C _ ?_).mono ?_); (exact hA1.drew); rintro e w2 ⟨rfl, hb2'⟩; have hb2 := below_of_drew hb2')
        | fail)
    go_wp2
    exact bodyPost_ret (v := .tuple #[.slice av us.length cv, .bool false]) (by simp [results, Try.results26, go_sem]) rfl ⟨hbG.trans (hb2.mono (by omega)), .inl ⟨by rw [HJ.out, if_neg (fun h => HNE.out (by rw [← HSG.out]; exact h.2))], rfl⟩⟩
  | true =>
    have hq2 : ((bytesOf (signsL (ts.drop k))).toList != rs[i].2.toList) = false := by rw [bne, hq]; rfl
    have HEQ : Hid (signsL (ts.drop k) = rs[i].2.data.toList) := by
      show _ = _
      rw [HBE.out, Go.ByteArray.toList_eq] at hq
      simpa using hq
    go_enter Try.func26, Try.ntmps26
    go_wp2_with fail
    go_region_held3 (fun w' => w'.cell? ⟨w.heap.size, 1, none⟩ = some (.slice (some ⟨gR, offR, none⟩) rs.length cg) ∧ w'.cell? ⟨gR, offR + i * 2 + 1, none⟩ = some (.string rs[i].2))
      (first
        | go_keep
        | with_reducible exact keepJ g1 c2 (by omega) hgR hb2
        | fail)
      (first
        | (go_at_call 27; (with_reducible refine (C _ ?_).mono ?_); (exact hA1.drew); rintro e w2 ⟨rfl, hb2'⟩; have hb2 := below_of_drew hb2')
        | fail)
    go_wp2_with fail
    have hbw2 : Below w.heap.size w w2 := hbG.trans (hb2.mono (by omega))
    have HT2 := HT1.below hb2
    have hG3 : GB2 w2 w.heap.size (.string st) (.slice (some ⟨gR, offR, none⟩) rs.length cg) := (hb2.block _ (by omega)).trans hG2
    obtain ⟨m0, m1⟩ := hG3.cells
    have r1 := (hb2.cell (p := ⟨gR, offR + i * 2, none⟩) hgR).trans c1
    have r2 := (hb2.cell (p := ⟨gR, offR + i * 2 + 1, none⟩) hgR).trans c2
    have hcase2 : (a2 = none ∧ us.drop k = [] ∧ cv - k = 0) ∨ ∃ p, a2 = some p ∧ ∀ j u, (flatO (us.drop k))[j]? = some u → w2.cell? (p.add j) = some u := by
      rcases hcase with ⟨h1, h2, h3, h4, h5⟩ | ⟨ad, h1, h2⟩
      · exact .inl ⟨h1, by rw [h3]; simp, by omega⟩
      · exact .inr ⟨ad, h1, fun j u hj => by
          have hc := h2 j u hj
          rw [hbw2.cell (World.block_lt_of_cell? _ _ hc)]
          exact hc⟩
    have hBw : B ≤ w2.heap.size := by have := hbw2.size; omega
    clear hb2' hq hq2 C hA1 HT1 hG2 g0 g1 c1 c2 hcase hAll hs1
    have HC2 := Lib.hid hcase2
    have HT3 := Lib.hid HT2
    have HBW2 := Lib.hid hbw2
    go_cut [9] (fun s9 wx => ∃ p vx vc, s9 = .pointer (some ⟨p, 0, none⟩) ∧ Hid (NodeAt w2 B p rs[i].1 (i : Int) vx (us.length - k) vc (us.drop k) wx))
    case first =>
      have hdn : (us.drop k).length ≤ 1000 := by rw [List.length_drop]; omega
      have cellUp : ∀ X : World, Below w2.heap.size w2 X → ((a2 = none ∧ us.drop k = [] ∧ cv - k = 0) ∨ ∃ p, a2 = some p ∧ ∀ j u, (flatO (us.drop k))[j]? = some u → X.cell? (p.add j) = some u) := fun X hX => by
        rcases hcase2 with h | ⟨ad, h1, h2⟩
        · exact .inl h
        · exact .inr ⟨ad, h1, fun j u hj => by rw [hX.cell (World.block_lt_of_cell? _ _ (h2 j u hj))]; exact h2 j u hj⟩
      have bE : Below w2.heap.size w2 (w2.alloc (.cells #[] 30)) := (Below.refl _ _).alloc (Nat.le_refl _) _
      have bEN : Below w2.heap.size w2 ((w2.alloc (.cells #[] 30)).alloc (.cells #[.string ⟨#[]⟩, .int .i64 0, .slice none 0 0] 30)) := bE.alloc (by simp) _
      have bN : Below w2.heap.size w2 (w2.alloc (.cells #[.string ⟨#[]⟩, .int .i64 0, .slice none 0 0] 30)) := (Below.refl _ _).alloc (Nat.le_refl _) _
      have bNE : Below w2.heap.size w2 ((w2.alloc (.cells #[.string ⟨#[]⟩, .int .i64 0, .slice none 0 0] 30)).alloc (.cells #[] 30)) := bN.alloc (by simp) _
      obtain ⟨x1, d1, y1, ap1, row1, on1⟩ := onto_row (X := (w2.alloc (.cells #[] 30)).drew) (B := B) (e := w2.heap.size) hBw (blk_new w2 (.cells #[] 30) rfl) (cellUp _ bE.drew) hone hdn
      obtain ⟨x2, d2, y2, ap2, row2, on2⟩ := onto_row (X := ((w2.alloc (.cells #[] 30)).alloc (.cells #[.string ⟨#[]⟩, .int .i64 0, .slice none 0 0] 30)).drew) (B := B) (e := w2.heap.size) hBw ((blk_old (w2.alloc (.cells #[] 30)) (.cells #[.string ⟨#[]⟩, .int .i64 0, .slice none 0 0] 30) (by simp)).trans (blk_new w2 (.cells #[] 30) rfl)) (cellUp _ bEN.drew) hone hdn
      obtain ⟨x3, d3, y3, ap3, row3, on3⟩ := onto_row (X := ((w2.alloc (.cells #[.string ⟨#[]⟩, .int .i64 0, .slice none 0 0] 30)).alloc (.cells #[] 30)).drew) (B := B) (e := w2.heap.size + 1) (by omega) (blk_new (w2.alloc (.cells #[.string ⟨#[]⟩, .int .i64 0, .slice none 0 0] 30)) (.cells #[] 30) (by simp)) (cellUp _ bNE.drew) hone hdn
      rw [List.length_drop] at ap1 row1 on1 ap2 row2 on2 ap3 row3 on3
      have N1 := Lib.hid (node_new (W := w2) (s := rs[i].1) (r := (i : Int)) on1 row1 (Nat.le_refl _) bE.drew)
      obtain ⟨n2, z2⟩ := node_over (W := w2) (s := rs[i].1) (r := (i : Int)) on2 row2 (p := w2.heap.size + 1) (by simp) (by omega) (Nat.le_refl _) (by omega) bEN.drew (blk_new (w2.alloc (.cells #[] 30)) (.cells #[.string ⟨#[]⟩, .int .i64 0, .slice none 0 0] 30) (by simp))
      obtain ⟨n3, z3⟩ := node_over (W := w2) (s := rs[i].1) (r := (i : Int)) on3 row3 (p := w2.heap.size) (by simp; omega) (by omega) (by omega) (Nat.le_refl _) bNE.drew ((blk_old (w2.alloc (.cells #[.string ⟨#[]⟩, .int .i64 0, .slice none 0 0] 30)) (.cells #[] 30) (by simp)).trans (blk_new w2 (.cells #[.string ⟨#[]⟩, .int .i64 0, .slice none 0 0] 30) rfl))
      have N2 := Lib.hid n2
      have N3 := Lib.hid n3
      have key : ∀ X : World, Below w2.heap.size w2 X → X.cell? ⟨w.heap.size, 1, none⟩ = some (.slice (some ⟨gR, offR, none⟩) rs.length cg) ∧ X.cell? ⟨gR, offR + i * 2, none⟩ = some (.string rs[i].1) := fun X hX => ⟨(hX.cell (p := ⟨w.heap.size, 1, none⟩) (show w.heap.size < w2.heap.size by have := hG3; exact (Array.getElem?_eq_some_iff.1 hG3).1)).trans m1, (hX.cell (p := ⟨gR, offR + i * 2, none⟩) (show gR < w2.heap.size from World.block_lt_of_cell? _ _ r1)).trans r1⟩
      have b1 := on1.below (Nat.le_refl _) bE.drew
      have b2 := on2.below (Nat.le_refl _) bEN.drew
      have b3 := on3.below (by omega) bNE.drew
      obtain ⟨ka0, ka1⟩ := key _ bE
      obtain ⟨kb0, kb1⟩ := key _ bEN
      obtain ⟨kc0, kc1⟩ := key _ bN
      obtain ⟨kd0, kd1⟩ := key _ bNE
      obtain ⟨ke0, ke1⟩ := key _ b1
      obtain ⟨kf0, kf1⟩ := key _ b2
      obtain ⟨kg0, kg1⟩ := key _ b3
      obtain ⟨kh0, kh1⟩ := key _ (b1.alloc b1.size (.cells #[.string ⟨#[]⟩, .int .i64 0, .slice none 0 0] 30))
      obtain ⟨ki0, ki1⟩ := key _ N2.out.2.2.2.1
      obtain ⟨kj0, kj1⟩ := key _ N3.out.2.2.2.1
      obtain ⟨kk0, kk1⟩ := key _ N1.out.2.2.2.1
      clear key b1 b2 b3
      obtain ⟨p20, p21, p22, q20, q21, q22⟩ := z2.cells
      obtain ⟨p30, p31, p32, q30, q31, q32⟩ := z3.cells
      clear row1 row2 row3 on1 on2 on3 n2 n3 z2 z3 bE bEN bN bNE cellUp hcase2 HT2 hbw2
      go_region_held3 (fun w' => w'.cell? ⟨w.heap.size, 1, none⟩ = some (.slice (some ⟨gR, offR, none⟩) rs.length cg) ∧ w'.cell? ⟨gR, offR + i * 2, none⟩ = some (.string rs[i].1))
        (first
          | go_keep
          | with_reducible exact ⟨ka0, ka1⟩
          | with_reducible exact ⟨kb0, kb1⟩
          | with_reducible exact ⟨kc0, kc1⟩
          | with_reducible exact ⟨kd0, kd1⟩
          | with_reducible exact ⟨ke0, ke1⟩
          | with_reducible exact ⟨kf0, kf1⟩
          | with_reducible exact ⟨kg0, kg1⟩
          | with_reducible exact ⟨kh0, kh1⟩
          | with_reducible exact ⟨ki0, ki1⟩
          | with_reducible exact ⟨kj0, kj1⟩
          | with_reducible exact ⟨kk0, kk1⟩
          | fail)
        (first
          | (refine step_appT rfl _ _ rfl rfl rfl rfl ap1 ?_)
          | (refine step_appT rfl _ _ rfl rfl rfl rfl ap2 ?_)
          | (refine step_appT rfl _ _ rfl rfl rfl rfl ap3 ?_)
          | fail)
      all_goals
        go_wp2_with fail
        go_meet
        first
          | (case rel => exact ⟨_, _, _, rfl, N1⟩)
          | (case rel => exact ⟨_, _, _, rfl, N2⟩)
          | (case rel => exact ⟨_, _, _, rfl, N3⟩)
    case rest =>
      obtain ⟨p, vx, vc, rfl, HN⟩ := hcut
      obtain ⟨hbx, hrowx, hown, hbc, hpw⟩ := HN.out
      have hkl : k ≤ us.length := by have := HK.out; omega
      obtain ⟨g2, hkid, hnd, hlow⟩ := HT3.out.node (w' := wc) (s := rs[i].1) (r := (i : Int)) hkl (fun b hb => hbc.block b hb) hrowx hown (by unfold maxLen; omega) hr
      have hTc := HT3.out.below hbc
      have htl : (us.take k).length = k := by rw [List.length_take]; omega
      have hBc : B ≤ wc.heap.size := by have := hbc.size; omega
      have hktl : (us.take k).length ≤ 1000 := by omega
      have hcaseT : (av = none ∧ us.take k = [] ∧ cv = 0) ∨ ∃ p, av = some p ∧ ∀ j u, (flatO (us.take k))[j]? = some u → wc.cell? (p.add j) = some u := by
        obtain ⟨av', cv', a4, e, _, hif4, _, _, hc4⟩ := hTc.cuts 0 (Nat.zero_le _)
        simp only [Value.slice.injEq, true_and] at e
        obtain ⟨rfl, rfl⟩ := e
        have e4 : a4 = av := by rw [← hif4, Nat.zero_mul]; exact hif0
        rcases hc4 with ⟨h1, h2, h3, _, h5⟩ | ⟨ad, h1, h2⟩
        · exact .inl ⟨h2, by rw [h3]; simp, h5⟩
        · refine .inr ⟨ad, by rw [← e4]; exact h1, fun j u hj => h2 j u ?_⟩
          rw [List.drop_zero]
          have hjl : j < (flatO (us.take k)).length := (List.getElem?_eq_some_iff.1 hj).1
          rw [show flatO us = flatO (us.take k) ++ flatO (us.drop k) from by rw [← flatO_append, List.take_append_drop], List.getElem?_append_left hjl]
          exact hj
      have cellUp : ∀ X : World, Below wc.heap.size wc X → ((av = none ∧ us.take k = [] ∧ cv = 0) ∨ ∃ p, av = some p ∧ ∀ j u, (flatO (us.take k))[j]? = some u → X.cell? (p.add j) = some u) := fun X hX => by
        rcases hcaseT with h | ⟨ad, h1, h2⟩
        · exact .inl h
        · exact .inr ⟨ad, h1, fun j u hj => by rw [hX.cell (World.block_lt_of_cell? _ _ (h2 j u hj))]; exact h2 j u hj⟩
      have hnotin : ∀ e, wc.heap.size ≤ e → e ∉ ts.flatMap OT.bs := fun e he hm => by have := (hTc.low e hm).2.1; omega
      have hlowc : ∀ b ∈ (OT.node g2 rs[i].1 (i : Int) (ts.drop k)).bs, B ≤ b ∧ b < wc.heap.size := fun b hb => ⟨(hlow b hb).1, hkid.lt b hb⟩
      have bE : Below wc.heap.size wc (wc.alloc (.cells #[] 30)) := (Below.refl _ _).alloc (Nat.le_refl _) _
      have bEU : Below wc.heap.size wc ((wc.alloc (.cells #[] 30)).alloc (.cells #[.string rs[i].1, .int .i64 (i : Int), .slice vx (us.length - k) vc] 30)) := bE.alloc (by simp) _
      have bU : Below wc.heap.size wc (wc.alloc (.cells #[.string rs[i].1, .int .i64 (i : Int), .slice vx (us.length - k) vc] 30)) := (Below.refl _ _).alloc (Nat.le_refl _) _
      have bUE : Below wc.heap.size wc ((wc.alloc (.cells #[.string rs[i].1, .int .i64 (i : Int), .slice vx (us.length - k) vc] 30)).alloc (.cells #[] 30)) := bU.alloc (by simp) _
      obtain ⟨x1, d1, y1, ap1, row1, on1⟩ := onto_row (X := (wc.alloc (.cells #[] 30)).drew) (B := B) (e := wc.heap.size) hBc (blk_new wc (.cells #[] 30) rfl) (cellUp _ bE.drew) hone1 hktl
      obtain ⟨x2, d2, y2, ap2, row2, on2⟩ := onto_row (X := ((wc.alloc (.cells #[] 30)).alloc (.cells #[.string rs[i].1, .int .i64 (i : Int), .slice vx (us.length - k) vc] 30)).drew) (B := B) (e := wc.heap.size) hBc ((blk_old (wc.alloc (.cells #[] 30)) (.cells #[.string rs[i].1, .int .i64 (i : Int), .slice vx (us.length - k) vc] 30) (by simp)).trans (blk_new wc (.cells #[] 30) rfl)) (cellUp _ bEU.drew) hone1 hktl
      obtain ⟨x3, d3, y3, ap3, row3, on3⟩ := onto_row (X := ((wc.alloc (.cells #[.string rs[i].1, .int .i64 (i : Int), .slice vx (us.length - k) vc] 30)).alloc (.cells #[] 30)).drew) (B := B) (e := wc.heap.size + 1) (by omega) (blk_new (wc.alloc (.cells #[.string rs[i].1, .int .i64 (i : Int), .slice vx (us.length - k) vc] 30)) (.cells #[] 30) (by simp)) (cellUp _ bUE.drew) hone1 hktl
      have c1 := (hTc.below bE.drew).copy k hkl row1 rfl on1 (hnotin _ (Nat.le_refl _))
      have c2 := (hTc.below bEU.drew).copy k hkl row2 rfl on2 (hnotin _ (Nat.le_refl _))
      have c3 := (hTc.below bUE.drew).copy k hkl row3 rfl on3 (hnotin _ (by omega))
      have s1 := on1.below (Nat.le_refl _) bE.drew
      have s2 := on2.below (Nat.le_refl _) bEU.drew
      have s3 := on3.below (by omega) bUE.drew
      have o1 := on1.own
      have o2 := on2.own
      have o3 := on3.own
      have u2 : y2.heap[wc.heap.size + 1]? = some (.cells #[.string rs[i].1, .int .i64 (i : Int), .slice vx (us.length - k) vc] 30) := (on2.block _ (by simp) (by omega)).trans (blk_new (wc.alloc (.cells #[] 30)) (.cells #[.string rs[i].1, .int .i64 (i : Int), .slice vx (us.length - k) vc] 30) (by simp))
      have u3 : y3.heap[wc.heap.size]? = some (.cells #[.string rs[i].1, .int .i64 (i : Int), .slice vx (us.length - k) vc] 30) := (on3.block _ (by simp; omega) (by omega)).trans ((blk_old (wc.alloc (.cells #[.string rs[i].1, .int .i64 (i : Int), .slice vx (us.length - k) vc] 30)) (.cells #[] 30) (by simp)).trans (blk_new wc (.cells #[.string rs[i].1, .int .i64 (i : Int), .slice vx (us.length - k) vc] 30) rfl))
      rw [htl] at ap1 ap2 ap3 c1 c2 c3 o1 o2 o3
      have bY1 : Below y1.heap.size y1 (y1.alloc (.cells #[.string rs[i].1, .int .i64 (i : Int), .slice vx (us.length - k) vc] 30)) := (Below.refl _ _).alloc (Nat.le_refl _) _
      have hk300 : (us.take k).length ≤ 300 := by omega
      have kidUp : ∀ Y : World, Below wc.heap.size wc Y → KidOk Y (rs[i].1, (i : Int), .slice vx (us.length - k) vc) (OT.node g2 rs[i].1 (i : Int) (ts.drop k)) := fun Y hY => hkid.keep fun b hb => hY.block b (hkid.lt b hb)
      obtain ⟨v41, q1, f1, t1, gw1⟩ := join_push (U := y1.heap.size) (c1.below bY1) (kidUp _ (s1.trans (bY1.mono s1.size))) hnd (fun b hb => ⟨(hlowc b hb).1, fun e => by
        have h2 := (hlowc b hb).2
        rcases o1 b e with h | h
        · omega
        · have := h.1; simp at this; omega⟩) (blk_new y1 (.cells #[.string rs[i].1, .int .i64 (i : Int), .slice vx (us.length - k) vc] 30) rfl) hk300 (by have := s1.size; simp; omega)
      obtain ⟨v42, q2, f2, t2, gw2⟩ := join_push (U := wc.heap.size + 1) c2 (kidUp _ s2) hnd (fun b hb => ⟨(hlowc b hb).1, fun e => by
        have h2 := (hlowc b hb).2
        rcases o2 b e with h | h
        · omega
        · have := h.1; simp at this; omega⟩) u2 hk300 (by have := s2.size; omega)
      obtain ⟨v43, q3, f3, t3, gw3⟩ := join_push (U := wc.heap.size) c3 (kidUp _ s3) hnd (fun b hb => ⟨(hlowc b hb).1, fun e => by
        have h2 := (hlowc b hb).2
        rcases o3 b e with h | h
        · omega
        · have := h.1; simp at this; omega⟩) u3 hk300 (by have := s3.size; omega)
      have g1 := grown_low gw1 (s1.trans (bY1.mono s1.size)) (fun g hg => by
        rcases o1 g hg with h | h
        · omega
        · have := h.1; simp at this; omega)
      have g2' := grown_low gw2 s2 (fun g hg => by
        rcases o2 g hg with h | h
        · omega
        · have := h.1; simp at this; omega)
      have g3 := grown_low gw3 s3 (fun g hg => by
        rcases o3 g hg with h | h
        · omega
        · have := h.1; simp at this; omega)
      have hbwc : Below w.heap.size w wc := HBW2.out.trans (hbc.mono HBW2.out.size)
      have HTR : Hid ((ts.take k ++ [OT.node g2 rs[i].1 (i : Int) (ts.drop k)]).map OT.tr = (ts.map OT.tr).take k ++ [.node rs[i].1 (i : Int) ((ts.map OT.tr).drop k)]) := join_kids ts k g2 rs[i].1 (i : Int)
      have HJJ : Hid (joinT rs (ts.map OT.tr) (i : Int) = some ((ts.take k ++ [OT.node g2 rs[i].1 (i : Int) (ts.drop k)]).map OT.tr)) := by
        show _ = _
        rw [HTR.out, HJ.out, if_pos ⟨by rw [List.length_map, ← HLEN.out]; have := HK.out; omega, by rw [HSG.out, HEQ.out]⟩, List.length_map, ← HLEN.out, show us.length - rs[i].2.size = k from by have := HK.out; omega]
      have F1 : Hid (Below w.heap.size w q1 ∧ TreesW q1 B v41 (us.take k ++ [(rs[i].1, (i : Int), .slice vx (us.length - k) vc)]) (ts.take k ++ [OT.node g2 rs[i].1 (i : Int) (ts.drop k)])) := ⟨hbwc.trans (g1.mono hbwc.size), t1⟩
      have F2 : Hid (Below w.heap.size w q2 ∧ TreesW q2 B v42 (us.take k ++ [(rs[i].1, (i : Int), .slice vx (us.length - k) vc)]) (ts.take k ++ [OT.node g2 rs[i].1 (i : Int) (ts.drop k)])) := ⟨hbwc.trans (g2'.mono hbwc.size), t2⟩
      have F3 : Hid (Below w.heap.size w q3 ∧ TreesW q3 B v43 (us.take k ++ [(rs[i].1, (i : Int), .slice vx (us.length - k) vc)]) (ts.take k ++ [OT.node g2 rs[i].1 (i : Int) (ts.drop k)])) := ⟨hbwc.trans (g3.mono hbwc.size), t3⟩
      obtain ⟨n0, n1, n2, _, _, _⟩ := hbx.cells
      have hpl : p < wc.heap.size := hbx.lt
      have ka := keep3 n0 n1 n2 hpl bE
      have kb := keep3 n0 n1 n2 hpl bEU
      have kc := keep3 n0 n1 n2 hpl bU
      have kd := keep3 n0 n1 n2 hpl bUE
      have ke := keep3 n0 n1 n2 hpl s1
      have kf := keep3 n0 n1 n2 hpl s2
      have kg := keep3 n0 n1 n2 hpl s3
      have kh := keep3 n0 n1 n2 hpl (s1.trans (bY1.mono s1.size))
      have ki := keep3 n0 n1 n2 hpl g1
      have kj := keep3 n0 n1 n2 hpl g2'
      have kk := keep3 n0 n1 n2 hpl g3
      clear g1 g2' g3 hbwc t1 t2 t3 gw1 gw2 gw3 c1 c2 c3 o1 o2 o3 s1 s2 s3 u2 u3 on1 on2 on3 row1 row2 row3 kidUp cellUp hcaseT hkid hnd hlow hlowc hnotin hTc hbx hrowx hown hbc bE bEU bU bUE bY1 htl
      go_wp2_with fail
      go_region_held3 (fun w' => w'.cell? ⟨p, 0, none⟩ = some (.string rs[i].1) ∧ w'.cell? ⟨p, 1, none⟩ = some (.int .i64 (i : Int)) ∧ w'.cell? ⟨p, 2, none⟩ = some (.slice vx (us.length - k) vc))
        (first
          | go_keep
          | with_reducible exact ka
          | with_reducible exact kb
          | with_reducible exact kc
          | with_reducible exact kd
          | with_reducible exact ke
          | with_reducible exact kf
          | with_reducible exact kg
          | with_reducible exact kh
          | with_reducible exact ki
          | with_reducible exact kj
          | with_reducible exact kk
          | fail)
        (first
          | (refine step_appT rfl _ _ rfl rfl rfl rfl ap1 ?_)
          | (refine step_appT rfl _ _ rfl rfl rfl rfl ap2 ?_)
          | (refine step_appT rfl _ _ rfl rfl rfl rfl ap3 ?_)
          | (refine step_appT rfl _ _ rfl rfl rfl rfl f1 ?_)
          | (refine step_appT rfl _ _ rfl rfl rfl rfl f2 ?_)
          | (refine step_appT rfl _ _ rfl rfl rfl rfl f3 ?_)
          | fail)
      all_goals
        go_wp2_with fail
        first
          | exact bodyPost_ret (v := .tuple #[v41, .bool true]) (by simp [results, Try.results26, go_sem]) rfl ⟨F1.out.1, .inr ⟨_, _, _, HJJ.out, rfl, F1.out.2⟩⟩
          | exact bodyPost_ret (v := .tuple #[v42, .bool true]) (by simp [results, Try.results26, go_sem]) rfl ⟨F2.out.1, .inr ⟨_, _, _, HJJ.out, rfl, F2.out.2⟩⟩
          | exact bodyPost_ret (v := .tuple #[v43, .bool true]) (by simp [results, Try.results26, go_sem]) rfl ⟨F3.out.1, .inr ⟨_, _, _, HJJ.out, rfl, F3.out.2⟩⟩
end Go.Proofs.Ytcningdeocmbgaa
