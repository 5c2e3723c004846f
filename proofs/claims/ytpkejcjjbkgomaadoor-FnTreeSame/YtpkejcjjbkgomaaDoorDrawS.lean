/- Ground for the contract of the model's l3Any. -/
import Derived.Test.YtpkejcjjbkgomaaDoorDrawT
import Derived.Deep.Cut
import Derived.Deep.DeepCutAuto
namespace Go.Proofs.YtpkejcjjbkgomaaDoor
open Go.ChangeShapes Go.WideShapes Go.ChangeAt Go.RowKit Go.Deep
set_option maxRecDepth 100000
theorem BoxT.only {R : Nat} {w w' : World} {b : Nat} {v0 v1 v2 : Value} (h : BoxT w b v0 v1 v2) (ho : Only R w w') (hR : b ≠ R) : BoxT w' b v0 v1 v2 := (ho.block b h.lt hR).trans h
theorem GB2.only {R : Nat} {w w' : World} {b : Nat} {v0 v1 : Value} (h : GB2 w b v0 v1) (ho : Only R w w') (hR : b ≠ R) : GB2 w' b v0 v1 := (ho.block b h.lt hR).trans h
theorem BoxT.old {w : World} {b : Nat} {v0 v1 v2 : Value} (h : BoxT w b v0 v1 v2) (o : Obj) : BoxT (w.alloc o) b v0 v1 v2 := (blk_old _ _ h.lt).trans h
theorem GB2.old {w : World} {b : Nat} {v0 v1 : Value} (h : GB2 w b v0 v1) (o : Obj) : GB2 (w.alloc o) b v0 v1 := (blk_old _ _ h.lt).trans h
theorem RulesAt.only {R : Nat} {w w' : World} {b off : Nat} {rs : List RuleT} (h : RulesAt w (some ⟨b, off, none⟩) rs) (ho : Only R w w') (hR : b ≠ R) : RulesAt w' (some ⟨b, off, none⟩) rs := by
  refine ⟨h.1, fun i hi => ?_⟩
  obtain ⟨h1, h2, b', off', e, hlt, c1, c2⟩ := h.2 i hi
  simp only [Option.some.injEq, Addr.mk.injEq] at e
  obtain ⟨rfl, rfl, _⟩ := e
  exact ⟨h1, h2, b, off, rfl, Nat.lt_of_lt_of_le hlt ho.size, by rw [ho.cell hlt hR]; exact c1, by rw [ho.cell hlt hR]; exact c2⟩
theorem IntsAt.only {R : Nat} {w w' : World} {b off : Nat} {zs : List Int} (h : IntsAt w (some ⟨b, off, none⟩) zs) (ho : Only R w w') (hR : b ≠ R) : IntsAt w' (some ⟨b, off, none⟩) zs := by
  refine ⟨h.1, fun i hi => ?_⟩
  obtain ⟨b', off', e, hlt, c1⟩ := h.2 i hi
  simp only [Option.some.injEq, Addr.mk.injEq] at e
  obtain ⟨rfl, rfl, _⟩ := e
  exact ⟨b, off, rfl, Nat.lt_of_lt_of_le hlt ho.size, by rw [ho.cell hlt hR]; exact c1⟩
theorem BoxT.set3 {w : World} {b : Nat} {v0 v1 v2 : Value} (h : BoxT w b v0 v1 v2) (a0 a1 a2 : Value) : BoxT (((w.setCell ⟨b, 0, none⟩ a0).setCell ⟨b, 1, none⟩ a1).setCell ⟨b, 2, none⟩ a2) b a0 a1 a2 := by
  unfold BoxT at *; simp [World.setCell, Array.getElem?_modify, h]
/-- what l3Any holds behind its first half -/
structure AnyS (R k : Nat) (st : ByteArray) (b off cg : Nat) (rs : List RuleT) (w wx : World) : Prop where
  g : GB2 wx w.heap.size (.string st) (.slice (some ⟨b, off, none⟩) rs.length cg)
  z : BoxT wx (w.heap.size + 1) (.string ⟨#[]⟩) (.int .i64 0) (.slice none 0 0)
  u : RulesAt wx (some ⟨b, off, none⟩) rs
  r : Rdk wx R k
  o : Only R w wx
  s : w.heap.size + 2 ≤ wx.heap.size
theorem RulesAt.drewN {w : World} {a : Option Addr} {rs : List RuleT} (h : RulesAt w a rs) (n : Nat) : RulesAt (w.drewN n) a rs := h
theorem AnyS.drewN {R k : Nat} {st : ByteArray} {b off cg : Nat} {rs : List RuleT} {w wx : World} (h : AnyS R k st b off cg rs w wx) (n : Nat) : AnyS R k st b off cg rs w (wx.drewN n) := ⟨h.g, h.z, h.u, h.r, ⟨h.o.os, h.o.tape, h.o.output, h.o.size, h.o.block⟩, h.s⟩
theorem IntsAt.drewN {w : World} {a : Option Addr} {zs : List Int} (h : IntsAt w a zs) (n : Nat) : IntsAt (w.drewN n) a zs := h
theorem Rdk.same {w w' : World} {R k : Nat} (h : Rdk w R k) (hs : ∀ q, q ≤ R → w'.heap[q]? = w.heap[q]?) : Rdk w' R k := by
  obtain ⟨a, n, cap, p, h1, h2, h3, h4⟩ := h
  refine ⟨a, n, cap, p, (hs R (Nat.le_refl _)).trans h1, h2, h3, fun i hi => ?_⟩
  obtain ⟨b, off, x, e, hb, hc, hx⟩ := h4 i hi
  exact ⟨b, off, x, e, hb, by rw [cell_same (hs b (by omega))]; exact hc, hx⟩
theorem AnyS.move {R k : Nat} {st : ByteArray} {b off cg : Nat} {rs : List RuleT} {w wx wy : World} (h : AnyS R k st b off cg rs w wx) (hR : R < w.heap.size) (hb : b < w.heap.size) (hs : ∀ q, q < w.heap.size + 2 → wy.heap[q]? = wx.heap[q]?) (h1 : wy.os = wx.os) (h2 : wy.tape = wx.tape) (h3 : wy.output = wx.output) (h4 : wx.heap.size ≤ wy.heap.size) : AnyS R k st b off cg rs w wy := by
  refine ⟨(hs _ (by omega)).trans h.g, (hs _ (by omega)).trans h.z, ⟨h.u.1, fun i hi => ?_⟩, h.r.same (fun q hq => hs q (by omega)), ⟨h1.trans h.o.os, h2.trans h.o.tape, h3.trans h.o.output, Nat.le_trans h.o.size h4, fun q hq hqR => (hs q (by omega)).trans (h.o.block q hq hqR)⟩, Nat.le_trans h.s h4⟩
  obtain ⟨q1, q2, b', off', e, hlt, c1, c2⟩ := h.u.2 i hi
  simp only [Option.some.injEq, Addr.mk.injEq] at e
  obtain ⟨rfl, rfl, _⟩ := e
  exact ⟨q1, q2, b, off, rfl, Nat.lt_of_lt_of_le hlt h4, by rw [cell_same (hs b (by omega))]; exact c1, by rw [cell_same (hs b (by omega))]; exact c2⟩
theorem AnyS.only {R k k' : Nat} {st : ByteArray} {b off cg : Nat} {rs : List RuleT} {w wx wy : World} (h : AnyS R k st b off cg rs w wx) (hR : R < w.heap.size) (hbR : b ≠ R) (ho : Only R wx wy) (hr : Rdk wy R k') : AnyS R k' st b off cg rs w wy :=
  ⟨h.g.only ho (by omega), h.z.only ho (by omega), h.u.only ho hbR, hr, h.o.trans ho, Nat.le_trans h.s ho.size⟩
theorem AnyS.held {R k : Nat} {st : ByteArray} {b off cg : Nat} {rs : List RuleT} {w wx : World} (h : AnyS R k st b off cg rs w wx) {j : Nat} (hj : j < rs.length) : wx.cell? ⟨w.heap.size, 0, none⟩ = some (.string st) ∧ wx.cell? ⟨w.heap.size, 1, none⟩ = some (.slice (some ⟨b, off, none⟩) rs.length cg) ∧ wx.cell? ⟨b, off + j * 2 + 1, none⟩ = some (.string rs[j].2) := by
  obtain ⟨_, _, b', off', e, _, _, c2⟩ := h.u.2 j hj
  simp only [Option.some.injEq, Addr.mk.injEq] at e
  obtain ⟨rfl, rfl, _⟩ := e
  exact ⟨h.g.cells.1, h.g.cells.2, c2⟩
theorem AnyS.old {R k : Nat} {st : ByteArray} {b off cg : Nat} {rs : List RuleT} {w wx : World} (h : AnyS R k st b off cg rs w wx) (hR : R < w.heap.size) (hb : b < w.heap.size) (o : Obj) : AnyS R k st b off cg rs w (wx.alloc o) := h.move hR hb (fun q hq => blk_old _ _ (by have := h.s; omega)) rfl rfl rfl (by simp)
theorem AnyS.put {R k : Nat} {st : ByteArray} {b off cg : Nat} {rs : List RuleT} {w wx : World} (h : AnyS R k st b off cg rs w wx) (hR : R < w.heap.size) (hb : b < w.heap.size) {C : Nat} (hC : w.heap.size + 2 ≤ C) (i : Nat) (x : Value) : AnyS R k st b off cg rs w (wx.setCell ⟨C, i, none⟩ x) := h.move hR hb (fun q hq => Below.heap_setCell _ _ _ _ (by show q ≠ C; omega)) rfl rfl rfl (by simp)
/-- behind i kids -/
def KidRel (R k t C : Nat) (st : ByteArray) (b off cg : Nat) (rs : List RuleT) (w : World) (sg : ByteArray) (j i : Nat) (wr : World) : Prop := ∃ v us ks, BoxT wr C (.string sg) (.int .i64 (j : Int)) v ∧ isSl v ∧ KidsQ wr (C + 1) (fun q => C + 1 ≤ q ∧ v.ownBlock ≠ some q) v us ks ∧ us.length = i ∧ (∀ T ∈ ks, T.sz ≤ t ∧ T.wt ≤ 1 + 2 * (T.sz - 1)) ∧ AnyS R (k + i * t) st b off cg rs w wr
theorem KidsQ.ne {w : World} {B : Nat} {A : Nat → Prop} {v : Value} {us : List Kid} {ks : List Tr} (H : KidsQ w B A v us ks) {C : Nat} (hC : C < B) : v.ownBlock ≠ some C := fun e => by
  rcases H.row.2 with ⟨h, _⟩ | ⟨g, cap, cur, h, hg, _⟩
  · rw [h] at e; cases e
  · rw [h] at e; simp [Value.ownBlock] at e; omega
theorem BoxT.set2 {w : World} {b : Nat} {v0 v1 v2 : Value} (h : BoxT w b v0 v1 v2) (a2 : Value) : BoxT (w.setCell ⟨b, 2, none⟩ a2) b v0 v1 a2 := by
  unfold BoxT at *; simp [World.setCell, Array.getElem?_modify, h]
/-- one kid more -/
theorem KidRel.more {R k t C : Nat} {st : ByteArray} {b off cg : Nat} {rs : List RuleT} {w : World} {sg : ByteArray} {j : Nat} {wa w6 : World} {v : Value} {us : List Kid} {ks : List Tr} {u : Kid} {T : Tr} {g6 cap6 : Nat} {o : Obj} (hR : R < w.heap.size) (hb : b < w.heap.size) (hC : w.heap.size + 2 ≤ C)
    (hbx : BoxT wa C (.string sg) (.int .i64 (j : Int)) v) (hK : KidsQ wa (C + 1) (fun q => C + 1 ≤ q ∧ v.ownBlock ≠ some q) v us ks) (hS : AnyS R (k + (us.length + 1) * t) st b off cg rs w wa) (hu : TrQ wa (fun q => C + 1 ≤ q ∧ v.ownBlock ≠ some q) (kidVal u) T) (hT : T.sz ≤ t ∧ T.wt ≤ 1 + 2 * (T.sz - 1)) (hks : ∀ T ∈ ks, T.sz ≤ t ∧ T.wt ≤ 1 + 2 * (T.sz - 1))
    (hrow : w6.ownsRow (C + 1) 29 3 (.slice (some ⟨g6, 0, none⟩) (us.length + 1) cap6) (us.length + 1) (flatK (us ++ [u]))) (hg : (wa.alloc o).grownBy w6 v.ownBlock) (hat : (Value.slice (some ⟨g6, 0, none⟩) (us.length + 1) cap6).ownBlock = v.ownBlock ∨ (Value.slice (some ⟨g6, 0, none⟩) (us.length + 1) cap6).ownBlock = some (wa.alloc o).heap.size) :
    KidRel R k t C st b off cg rs w sg j (us.length + 1) (w6.setCell ⟨C, 2, none⟩ (.slice (some ⟨g6, 0, none⟩) (us.length + 1) cap6)) := by
  have hCl := hbx.lt
  have hnC := hK.ne (Nat.lt_succ_self C)
  have hsz := hg.size
  simp only [World.size_alloc] at hsz
  have same : ∀ q, q < wa.heap.size → v.ownBlock ≠ some q → w6.heap[q]? = wa.heap[q]? := fun q hq hv => (hg.block q (by simp; omega) (fun e => hv e.symm)).trans (blk_old _ _ hq)
  have hb6 : BoxT w6 C (.string sg) (.int .i64 (j : Int)) v := (same C hCl hnC).trans hbx
  have hKa : KidsQ (wa.alloc o) (C + 1) (fun q => C + 1 ≤ q ∧ v.ownBlock ≠ some q) v us ks := hK.stay (fun q _ hq => blk_old _ _ hq)
  have hua : TrQ (wa.alloc o) (fun q => C + 1 ≤ q ∧ v.ownBlock ≠ some q) (kidVal u) T := hu.stay (fun q _ hq => blk_old _ _ hq)
  have hK6 := hKa.grown hua hrow hg hat (Nat.le_refl _)
  refine ⟨_, us ++ [u], ks ++ [T], hb6.set2 _, ⟨_, _, _, rfl⟩, hK6.stay (fun q hq _ => Below.heap_setCell _ _ _ _ (by show q ≠ C; omega)), by simp, fun X hX => ?_, ?_⟩
  · rcases List.mem_append.1 hX with h | h
    · exact hks X h
    · have : X = T := by simpa using h
      rw [this]; exact hT
  · exact hS.move hR hb (fun q hq => (Below.heap_setCell _ _ _ _ (by show q ≠ C; omega)).trans (same q (by omega) (hK.ne (by omega)))) hg.os hg.tape hg.output (by simp; omega)
theorem wf_all : ∀ j : Fin 101, (Lit.int .i64 ((j.val : Nat) : Int)).wf = true := by decide +kernel
theorem wf_small {j : Nat} (h : j ≤ 100) : (Lit.int .i64 (j : Int)).wf = true := wf_all ⟨j, by omega⟩
theorem kids_sum {t : Nat} : ∀ (ks : List Tr), (∀ T ∈ ks, T.sz ≤ t ∧ T.wt ≤ 1 + 2 * (T.sz - 1)) → (ks.map Tr.sz).sum ≤ ks.length * t ∧ (ks.map Tr.wt).sum + ks.length ≤ 2 * (ks.map Tr.sz).sum
  | [], _ => by simp
  | x :: xs, h => by
    have h1 := h x (List.mem_cons_self ..)
    obtain ⟨h2, h3⟩ := kids_sum xs (fun T hT => h T (List.mem_cons_of_mem _ hT))
    have hp : 1 ≤ x.sz := by cases x; rw [Tr.sz]; omega
    simp only [List.map_cons, List.sum_cons, List.length_cons, Nat.add_mul, Nat.one_mul]
    omega
/-- all kids are there -/
theorem KidRel.done {R k dd C : Nat} {st : ByteArray} {b off cg : Nat} {rs : List RuleT} {w wr : World} {sg : ByteArray} {j n : Nat} {v : Value} {us : List Kid} {ks : List Tr} (hR : R < w.heap.size) (hC : w.heap.size + 2 ≤ C) (hsg : sg.size ≤ maxLen) (hj : j ≤ 100) (hn : n ≤ 5)
    (hK : KidsQ wr (C + 1) (fun q => C + 1 ≤ q ∧ v.ownBlock ≠ some q) v us ks) (hul : us.length = n) (hsl : isSl v) (hks : ∀ T ∈ ks, T.sz ≤ tmost dd ∧ T.wt ≤ 1 + 2 * (T.sz - 1)) (S : AnyS R (k + 1 + n * tmost dd) st b off cg rs w wr) :
    DrawnT R k (dd + 1) sg w (.returned (.agg #[.string sg, .int .i64 (j : Int), v])) (((wr.setCell ⟨w.heap.size + 1, 0, none⟩ (.string sg)).setCell ⟨w.heap.size + 1, 1, none⟩ (.int .i64 (j : Int))).setCell ⟨w.heap.size + 1, 2, none⟩ v) := by
  obtain ⟨s1, s2⟩ := kids_sum ks hks
  have hl := hK.len
  have hmul : ks.length * tmost dd ≤ 5 * tmost dd := Nat.mul_le_mul_right _ (by omega)
  have hmul2 : n * tmost dd ≤ 5 * tmost dd := Nat.mul_le_mul_right _ hn
  have hQ : KidsQ wr (C + 1) (fun q => C + 1 ≤ q) v us ks := ⟨hK.row, hK.len, fun i hi => (hK.kid i hi).mono (fun q hq _ => hq.1)⟩
  have hT := TrQ.make (s := sg) (r := (j : Int)) hsg (wf_small hj) hQ (fun q hq => hq)
  refine ⟨_, .node sg (j : Int) ks, rfl, ?_, rfl, ?_, ?_, ?_, ?_, (j : Int), v, us, ks, rfl, rfl, wf_small hj, hsl, by omega, ?_⟩
  · refine TrQ.mono (TrQ.stay hT (fun q hq _ => ?_)) (fun q hq _ => by omega)
    rw [Below.heap_setCell _ _ _ _ (by show q ≠ w.heap.size + 1; omega), Below.heap_setCell _ _ _ _ (by show q ≠ w.heap.size + 1; omega), Below.heap_setCell _ _ _ _ (by show q ≠ w.heap.size + 1; omega)]
  · rw [Tr.sz, tmost]; omega
  · rw [Tr.sz, Tr.wt]; omega
  · have hr := ((S.r.other (p := ⟨w.heap.size + 1, 0, none⟩) (by show R < w.heap.size + 1; omega) (.string sg)).other (p := ⟨w.heap.size + 1, 1, none⟩) (by show R < w.heap.size + 1; omega) (.int .i64 (j : Int))).other (p := ⟨w.heap.size + 1, 2, none⟩) (by show R < w.heap.size + 1; omega) v
    exact hr.mono (by rw [tmost]; omega)
  · exact ((S.o.store (Nat.le_refl _) (p := ⟨w.heap.size + 1, 0, none⟩) (Nat.le_succ _) (.string sg)).store (Nat.le_refl _) (p := ⟨w.heap.size + 1, 1, none⟩) (Nat.le_succ _) (.int .i64 (j : Int))).store (Nat.le_refl _) (p := ⟨w.heap.size + 1, 2, none⟩) (Nat.le_succ _) v
  · have hK2 := hK.stay (w' := ((wr.setCell ⟨w.heap.size + 1, 0, none⟩ (.string sg)).setCell ⟨w.heap.size + 1, 1, none⟩ (.int .i64 (j : Int))).setCell ⟨w.heap.size + 1, 2, none⟩ v) (fun q hq _ => by
      rw [Below.heap_setCell _ _ _ _ (by show q ≠ w.heap.size + 1; omega), Below.heap_setCell _ _ _ _ (by show q ≠ w.heap.size + 1; omega), Below.heap_setCell _ _ _ _ (by show q ≠ w.heap.size + 1; omega)])
    refine ⟨⟨hK2.row.1, ?_⟩, hK2.len, fun i hi => (hK2.kid i hi).mono (fun q hq _ => ⟨by omega, hq.2⟩)⟩
    rcases hK2.row.2 with h | ⟨g, cap, cur, e, h1, h2⟩
    · exact .inl h
    · exact .inr ⟨g, cap, cur, e, by omega, h2⟩
end Go.Proofs.YtpkejcjjbkgomaaDoor
