/- What l3Some holds; the model's l3Some; the draws of rules and a tree: DrawTreeOk, l3Tree, DrawTreeYield, DrawTreeRules. -/
import Derived.Test.YtpkejcjjbkgomaaDoorDrawU
import Derived.Test.YtpkejcjjbkgomaaDoorDrawH
import Derived.Deep.Cut
import Derived.Deep.RegionHeld3
namespace Go.Proofs.YtpkejcjjbkgomaaDoor
open Go.ChangeShapes Go.WideShapes Go.ChangeAt Go.RowKit Go.Deep
set_option maxRecDepth 100000
set_option linter.unusedVariables false
structure SomeW (R k : Nat) (st : ByteArray) (b off cap : Nat) (rs : List RuleT) (G : Nat) (w wx : World) : Prop where
  z1 : GB2 wx w.heap.size (.string ⟨#[]⟩) (.slice none 0 0)
  z2 : BoxT wx (w.heap.size + 1) (.string ⟨#[]⟩) (.int .i64 0) (.slice none 0 0)
  r : Rdk wx R k
  o : Only R w wx
  g : GB2 wx G (.string st) (.slice (some ⟨b, off, none⟩) rs.length cap)
  u : RulesAt wx (some ⟨b, off, none⟩) rs
  lo : w.heap.size + 2 ≤ G
  bl : w.heap.size + 2 ≤ b
  hR : R < w.heap.size
  bG : 0 < rs.length → b < G
theorem SomeW.lt {R k : Nat} {st : ByteArray} {b off cap : Nat} {rs : List RuleT} {G : Nat} {w wx : World} (h : SomeW R k st b off cap rs G w wx) : G < wx.heap.size := h.g.lt
theorem SomeW.only {R k k' : Nat} {st : ByteArray} {b off cap : Nat} {rs : List RuleT} {G : Nat} {w wx wy : World} (h : SomeW R k st b off cap rs G w wx) (ho : Only R wx wy) (hr : Rdk wy R k') : SomeW R k' st b off cap rs G w wy := by
  have := h.lo; have := h.bl; have := h.hR
  exact ⟨h.z1.only ho (by omega), h.z2.only ho (by omega), hr, h.o.trans ho, h.g.only ho (by omega), h.u.only ho (by omega), h.lo, h.bl, h.hR, h.bG⟩
theorem SomeW.mono {R k k' : Nat} {st : ByteArray} {b off cap : Nat} {rs : List RuleT} {G : Nat} {w wx : World} (h : SomeW R k st b off cap rs G w wx) (hk : k ≤ k') : SomeW R k' st b off cap rs G w wx :=
  ⟨h.z1, h.z2, h.r.mono hk, h.o, h.g, h.u, h.lo, h.bl, h.hR, h.bG⟩
theorem SomeW.move {R k : Nat} {st : ByteArray} {b off cap : Nat} {rs : List RuleT} {G : Nat} {w wx wy : World} (h : SomeW R k st b off cap rs G w wx) (hs : ∀ q, q ≤ G → wy.heap[q]? = wx.heap[q]?) (h1 : wy.os = wx.os) (h2 : wy.tape = wx.tape) (h3 : wy.output = wx.output) (h4 : wx.heap.size ≤ wy.heap.size) : SomeW R k st b off cap rs G w wy := by
  have := h.lo; have := h.bl; have := h.hR; have hbG := h.bG
  refine ⟨(hs _ (by omega)).trans h.z1, (hs _ (by omega)).trans h.z2, h.r.same (fun q hq => hs q (by omega)), ⟨h1.trans h.o.os, h2.trans h.o.tape, h3.trans h.o.output, Nat.le_trans h.o.size h4, fun q hq hqR => (hs q (by omega)).trans (h.o.block q hq hqR)⟩, (hs _ (by omega)).trans h.g, ⟨h.u.1, fun i hi => ?_⟩, h.lo, h.bl, h.hR, h.bG⟩
  obtain ⟨q1, q2, b', off', e, hlt, c1, c2⟩ := h.u.2 i hi
  simp only [Option.some.injEq, Addr.mk.injEq] at e
  obtain ⟨rfl, rfl, _⟩ := e
  have hbG' := hbG (by omega)
  exact ⟨q1, q2, b, off, rfl, Nat.lt_of_lt_of_le hlt h4, by rw [cell_same (hs b (by omega))]; exact c1, by rw [cell_same (hs b (by omega))]; exact c2⟩
theorem SomeW.old {R k : Nat} {st : ByteArray} {b off cap : Nat} {rs : List RuleT} {G : Nat} {w wx : World} (h : SomeW R k st b off cap rs G w wx) (o : Obj) : SomeW R k st b off cap rs G w (wx.alloc o) :=
  h.move (fun q hq => blk_old _ _ (by have := h.lt; omega)) rfl rfl rfl (by simp)
theorem SomeW.put {R k : Nat} {st : ByteArray} {b off cap : Nat} {rs : List RuleT} {G : Nat} {w wx : World} (h : SomeW R k st b off cap rs G w wx) {C : Nat} (hC : G < C) (i : Nat) (x : Value) : SomeW R k st b off cap rs G w (wx.setCell ⟨C, i, none⟩ x) :=
  h.move (fun q hq => Below.heap_setCell _ _ _ _ (by show q ≠ C; omega)) rfl rfl rfl (by simp)
theorem SomeW.drewN {R k : Nat} {st : ByteArray} {b off cap : Nat} {rs : List RuleT} {G : Nat} {w wx : World} (h : SomeW R k st b off cap rs G w wx) (n : Nat) : SomeW R k st b off cap rs G w (wx.drewN n) :=
  h.move (fun _ _ => rfl) rfl rfl rfl (Nat.le_refl _)
theorem SomeW.drew {R k : Nat} {st : ByteArray} {b off cap : Nat} {rs : List RuleT} {G : Nat} {w wx : World} (h : SomeW R k st b off cap rs G w wx) : SomeW R k st b off cap rs G w wx.drew :=
  h.move (fun _ _ => rfl) rfl rfl rfl (Nat.le_refl _)
/-- a tree in the box C: its kids lie in a row of the call's own, in blocks other than C -/
structure TopC (wx : World) (B C : Nat) (sg : ByteArray) (r : Int) (v : Value) (us : List Kid) (ks : List Tr) : Prop where
  box : BoxT wx C (.string sg) (.int .i64 r) v
  row : wx.ownsRow B 29 3 v us.length (flatK us)
  len : us.length = ks.length
  kid : ∀ j (h : j < us.length), TrQ wx (fun q => B ≤ q ∧ q ≠ C ∧ v.ownBlock ≠ some q) (kidVal us[j]) (ks[j]'(by rw [← len]; exact h))
  sl : isSl v
  few : us.length ≤ 6
  ne : v.ownBlock ≠ some C
  wf : (Lit.int .i64 r).wf = true
  ssz : sg.size ≤ 100
theorem ownsRow_stay {w w' : World} {B : Nat} {T : TypeId} {n : Nat} {v : Value} {m : Nat} {xs : List Value} (h : w.ownsRow B T n v m xs) (hb : ∀ k, v.ownBlock = some k → w'.heap[k]? = w.heap[k]?) : w'.ownsRow B T n v m xs := by
  refine ⟨h.1, ?_⟩
  rcases h.2 with h | ⟨g, cap, cur, e, h1, h2, h3⟩
  · exact .inl h
  · exact .inr ⟨g, cap, cur, e, h1, (hb g (by rw [e]; rfl)).trans h2, h3⟩
theorem TopC.stay {wx wy : World} {B C : Nat} {sg : ByteArray} {r : Int} {v : Value} {us : List Kid} {ks : List Tr} (h : TopC wx B C sg r v us ks) (hb : ∀ k, k = C ∨ B ≤ k → k < wx.heap.size → wy.heap[k]? = wx.heap[k]?) : TopC wy B C sg r v us ks :=
  ⟨(hb C (Or.inl rfl) h.box.lt).trans h.box, ownsRow_stay h.row (fun k hk => hb k (Or.inr (h.row.lt k hk).1) (h.row.lt k hk).2), h.len, fun j hj => (h.kid j hj).stay (fun k hk hlt => hb k (Or.inr hk.1) hlt), h.sl, h.few, h.ne, h.wf, h.ssz⟩
theorem TopC.boxed {wx wy : World} {B C : Nat} {sg sg' : ByteArray} {r r' : Int} {v : Value} {us : List Kid} {ks : List Tr} (h : TopC wx B C sg r v us ks) (hbox : BoxT wy C (.string sg') (.int .i64 r') v) (hb : ∀ k, k ≠ C → k < wx.heap.size → wy.heap[k]? = wx.heap[k]?) (hw : (Lit.int .i64 r').wf = true) (hs : sg'.size ≤ 100) : TopC wy B C sg' r' v us ks :=
  ⟨hbox, ownsRow_stay h.row (fun k hk => hb k (fun e => h.ne (e ▸ hk)) (h.row.lt k hk).2), h.len, fun j hj => (h.kid j hj).stay (fun k hk hlt => hb k hk.2.1 hlt), h.sl, h.few, h.ne, hw, hs⟩
theorem TopC.tree {wx : World} {B C B0 : Nat} {sg : ByteArray} {r : Int} {v : Value} {us : List Kid} {ks : List Tr} (h : TopC wx B C sg r v us ks) (hB : B0 ≤ B) : TrP wx B0 (.agg #[.string sg, .int .i64 r, v]) (.node sg r ks) := by
  have hq : KidsQ wx B (fun k => B0 ≤ k) v us ks := ⟨h.row, h.len, fun j hj => (h.kid j hj).mono (fun k hk _ => Nat.le_trans hB hk.1)⟩
  exact TrQ.make (by have := h.ssz; unfold maxLen; omega) h.wf hq (fun k hk => Nat.le_trans hB hk)
/-- a drawn tree is laid into a box that was made before -/
theorem OwnTop.boxed {w7 wy : World} {B C : Nat} {sg : ByteArray} {u : Value} {T : Tr} (h : OwnTop w7 B sg u T) (hC : C < B ∨ w7.heap.size ≤ C) (hs : sg.size ≤ 100)
    (hy : ∀ r v, u = .agg #[.string sg, .int .i64 r, v] → BoxT wy C (.string sg) (.int .i64 r) v) (hb : ∀ k, B ≤ k → k ≠ C → k < w7.heap.size → wy.heap[k]? = w7.heap[k]?) :
    ∃ r v us ks, u = .agg #[.string sg, .int .i64 r, v] ∧ T = .node sg r ks ∧ us.length ≤ 5 ∧ TopC wy B C sg r v us ks := by
  obtain ⟨r, v, us, ks, e, hT, hw, hsl, hl, H⟩ := h
  have hne : v.ownBlock ≠ some C := fun e => by
    have := H.row.lt C e
    omega
  refine ⟨r, v, us, ks, e, hT, hl, hy r v e, ownsRow_stay H.row (fun k hk => hb k (H.row.lt k hk).1 (fun e => hne (e ▸ hk)) (H.row.lt k hk).2), H.len, fun j hj => ?_, hsl, by omega, hne, hw, hs⟩
  have h1 := (H.kid j hj).mono (A' := fun q => B ≤ q ∧ q ≠ C ∧ v.ownBlock ≠ some q) (fun k hk hlt => ⟨hk.1, by omega, hk.2⟩)
  exact h1.stay (fun k hk hlt => hb k hk.1 hk.2.1 hlt)
theorem tmost_mono : ∀ {d : Nat}, d ≤ 8 → tmost d ≤ tmost 8 := by
  intro d h
  have : d = 0 ∨ d = 1 ∨ d = 2 ∨ d = 3 ∨ d = 4 ∨ d = 5 ∨ d = 6 ∨ d = 7 ∨ d = 8 := by omega
  rcases this with rfl | rfl | rfl | rfl | rfl | rfl | rfl | rfl | rfl <;> decide
theorem TopC.only {R : Nat} {wx wy : World} {B C : Nat} {sg : ByteArray} {r : Int} {v : Value} {us : List Kid} {ks : List Tr} (h : TopC wx B C sg r v us ks) (ho : Only R wx wy) (hC : R < C) (hB : R < B) : TopC wy B C sg r v us ks :=
  h.stay (fun k hk hlt => ho.block k hlt (by omega))
theorem TopC.old {wx : World} {B C : Nat} {sg : ByteArray} {r : Int} {v : Value} {us : List Kid} {ks : List Tr} (h : TopC wx B C sg r v us ks) (o : Obj) : TopC (wx.alloc o) B C sg r v us ks :=
  h.stay (fun k _ hlt => blk_old _ _ hlt)
theorem BoxT.put0 {w : World} {b : Nat} {v0 v1 v2 : Value} (h : BoxT w b v0 v1 v2) (a : Value) : BoxT (w.setCell ⟨b, 0, none⟩ a) b a v1 v2 := by
  unfold BoxT at *; simp [World.setCell, Array.getElem?_modify, h]
theorem BoxT.put1 {w : World} {b : Nat} {v0 v1 v2 : Value} (h : BoxT w b v0 v1 v2) (a : Value) : BoxT (w.setCell ⟨b, 1, none⟩ a) b v0 a v2 := by
  unfold BoxT at *; simp [World.setCell, Array.getElem?_modify, h]
theorem TopC.rule {wx : World} {B C : Nat} {sg : ByteArray} {r r' : Int} {v : Value} {us : List Kid} {ks : List Tr} (h : TopC wx B C sg r v us ks) (hw : (Lit.int .i64 r').wf = true) : TopC (wx.setCell ⟨C, 1, none⟩ (.int .i64 r')) B C sg r' v us ks :=
  h.boxed (h.box.put1 _) (fun k hk _ => Below.heap_setCell _ _ _ _ hk) hw h.ssz
theorem TopC.sign {wx : World} {B C : Nat} {sg sg' : ByteArray} {r : Int} {v : Value} {us : List Kid} {ks : List Tr} (h : TopC wx B C sg r v us ks) (hs : sg'.size ≤ 100) : TopC (wx.setCell ⟨C, 0, none⟩ (.string sg')) B C sg' r v us ks :=
  h.boxed (h.box.put0 _) (fun k hk _ => Below.heap_setCell _ _ _ _ hk) h.wf hs
/-- one kid more -/
theorem TopC.more {wx wy : World} {B C : Nat} {sg : ByteArray} {r : Int} {v v' : Value} {us : List Kid} {ks : List Tr} {u : Kid} {T : Tr} (h : TopC wx B C sg r v us ks) (h5 : us.length ≤ 5) (hsl : isSl v')
    (hrow : wy.ownsRow B 29 3 v' (us.length + 1) (flatK (us ++ [u]))) (hg : wx.grownBy wy v.ownBlock) (hat : v'.ownBlock = v.ownBlock ∨ v'.ownBlock = some wx.heap.size) (hu : ∀ A, TrQ wy A (kidVal u) T) :
    TopC (wy.setCell ⟨C, 2, none⟩ v') B C sg r v' (us ++ [u]) (ks ++ [T]) := by
  have hCl := h.box.lt
  have hne : v'.ownBlock ≠ some C := fun e => by
    rcases hat with h1 | h1
    · exact h.ne (h1 ▸ e)
    · rw [h1] at e; simp at e; omega
  have hst : ∀ k, k ≠ C → (wy.setCell ⟨C, 2, none⟩ v').heap[k]? = wy.heap[k]? := fun k hk => Below.heap_setCell _ _ _ _ hk
  have hbox : BoxT wy C (.string sg) (.int .i64 r) v := (hg.block C hCl (fun e => h.ne e.symm)).trans h.box
  refine ⟨hbox.set2 v', by rw [List.length_append]; exact ownsRow_stay hrow (fun k hk => hst k (fun e => hne (e ▸ hk))), by simp [h.len], fun j hj => ?_, hsl, by simp; omega, hne, h.wf, h.ssz⟩
  have hmove : ∀ x X, TrQ wx (fun q => B ≤ q ∧ q ≠ C ∧ v.ownBlock ≠ some q) x X → TrQ (wy.setCell ⟨C, 2, none⟩ v') (fun q => B ≤ q ∧ q ≠ C ∧ v'.ownBlock ≠ some q) x X := fun x X hx => by
    have h1 := hx.mono (A' := fun q => (B ≤ q ∧ q ≠ C ∧ v.ownBlock ≠ some q) ∧ v'.ownBlock ≠ some q) (fun k hk hlt => ⟨hk, fun e => by
      rcases hat with h | h
      · exact hk.2.2 (h ▸ e)
      · rw [h] at e; simp at e; omega⟩)
    exact (h1.stay (fun k hk hlt => (hst k hk.1.2.1).trans (hg.block k hlt (fun e => hk.1.2.2 e.symm)))).mono (fun k hk _ => ⟨hk.1.1, hk.1.2.1, hk.2⟩)
  by_cases hlt : j < us.length
  · have hk : j < ks.length := by rw [← h.len]; exact hlt
    rw [List.getElem_append_left hlt, List.getElem_append_left hk]
    exact hmove _ _ (h.kid j hlt)
  · have e : j = us.length := by simp at hj; omega
    subst e
    have e2 := h.len
    simp only [List.getElem_concat_length, e2]
    exact (hu (fun q => B ≤ q ∧ q ≠ C ∧ v'.ownBlock ≠ some q ∧ q ≠ C)).stay (fun k hk _ => hst k hk.2.1) |>.mono (fun k hk _ => ⟨hk.1, hk.2.1, hk.2.2.1⟩)
/-- drawn rules and a drawn tree -/
def SomeS (w : World) (gv tv : Value) (w' : World) : Prop := ∃ st rs T, GramVal w' w.heap.size 14 gv st rs ∧ TrP w' w.heap.size tv T ∧ T.sz ≤ 488290 ∧ T.wt ≤ 1048576
def DrawnGT (R k : Nat) (w : World) (e : Ending) (w' : World) : Prop := ∃ gv tv, e = .returned (.tuple #[gv, tv]) ∧ SomeS w gv tv w' ∧ Rdk w' R k ∧ Only R w w'
theorem some_end {R k : Nat} {st : ByteArray} {b off cap : Nat} {rs : List RuleT} {B C : Nat} {w wz wy : World} {sg : ByteArray} {r : Int} {v : Value} {us : List Kid} {ks : List Tr} (hR : R < w.heap.size) (HRk : Rdk wz R k) (hk : k ≤ 900000) (o : Only R w wz) (u : RulesAt wz (some ⟨b, off, none⟩) rs) (bl : w.heap.size + 2 ≤ b)
    (hcap : rs.length ≤ cap) (hl : rs.length ≤ 14) (hst : st.size ≤ 100) (hS : SmallR rs) (HT : TopC wz B C sg r v us ks) (hB : w.heap.size + 2 ≤ B) (hsz : (Tr.node sg r ks).sz ≤ 488290) (hwt : (Tr.node sg r ks).wt ≤ 1048576)
    (hy : ∀ q, q ≠ w.heap.size → q ≠ w.heap.size + 1 → wy.heap[q]? = wz.heap[q]?) (h1 : wy.os = wz.os) (h2 : wy.tape = wz.tape) (h3 : wy.output = wz.output) (h4 : wz.heap.size ≤ wy.heap.size) :
    DrawnGT R 900000 w (.returned (.tuple #[.agg #[.string st, .slice (some ⟨b, off, none⟩) rs.length cap], .agg #[.string sg, .int .i64 r, v]])) wy := by
  have ht := (HT.tree hB).stay (w' := wy) (fun k hk _ => hy k (by omega) (by omega))
  refine ⟨_, _, rfl, ⟨st, rs, .node sg r ks, ⟨b, off, cap, rfl, hcap, ⟨u.1, fun i hi => ?_⟩, hl, hst, hS, by omega⟩, ht.mono (by omega), hsz, hwt⟩, (HRk.same (fun q hq => hy q (by omega) (by omega))).mono hk, ⟨h1.trans o.os, h2.trans o.tape, h3.trans o.output, Nat.le_trans o.size h4, fun q hq hqR => (hy q (by omega) (by omega)).trans (o.block q hq hqR)⟩⟩
  obtain ⟨q1, q2, b', off', e, hlt, c1, c2⟩ := u.2 i hi
  simp only [Option.some.injEq, Addr.mk.injEq] at e
  obtain ⟨rfl, rfl, _⟩ := e
  exact ⟨q1, q2, b, off, rfl, Nat.lt_of_lt_of_le hlt h4, by rw [cell_same (hy b (by omega) (by omega))]; exact c1, by rw [cell_same (hy b (by omega) (by omega))]; exact c2⟩
/-- an append of a leaf -/
theorem list_append_leaf {ops : Array Oper} {rest : List Oper} {o : Oper} {a : Act} {w : World} {Q : Exit → Act → World → Prop} (hgd : o.guard = none) (s x : Operand)
    (ho : o.op = .call { callee := .builtin .append, args := #[s, x], argTypes := #[27, 27] })
    (B C : Nat) (sg : ByteArray) (r : Int) (v : Value) (us : List Kid) (ks : List Tr) (sl : ByteArray) (z : Int) (nb : Nat) (hs : a.eval s = v) (hx : a.eval x = .slice (some ⟨nb, 0, none⟩) 1 1) (H : TopC w B C sg r v us ks) (hB : B ≤ w.heap.size) (hnb : w.heap[nb]? = some (.cells #[.string sl, .int .i64 z, .slice none 0 0] 29))
    (h : ∀ g cap w', w'.ownsRow B 29 3 (.slice (some ⟨g, 0, none⟩) (us.length + 1) cap) (us.length + 1) (flatK (us ++ [(sl, z, .slice none 0 0)])) → w.grownBy w' v.ownBlock → ((Value.slice (some ⟨g, 0, none⟩) (us.length + 1) cap).ownBlock = v.ownBlock ∨ (Value.slice (some ⟨g, 0, none⟩) (us.length + 1) cap).ownBlock = some w.heap.size) → wpList Tryd.prog ops Q rest (a.put o.dst (.slice (some ⟨g, 0, none⟩) (us.length + 1) cap)) w') :
    wpList Tryd.prog ops Q (o :: rest) a w := by
  obtain ⟨i0, hi0, hzz⟩ := Option.map_eq_some_iff.1 infoTree3
  simp only [Prod.mk.injEq] at hzz
  obtain ⟨hz0, hz1, hz2⟩ := hzz
  have hlen := H.few
  refine wpList_append_own_at w hgd s x 27 ho B 29 i0 _ 3 48 Tryd.underlying27 hi0 hz0 hz1 hz2 rfl (by decide) v us.length (flatK us) hs H.row ⟨nb, 0, none⟩ 1 1 [.string sl, .int .i64 z, .slice none 0 0] hx rfl (fun j y hj => by
      rw [WideShapes.add_plain]
      match j, hj with
      | 0, hj => rw [cell_of_block hnb]; simpa using hj
      | 1, hj => rw [cell_of_block hnb]; simpa using hj
      | 2, hj => rw [cell_of_block hnb]; simpa using hj) (fun y hy => by
      simp only [List.mem_cons, List.not_mem_nil, or_false] at hy
      rcases hy with rfl | rfl | rfl <;> rfl) (by unfold maxLen; omega) (by omega) hB ?_
  intro v' w' h1 h2 h3 h4
  have h1' : w'.ownsRow B 29 3 v' (us.length + 1) (flatK (us ++ [(sl, z, .slice none 0 0)])) := by rw [flatK_snoc]; exact h1
  rcases h1'.2 with ⟨_, h0⟩ | ⟨g, cap, cur, rfl, hrest⟩
  · omega
  · exact h g cap w' h1' h2 h4
end Go.Proofs.YtpkejcjjbkgomaaDoor
namespace Go.Proofs.YtpkejcjjbkgomaaDoor
open Go.ChangeShapes Go.WideShapes Go.ChangeAt Go.RowKit Go.Deep
set_option maxRecDepth 100000
set_option linter.unusedVariables false
/-- behind the drawing of a tree -/
def SomeRel (R : Nat) (st : ByteArray) (b off cap : Nat) (rs : List RuleT) (G : Nat) (w : World) (s5 : Value) (wx : World) : Prop :=
  ∃ (B C : Nat) (r : Int) (v : Value) (us : List Kid) (ks : List Tr), s5 = .pointer (some ⟨C, 0, none⟩) ∧ TopC wx B C st r v us ks ∧ us.length ≤ 5 ∧ SomeW R 600000 st b off cap rs G w wx ∧ G < C ∧ G < B ∧ B ≤ wx.heap.size ∧ (Tr.node st r ks).sz ≤ 488281 ∧ (Tr.node st r ks).wt ≤ 976662
theorem tmost8 : tmost 8 = 488281 := by decide
theorem some_before {R k d : Nat} {st : ByteArray} {b off cap : Nat} {rs : List RuleT} {G B C : Nat} {w w6 : World} {r : Int} {v : Value} {T : Tr} (hd : d ≤ 8) (hst : st.size ≤ 100) (S : SomeW R k st b off cap rs G w w6) (hk : k ≤ 600000) (x0 x1 x2 : Value) (hC : BoxT w6 C x0 x1 x2) (hown : OwnTop w6 B st (.agg #[.string st, .int .i64 r, v]) T)
    (hCB : C < B) (hGC : G < C) (hBl : B ≤ w6.heap.size) (hz : T.sz ≤ tmost d) (hw : T.wt ≤ st.size + 2 * (T.sz - 1)) :
    SomeRel R st b off cap rs G w (.pointer (some ⟨C, 0, none⟩)) (((w6.setCell ⟨C, 0, none⟩ (.string st)).setCell ⟨C, 1, none⟩ (.int .i64 r)).setCell ⟨C, 2, none⟩ v) := by
  have ho : ∀ q, q ≠ C → (((w6.setCell ⟨C, 0, none⟩ (.string st)).setCell ⟨C, 1, none⟩ (.int .i64 r)).setCell ⟨C, 2, none⟩ v).heap[q]? = w6.heap[q]? := fun q hq => by
    rw [Below.heap_setCell _ _ _ _ (by show q ≠ C; exact hq), Below.heap_setCell _ _ _ _ (by show q ≠ C; exact hq), Below.heap_setCell _ _ _ _ (by show q ≠ C; exact hq)]
  obtain ⟨r', v', us, ks, e, hT, hl, H⟩ := hown.boxed (C := C) (wy := ((w6.setCell ⟨C, 0, none⟩ (.string st)).setCell ⟨C, 1, none⟩ (.int .i64 r)).setCell ⟨C, 2, none⟩ v) (Or.inl hCB) hst (fun r' v' e => by
    simp only [Value.agg.injEq, Array.mk.injEq, List.cons.injEq, Value.int.injEq, true_and, and_true] at e
    obtain ⟨rfl, rfl⟩ := e
    exact hC.set3 _ _ _) (fun k _ hk _ => ho k hk)
  have hm := tmost_mono hd
  rw [tmost8] at hm
  subst hT
  exact ⟨B, C, r', v', us, ks, rfl, H, hl, ((S.put hGC 0 _).put hGC 1 _).put hGC 2 _ |>.mono hk, hGC, by omega, by simpa using hBl, by omega, by omega⟩
theorem some_after {R k d : Nat} {st : ByteArray} {b off cap : Nat} {rs : List RuleT} {G B : Nat} {w w6 : World} {r : Int} {v : Value} {T : Tr} (hd : d ≤ 8) (hst : st.size ≤ 100) (S : SomeW R k st b off cap rs G w w6) (hk : k ≤ 600000) (hown : OwnTop w6 B st (.agg #[.string st, .int .i64 r, v]) T)
    (hGB : G < B) (hBl : B ≤ w6.heap.size) (hz : T.sz ≤ tmost d) (hw : T.wt ≤ st.size + 2 * (T.sz - 1)) :
    SomeRel R st b off cap rs G w (.pointer (some ⟨w6.heap.size, 0, none⟩)) (w6.alloc (.cells #[.string st, .int .i64 r, v] 29)) := by
  obtain ⟨r', v', us, ks, e, hT, hl, H⟩ := hown.boxed (C := w6.heap.size) (wy := w6.alloc (.cells #[.string st, .int .i64 r, v] 29)) (Or.inr (Nat.le_refl _)) hst (fun r' v' e => by
    simp only [Value.agg.injEq, Array.mk.injEq, List.cons.injEq, Value.int.injEq, true_and, and_true] at e
    obtain ⟨rfl, rfl⟩ := e
    exact blk_new _ _ rfl) (fun k _ _ hk => blk_old _ _ hk)
  have hm := tmost_mono hd
  rw [tmost8] at hm
  subst hT
  exact ⟨B, w6.heap.size, r', v', us, ks, rfl, H, hl, (S.old _).mono hk, S.lt, hGB, by simp; omega, by omega, by omega⟩
theorem num4 {w : World} {L : Nat} (h : w.heap[L]? = some (.cells #[.int .i64 4, .int .i64 6, .int .i64 8, .int .i64 3] 3)) : ∀ i (h' : i < ([4, 6, 8, 3] : List Int).length), w.cell? ⟨L, i, none⟩ = some (.int .i64 ([4, 6, 8, 3] : List Int)[i]) := by
  intro i hi
  rw [cell_of_block h i]
  have : i = 0 ∨ i = 1 ∨ i = 2 ∨ i = 3 := by simp at hi; omega
  rcases this with rfl | rfl | rfl | rfl <;> rfl
theorem deep_of {v : Int} (h : v ∈ ([4, 6, 8, 3] : List Int)) : ∃ d : Nat, v = (d : Int) ∧ d ≤ 8 := by
  simp only [List.mem_cons, List.not_mem_nil, or_false] at h
  rcases h with rfl | rfl | rfl | rfl
  · exact ⟨4, rfl, by omega⟩
  · exact ⟨6, rfl, by omega⟩
  · exact ⟨8, rfl, by omega⟩
  · exact ⟨3, rfl, by omega⟩
theorem num4b {w : World} {L : Nat} (h : w.heap[L]? = some (.cells #[.int .i64 (-1), .int .i64 1, .int .i64 9, .int .i64 (-2)] 3)) : ∀ i (h' : i < ([-1, 1, 9, -2] : List Int).length), w.cell? ⟨L, i, none⟩ = some (.int .i64 ([-1, 1, 9, -2] : List Int)[i]) := by
  intro i hi
  rw [cell_of_block h i]
  have : i = 0 ∨ i = 1 ∨ i = 2 ∨ i = 3 := by simp at hi; omega
  rcases this with rfl | rfl | rfl | rfl <;> rfl
theorem wf_of {v : Int} (h : v ∈ ([-1, 1, 9, -2] : List Int)) : (Lit.int .i64 v).wf = true := by
  simp only [List.mem_cons, List.not_mem_nil, or_false] at h
  rcases h with rfl | rfl | rfl | rfl <;> decide
theorem str4 {w : World} {L : Nat} (h : w.heap[L]? = some (.cells #[.string ⟨#[66]⟩, .string ⟨#[97]⟩, .string ⟨#[]⟩, .string ⟨#[70]⟩] 9)) : ∀ i (h' : i < ([⟨#[66]⟩, ⟨#[97]⟩, ⟨#[]⟩, ⟨#[70]⟩] : List ByteArray).length), w.cell? ⟨L, i, none⟩ = some (.string ([⟨#[66]⟩, ⟨#[97]⟩, ⟨#[]⟩, ⟨#[70]⟩] : List ByteArray)[i]) := by
  intro i hi
  rw [cell_of_block h i]
  have : i = 0 ∨ i = 1 ∨ i = 2 ∨ i = 3 := by simp at hi; omega
  rcases this with rfl | rfl | rfl | rfl <;> rfl
theorem str_of {s : ByteArray} (h : s ∈ ([⟨#[66]⟩, ⟨#[97]⟩, ⟨#[]⟩, ⟨#[70]⟩] : List ByteArray)) : s.size ≤ 1 := by
  simp only [List.mem_cons, List.not_mem_nil, or_false] at h
  rcases h with rfl | rfl | rfl | rfl <;> decide
theorem set_os (w : World) (p : Addr) (v : Value) : (w.setCell p v).os = w.os := rfl
theorem set_tape (w : World) (p : Addr) (v : Value) : (w.setCell p v).tape = w.tape := rfl
theorem set_output (w : World) (p : Addr) (v : Value) : (w.setCell p v).output = w.output := rfl
theorem fin_world0 (w wz : World) {a0 a1 b0 b1 b2 : Value} (z1 : GB2 wz w.heap.size a0 a1) (z2 : BoxT wz (w.heap.size + 1) b0 b1 b2) (x0 x1 t0 t1 t2 : Value) :
    (((((wz.setCell ⟨w.heap.size, 0, none⟩ x0).setCell ⟨w.heap.size, 1, none⟩ x1).setCell ⟨w.heap.size + 1, 0, none⟩ t0).setCell ⟨w.heap.size + 1, 1, none⟩ t1).setCell ⟨w.heap.size + 1, 2, none⟩ t2).cell? ⟨w.heap.size, 0, none⟩ = some x0 ∧
    (((((wz.setCell ⟨w.heap.size, 0, none⟩ x0).setCell ⟨w.heap.size, 1, none⟩ x1).setCell ⟨w.heap.size + 1, 0, none⟩ t0).setCell ⟨w.heap.size + 1, 1, none⟩ t1).setCell ⟨w.heap.size + 1, 2, none⟩ t2).cell? ⟨w.heap.size, 1, none⟩ = some x1 ∧
    (((((wz.setCell ⟨w.heap.size, 0, none⟩ x0).setCell ⟨w.heap.size, 1, none⟩ x1).setCell ⟨w.heap.size + 1, 0, none⟩ t0).setCell ⟨w.heap.size + 1, 1, none⟩ t1).setCell ⟨w.heap.size + 1, 2, none⟩ t2).cell? ⟨w.heap.size + 1, 0, none⟩ = some t0 ∧
    (((((wz.setCell ⟨w.heap.size, 0, none⟩ x0).setCell ⟨w.heap.size, 1, none⟩ x1).setCell ⟨w.heap.size + 1, 0, none⟩ t0).setCell ⟨w.heap.size + 1, 1, none⟩ t1).setCell ⟨w.heap.size + 1, 2, none⟩ t2).cell? ⟨w.heap.size + 1, 1, none⟩ = some t1 ∧
    (((((wz.setCell ⟨w.heap.size, 0, none⟩ x0).setCell ⟨w.heap.size, 1, none⟩ x1).setCell ⟨w.heap.size + 1, 0, none⟩ t0).setCell ⟨w.heap.size + 1, 1, none⟩ t1).setCell ⟨w.heap.size + 1, 2, none⟩ t2).cell? ⟨w.heap.size + 1, 2, none⟩ = some t2 ∧
    (∀ q, q ≠ w.heap.size → q ≠ w.heap.size + 1 → (((((wz.setCell ⟨w.heap.size, 0, none⟩ x0).setCell ⟨w.heap.size, 1, none⟩ x1).setCell ⟨w.heap.size + 1, 0, none⟩ t0).setCell ⟨w.heap.size + 1, 1, none⟩ t1).setCell ⟨w.heap.size + 1, 2, none⟩ t2).heap[q]? = wz.heap[q]?) ∧
    (((((wz.setCell ⟨w.heap.size, 0, none⟩ x0).setCell ⟨w.heap.size, 1, none⟩ x1).setCell ⟨w.heap.size + 1, 0, none⟩ t0).setCell ⟨w.heap.size + 1, 1, none⟩ t1).setCell ⟨w.heap.size + 1, 2, none⟩ t2).os = wz.os ∧
    (((((wz.setCell ⟨w.heap.size, 0, none⟩ x0).setCell ⟨w.heap.size, 1, none⟩ x1).setCell ⟨w.heap.size + 1, 0, none⟩ t0).setCell ⟨w.heap.size + 1, 1, none⟩ t1).setCell ⟨w.heap.size + 1, 2, none⟩ t2).tape = wz.tape ∧
    (((((wz.setCell ⟨w.heap.size, 0, none⟩ x0).setCell ⟨w.heap.size, 1, none⟩ x1).setCell ⟨w.heap.size + 1, 0, none⟩ t0).setCell ⟨w.heap.size + 1, 1, none⟩ t1).setCell ⟨w.heap.size + 1, 2, none⟩ t2).output = wz.output ∧
    wz.heap.size ≤ (((((wz.setCell ⟨w.heap.size, 0, none⟩ x0).setCell ⟨w.heap.size, 1, none⟩ x1).setCell ⟨w.heap.size + 1, 0, none⟩ t0).setCell ⟨w.heap.size + 1, 1, none⟩ t1).setCell ⟨w.heap.size + 1, 2, none⟩ t2).heap.size := by
  have ho : (((((wz.setCell ⟨w.heap.size, 0, none⟩ x0).setCell ⟨w.heap.size, 1, none⟩ x1).setCell ⟨w.heap.size + 1, 0, none⟩ t0).setCell ⟨w.heap.size + 1, 1, none⟩ t1).setCell ⟨w.heap.size + 1, 2, none⟩ t2).os = wz.os ∧ (((((wz.setCell ⟨w.heap.size, 0, none⟩ x0).setCell ⟨w.heap.size, 1, none⟩ x1).setCell ⟨w.heap.size + 1, 0, none⟩ t0).setCell ⟨w.heap.size + 1, 1, none⟩ t1).setCell ⟨w.heap.size + 1, 2, none⟩ t2).tape = wz.tape ∧ (((((wz.setCell ⟨w.heap.size, 0, none⟩ x0).setCell ⟨w.heap.size, 1, none⟩ x1).setCell ⟨w.heap.size + 1, 0, none⟩ t0).setCell ⟨w.heap.size + 1, 1, none⟩ t1).setCell ⟨w.heap.size + 1, 2, none⟩ t2).output = wz.output := by
    refine ⟨?_, ?_, ?_⟩
    · rw [set_os, set_os, set_os, set_os, set_os]
    · rw [set_tape, set_tape, set_tape, set_tape, set_tape]
    · rw [set_output, set_output, set_output, set_output, set_output]
  have hh : ∀ q, q ≠ w.heap.size → q ≠ w.heap.size + 1 → (((((wz.setCell ⟨w.heap.size, 0, none⟩ x0).setCell ⟨w.heap.size, 1, none⟩ x1).setCell ⟨w.heap.size + 1, 0, none⟩ t0).setCell ⟨w.heap.size + 1, 1, none⟩ t1).setCell ⟨w.heap.size + 1, 2, none⟩ t2).heap[q]? = wz.heap[q]? := fun q h1 h2 =>
    (Below.heap_setCell _ ⟨w.heap.size + 1, 2, none⟩ t2 q h2).trans ((Below.heap_setCell _ ⟨w.heap.size + 1, 1, none⟩ t1 q h2).trans ((Below.heap_setCell _ ⟨w.heap.size + 1, 0, none⟩ t0 q h2).trans ((Below.heap_setCell _ ⟨w.heap.size, 1, none⟩ x1 q h1).trans (Below.heap_setCell _ ⟨w.heap.size, 0, none⟩ x0 q h1))))
  have hg : GB2 (((((wz.setCell ⟨w.heap.size, 0, none⟩ x0).setCell ⟨w.heap.size, 1, none⟩ x1).setCell ⟨w.heap.size + 1, 0, none⟩ t0).setCell ⟨w.heap.size + 1, 1, none⟩ t1).setCell ⟨w.heap.size + 1, 2, none⟩ t2) w.heap.size x0 x1 := by
    have h0 : GB2 ((wz.setCell ⟨w.heap.size, 0, none⟩ x0).setCell ⟨w.heap.size, 1, none⟩ x1) w.heap.size x0 x1 := by unfold GB2 at *; simp [World.setCell, Array.getElem?_modify, z1]
    have hn : w.heap.size ≠ w.heap.size + 1 := by omega
    exact ((Below.heap_setCell _ ⟨w.heap.size + 1, 2, none⟩ t2 _ hn).trans ((Below.heap_setCell _ ⟨w.heap.size + 1, 1, none⟩ t1 _ hn).trans (Below.heap_setCell _ ⟨w.heap.size + 1, 0, none⟩ t0 _ hn))).trans h0
  have ht : BoxT (((((wz.setCell ⟨w.heap.size, 0, none⟩ x0).setCell ⟨w.heap.size, 1, none⟩ x1).setCell ⟨w.heap.size + 1, 0, none⟩ t0).setCell ⟨w.heap.size + 1, 1, none⟩ t1).setCell ⟨w.heap.size + 1, 2, none⟩ t2) (w.heap.size + 1) t0 t1 t2 := by
    refine BoxT.set3 (v0 := b0) (v1 := b1) (v2 := b2) ?_ _ _ _
    have hn : w.heap.size + 1 ≠ w.heap.size := by omega
    exact ((Below.heap_setCell _ ⟨w.heap.size, 1, none⟩ x1 _ hn).trans (Below.heap_setCell _ ⟨w.heap.size, 0, none⟩ x0 _ hn)).trans z2
  have hz : wz.heap.size ≤ (((((wz.setCell ⟨w.heap.size, 0, none⟩ x0).setCell ⟨w.heap.size, 1, none⟩ x1).setCell ⟨w.heap.size + 1, 0, none⟩ t0).setCell ⟨w.heap.size + 1, 1, none⟩ t1).setCell ⟨w.heap.size + 1, 2, none⟩ t2).heap.size := by simp
  generalize ((((wz.setCell ⟨w.heap.size, 0, none⟩ x0).setCell ⟨w.heap.size, 1, none⟩ x1).setCell ⟨w.heap.size + 1, 0, none⟩ t0).setCell ⟨w.heap.size + 1, 1, none⟩ t1).setCell ⟨w.heap.size + 1, 2, none⟩ t2 = wq at *
  exact ⟨hg.cells.1, hg.cells.2, ht.cells.1, ht.cells.2.1, ht.cells.2.2.1, hh, ho.1, ho.2.1, ho.2.2, hz⟩
theorem fin_world (w wz : World) {a0 a1 b0 b1 b2 : Value} (z1 : GB2 wz w.heap.size a0 a1) (z2 : BoxT wz (w.heap.size + 1) b0 b1 b2) (x0 x1 t0 t1 t2 : Value) :
    (((((wz.setCell ⟨w.heap.size, 0, none⟩ x0).setCell ⟨w.heap.size, 1, none⟩ x1).setCell ⟨w.heap.size + 1, 0, none⟩ t0).setCell ⟨w.heap.size + 1, 1, none⟩ t1).setCell ⟨w.heap.size + 1, 2, none⟩ t2).drew.cell? ⟨w.heap.size, 0, none⟩ = some x0 ∧
    (((((wz.setCell ⟨w.heap.size, 0, none⟩ x0).setCell ⟨w.heap.size, 1, none⟩ x1).setCell ⟨w.heap.size + 1, 0, none⟩ t0).setCell ⟨w.heap.size + 1, 1, none⟩ t1).setCell ⟨w.heap.size + 1, 2, none⟩ t2).drew.cell? ⟨w.heap.size, 1, none⟩ = some x1 ∧
    (((((wz.setCell ⟨w.heap.size, 0, none⟩ x0).setCell ⟨w.heap.size, 1, none⟩ x1).setCell ⟨w.heap.size + 1, 0, none⟩ t0).setCell ⟨w.heap.size + 1, 1, none⟩ t1).setCell ⟨w.heap.size + 1, 2, none⟩ t2).drew.cell? ⟨w.heap.size + 1, 0, none⟩ = some t0 ∧
    (((((wz.setCell ⟨w.heap.size, 0, none⟩ x0).setCell ⟨w.heap.size, 1, none⟩ x1).setCell ⟨w.heap.size + 1, 0, none⟩ t0).setCell ⟨w.heap.size + 1, 1, none⟩ t1).setCell ⟨w.heap.size + 1, 2, none⟩ t2).drew.cell? ⟨w.heap.size + 1, 1, none⟩ = some t1 ∧
    (((((wz.setCell ⟨w.heap.size, 0, none⟩ x0).setCell ⟨w.heap.size, 1, none⟩ x1).setCell ⟨w.heap.size + 1, 0, none⟩ t0).setCell ⟨w.heap.size + 1, 1, none⟩ t1).setCell ⟨w.heap.size + 1, 2, none⟩ t2).drew.cell? ⟨w.heap.size + 1, 2, none⟩ = some t2 ∧
    (∀ q, q ≠ w.heap.size → q ≠ w.heap.size + 1 → (((((wz.setCell ⟨w.heap.size, 0, none⟩ x0).setCell ⟨w.heap.size, 1, none⟩ x1).setCell ⟨w.heap.size + 1, 0, none⟩ t0).setCell ⟨w.heap.size + 1, 1, none⟩ t1).setCell ⟨w.heap.size + 1, 2, none⟩ t2).drew.heap[q]? = wz.heap[q]?) ∧
    (((((wz.setCell ⟨w.heap.size, 0, none⟩ x0).setCell ⟨w.heap.size, 1, none⟩ x1).setCell ⟨w.heap.size + 1, 0, none⟩ t0).setCell ⟨w.heap.size + 1, 1, none⟩ t1).setCell ⟨w.heap.size + 1, 2, none⟩ t2).drew.os = wz.os ∧
    (((((wz.setCell ⟨w.heap.size, 0, none⟩ x0).setCell ⟨w.heap.size, 1, none⟩ x1).setCell ⟨w.heap.size + 1, 0, none⟩ t0).setCell ⟨w.heap.size + 1, 1, none⟩ t1).setCell ⟨w.heap.size + 1, 2, none⟩ t2).drew.tape = wz.tape ∧
    (((((wz.setCell ⟨w.heap.size, 0, none⟩ x0).setCell ⟨w.heap.size, 1, none⟩ x1).setCell ⟨w.heap.size + 1, 0, none⟩ t0).setCell ⟨w.heap.size + 1, 1, none⟩ t1).setCell ⟨w.heap.size + 1, 2, none⟩ t2).drew.output = wz.output ∧
    wz.heap.size ≤ (((((wz.setCell ⟨w.heap.size, 0, none⟩ x0).setCell ⟨w.heap.size, 1, none⟩ x1).setCell ⟨w.heap.size + 1, 0, none⟩ t0).setCell ⟨w.heap.size + 1, 1, none⟩ t1).setCell ⟨w.heap.size + 1, 2, none⟩ t2).drew.heap.size := by
  have h := fin_world0 w wz z1 z2 x0 x1 t0 t1 t2
  generalize ((((wz.setCell ⟨w.heap.size, 0, none⟩ x0).setCell ⟨w.heap.size, 1, none⟩ x1).setCell ⟨w.heap.size + 1, 0, none⟩ t0).setCell ⟨w.heap.size + 1, 1, none⟩ t1).setCell ⟨w.heap.size + 1, 2, none⟩ t2 = wq at *
  exact h
theorem sz_leaf1 (sg : ByteArray) (r : Int) (ks : List Tr) : (Tr.node sg r (ks ++ [.node ⟨#[97]⟩ (-1) []])).sz = 1 + (ks.map Tr.sz).sum + 1 := by
  have h : (Tr.node ⟨#[97]⟩ (-1) []).sz = 1 := by rw [Tr.sz]; rfl
  rw [Tr.sz, List.map_append, List.sum_append, List.map_cons, List.map_nil, List.sum_cons, List.sum_nil, h]; omega
theorem wt_leaf1 (sg : ByteArray) (r : Int) (ks : List Tr) : (Tr.node sg r (ks ++ [.node ⟨#[97]⟩ (-1) []])).wt = sg.size + ks.length + (ks.map Tr.wt).sum + 2 := by
  have h : (Tr.node ⟨#[97]⟩ (-1) []).wt = 1 := by rw [Tr.wt]; rfl
  rw [Tr.wt, List.map_append, List.sum_append, List.map_cons, List.map_nil, List.sum_cons, List.sum_nil, h, List.length_append]; simp; omega
def TZ : Obj := .cells #[.string ⟨#[]⟩, .int .i64 0, .slice none 0 0] 29
set_option maxHeartbeats 8000000 in
theorem l3Some_any (R : Nat) (w : World) (HR : Rdk w R 0) :
    Calls Tryd.prog 65 #[.pointer (some ⟨R, 0, none⟩)] w (DrawnGT R 900000 w) := by
  have hRl := HR.lt
  have hb2 := ((Below.refl w.heap.size w).alloc (Nat.le_refl _) (.cells #[.string ⟨#[]⟩, .slice none 0 0] 64)).alloc (by simp) (.cells #[.string ⟨#[]⟩, .int .i64 0, .slice none 0 0] 29)
  have hG2 : GB2 ((w.alloc (.cells #[.string ⟨#[]⟩, .slice none 0 0] 64)).alloc (.cells #[.string ⟨#[]⟩, .int .i64 0, .slice none 0 0] 29)) w.heap.size (.string ⟨#[]⟩) (.slice none 0 0) := (blk_old _ _ (by simp)).trans (blk_new _ _ rfl)
  have hZ2 : BoxT ((w.alloc (.cells #[.string ⟨#[]⟩, .slice none 0 0] 64)).alloc (.cells #[.string ⟨#[]⟩, .int .i64 0, .slice none 0 0] 29)) (w.heap.size + 1) (.string ⟨#[]⟩) (.int .i64 0) (.slice none 0 0) := blk_new _ _ (by simp)
  have HR2 := HR.below hb2
  clear HR
  go_enter Tryd.func65, Tryd.ntmps65
  go_wp2_with fail
  refine (l1Gram_any R 0 _ HR2 (by omega)).mono ?_
  rintro e w3 ⟨gv, st, rs, rfl, ⟨b, off, cap, rfl, hcap, HU, hl, hst, hS, hB⟩, HR3, ho3⟩
  have ho3' := (Only.of_below (R := R) hb2).trans ho3
  have hG3 := hG2.only ho3 (by omega)
  have hZ3 := hZ2.only ho3 (by omega)
  have hz3 : w.heap.size + 2 ≤ w3.heap.size := by have := ho3.size; simpa using this
  have hBb : w.heap.size + 2 ≤ b := by simpa using hB
  have hb3 : 0 < rs.length → b < w3.heap.size := fun h0 => by
    obtain ⟨_, _, b', off', e, hlt, _⟩ := HU.2 0 h0
    simp only [Option.some.injEq, Addr.mk.injEq] at e
    omega
  clear hG2 hZ2 hb2 HR2 ho3 hB
  go_upto_region 2 with fail
  have S4 : SomeW R 100 st b off cap rs w3.heap.size w (w3.alloc (.cells #[.string st, .slice (some ⟨b, off, none⟩) rs.length cap] 64)) :=
    ⟨hG3.old _, hZ3.old _, HR3.alloc _, ho3'.alloc _, blk_new _ _ rfl, HU.below ((Below.refl _ _).alloc (Nat.le_refl _) _) (Nat.le_refl _), hz3, hBb, hRl, hb3⟩
  have hz4 : (w3.alloc (.cells #[.string st, .slice (some ⟨b, off, none⟩) rs.length cap] 64)).heap.size = w3.heap.size + 1 := by simp
  generalize w3.alloc (.cells #[.string st, .slice (some ⟨b, off, none⟩) rs.length cap] 64) = w4 at *
  clear hG3 hZ3 HR3 ho3' HU hb3
  generalize w3.heap.size = G at *
  obtain ⟨c0, c1⟩ := S4.g.cells
  have HZ4 := Lib.hid hz4
  clear hz4
  have hR4 : R < w4.heap.size := by have := HZ4.out; omega
  have hbR : b ≠ R := by omega
  have hG4 : G < w4.heap.size := by have := HZ4.out; omega
  have hG5 : G < w4.heap.size + 1 := by omega
  go_cut [5] (fun s5 wx => SomeRel R st b off cap rs G w s5 wx)
  case first =>
    go_region_held3 (fun w' => w'.cell? ⟨G, 0, none⟩ = some (.string st) ∧ w'.cell? ⟨G, 1, none⟩ = some (.slice (some ⟨b, off, none⟩) rs.length cap))
      (first
        | go_keep
        | with_reducible exact (S6.old _).g.cells
        | with_reducible exact (((S6.put (C := w4.heap.size) hG4 0 _).put (C := w4.heap.size) hG4 1 _).put (C := w4.heap.size) hG4 2 _).g.cells
        | with_reducible exact (((S6.put (C := w4.heap.size + 1) hG5 0 _).put (C := w4.heap.size + 1) hG5 1 _).put (C := w4.heap.size + 1) hG5 2 _).g.cells
        | with_reducible exact (((S6.put (C := w5.heap.size) (Nat.lt_trans hG4 hz5) 0 _).put (C := w5.heap.size) (Nat.lt_trans hG4 hz5) 1 _).put (C := w5.heap.size) (Nat.lt_trans hG4 hz5) 2 _).g.cells
        | with_reducible exact S6.g.cells
        | with_reducible exact S5.g.cells
        | fail)
      (first
        | (go_at_call 67; have _ := hC5; (with_reducible refine (l3Any_any R rs hS (by omega) st b off cap hbR d hd8 101 st w5 ?_ (by omega) ?_ hst).mono ?_); (exact (S5).r); (exact (S5).u); rintro e w6 ⟨u, T, rfl, _, _, hsz6, hwt6, HR6, ho6, hown⟩; have hown' := hown; obtain ⟨r, v, us, ks, rfl, hT', hw', ⟨va, vn, vc, rfl⟩, hl5, hK⟩ := hown; clear hT' hw' hl5 hK; have S6 := (S5).only ho6 HR6; have hC6 := hC5.only ho6 (by omega); have hlt5 := hC5.lt; obtain ⟨q0, q1, q2, f0, f1, f2⟩ := hC6.cells)
        | (go_at_call 67; have _ := tokN; (with_reducible refine (l3Any_any R rs hS (by omega) st b off cap hbR d hd8 101 st w5 ?_ (by omega) ?_ hst).mono ?_); (exact (S5).r); (exact (S5).u); rintro e w6 ⟨u, T, rfl, _, _, hsz6, hwt6, HR6, ho6, hown⟩; have hown' := hown; obtain ⟨r, v, us, ks, rfl, hT', hw', ⟨va, vn, vc, rfl⟩, hl5, hK⟩ := hown; clear hT' hw' hl5 hK; have S6 := (S5).only ho6 HR6; have tokE := True.intro)
        | (go_at_call 67; have _ := tokN; (with_reducible refine (l3Any_any R rs hS (by omega) st b off cap hbR d hd8 101 st (w5.alloc (.cells #[.string ⟨#[]⟩, .int .i64 0, .slice none 0 0] 29)) ?_ (by omega) ?_ hst).mono ?_); (exact (S5.old (.cells #[.string ⟨#[]⟩, .int .i64 0, .slice none 0 0] 29)).r); (exact (S5.old (.cells #[.string ⟨#[]⟩, .int .i64 0, .slice none 0 0] 29)).u); rintro e w6 ⟨u, T, rfl, _, _, hsz6, hwt6, HR6, ho6, hown⟩; have hown' := hown; obtain ⟨r, v, us, ks, rfl, hT', hw', ⟨va, vn, vc, rfl⟩, hl5, hK⟩ := hown; clear hT' hw' hl5 hK; have S6 := (S5.old (.cells #[.string ⟨#[]⟩, .int .i64 0, .slice none 0 0] 29)).only ho6 HR6; have hC6 : BoxT w6 w5.heap.size (.string ⟨#[]⟩) (.int .i64 0) (.slice none 0 0) := BoxT.only (w := w5.alloc (.cells #[.string ⟨#[]⟩, .int .i64 0, .slice none 0 0] 29)) (blk_new _ _ rfl) ho6 (by omega); obtain ⟨q0, q1, q2, f0, f1, f2⟩ := hC6.cells)
        | (go_at_call 68; (with_reducible refine (num_any R 100 w4.heap.size 4 4 [4, 6, 8, 3] (w4.alloc (.cells #[.int .i64 4, .int .i64 6, .int .i64 8, .int .i64 3] 3)).drew ?_ (by omega) rfl (by omega) (by omega) (by omega) ?_).mono ?_); (exact (S4.r.alloc _).drew); (exact num4 (blk_new _ _ rfl)); rintro e w5 ⟨dv, rfl, hdv, HR5, ho5⟩; obtain ⟨d, rfl, hd8⟩ := deep_of hdv; have htm := Nat.le_trans (tmost_mono hd8) (Nat.le_of_eq tmost8); have S5 := ((S4.old (.cells #[.int .i64 4, .int .i64 6, .int .i64 8, .int .i64 3] 3)).drew).only ho5 HR5; have hz5 : w4.heap.size < w5.heap.size := (by have := ho5.size; simp at this; omega); have tokN := True.intro)
        | (go_at_call 68; (with_reducible refine (num_any R 100 (w4.heap.size + 1) 4 4 [4, 6, 8, 3] ((w4.alloc (.cells #[.string ⟨#[]⟩, .int .i64 0, .slice none 0 0] 29)).alloc (.cells #[.int .i64 4, .int .i64 6, .int .i64 8, .int .i64 3] 3)).drew ?_ (by omega) rfl (by omega) (by omega) (by omega) ?_).mono ?_); (exact ((S4.r.alloc _).alloc _).drew); (exact num4 (blk_new _ _ (by simp))); rintro e w5 ⟨dv, rfl, hdv, HR5, ho5⟩; obtain ⟨d, rfl, hd8⟩ := deep_of hdv; have htm := Nat.le_trans (tmost_mono hd8) (Nat.le_of_eq tmost8); have S5 := (((S4.old (.cells #[.string ⟨#[]⟩, .int .i64 0, .slice none 0 0] 29)).old (.cells #[.int .i64 4, .int .i64 6, .int .i64 8, .int .i64 3] 3)).drew).only ho5 HR5; have hC5 : BoxT w5 w4.heap.size (.string ⟨#[]⟩) (.int .i64 0) (.slice none 0 0) := BoxT.only (w := ((w4.alloc (.cells #[.string ⟨#[]⟩, .int .i64 0, .slice none 0 0] 29)).alloc (.cells #[.int .i64 4, .int .i64 6, .int .i64 8, .int .i64 3] 3)).drew) ((blk_old _ _ (by simp)).trans (blk_new _ _ rfl)) ho5 (by omega))
        | (go_at_call 68; (with_reducible refine (num_any R 100 w4.heap.size 4 4 [4, 6, 8, 3] ((w4.alloc (.cells #[.int .i64 4, .int .i64 6, .int .i64 8, .int .i64 3] 3)).alloc (.cells #[.string ⟨#[]⟩, .int .i64 0, .slice none 0 0] 29)).drew ?_ (by omega) rfl (by omega) (by omega) (by omega) ?_).mono ?_); (exact ((S4.r.alloc _).alloc _).drew); (exact num4 ((blk_old _ _ (by simp)).trans (blk_new _ _ rfl))); rintro e w5 ⟨dv, rfl, hdv, HR5, ho5⟩; obtain ⟨d, rfl, hd8⟩ := deep_of hdv; have htm := Nat.le_trans (tmost_mono hd8) (Nat.le_of_eq tmost8); have S5 := (((S4.old (.cells #[.int .i64 4, .int .i64 6, .int .i64 8, .int .i64 3] 3)).old (.cells #[.string ⟨#[]⟩, .int .i64 0, .slice none 0 0] 29)).drew).only ho5 HR5; have hC5 : BoxT w5 (w4.heap.size + 1) (.string ⟨#[]⟩) (.int .i64 0) (.slice none 0 0) := BoxT.only (w := ((w4.alloc (.cells #[.int .i64 4, .int .i64 6, .int .i64 8, .int .i64 3] 3)).alloc (.cells #[.string ⟨#[]⟩, .int .i64 0, .slice none 0 0] 29)).drew) (blk_new _ _ (by simp)) ho5 (by omega))
        | fail)
    all_goals go_wp2_with fail
    all_goals go_meet
    · exact some_after hd8 hst S6 (by omega) hown' (by omega) ho6.size hsz6 hwt6
    · exact some_before hd8 hst S6 (by omega) _ _ _ hC6 hown' (by simp) (by omega) ho6.size hsz6 hwt6
    · exact some_before hd8 hst S6 (by omega) _ _ _ hC6 hown' hlt5 (by omega) ho6.size hsz6 hwt6
    · exact some_before hd8 hst S6 (by omega) _ _ _ hC6 hown' hlt5 (by omega) ho6.size hsz6 hwt6
  case rest =>
    clear S4 c0 c1 HZ4 hR4 hG4 hG5
    obtain ⟨B, C, r, v, us, ks, rfl, HT, hl5, S, hGC, hGB, hBl, hsz, hwt⟩ := hcut
    have hSr := S.r
    go_wp2_with fail
    refine (pick_any R 600000 40 _ hSr (by omega) (by omega) (by omega)).mono ?_
    rintro e w5 ⟨q, rfl, ⟨hq0, hq1, _⟩, HR5, ho5⟩
    have S5 := S.only ho5 HR5
    have H5 := HT.only ho5 (by omega) (by omega)
    have hRC : R < C := by omega
    have hRB : R < B := by omega
    obtain ⟨va, vn, vc, rfl⟩ := H5.sl
    have hBl5 : B ≤ w5.heap.size := Nat.le_trans hBl ho5.size
    clear S HT hSr ho5 HR5 hBl
    have hlo := S5.lo
    have hlow := S5.bl
    have hsz0 : 1 + (ks.map Tr.sz).sum ≤ 488281 := by rw [Tr.sz] at hsz; exact hsz
    have hwt0 : st.size + ks.length + (ks.map Tr.wt).sum ≤ 976662 := by rw [Tr.wt] at hwt; exact hwt
    clear hsz hwt
    by_cases q0 : q = 0
    · subst q0
      have HR6 := S5.r.alloc (.cells #[.int .i64 (-1), .int .i64 1, .int .i64 9, .int .i64 (-2)] 3)
      have hz5 := S5.lt
      go_wp2_with fail
      refine (num_any R 600001 w5.heap.size 4 4 [-1, 1, 9, -2] _ HR6 (by omega) rfl (by omega) (by omega) (by omega) (num4b (blk_new _ _ rfl))).mono ?_
      rintro e w6 ⟨dv, rfl, hdv, HR7, ho7⟩
      have hwf := wf_of hdv
      have S7 := (S5.old (.cells #[.int .i64 (-1), .int .i64 1, .int .i64 9, .int .i64 (-2)] 3)).only ho7 HR7
      have H7 := (H5.old (.cells #[.int .i64 (-1), .int .i64 1, .int .i64 9, .int .i64 (-2)] 3)).only ho7 hRC hRB
      clear S5 H5 HR6 HR7 ho7 hdv
      obtain ⟨_, x1, _, _, fx1, _⟩ := H7.box.cells
      have Sz := S7.put (C := C) hGC 1 (.int .i64 dv)
      have Hz := H7.rule hwf
      clear S7 H7
      go_wp2_with fail
      clear x1 fx1
      generalize w6.setCell ⟨C, 1, none⟩ (.int .i64 dv) = wz at *
      obtain ⟨g0, g1⟩ := Sz.g.cells
      obtain ⟨z0, z1⟩ := Sz.z1.cells
      have fz0 := frozen_of_block Sz.z1 0
      have fz1 := frozen_of_block Sz.z1 1
      obtain ⟨y0, y1, y2, f0, f1, f2⟩ := Sz.z2.cells
      obtain ⟨t0, t1, t2, _, _, _⟩ := Hz.box.cells
      have ne1 : w.heap.size ≠ G := by omega
      have ne2 : w.heap.size + 1 ≠ G := by omega
      have ne3 : w.heap.size ≠ C := by omega
      have ne4 : w.heap.size + 1 ≠ C := by omega
      obtain ⟨e0, e1, e2, e3, e4, hy, h1, h2, h3, h4⟩ := fin_world w wz Sz.z1 Sz.z2 (.string st) (.slice (some ⟨b, off, none⟩) rs.length cap) (.string st) (.int .i64 dv) (.slice va vn vc)
      have E0 := Lib.hid e0
      have E1 := Lib.hid e1
      have E2 := Lib.hid e2
      have E3 := Lib.hid e3
      have E4 := Lib.hid e4
      clear e0 e1 e2 e3 e4
      go_region
      clear g0 g1 z0 z1 fz0 fz1 y0 y1 y2 f0 f1 f2 t0 t1 t2
      go_wp2_with fail
      exact bodyPost_ret (v := .tuple #[.agg #[.string st, .slice (some ⟨b, off, none⟩) rs.length cap], .agg #[.string st, .int .i64 dv, .slice va vn vc]]) (by have e0 := E0.out; have e1 := E1.out; have e2 := E2.out; have e3 := E3.out; have e4 := E4.out; simp [results, Tryd.results65, go_sem, e0, e1, e2, e3, e4]) rfl (some_end hRl Sz.r (by omega) Sz.o Sz.u Sz.bl hcap (by omega) hst hS Hz (by omega) (by rw [Tr.sz]; omega) (by rw [Tr.wt]; omega) hy h1 h2 h3 h4)
    by_cases q1 : q = 1
    · subst q1
      have HR6 := S5.r.alloc (.cells #[.string ⟨#[66]⟩, .string ⟨#[97]⟩, .string ⟨#[]⟩, .string ⟨#[70]⟩] 9)
      have hz5 := S5.lt
      go_wp2_with fail
      refine (of_any R 600001 w5.heap.size 4 4 [⟨#[66]⟩, ⟨#[97]⟩, ⟨#[]⟩, ⟨#[70]⟩] _ HR6 (by omega) rfl (by omega) (by omega) (by omega) (str4 (blk_new _ _ rfl))).mono ?_
      rintro e w6 ⟨sv, rfl, hsv, HR7, ho7⟩
      have hs1 := str_of hsv
      have S7 := (S5.old (.cells #[.string ⟨#[66]⟩, .string ⟨#[97]⟩, .string ⟨#[]⟩, .string ⟨#[70]⟩] 9)).only ho7 HR7
      have H7 := (H5.old (.cells #[.string ⟨#[66]⟩, .string ⟨#[97]⟩, .string ⟨#[]⟩, .string ⟨#[70]⟩] 9)).only ho7 hRC hRB
      clear S5 H5 HR6 HR7 ho7 hsv
      obtain ⟨x1, _, _, fx1, _, _⟩ := H7.box.cells
      have Sz := S7.put (C := C) hGC 0 (.string sv)
      have Hz := H7.sign (sg' := sv) (by omega)
      clear S7 H7
      go_wp2_with fail
      clear x1 fx1
      generalize w6.setCell ⟨C, 0, none⟩ (.string sv) = wz at *
      obtain ⟨g0, g1⟩ := Sz.g.cells
      obtain ⟨z0, z1⟩ := Sz.z1.cells
      have fz0 := frozen_of_block Sz.z1 0
      have fz1 := frozen_of_block Sz.z1 1
      obtain ⟨y0, y1, y2, f0, f1, f2⟩ := Sz.z2.cells
      obtain ⟨t0, t1, t2, _, _, _⟩ := Hz.box.cells
      have ne1 : w.heap.size ≠ G := by omega
      have ne2 : w.heap.size + 1 ≠ G := by omega
      have ne3 : w.heap.size ≠ C := by omega
      have ne4 : w.heap.size + 1 ≠ C := by omega
      obtain ⟨e0, e1, e2, e3, e4, hy, h1, h2, h3, h4⟩ := fin_world w wz Sz.z1 Sz.z2 (.string st) (.slice (some ⟨b, off, none⟩) rs.length cap) (.string sv) (.int .i64 r) (.slice va vn vc)
      have E0 := Lib.hid e0
      have E1 := Lib.hid e1
      have E2 := Lib.hid e2
      have E3 := Lib.hid e3
      have E4 := Lib.hid e4
      clear e0 e1 e2 e3 e4
      go_region
      clear g0 g1 z0 z1 fz0 fz1 y0 y1 y2 f0 f1 f2 t0 t1 t2
      go_wp2_with fail
      exact bodyPost_ret (v := .tuple #[.agg #[.string st, .slice (some ⟨b, off, none⟩) rs.length cap], .agg #[.string sv, .int .i64 r, .slice va vn vc]]) (by have e0 := E0.out; have e1 := E1.out; have e2 := E2.out; have e3 := E3.out; have e4 := E4.out; simp [results, Tryd.results65, go_sem, e0, e1, e2, e3, e4]) rfl (some_end hRl Sz.r (by omega) Sz.o Sz.u Sz.bl hcap (by omega) hst hS Hz (by omega) (by rw [Tr.sz]; omega) (by rw [Tr.wt]; omega) hy h1 h2 h3 h4)
    by_cases q2 : q = 2
    · subst q2
      have hz5 := S5.lt
      have hCl := H5.box.lt
      have H6 := H5.old (.cells #[.string ⟨#[97]⟩, .int .i64 (-1), .slice none 0 0] 29)
      have S6 := S5.old (.cells #[.string ⟨#[97]⟩, .int .i64 (-1), .slice none 0 0] 29)
      obtain ⟨_, _, x2, _, _, _⟩ := H5.box.cells
      have hB6 : B ≤ (w5.alloc (.cells #[.string ⟨#[97]⟩, .int .i64 (-1), .slice none 0 0] 29)).heap.size := by simp; omega
      have hsz5 : (w5.alloc (.cells #[.string ⟨#[97]⟩, .int .i64 (-1), .slice none 0 0] 29)).heap.size = w5.heap.size + 1 := by simp
      clear S5 H5
      go_wp2_with (at_builtin; refine list_append_leaf rfl _ _ rfl B C st r (.slice va vn vc) us ks ⟨#[97]⟩ (-1) w5.heap.size rfl rfl H6 hB6 (blk_new _ _ rfl) ?_)
      intro g cap' w7 hrow hg hat
      have S7 : SomeW R 600001 st b off cap rs G w w7 := S6.move (fun q hq => hg.block q (by have := S6.lt; omega) (fun e => by have := (H6.row.lt q e.symm).1; omega)) hg.os hg.tape hg.output hg.size
      have hbox7 : BoxT w7 C (.string st) (.int .i64 r) (.slice va vn vc) := (hg.block C H6.box.lt (fun e => H6.ne e.symm)).trans H6.box
      have Hz := H6.more (v' := .slice (some ⟨g, 0, none⟩) (us.length + 1) cap') (u := (⟨#[97]⟩, -1, .slice none 0 0)) (T := .node ⟨#[97]⟩ (-1) []) hl5 ⟨_, _, _, rfl⟩ hrow hg (by rw [hsz5]; exact hat) (fun A => ⟨⟨#[97]⟩, -1, [], none, 0, fun _ => False, rfl, rfl, by decide, rfl, Nat.zero_le _, Nat.le_refl _, fun _ hi => absurd hi (Nat.not_lt_zero _), fun _ hi => absurd hi (Nat.not_lt_zero _), fun _ hk => hk.elim⟩)
      have Sz := S7.put (C := C) hGC 2 (.slice (some ⟨g, 0, none⟩) (us.length + 1) cap')
      obtain ⟨_, _, x2', _, _, fx2⟩ := hbox7.cells
      clear hg hrow hat S6 H6 S7 hbox7 x2 hB6 hsz5
      go_wp2_with fail
      clear x2' fx2
      generalize w7.setCell ⟨C, 2, none⟩ (.slice (some ⟨g, 0, none⟩) (us.length + 1) cap') = wz at *
      obtain ⟨g0, g1⟩ := Sz.g.cells
      obtain ⟨z0, z1⟩ := Sz.z1.cells
      have fz0 := frozen_of_block Sz.z1 0
      have fz1 := frozen_of_block Sz.z1 1
      obtain ⟨y0, y1, y2, f0, f1, f2⟩ := Sz.z2.cells
      obtain ⟨t0, t1, t2, _, _, _⟩ := Hz.box.cells
      have ne1 : w.heap.size ≠ G := by omega
      have ne2 : w.heap.size + 1 ≠ G := by omega
      have ne3 : w.heap.size ≠ C := by omega
      have ne4 : w.heap.size + 1 ≠ C := by omega
      obtain ⟨e0, e1, e2, e3, e4, hy, h1, h2, h3, h4⟩ := fin_world w wz Sz.z1 Sz.z2 (.string st) (.slice (some ⟨b, off, none⟩) rs.length cap) (.string st) (.int .i64 r) (.slice (some ⟨g, 0, none⟩) (us.length + 1) cap')
      have E0 := Lib.hid e0
      have E1 := Lib.hid e1
      have E2 := Lib.hid e2
      have E3 := Lib.hid e3
      have E4 := Lib.hid e4
      clear e0 e1 e2 e3 e4
      go_region
      clear g0 g1 z0 z1 fz0 fz1 y0 y1 y2 f0 f1 f2 t0 t1 t2
      go_wp2_with fail
      exact bodyPost_ret (v := .tuple #[.agg #[.string st, .slice (some ⟨b, off, none⟩) rs.length cap], .agg #[.string st, .int .i64 r, .slice (some ⟨g, 0, none⟩) (us.length + 1) cap']]) (by have e0 := E0.out; have e1 := E1.out; have e2 := E2.out; have e3 := E3.out; have e4 := E4.out; simp [results, Tryd.results65, go_sem, e0, e1, e2, e3, e4]) rfl (some_end hRl Sz.r (by omega) Sz.o Sz.u Sz.bl hcap (by omega) hst hS Hz (by omega) (by rw [sz_leaf1]; omega) (by rw [wt_leaf1]; omega) hy h1 h2 h3 h4)
    by_cases q3 : q = 3
    · subst q3
      have hz5 := S5.lt
      obtain ⟨k0, k1⟩ := S5.g.cells
      go_wp2_with fail
      refine (l1Bent_any R 600001 6 b off cap st rs _ S5.r (by omega) S5.u (by omega) (by omega) (by omega) hst hS).mono ?_
      rintro e w6 ⟨gv1, st1, rs1, rfl, ⟨b1, off1, cap1, rfl, hcap1, HU1, hl1, hst1, hS1, hB1⟩, HR6, ho6⟩
      have hz6 := ho6.size
      have S6 := S5.only ho6 HR6
      have H6 := H5.only ho6 hRC hRB
      clear S5 H5 k0 k1 ho6
      go_wp2_with fail
      refine (l1Bent_any R 600101 10 b1 off1 cap1 st1 rs1 _ HR6 (by omega) HU1 (by omega) (by omega) (by omega) hst1 hS1).mono ?_
      rintro e w7 ⟨gv2, st2, rs2, rfl, ⟨b2, off2, cap2, rfl, hcap2, HU2, hl2, hst2, hS2, hB2⟩, HR7, ho7⟩
      have S7 := S6.only ho7 HR7
      have H7 := H6.only ho7 hRC hRB
      have hz7 := S6.lt
      clear S6 H6 HU1 hB1 hst1 hS1 hl1 hcap1 HR6
      obtain ⟨k0, k1⟩ := S7.g.cells
      have fk0 := frozen_of_block S7.g 0
      have fk1 := frozen_of_block S7.g 1
      have hGb2 : G < b2 := by omega
      have ho' : ∀ q, q ≠ G → ((w7.setCell ⟨G, 0, none⟩ (.string st2)).setCell ⟨G, 1, none⟩ (.slice (some ⟨b2, off2, none⟩) rs2.length cap2)).heap[q]? = w7.heap[q]? := fun q hq => (Below.heap_setCell _ ⟨G, 1, none⟩ _ q hq).trans (Below.heap_setCell _ ⟨G, 0, none⟩ _ q hq)
      have Qg : GB2 ((w7.setCell ⟨G, 0, none⟩ (.string st2)).setCell ⟨G, 1, none⟩ (.slice (some ⟨b2, off2, none⟩) rs2.length cap2)) G (.string st2) (.slice (some ⟨b2, off2, none⟩) rs2.length cap2) := by
        have := S7.g; unfold GB2 at *; simp [World.setCell, Array.getElem?_modify, this]
      have Qz1 : GB2 ((w7.setCell ⟨G, 0, none⟩ (.string st2)).setCell ⟨G, 1, none⟩ (.slice (some ⟨b2, off2, none⟩) rs2.length cap2)) w.heap.size (.string ⟨#[]⟩) (.slice none 0 0) := (ho' w.heap.size (by omega)).trans S7.z1
      have Qz2 : BoxT ((w7.setCell ⟨G, 0, none⟩ (.string st2)).setCell ⟨G, 1, none⟩ (.slice (some ⟨b2, off2, none⟩) rs2.length cap2)) (w.heap.size + 1) (.string ⟨#[]⟩) (.int .i64 0) (.slice none 0 0) := (ho' (w.heap.size + 1) (by omega)).trans S7.z2
      have Qr := (HR7.other (p := ⟨G, 0, none⟩) (by show R < G; omega) (.string st2)).other (p := ⟨G, 1, none⟩) (by show R < G; omega) (.slice (some ⟨b2, off2, none⟩) rs2.length cap2)
      have Qo := (S7.o.store (Nat.le_refl _) (p := ⟨G, 0, none⟩) (by show w.heap.size ≤ G; omega) (.string st2)).store (Nat.le_refl _) (p := ⟨G, 1, none⟩) (by show w.heap.size ≤ G; omega) (.slice (some ⟨b2, off2, none⟩) rs2.length cap2)
      have Qu := (HU2.other (p := ⟨G, 0, none⟩) (fun x hx => by cases hx; show b2 ≠ G; omega) (.string st2)).other (p := ⟨G, 1, none⟩) (fun x hx => by cases hx; show b2 ≠ G; omega) (.slice (some ⟨b2, off2, none⟩) rs2.length cap2)
      have Hz := H7.stay (fun k hk _ => ho' k (by omega))
      clear S7 H7 HR7 HU2 ho'
      go_wp2_with fail
      clear k0 k1 fk0 fk1
      generalize (w7.setCell ⟨G, 0, none⟩ (.string st2)).setCell ⟨G, 1, none⟩ (.slice (some ⟨b2, off2, none⟩) rs2.length cap2) = wz at *
      obtain ⟨g0, g1⟩ := Qg.cells
      obtain ⟨z0, z1⟩ := Qz1.cells
      have fz0 := frozen_of_block Qz1 0
      have fz1 := frozen_of_block Qz1 1
      obtain ⟨y0, y1, y2, f0, f1, f2⟩ := Qz2.cells
      obtain ⟨t0, t1, t2, _, _, _⟩ := Hz.box.cells
      have ne1 : w.heap.size ≠ G := by omega
      have ne2 : w.heap.size + 1 ≠ G := by omega
      have ne3 : w.heap.size ≠ C := by omega
      have ne4 : w.heap.size + 1 ≠ C := by omega
      obtain ⟨e0, e1, e2, e3, e4, hy, h1, h2, h3, h4⟩ := fin_world w wz Qz1 Qz2 (.string st2) (.slice (some ⟨b2, off2, none⟩) rs2.length cap2) (.string st) (.int .i64 r) (.slice va vn vc)
      have E0 := Lib.hid e0
      have E1 := Lib.hid e1
      have E2 := Lib.hid e2
      have E3 := Lib.hid e3
      have E4 := Lib.hid e4
      clear e0 e1 e2 e3 e4
      go_region
      clear g0 g1 z0 z1 fz0 fz1 y0 y1 y2 f0 f1 f2 t0 t1 t2
      go_wp2_with fail
      exact bodyPost_ret (v := .tuple #[.agg #[.string st2, .slice (some ⟨b2, off2, none⟩) rs2.length cap2], .agg #[.string st, .int .i64 r, .slice va vn vc]]) (by have e0 := E0.out; have e1 := E1.out; have e2 := E2.out; have e3 := E3.out; have e4 := E4.out; simp [results, Tryd.results65, go_sem, e0, e1, e2, e3, e4]) rfl (some_end hRl Qr (by omega) Qo Qu (by omega) hcap2 hl2 hst2 hS2 Hz (by omega) (by rw [Tr.sz]; omega) (by rw [Tr.wt]; omega) hy h1 h2 h3 h4)
    · go_wp2_with fail
      have Sz := S5
      have Hz := H5
      clear S5 H5
      generalize w5 = wz at *
      obtain ⟨g0, g1⟩ := Sz.g.cells
      obtain ⟨z0, z1⟩ := Sz.z1.cells
      have fz0 := frozen_of_block Sz.z1 0
      have fz1 := frozen_of_block Sz.z1 1
      obtain ⟨y0, y1, y2, f0, f1, f2⟩ := Sz.z2.cells
      obtain ⟨t0, t1, t2, _, _, _⟩ := Hz.box.cells
      have ne1 : w.heap.size ≠ G := by omega
      have ne2 : w.heap.size + 1 ≠ G := by omega
      have ne3 : w.heap.size ≠ C := by omega
      have ne4 : w.heap.size + 1 ≠ C := by omega
      obtain ⟨e0, e1, e2, e3, e4, hy, h1, h2, h3, h4⟩ := fin_world w wz Sz.z1 Sz.z2 (.string st) (.slice (some ⟨b, off, none⟩) rs.length cap) (.string st) (.int .i64 r) (.slice va vn vc)
      have E0 := Lib.hid e0
      have E1 := Lib.hid e1
      have E2 := Lib.hid e2
      have E3 := Lib.hid e3
      have E4 := Lib.hid e4
      clear e0 e1 e2 e3 e4
      go_region
      clear g0 g1 z0 z1 fz0 fz1 y0 y1 y2 f0 f1 f2 t0 t1 t2
      go_wp2_with fail
      exact bodyPost_ret (v := .tuple #[.agg #[.string st, .slice (some ⟨b, off, none⟩) rs.length cap], .agg #[.string st, .int .i64 r, .slice va vn vc]]) (by have e0 := E0.out; have e1 := E1.out; have e2 := E2.out; have e3 := E3.out; have e4 := E4.out; simp [results, Tryd.results65, go_sem, e0, e1, e2, e3, e4]) rfl (some_end hRl Sz.r (by omega) Sz.o Sz.u Sz.bl hcap (by omega) hst hS Hz (by omega) (by rw [Tr.sz]; omega) (by rw [Tr.wt]; omega) hy h1 h2 h3 h4)
end Go.Proofs.YtpkejcjjbkgomaaDoor
namespace Go.Proofs.YtpkejcjjbkgomaaDoor
open Go.ChangeShapes Go.WideShapes Go.ChangeAt Go.RowKit Go.Deep
set_option maxRecDepth 100000
set_option linter.unusedVariables false
def MadeGT (w : World) (e : Ending) (w' : World) : Prop := ∃ gv tv, e = .returned (.tuple #[gv, tv]) ∧ SomeS w gv tv w' ∧ Below w.heap.size w w'
def MadeT (w : World) (e : Ending) (w' : World) : Prop := ∃ tv T, e = .returned tv ∧ TrP w' w.heap.size tv T ∧ T.sz ≤ 488290 ∧ T.wt ≤ 1048576 ∧ Below w.heap.size w w'
theorem SomeS.stay {w0 w wz wy : World} {gv tv : Value} (h : SomeS w0 gv tv wz) (h0 : w.heap.size + 2 ≤ w0.heap.size) (hy : ∀ q, q ≠ w.heap.size → q ≠ w.heap.size + 1 → wy.heap[q]? = wz.heap[q]?) (h4 : wz.heap.size ≤ wy.heap.size) : SomeS w gv tv wy := by
  obtain ⟨st, rs, T, ⟨b, off, cap, e, hcap, HU, hl, hst, hS, hB⟩, HT, hsz, hwt⟩ := h
  refine ⟨st, rs, T, ⟨b, off, cap, e, hcap, ⟨HU.1, fun i hi => ?_⟩, hl, hst, hS, by omega⟩, (TrP.stay HT (fun k hk _ => hy k (by omega) (by omega))).mono (by omega), hsz, hwt⟩
  obtain ⟨q1, q2, b', off', e', hlt, c1, c2⟩ := HU.2 i hi
  simp only [Option.some.injEq, Addr.mk.injEq] at e'
  obtain ⟨rfl, rfl, _⟩ := e'
  exact ⟨q1, q2, b, off, rfl, Nat.lt_of_lt_of_le hlt h4, by rw [cell_same (hy b (by omega) (by omega))]; exact c1, by rw [cell_same (hy b (by omega) (by omega))]; exact c2⟩
/-- the pair is laid into its boxes -/
theorem pair_end {w w0 wz : World} {st : ByteArray} {b off cap : Nat} {rs : List RuleT} {s : ByteArray} {r : Int} {ka : Option Addr} {kn kc : Nat} {a0 a1 b0 b1 b2 : Value} (z1 : GB2 wz w.heap.size a0 a1) (z2 : BoxT wz (w.heap.size + 1) b0 b1 b2) (h0 : w.heap.size + 2 ≤ w0.heap.size)
    (h : SomeS w0 (.agg #[.string st, .slice (some ⟨b, off, none⟩) rs.length cap]) (.agg #[.string s, .int .i64 r, .slice ka kn kc]) wz) (hb : Below w.heap.size w wz) :
    MadeGT w (.returned (.tuple #[.agg #[.string st, .slice (some ⟨b, off, none⟩) rs.length cap], .agg #[.string s, .int .i64 r, .slice ka kn kc]]))
      (((((wz.setCell ⟨w.heap.size, 0, none⟩ (.string st)).setCell ⟨w.heap.size, 1, none⟩ (.slice (some ⟨b, off, none⟩) rs.length cap)).setCell ⟨w.heap.size + 1, 0, none⟩ (.string s)).setCell ⟨w.heap.size + 1, 1, none⟩ (.int .i64 r)).setCell ⟨w.heap.size + 1, 2, none⟩ (.slice ka kn kc)) := by
  obtain ⟨_, _, _, _, _, hy, h1, h2, h3, h4⟩ := fin_world0 w wz z1 z2 (.string st) (.slice (some ⟨b, off, none⟩) rs.length cap) (.string s) (.int .i64 r) (.slice ka kn kc)
  exact ⟨_, _, rfl, h.stay h0 hy h4, h1.trans hb.os, h2.trans hb.tape, h3.trans hb.output, Nat.le_trans hb.size h4, fun k hk => (hy k (by omega) (by omega)).trans (hb.block k hk)⟩
set_option maxHeartbeats 4000000 in
theorem drawTreeOk_any (a : Option Addr) (n cap : Nat) (w : World) (H : BytesAt w a n cap) :
    Calls Tryd.prog 76 #[.slice a n cap] w (MadeGT w) := by
  have hb2 := ((Below.refl w.heap.size w).alloc (Nat.le_refl _) (.cells #[.string ⟨#[]⟩, .slice none 0 0] 64)).alloc (by simp) (.cells #[.string ⟨#[]⟩, .int .i64 0, .slice none 0 0] 29)
  have hG2 : GB2 ((w.alloc (.cells #[.string ⟨#[]⟩, .slice none 0 0] 64)).alloc (.cells #[.string ⟨#[]⟩, .int .i64 0, .slice none 0 0] 29)) w.heap.size (.string ⟨#[]⟩) (.slice none 0 0) := (blk_old _ _ (by simp)).trans (blk_new _ _ rfl)
  have hZ2 : BoxT ((w.alloc (.cells #[.string ⟨#[]⟩, .slice none 0 0] 64)).alloc (.cells #[.string ⟨#[]⟩, .int .i64 0, .slice none 0 0] 29)) (w.heap.size + 1) (.string ⟨#[]⟩) (.int .i64 0) (.slice none 0 0) := blk_new _ _ (by simp)
  go_enter Tryd.func76, Tryd.ntmps76
  go_wp2_with fail
  refine (l17Open_any a n cap _ ((H.alloc _).alloc _)).mono ?_
  rintro e w3 ⟨rfl, hrd3, hb3⟩
  simp only [World.size_alloc] at hrd3
  have hG3 : GB2 w3 w.heap.size (.string ⟨#[]⟩) (.slice none 0 0) := (hb3.block _ hG2.lt).trans hG2
  have hZ3 := hZ2.below hb3
  have hB3 := Below.on hb2 hb3 (Nat.le_refl _)
  have hz3 : w.heap.size + 2 ≤ w3.heap.size := by have := hb3.size; simpa using this
  clear hG2 hZ2 hb2 hb3
  go_wp2_with fail
  refine (l3Some_any (w.heap.size + 1 + 1) w3 hrd3).mono ?_
  rintro e w4 ⟨gv, tv, rfl, hS, hrd4, ho4⟩
  have hS' := hS
  obtain ⟨st, rs, T, ⟨b, off, cg, rfl, _⟩, HT, _⟩ := hS
  obtain ⟨s, r, ks, ka, kc, rfl, _⟩ := HT.tr.open
  have hG4 := hG3.only ho4 (by omega)
  have hZ4 := hZ3.only ho4 (by omega)
  have hB4 : Below w.heap.size w w4 := hB3.trans (ho4.below _ (by omega) (by have := hB3.size; omega))
  obtain ⟨e0, e1, e2, e3, e4, _⟩ := fin_world0 w w4 hG4 hZ4 (.string st) (.slice (some ⟨b, off, none⟩) rs.length cg) (.string s) (.int .i64 r) (.slice ka ks.length kc)
  have E0 := Lib.hid e0
  have E1 := Lib.hid e1
  have E2 := Lib.hid e2
  have E3 := Lib.hid e3
  have E4 := Lib.hid e4
  clear e0 e1 e2 e3 e4
  obtain ⟨z0, z1⟩ := hG4.cells
  have fz0 := frozen_of_block hG4 0
  have fz1 := frozen_of_block hG4 1
  obtain ⟨y0, y1, y2, f0, f1, f2⟩ := hZ4.cells
  have hend := pair_end hG4 hZ4 hz3 hS' hB4
  have HEND := Lib.hid hend
  clear hend hG3 hZ3 hG4 hZ4 hB3 hB4 hS' HT hrd3 hrd4 ho4
  go_wp2_with fail
  exact bodyPost_ret (v := .tuple #[.agg #[.string st, .slice (some ⟨b, off, none⟩) rs.length cg], .agg #[.string s, .int .i64 r, .slice ka ks.length kc]]) (by have e0 := E0.out; have e1 := E1.out; have e2 := E2.out; have e3 := E3.out; have e4 := E4.out; simp [results, Tryd.results76, go_sem, e0, e1, e2, e3, e4]) rfl HEND.out
end Go.Proofs.YtpkejcjjbkgomaaDoor
