/- The contract of the model's GramFor: the places of the rules of a sign. -/
import Derived.Test.YtpkejcjjbkgomaaGreatDoorOwnZ
import Derived.Test.YtpkejcjjbkgomaaGreatDoorTrW
import Derived.Test.YtpkejcjjbkgomaaGreatDoorTokV
import Derived.Deep.Cut
import Derived.Deep.DeepCutAuto
import Derived.Test.YtpkejcjjbkgomaaGreatDoorTokA
import Derived.Test.YtpkejcjjbkgomaaGreatDoorTtB
namespace Go.Proofs.YtpkejcjjbkgomaaGreatDoor
open Go.ChangeShapes Go.WideShapes Go.ChangeAt Go.RowKit
set_option maxRecDepth 100000
theorem OwnZ.mono {w : World} {B B' : Nat} {v : Value} {zs : List Int} (h : OwnZ w B v zs) (hB : B' ≤ B) : OwnZ w B' v zs := by
  refine ⟨h.1, h.2.1, ?_⟩
  rcases h.2.2 with h0 | ⟨g, cap, cur, hv, hg, hh⟩
  · exact .inl h0
  · exact .inr ⟨g, cap, cur, hv, Nat.le_trans hB hg, hh⟩
/-- of the first k rules the places of those whose left side is this -/
def forTo (rs : List RuleT) (left : ByteArray) : Nat → List Int
  | 0 => []
  | k + 1 => forTo rs left k ++ (match rs[k]? with
    | some r => if (r.1.toList == left.toList) = true then [(k : Int)] else []
    | none => [])
theorem forTo_len (rs : List RuleT) (left : ByteArray) : ∀ k, (forTo rs left k).length ≤ k
  | 0 => Nat.le_refl _
  | k + 1 => by
    have := forTo_len rs left k
    unfold forTo
    cases rs[k]? with
    | none => simp; omega
    | some r => by_cases h : (r.1.toList == left.toList) = true <;> simp only [h, if_true, if_false, Bool.false_eq_true, List.length_append, List.length_cons, List.length_nil] <;> omega
theorem forTo_yes {rs : List RuleT} {left : ByteArray} {k : Nat} (hk : k < rs.length) (h : (rs[k].1.toList == left.toList) = true) : forTo rs left (k + 1) = forTo rs left k ++ [(k : Int)] := by
  rw [forTo, List.getElem?_eq_getElem hk]
  simp only [h, if_true]
theorem forTo_no {rs : List RuleT} {left : ByteArray} {k : Nat} (hk : k < rs.length) (h : (rs[k].1.toList == left.toList) = false) : forTo rs left (k + 1) = forTo rs left k := by
  rw [forTo, List.getElem?_eq_getElem hk]
  simp only [h, Bool.false_eq_true, if_false, List.append_nil]
set_option maxHeartbeats 2000000 in
theorem l1For_any (st left : ByteArray) (a : Option Addr) (cap : Nat) (rs : List RuleT) (w : World) (H : RulesAt w a rs) (hl : rs.length ≤ 100) :
    Calls Tryz.prog 87 #[.agg #[.string st, .slice a rs.length cap], .string left] w fun e w' => ∃ v, e = .returned v ∧ OwnZ w' w.heap.size v (forTo rs left rs.length) ∧ Below w.heap.size w w' := by
  obtain ⟨i0, hi0, hz0, hz1, hz2⟩ := info_parts infoInt
  have hA : BoxG (w.alloc (.cells #[.string st, .slice a rs.length cap] 25)) w.heap.size (.string st) (.slice a rs.length cap) := blk_new _ _ rfl
  have hbA := (Below.refl w.heap.size w).alloc (Nat.le_refl _) (.cells #[.string st, .slice a rs.length cap] 25)
  have hE : OwnZ ((w.alloc (.cells #[.string st, .slice a rs.length cap] 25)).alloc (.cells #[] 3)) (w.heap.size + 1) (.slice (some ⟨w.heap.size + 1, 0, none⟩) 0 0) [] :=
    ⟨⟨_, _, rfl⟩, rfl, .inr ⟨w.heap.size + 1, 0, #[], rfl, Nat.le_refl _, blk_new _ _ (by simp), Nat.le_refl _, Nat.zero_le _, rfl, rfl⟩⟩
  have hbE := hbA.alloc (by simp) (.cells #[] 3)
  have hAE := hA.old (.cells #[] 3)
  go_enter Tryz.func87, Tryz.ntmps87
  go_wp2
  go_loopw [5, 6] (fun v i wr => ∃ k : Nat, k ≤ rs.length ∧ i = .int .i64 k ∧ OwnZ wr (w.heap.size + 1) v (forTo rs left k) ∧ BoxG wr w.heap.size (.string st) (.slice a rs.length cap) ∧ Below w.heap.size w wr) (fun _ i _ => rs.length - (intOf i).toNat)
  case atStart => exact ⟨0, Nat.zero_le _, rfl, hE, hAE, hbE⟩
  case round =>
    obtain ⟨k, hk, rfl, hown, hA, hb⟩ := hrel
    obtain ⟨a0, a1, _, _⟩ := hA.cells
    by_cases hlt : k < rs.length
    · obtain ⟨z1, z2, b, off, e, hbb, c1, c2⟩ := H.2 k hlt
      subst e
      have d1 : wr.cell? ⟨b, off + k * 2, none⟩ = some (.string rs[k].1) := by rw [hb.cell (p := ⟨b, _, none⟩) hbb, c1]
      have hkl : (k : Int) < (rs.length : Int) := by omega
      obtain ⟨g, cp, rfl⟩ := hown.1
      have hlen := forTo_len rs left k
      have hAl := hA.lt
      cases hc : (rs[k].1.toList == left.toList) with
      | false =>
        go_wp2
        go_roundw
        case rel => exact ⟨k + 1, by omega, by go_num, by rw [forTo_no hlt hc]; exact hown, hA, hb⟩
        case measure => simp [intOf]; omega
      | true =>
        have hown5 := hown.keep (w' := wr.alloc (.cells #[.int .i64 (k : Int)] 3)) (fun q hq hq2 => Below.heap_alloc wr _ q hq2)
        have hA5 := hA.old (.cells #[.int .i64 (k : Int)] 3)
        have hb5 := hb.alloc hb.size (.cells #[.int .i64 (k : Int)] 3)
        go_wp2_with (at_builtin; refine wpList_append_own _ rfl _ _ 54 rfl (w.heap.size + 1) 3 i0 (.int .i64 0) 1 8 Tryz.underlying54 hi0 hz0 hz1 hz2 rfl (by decide) (.slice (some ⟨g, 0, none⟩) (forTo rs left k).length cp) (forTo rs left k).length (intCells (forTo rs left k)) rfl hown5.2 ⟨wr.heap.size, 0, none⟩ 1 1 [.int .i64 (k : Int)] rfl rfl ?c1 ?c2 ?c3 ?c4 ?c5 ?_)
        case c1 =>
          intro q u hq
          match q, hq with
          | 0, hq => simp at hq; subst hq; simp [Addr.add]
        case c2 => intro u hu; simp at hu; subst hu; rfl
        case c3 => unfold maxLen; omega
        case c4 => omega
        case c5 => simp; omega
        intro v' w6 h1 h2 h3
        have hbR := (Below.refl (w.heap.size + 1) _).grown h2 (by simp; omega) hown5.row
        have hA7 : BoxG w6 w.heap.size (.string st) (.slice (some ⟨b, off, none⟩) rs.length cap) := (hbR.block w.heap.size (by omega)).trans hA5
        have hb7 : Below w.heap.size w w6 := hb5.trans (hbR.mono (by omega))
        rcases h1.2 with ⟨h0, _⟩ | ⟨g', cp', cur, hv', _⟩
        · exact absurd h0 h3
        subst hv'
        have hO7 : OwnZ w6 (w.heap.size + 1) (.slice (some ⟨g', 0, none⟩) ((forTo rs left k).length + 1) cp') (forTo rs left (k + 1)) := by
          rw [forTo_yes hlt hc]
          exact ⟨⟨g', cp', by simp⟩, by simpa [intCells] using h1⟩
        clear h1 h2 h3 hbR hA5 hb5 hown5 hown hA hb d1 a0 a1
        go_wp2
        go_roundw
        case rel => exact ⟨k + 1, by omega, by go_num, hO7, hA7, hb7⟩
        case measure => simp [intOf]; omega
    · have hkl : ¬ (k : Int) < (rs.length : Int) := by omega
      obtain rfl : k = rs.length := by omega
      obtain ⟨g, cp, rfl⟩ := hown.1
      go_wp2
      go_ret
      exact ⟨_, rfl, hown.mono (by omega), hb⟩
end Go.Proofs.YtpkejcjjbkgomaaGreatDoor
namespace Go.Proofs.YtpkejcjjbkgomaaGreatDoor
open Go.ChangeShapes Go.WideShapes Go.ChangeAt Go.RowKit Go.Deep
set_option maxRecDepth 100000
def tmost : Nat → Nat
  | 0 => 1
  | d + 1 => 1 + 5 * tmost d
theorem tmost_pos : ∀ d, 1 ≤ tmost d
  | 0 => Nat.le_refl _
  | d + 1 => by unfold tmost; omega
def isSl (v : Value) : Prop := ∃ a n cap, v = .slice a n cap
/-- the kids of the root lie in a row of the call's own -/
def OwnTop (w : World) (B : Nat) (sg : ByteArray) (u : Value) (T : Tr) : Prop := ∃ r v us ks, u = .agg #[.string sg, .int .i64 r, v] ∧ T = .node sg r ks ∧ (Lit.int .i64 r).wf = true ∧ isSl v ∧ us.length ≤ 5 ∧ KidsQ w B (fun q => B ≤ q ∧ v.ownBlock ≠ some q) v us ks
def DrawnT (R k d : Nat) (sg : ByteArray) (w : World) (e : Ending) (w' : World) : Prop := ∃ u T, e = .returned u ∧ TrP w' w.heap.size u T ∧ T.sign = sg ∧ T.sz ≤ tmost d ∧ T.wt ≤ sg.size + 2 * (T.sz - 1) ∧ Rdk w' R (k + tmost d) ∧ Only R w w' ∧ OwnTop w' w.heap.size sg u T
theorem forTo_mem {rs : List RuleT} {left : ByteArray} : ∀ {m : Nat} {z : Int}, z ∈ forTo rs left m → ∃ j : Nat, z = (j : Int) ∧ j < m ∧ j < rs.length
  | 0, z, h => by cases h
  | m + 1, z, h => by
    unfold forTo at h
    rcases List.mem_append.1 h with h | h
    · obtain ⟨j, e, h1, h2⟩ := forTo_mem h
      exact ⟨j, e, by omega, h2⟩
    · by_cases hm : m < rs.length
      · rw [List.getElem?_eq_getElem hm] at h
        by_cases hq : (rs[m].1.toList == left.toList) = true
        · simp only [hq, if_true, List.mem_cons, List.not_mem_nil, or_false] at h
          exact ⟨m, h, by omega, hm⟩
        · simp only [hq, Bool.false_eq_true, if_false, List.not_mem_nil] at h
      · rw [List.getElem?_eq_none (by omega)] at h
        cases h
theorem KidsQ.stay {w w' : World} {B : Nat} {v : Value} {us : List Kid} {ks : List Tr} (H : KidsQ w B (fun k => B ≤ k ∧ v.ownBlock ≠ some k) v us ks) (hb : ∀ k, B ≤ k → k < w.heap.size → w'.heap[k]? = w.heap[k]?) : KidsQ w' B (fun k => B ≤ k ∧ v.ownBlock ≠ some k) v us ks := by
  refine ⟨⟨H.row.1, ?_⟩, H.len, fun j hj => (H.kid j hj).stay (fun k hk hlt => hb k hk.1 hlt)⟩
  rcases H.row.2 with h | ⟨g, cap, cur, e, h1, h2, h3⟩
  · exact .inl h
  · exact .inr ⟨g, cap, cur, e, h1, (hb g h1 (Array.getElem?_eq_some_iff.1 h2).1).trans h2, h3⟩
theorem leaf_tree (w : World) (B : Nat) (sg : ByteArray) (hs : sg.size ≤ maxLen) : TrP w B (.agg #[.string sg, .int .i64 (-1), .slice none 0 0]) (.node sg (-1) []) :=
  ⟨sg, -1, [], none, 0, fun _ => False, rfl, rfl, hs, rfl, Nat.zero_le _, Nat.le_refl _, fun _ hi => absurd hi (Nat.not_lt_zero _), fun _ hi => absurd hi (Nat.not_lt_zero _), fun _ hk => hk.elim⟩
theorem leaf_drawn {R k d : Nat} {sg : ByteArray} {w w' : World} (hs : sg.size ≤ maxLen) (hr : Rdk w' R k) (ho : Only R w w') : DrawnT R k d sg w (.returned (.agg #[.string sg, .int .i64 (-1), .slice none 0 0])) w' :=
  ⟨_, _, rfl, leaf_tree w' _ sg hs, rfl, by rw [Tr.sz]; exact tmost_pos d, by rw [Tr.wt, Tr.sz]; simp, hr.mono (by omega), ho, -1, .slice none 0 0, [], [], rfl, rfl, rfl, ⟨_, _, _, rfl⟩, Nat.zero_le _, ⟨World.ownsRow_nil _ _ _ _, rfl, fun _ hj => absurd hj (Nat.not_lt_zero _)⟩⟩
end Go.Proofs.YtpkejcjjbkgomaaGreatDoor
namespace Go.Proofs.YtpkejcjjbkgomaaGreatDoor
open Go.ChangeShapes Go.WideShapes Go.ChangeAt Go.RowKit Go.Deep
set_option maxRecDepth 100000
theorem BoxT.only {R : Nat} {w w' : World} {b : Nat} {v0 v1 v2 : Value} (h : BoxT w b v0 v1 v2) (ho : Only R w w') (hR : b ≠ R) : BoxT w' b v0 v1 v2 := (ho.block b h.lt hR).trans h
theorem GB2.only {R : Nat} {w w' : World} {b : Nat} {v0 v1 : Value} (h : GB2 w b v0 v1) (ho : Only R w w') (hR : b ≠ R) : GB2 w' b v0 v1 := (ho.block b h.lt hR).trans h
theorem BoxT.old {w : World} {b : Nat} {v0 v1 v2 : Value} (h : BoxT w b v0 v1 v2) (o : Obj) : BoxT (w.alloc o) b v0 v1 v2 := (blk_old _ _ h.lt).trans h
theorem GB2.old {w : World} {b : Nat} {v0 v1 : Value} (h : GB2 w b v0 v1) (o : Obj) : GB2 (w.alloc o) b v0 v1 := (blk_old _ _ h.lt).trans h
theorem RulesAt.only {R : Nat} {w w' : World} {b off : Nat} {rs : List RuleT} (h : RulesAt w (some ⟨b, off, none⟩) rs) (ho : Only R w w') (hR : b ≠ R) : RulesAt w' (some ⟨b, off, none⟩) rs := by
  refine ⟨h.1, fun i hi => ?_⟩
  obtain ⟨h1, h2, b', off', e, hlt, c1, c2⟩ := h.2 i hi
  simp only [Option.some.injEq, Addr.mk.injEq] at e
  obtain ⟨rfl, rfl, _⟩ := e
  exact ⟨h1, h2, b, off, rfl, Nat.lt_of_lt_of_le hlt ho.size, by rw [ho.cell hlt hR]; exact c1, by rw [ho.cell hlt hR]; exact c2⟩
theorem IntsAt.only {R : Nat} {w w' : World} {b off : Nat} {zs : List Int} (h : IntsAt w (some ⟨b, off, none⟩) zs) (ho : Only R w w') (hR : b ≠ R) : IntsAt w' (some ⟨b, off, none⟩) zs := by
  refine ⟨h.1, fun i hi => ?_⟩
  obtain ⟨b', off', e, hlt, c1⟩ := h.2 i hi
  simp only [Option.some.injEq, Addr.mk.injEq] at e
  obtain ⟨rfl, rfl, _⟩ := e
  exact ⟨b, off, rfl, Nat.lt_of_lt_of_le hlt ho.size, by rw [ho.cell hlt hR]; exact c1⟩
theorem BoxT.set3 {w : World} {b : Nat} {v0 v1 v2 : Value} (h : BoxT w b v0 v1 v2) (a0 a1 a2 : Value) : BoxT (((w.setCell ⟨b, 0, none⟩ a0).setCell ⟨b, 1, none⟩ a1).setCell ⟨b, 2, none⟩ a2) b a0 a1 a2 := by
  unfold BoxT at *; simp [World.setCell, Array.getElem?_modify, h]
/-- what l3Any holds behind its first half -/
structure AnyS (R k : Nat) (st : ByteArray) (b off cg : Nat) (rs : List RuleT) (w wx : World) : Prop where
  g : GB2 wx w.heap.size (.string st) (.slice (some ⟨b, off, none⟩) rs.length cg)
  z : BoxT wx (w.heap.size + 1) (.string ⟨#[]⟩) (.int .i64 0) (.slice none 0 0)
  u : RulesAt wx (some ⟨b, off, none⟩) rs
  r : Rdk wx R k
  o : Only R w wx
  s : w.heap.size + 2 ≤ wx.heap.size
theorem RulesAt.drewN {w : World} {a : Option Addr} {rs : List RuleT} (h : RulesAt w a rs) (n : Nat) : RulesAt (w.drewN n) a rs := h
theorem AnyS.drewN {R k : Nat} {st : ByteArray} {b off cg : Nat} {rs : List RuleT} {w wx : World} (h : AnyS R k st b off cg rs w wx) (n : Nat) : AnyS R k st b off cg rs w (wx.drewN n) := ⟨h.g, h.z, h.u, h.r, ⟨h.o.os, h.o.tape, h.o.output, h.o.size, h.o.block⟩, h.s⟩
theorem IntsAt.drewN {w : World} {a : Option Addr} {zs : List Int} (h : IntsAt w a zs) (n : Nat) : IntsAt (w.drewN n) a zs := h
theorem Rdk.same {w w' : World} {R k : Nat} (h : Rdk w R k) (hs : ∀ q, q ≤ R → w'.heap[q]? = w.heap[q]?) : Rdk w' R k := by
  obtain ⟨a, n, cap, p, h1, h2, h3, h4⟩ := h
  refine ⟨a, n, cap, p, (hs R (Nat.le_refl _)).trans h1, h2, h3, fun i hi => ?_⟩
  obtain ⟨b, off, x, e, hb, hc, hx⟩ := h4 i hi
  exact ⟨b, off, x, e, hb, by rw [cell_same (hs b (by omega))]; exact hc, hx⟩
theorem AnyS.move {R k : Nat} {st : ByteArray} {b off cg : Nat} {rs : List RuleT} {w wx wy : World} (h : AnyS R k st b off cg rs w wx) (hR : R < w.heap.size) (hb : b < w.heap.size) (hs : ∀ q, q < w.heap.size + 2 → wy.heap[q]? = wx.heap[q]?) (h1 : wy.os = wx.os) (h2 : wy.tape = wx.tape) (h3 : wy.output = wx.output) (h4 : wx.heap.size ≤ wy.heap.size) : AnyS R k st b off cg rs w wy := by
  refine ⟨(hs _ (by omega)).trans h.g, (hs _ (by omega)).trans h.z, ⟨h.u.1, fun i hi => ?_⟩, h.r.same (fun q hq => hs q (by omega)), ⟨h1.trans h.o.os, h2.trans h.o.tape, h3.trans h.o.output, Nat.le_trans h.o.size h4, fun q hq hqR => (hs q (by omega)).trans (h.o.block q hq hqR)⟩, Nat.le_trans h.s h4⟩
  obtain ⟨q1, q2, b', off', e, hlt, c1, c2⟩ := h.u.2 i hi
  simp only [Option.some.injEq, Addr.mk.injEq] at e
  obtain ⟨rfl, rfl, _⟩ := e
  exact ⟨q1, q2, b, off, rfl, Nat.lt_of_lt_of_le hlt h4, by rw [cell_same (hs b (by omega))]; exact c1, by rw [cell_same (hs b (by omega))]; exact c2⟩
theorem AnyS.only {R k k' : Nat} {st : ByteArray} {b off cg : Nat} {rs : List RuleT} {w wx wy : World} (h : AnyS R k st b off cg rs w wx) (hR : R < w.heap.size) (hbR : b ≠ R) (ho : Only R wx wy) (hr : Rdk wy R k') : AnyS R k' st b off cg rs w wy :=
  ⟨h.g.only ho (by omega), h.z.only ho (by omega), h.u.only ho hbR, hr, h.o.trans ho, Nat.le_trans h.s ho.size⟩
theorem AnyS.held {R k : Nat} {st : ByteArray} {b off cg : Nat} {rs : List RuleT} {w wx : World} (h : AnyS R k st b off cg rs w wx) {j : Nat} (hj : j < rs.length) : wx.cell? ⟨w.heap.size, 0, none⟩ = some (.string st) ∧ wx.cell? ⟨w.heap.size, 1, none⟩ = some (.slice (some ⟨b, off, none⟩) rs.length cg) ∧ wx.cell? ⟨b, off + j * 2 + 1, none⟩ = some (.string rs[j].2) := by
  obtain ⟨_, _, b', off', e, _, _, c2⟩ := h.u.2 j hj
  simp only [Option.some.injEq, Addr.mk.injEq] at e
  obtain ⟨rfl, rfl, _⟩ := e
  exact ⟨h.g.cells.1, h.g.cells.2, c2⟩
theorem AnyS.old {R k : Nat} {st : ByteArray} {b off cg : Nat} {rs : List RuleT} {w wx : World} (h : AnyS R k st b off cg rs w wx) (hR : R < w.heap.size) (hb : b < w.heap.size) (o : Obj) : AnyS R k st b off cg rs w (wx.alloc o) := h.move hR hb (fun q hq => blk_old _ _ (by have := h.s; omega)) rfl rfl rfl (by simp)
theorem AnyS.put {R k : Nat} {st : ByteArray} {b off cg : Nat} {rs : List RuleT} {w wx : World} (h : AnyS R k st b off cg rs w wx) (hR : R < w.heap.size) (hb : b < w.heap.size) {C : Nat} (hC : w.heap.size + 2 ≤ C) (i : Nat) (x : Value) : AnyS R k st b off cg rs w (wx.setCell ⟨C, i, none⟩ x) := h.move hR hb (fun q hq => Below.heap_setCell _ _ _ _ (by show q ≠ C; omega)) rfl rfl rfl (by simp)
/-- behind i kids -/
def KidRel (R k t C : Nat) (st : ByteArray) (b off cg : Nat) (rs : List RuleT) (w : World) (sg : ByteArray) (j i : Nat) (wr : World) : Prop := ∃ v us ks, BoxT wr C (.string sg) (.int .i64 (j : Int)) v ∧ isSl v ∧ KidsQ wr (C + 1) (fun q => C + 1 ≤ q ∧ v.ownBlock ≠ some q) v us ks ∧ us.length = i ∧ (∀ T ∈ ks, T.sz ≤ t ∧ T.wt ≤ 1 + 2 * (T.sz - 1)) ∧ AnyS R (k + i * t) st b off cg rs w wr
theorem KidsQ.ne {w : World} {B : Nat} {A : Nat → Prop} {v : Value} {us : List Kid} {ks : List Tr} (H : KidsQ w B A v us ks) {C : Nat} (hC : C < B) : v.ownBlock ≠ some C := fun e => by
  rcases H.row.2 with ⟨h, _⟩ | ⟨g, cap, cur, h, hg, _⟩
  · rw [h] at e; cases e
  · rw [h] at e; simp [Value.ownBlock] at e; omega
theorem BoxT.set2 {w : World} {b : Nat} {v0 v1 v2 : Value} (h : BoxT w b v0 v1 v2) (a2 : Value) : BoxT (w.setCell ⟨b, 2, none⟩ a2) b v0 v1 a2 := by
  unfold BoxT at *; simp [World.setCell, Array.getElem?_modify, h]
/-- one kid more -/
theorem KidRel.more {R k t C : Nat} {st : ByteArray} {b off cg : Nat} {rs : List RuleT} {w : World} {sg : ByteArray} {j : Nat} {wa w6 : World} {v : Value} {us : List Kid} {ks : List Tr} {u : Kid} {T : Tr} {g6 cap6 : Nat} {o : Obj} (hR : R < w.heap.size) (hb : b < w.heap.size) (hC : w.heap.size + 2 ≤ C)
    (hbx : BoxT wa C (.string sg) (.int .i64 (j : Int)) v) (hK : KidsQ wa (C + 1) (fun q => C + 1 ≤ q ∧ v.ownBlock ≠ some q) v us ks) (hS : AnyS R (k + (us.length + 1) * t) st b off cg rs w wa) (hu : TrQ wa (fun q => C + 1 ≤ q ∧ v.ownBlock ≠ some q) (kidVal u) T) (hT : T.sz ≤ t ∧ T.wt ≤ 1 + 2 * (T.sz - 1)) (hks : ∀ T ∈ ks, T.sz ≤ t ∧ T.wt ≤ 1 + 2 * (T.sz - 1))
    (hrow : w6.ownsRow (C + 1) 30 3 (.slice (some ⟨g6, 0, none⟩) (us.length + 1) cap6) (us.length + 1) (flatK (us ++ [u]))) (hg : (wa.alloc o).grownBy w6 v.ownBlock) (hat : (Value.slice (some ⟨g6, 0, none⟩) (us.length + 1) cap6).ownBlock = v.ownBlock ∨ (Value.slice (some ⟨g6, 0, none⟩) (us.length + 1) cap6).ownBlock = some (wa.alloc o).heap.size) :
    KidRel R k t C st b off cg rs w sg j (us.length + 1) (w6.setCell ⟨C, 2, none⟩ (.slice (some ⟨g6, 0, none⟩) (us.length + 1) cap6)) := by
  have hCl := hbx.lt
  have hnC := hK.ne (Nat.lt_succ_self C)
  have hsz := hg.size
  simp only [World.size_alloc] at hsz
  have same : ∀ q, q < wa.heap.size → v.ownBlock ≠ some q → w6.heap[q]? = wa.heap[q]? := fun q hq hv => (hg.block q (by simp; omega) (fun e => hv e.symm)).trans (blk_old _ _ hq)
  have hb6 : BoxT w6 C (.string sg) (.int .i64 (j : Int)) v := (same C hCl hnC).trans hbx
  have hKa : KidsQ (wa.alloc o) (C + 1) (fun q => C + 1 ≤ q ∧ v.ownBlock ≠ some q) v us ks := hK.stay (fun q _ hq => blk_old _ _ hq)
  have hua : TrQ (wa.alloc o) (fun q => C + 1 ≤ q ∧ v.ownBlock ≠ some q) (kidVal u) T := hu.stay (fun q _ hq => blk_old _ _ hq)
  have hK6 := hKa.grown hua hrow hg hat (Nat.le_refl _)
  refine ⟨_, us ++ [u], ks ++ [T], hb6.set2 _, ⟨_, _, _, rfl⟩, hK6.stay (fun q hq _ => Below.heap_setCell _ _ _ _ (by show q ≠ C; omega)), by simp, fun X hX => ?_, ?_⟩
  · rcases List.mem_append.1 hX with h | h
    · exact hks X h
    · have : X = T := by simpa using h
      rw [this]; exact hT
  · exact hS.move hR hb (fun q hq => (Below.heap_setCell _ _ _ _ (by show q ≠ C; omega)).trans (same q (by omega) (hK.ne (by omega)))) hg.os hg.tape hg.output (by simp; omega)
theorem wf_all : ∀ j : Fin 101, (Lit.int .i64 ((j.val : Nat) : Int)).wf = true := by decide +kernel
theorem wf_small {j : Nat} (h : j ≤ 100) : (Lit.int .i64 (j : Int)).wf = true := wf_all ⟨j, by omega⟩
theorem kids_sum {t : Nat} : ∀ (ks : List Tr), (∀ T ∈ ks, T.sz ≤ t ∧ T.wt ≤ 1 + 2 * (T.sz - 1)) → (ks.map Tr.sz).sum ≤ ks.length * t ∧ (ks.map Tr.wt).sum + ks.length ≤ 2 * (ks.map Tr.sz).sum
  | [], _ => by simp
  | x :: xs, h => by
    have h1 := h x (List.mem_cons_self ..)
    obtain ⟨h2, h3⟩ := kids_sum xs (fun T hT => h T (List.mem_cons_of_mem _ hT))
    have hp : 1 ≤ x.sz := by cases x; rw [Tr.sz]; omega
    simp only [List.map_cons, List.sum_cons, List.length_cons, Nat.add_mul, Nat.one_mul]
    omega
/-- all kids are there -/
theorem KidRel.done {R k dd C : Nat} {st : ByteArray} {b off cg : Nat} {rs : List RuleT} {w wr : World} {sg : ByteArray} {j n : Nat} {v : Value} {us : List Kid} {ks : List Tr} (hR : R < w.heap.size) (hC : w.heap.size + 2 ≤ C) (hsg : sg.size ≤ maxLen) (hj : j ≤ 100) (hn : n ≤ 5)
    (hK : KidsQ wr (C + 1) (fun q => C + 1 ≤ q ∧ v.ownBlock ≠ some q) v us ks) (hul : us.length = n) (hsl : isSl v) (hks : ∀ T ∈ ks, T.sz ≤ tmost dd ∧ T.wt ≤ 1 + 2 * (T.sz - 1)) (S : AnyS R (k + 1 + n * tmost dd) st b off cg rs w wr) :
    DrawnT R k (dd + 1) sg w (.returned (.agg #[.string sg, .int .i64 (j : Int), v])) (((wr.setCell ⟨w.heap.size + 1, 0, none⟩ (.string sg)).setCell ⟨w.heap.size + 1, 1, none⟩ (.int .i64 (j : Int))).setCell ⟨w.heap.size + 1, 2, none⟩ v) := by
  obtain ⟨s1, s2⟩ := kids_sum ks hks
  have hl := hK.len
  have hmul : ks.length * tmost dd ≤ 5 * tmost dd := Nat.mul_le_mul_right _ (by omega)
  have hmul2 : n * tmost dd ≤ 5 * tmost dd := Nat.mul_le_mul_right _ hn
  have hQ : KidsQ wr (C + 1) (fun q => C + 1 ≤ q) v us ks := ⟨hK.row, hK.len, fun i hi => (hK.kid i hi).mono (fun q hq _ => hq.1)⟩
  have hT := TrQ.make (s := sg) (r := (j : Int)) hsg (wf_small hj) hQ (fun q hq => hq)
  refine ⟨_, .node sg (j : Int) ks, rfl, ?_, rfl, ?_, ?_, ?_, ?_, (j : Int), v, us, ks, rfl, rfl, wf_small hj, hsl, by omega, ?_⟩
  · refine TrQ.mono (TrQ.stay hT (fun q hq _ => ?_)) (fun q hq _ => by omega)
    rw [Below.heap_setCell _ _ _ _ (by show q ≠ w.heap.size + 1; omega), Below.heap_setCell _ _ _ _ (by show q ≠ w.heap.size + 1; omega), Below.heap_setCell _ _ _ _ (by show q ≠ w.heap.size + 1; omega)]
  · rw [Tr.sz, tmost]; omega
  · rw [Tr.sz, Tr.wt]; omega
  · have hr := ((S.r.other (p := ⟨w.heap.size + 1, 0, none⟩) (by show R < w.heap.size + 1; omega) (.string sg)).other (p := ⟨w.heap.size + 1, 1, none⟩) (by show R < w.heap.size + 1; omega) (.int .i64 (j : Int))).other (p := ⟨w.heap.size + 1, 2, none⟩) (by show R < w.heap.size + 1; omega) v
    exact hr.mono (by rw [tmost]; omega)
  · exact ((S.o.store (Nat.le_refl _) (p := ⟨w.heap.size + 1, 0, none⟩) (Nat.le_succ _) (.string sg)).store (Nat.le_refl _) (p := ⟨w.heap.size + 1, 1, none⟩) (Nat.le_succ _) (.int .i64 (j : Int))).store (Nat.le_refl _) (p := ⟨w.heap.size + 1, 2, none⟩) (Nat.le_succ _) v
  · have hK2 := hK.stay (w' := ((wr.setCell ⟨w.heap.size + 1, 0, none⟩ (.string sg)).setCell ⟨w.heap.size + 1, 1, none⟩ (.int .i64 (j : Int))).setCell ⟨w.heap.size + 1, 2, none⟩ v) (fun q hq _ => by
      rw [Below.heap_setCell _ _ _ _ (by show q ≠ w.heap.size + 1; omega), Below.heap_setCell _ _ _ _ (by show q ≠ w.heap.size + 1; omega), Below.heap_setCell _ _ _ _ (by show q ≠ w.heap.size + 1; omega)])
    refine ⟨⟨hK2.row.1, ?_⟩, hK2.len, fun i hi => (hK2.kid i hi).mono (fun q hq _ => ⟨by omega, hq.2⟩)⟩
    rcases hK2.row.2 with h | ⟨g, cap, cur, e, h1, h2⟩
    · exact .inl h
    · exact .inr ⟨g, cap, cur, e, by omega, h2⟩
end Go.Proofs.YtpkejcjjbkgomaaGreatDoor
namespace Go.Proofs.YtpkejcjjbkgomaaGreatDoor
open Go.ChangeShapes Go.WideShapes Go.ChangeAt Go.RowKit Go.Deep
set_option maxRecDepth 100000
def leafB : Tr := .node ⟨#[98]⟩ (-1) []
def leafV : Value := .agg #[.string ⟨#[98]⟩, .int .i64 (-1), .slice none 0 0]
def zeroLT : Value := .agg #[.string ⟨#[]⟩, .int .i64 0, .slice none 0 0]
/-- what TreeRead gives -/
def leafR : Bool → Value | true => leafV | false => zeroLT
theorem leaf_small : isSmallS ⟨#[98]⟩ = true := by decide
theorem leaf_sz : leafB.sz = 1 := by unfold leafB; rw [Tr.sz]; rfl
theorem leaf_wt : leafB.wt = 1 := by unfold leafB; rw [Tr.wt]; rfl
theorem leaf_in (w : World) (B : Nat) : TrP w B leafV leafB := leaf_tree w B ⟨#[98]⟩ (by decide)
theorem leaf_shape (rs : List RuleT) : shapeB rs 20 leafB = true := by
  unfold leafB
  rw [shapeB, if_pos leaf_small]
  rfl
theorem leaf_many : (manyD 20 leafB : Int) ≤ 60 := by
  unfold leafB
  rw [manyD]
  simp
theorem leafB_ok (st : ByteArray) (rs : List RuleT) : treeOkB st rs leafB = gramOkB st rs := by
  unfold treeOkB
  rw [leaf_shape, decide_eq_true leaf_many]
  simp
theorem leaf_text (st : ByteArray) (rs : List RuleT) (h : gramOkB st rs = true) : treeTextS st rs leafB = ⟨#[98]⟩ := by
  unfold treeTextS
  rw [leafB_ok, if_pos h]
  unfold leafB
  rw [textN_node]
  rfl
set_option maxHeartbeats 1000000 in
theorem treeRead_leaf (st : ByteArray) (ag : Option Addr) (cg : Nat) (rs : List RuleT) (w : World) (HR : RulesAt w ag rs) (hcg : rs.length ≤ cg) :
    Calls Tryz.prog 6 #[.agg #[.string st, .slice ag rs.length cg], .string ⟨#[98]⟩] w fun e w' => e = .returned (.tuple #[leafR (gramOkB st rs), .bool (gramOkB st rs)]) ∧ Below w.heap.size w w' := by
  have hb2 := ((Below.refl w.heap.size w).alloc (Nat.le_refl _) (.cells #[.string st, .slice ag rs.length cg] 25)).alloc (by simp) (.cells #[.string ⟨#[]⟩, .int .i64 0, .slice none 0 0] 30)
  have hb3 := hb2.alloc (by simp; omega) (.cells #[.string ⟨#[98]⟩, .int .i64 (-1), .slice none 0 0] 30)
  have Z3 : BoxT (((w.alloc (.cells #[.string st, .slice ag rs.length cg] 25)).alloc (.cells #[.string ⟨#[]⟩, .int .i64 0, .slice none 0 0] 30)).alloc (.cells #[.string ⟨#[98]⟩, .int .i64 (-1), .slice none 0 0] 30)) (w.heap.size + 1) (.string ⟨#[]⟩) (.int .i64 0) (.slice none 0 0) := (blk_old _ _ (by simp)).trans (blk_new _ _ (by simp))
  have X3 : BoxT (((w.alloc (.cells #[.string st, .slice ag rs.length cg] 25)).alloc (.cells #[.string ⟨#[]⟩, .int .i64 0, .slice none 0 0] 30)).alloc (.cells #[.string ⟨#[98]⟩, .int .i64 (-1), .slice none 0 0] 30)) (w.heap.size + 2) (.string ⟨#[98]⟩) (.int .i64 (-1)) (.slice none 0 0) := blk_new _ _ (by simp)
  have HR3 := HR.below hb3 (Nat.le_refl _)
  have hsm := leaf_small
  have CT := Lib.hid (treeOk_any st ag cg rs leafB leafV _ HR3 hcg (leaf_in _ 0).tr (by rw [leaf_sz]; omega))
  clear HR HR3 hb2
  go_enter Tryz.func6, Tryz.ntmps6
  go_wp2_with (go_at_call 25; refine (signSmall_any _ _).mono ?_; rintro e w' ⟨rfl, rfl⟩; rw [hsm])
  go_wp2_with fail
  refine CT.out.mono ?_
  rintro e w4 ⟨rfl, hb4⟩
  have B4 := hb3.trans (hb4.mono hb3.size)
  have Z4 := Z3.below hb4
  have X4 := X3.below hb4
  rw [leafB_ok]
  clear hb3 hb4 Z3 X3 CT
  obtain ⟨z0, z1, z2, fz0, fz1, fz2⟩ := Z4.cells
  obtain ⟨x0, x1, x2, _, _, _⟩ := X4.cells
  cases hok : gramOkB st rs with
  | false =>
    have HK := Lib.hid hok
    clear hok
    obtain ⟨e0, e1, e2, _⟩ := (Z4.set3 (.string ⟨#[]⟩) (.int .i64 0) (.slice none 0 0)).cells
    have E0 := Lib.hid e0
    have E1 := Lib.hid e1
    have E2 := Lib.hid e2
    clear e0 e1 e2
    go_wp2_with fail
    exact bodyPost_ret (v := .tuple #[zeroLT, .bool false]) (by have e0 := E0.out; have e1 := E1.out; have e2 := E2.out; simp [zeroLT, results, Tryz.results6, go_sem, e0, e1, e2]) rfl ⟨by rw [HK.out]; rfl, ((B4.setCell (p := ⟨w.heap.size + 1, 0, none⟩) (by simp) _).setCell (p := ⟨w.heap.size + 1, 1, none⟩) (by simp) _).setCell (p := ⟨w.heap.size + 1, 2, none⟩) (by simp) _⟩
  | true =>
    have HK := Lib.hid hok
    clear hok
    obtain ⟨e0, e1, e2, _⟩ := (Z4.set3 (.string ⟨#[98]⟩) (.int .i64 (-1)) (.slice none 0 0)).cells
    have E0 := Lib.hid e0
    have E1 := Lib.hid e1
    have E2 := Lib.hid e2
    clear e0 e1 e2
    go_wp2_with fail
    exact bodyPost_ret (v := .tuple #[leafV, .bool true]) (by have e0 := E0.out; have e1 := E1.out; have e2 := E2.out; simp [leafV, results, Tryz.results6, go_sem, e0, e1, e2]) rfl ⟨by rw [HK.out]; rfl, ((B4.setCell (p := ⟨w.heap.size + 1, 0, none⟩) (by simp) _).setCell (p := ⟨w.heap.size + 1, 1, none⟩) (by simp) _).setCell (p := ⟨w.heap.size + 1, 2, none⟩) (by simp) _⟩
set_option maxHeartbeats 1000000 in
theorem l3Scan_leaf (st : ByteArray) (ag : Option Addr) (cg n : Nat) (w : World) :
    Calls Tryz.prog 29 #[.agg #[.string st, .slice ag n cg], .string ⟨#[98]⟩, .int .i64 0, .int .i64 20] w fun e w' => e = .returned (.tuple #[leafV, .int .i64 1]) ∧ Below w.heap.size w w' := by
  have hb2 := ((Below.refl w.heap.size w).alloc (Nat.le_refl _) (.cells #[.string st, .slice ag n cg] 25)).alloc (by simp) (.cells #[.string ⟨#[98]⟩, .int .i64 (-1), .slice none 0 0] 30)
  have hsm : ∀ h : 0 < ByteArray.size ⟨#[98]⟩, smallN ((((⟨#[98]⟩ : ByteArray)[0]'h).toNat : Nat) : Int) = true := fun _ => rfl
  have hex : ByteArray.extract ⟨#[98]⟩ 0 1 = ⟨#[98]⟩ := rfl
  go_enter Tryz.func29, Tryz.ntmps29
  go_wp2_with (go_at_call 46; refine (l1Small_any _ _).mono ?_; rintro e w' ⟨rfl, rfl⟩; rw [hsm])
  exact bodyPost_ret (v := .tuple #[leafV, .int .i64 1]) (by simp [leafV, results, Tryz.results29, go_sem]) rfl ⟨rfl, hb2⟩
set_option maxHeartbeats 1000000 in
theorem sTreeRead_leaf (st : ByteArray) (ag : Option Addr) (cg : Nat) (rs : List RuleT) (w : World) (HR : RulesAt w ag rs) (hcg : rs.length ≤ cg) :
    Calls Tryz.prog 7 #[.agg #[.string st, .slice ag rs.length cg], .string ⟨#[98]⟩] w fun e w' => e = .returned (.tuple #[leafR (gramOkB st rs), .bool (gramOkB st rs)]) ∧ Below w.heap.size w w' := by
  have hb2 := ((Below.refl w.heap.size w).alloc (Nat.le_refl _) (.cells #[.string st, .slice ag rs.length cg] 25)).alloc (by simp) (.cells #[.string ⟨#[]⟩, .int .i64 0, .slice none 0 0] 30)
  have Z2 : BoxT ((w.alloc (.cells #[.string st, .slice ag rs.length cg] 25)).alloc (.cells #[.string ⟨#[]⟩, .int .i64 0, .slice none 0 0] 30)) (w.heap.size + 1) (.string ⟨#[]⟩) (.int .i64 0) (.slice none 0 0) := blk_new _ _ (by simp)
  have G2 : GB2 ((w.alloc (.cells #[.string st, .slice ag rs.length cg] 25)).alloc (.cells #[.string ⟨#[]⟩, .int .i64 0, .slice none 0 0] 30)) w.heap.size (.string st) (.slice ag rs.length cg) := (blk_old _ _ (by simp)).trans (blk_new _ _ rfl)
  have HR2 := HR.below hb2 (Nat.le_refl _)
  have CG := Lib.hid (sGramOk_any st ag cg rs _ HR2 hcg)
  go_enter Tryz.func7, Tryz.ntmps7
  go_wp2_with fail
  refine CG.out.mono ?_
  rintro e w4 ⟨rfl, hb4⟩
  have B4 := hb2.trans (hb4.mono hb2.size)
  have Z4 := Z2.below hb4
  have G4 : GB2 w4 w.heap.size (.string st) (.slice ag rs.length cg) := (hb4.block _ G2.lt).trans G2
  have HR4 := HR2.below hb4 (Nat.le_refl _)
  clear hb2 hb4 Z2 G2 CG HR HR2
  obtain ⟨z0, z1, z2, fz0, fz1, fz2⟩ := Z4.cells
  obtain ⟨g0, g1⟩ := G4.cells
  cases hok : gramOkB st rs with
  | false =>
    have HK := Lib.hid hok
    clear hok
    obtain ⟨e0, e1, e2, _⟩ := (Z4.set3 (.string ⟨#[]⟩) (.int .i64 0) (.slice none 0 0)).cells
    have E0 := Lib.hid e0
    have E1 := Lib.hid e1
    have E2 := Lib.hid e2
    clear e0 e1 e2
    go_wp2_with fail
    exact bodyPost_ret (v := .tuple #[zeroLT, .bool false]) (by have e0 := E0.out; have e1 := E1.out; have e2 := E2.out; simp [zeroLT, results, Tryz.results7, go_sem, e0, e1, e2]) rfl ⟨by rw [HK.out]; rfl, ((B4.setCell (p := ⟨w.heap.size + 1, 0, none⟩) (by simp) _).setCell (p := ⟨w.heap.size + 1, 1, none⟩) (by simp) _).setCell (p := ⟨w.heap.size + 1, 2, none⟩) (by simp) _⟩
  | true =>
    have HK := Lib.hid hok
    have CX := Lib.hid (leaf_text st rs hok)
    clear hok
    go_wp2_with fail
    refine (l3Scan_leaf st ag cg rs.length w4).mono ?_
    rintro e w5 ⟨rfl, hb5⟩
    unfold leafV
    have al := (Below.refl w5.heap.size w5).alloc (Nat.le_refl _) (.cells #[.string ⟨#[98]⟩, .int .i64 (-1), .slice none 0 0] 30)
    have B6 := (B4.trans (hb5.mono B4.size)).trans (al.mono (by have := B4.size; have := hb5.size; omega))
    have Z6 := (Z4.below hb5).below al
    have G6 : GB2 (w5.alloc (.cells #[.string ⟨#[98]⟩, .int .i64 (-1), .slice none 0 0] 30)) w.heap.size (.string st) (.slice ag rs.length cg) := (al.block _ (by have := G4.lt; have := hb5.size; omega)).trans ((hb5.block _ G4.lt).trans G4)
    have X6 : BoxT (w5.alloc (.cells #[.string ⟨#[98]⟩, .int .i64 (-1), .slice none 0 0] 30)) w5.heap.size (.string ⟨#[98]⟩) (.int .i64 (-1)) (.slice none 0 0) := blk_new _ _ rfl
    have HR6 := (HR4.below hb5 (Nat.le_refl _)).below al (Nat.le_refl _)
    have CT := Lib.hid (sTreeText_any st ag cg rs leafB leafV _ HR6 hcg (leaf_in _ 0).tr (by rw [leaf_wt]; omega) (by rw [leaf_sz]; omega))
    clear g0 g1 z0 z1 z2 fz0 fz1 fz2 Z4 G4 HR4 hb5 al B4
    obtain ⟨g0, g1⟩ := G6.cells
    have hne : (([98] : List UInt8) != [98]) = false := by decide
    go_wp2_with fail
    refine CT.out.mono ?_
    rintro e w7 ⟨rfl, hb7⟩
    rw [CX.out]
    have B7 := B6.trans (hb7.mono B6.size)
    have Z7 := Z6.below hb7
    have X7 := X6.below hb7
    clear g0 g1 Z6 X6 G6 HR6 CT hb7 B6
    obtain ⟨z0, z1, z2, fz0, fz1, fz2⟩ := Z7.cells
    obtain ⟨x0, x1, x2, _, _, _⟩ := X7.cells
    obtain ⟨e0, e1, e2, _⟩ := (Z7.set3 (.string ⟨#[98]⟩) (.int .i64 (-1)) (.slice none 0 0)).cells
    have E0 := Lib.hid e0
    have E1 := Lib.hid e1
    have E2 := Lib.hid e2
    clear e0 e1 e2
    go_wp2_with fail
    exact bodyPost_ret (v := .tuple #[leafV, .bool true]) (by have e0 := E0.out; have e1 := E1.out; have e2 := E2.out; simp [leafV, results, Tryz.results7, go_sem, e0, e1, e2]) rfl ⟨by rw [HK.out]; rfl, ((B7.setCell (p := ⟨w.heap.size + 1, 0, none⟩) (by simp) _).setCell (p := ⟨w.heap.size + 1, 1, none⟩) (by simp) _).setCell (p := ⟨w.heap.size + 1, 2, none⟩) (by simp) _⟩
end Go.Proofs.YtpkejcjjbkgomaaGreatDoor
