/- The contracts of the program's reduce and do. -/
import Derived.Test.YtcningdeocmbgaaSgM
import Derived.Laws.OwnMore
namespace Go.Proofs.Ytcningdeocmbgaa
open Go.ChangeShapes Go.WideShapes Go.ChangeAt Go.RowKit Go.Deep
set_option maxRecDepth 100000
/-- append, under a name that the walk does not open -/
@[irreducible] def appT (ats : Array TypeId) (ty : TypeId) (args : Array Value) : Sem Value := Builtin.append_ ats ty args
theorem builtin_appT (ats : Array TypeId) (ty : TypeId) (cs : Array Bool) (args : Array Value) : builtin .append ats ty cs args = (do pure (.value (← appT ats ty args))) := by unfold appT; rfl
theorem infoTreeO : (Try.prog.info? 30).map (fun i => (i.zero, i.size, i.bytes)) = some (some (.agg #[.string ByteArray.empty, .int .i64 0, .slice none 0 0]), 3, 48) := by kernel_rfl
/-- trees are appended to a row of the call's own -/
theorem run_appT {w : World} {B : Nat} {v : Value} {us : List KidO} (hown : w.ownsRow B 30 3 v us.length (flatO us)) (a : Addr) (vs : List KidO) (cap : Nat) (hcell : ∀ j u, (flatO vs)[j]? = some u → w.cell? (a.add j) = some u)
    (hone : ∀ u ∈ vs, u.2.2.oneCell' = true) (hl : us.length + vs.length ≤ 100000) (hB : B ≤ w.heap.size) :
    ∃ v' w', (appT #[28, 28] 28 #[v, .slice (some a) vs.length cap]).run Try.prog w = .ok v' w' ∧ w'.ownsRow B 30 3 v' (us.length + vs.length) (flatO (us ++ vs)) ∧ w.grownBy w' v.ownBlock ∧
      (v' = .slice none 0 0 ↔ v = .slice none 0 0 ∧ vs.length = 0) ∧ (v'.ownBlock = v.ownBlock ∨ v'.ownBlock = some w.heap.size) := by
  obtain ⟨i0, hi0, hz0, hz1, hz2⟩ := info_parts infoTreeO
  obtain ⟨v', w', h1, h2, h3, h4, h5⟩ := run_append_own_at (P := Try.prog) w B 28 28 30 i0 _ 3 48 Try.underlying28 hi0 hz0 hz1 hz2 rfl (by decide) v us.length (flatO us) hown a vs.length cap (flatO vs) (flatO_len vs) hcell (fun y hy => by
    obtain ⟨u, hu, h⟩ := List.mem_flatMap.1 hy
    simp only [List.mem_cons, List.not_mem_nil, or_false] at h
    rcases h with rfl | rfl | rfl
    · rfl
    · rfl
    · exact hone u hu) (by unfold maxLen; omega) (by omega) hB
  exact ⟨v', w', by unfold appT; exact h1, by rw [flatO_append]; exact h2, h3, h4, h5⟩
theorem run_appT_none {w : World} {B : Nat} {v : Value} {us : List KidO} (hown : w.ownsRow B 30 3 v us.length (flatO us)) : (appT #[28, 28] 28 #[v, .slice none 0 0]).run Try.prog w = .ok v w := by
  obtain ⟨i0, hi0, hz0, hz1, hz2⟩ := info_parts infoTreeO
  unfold appT
  exact run_append_owned_none (P := Try.prog) w B 28 28 30 i0 3 Try.underlying28 hi0 v us.length (flatO us) hown
/-- what v[k:] and v[:k] are -/
theorem TreesW.cuts {w : World} {B : Nat} {v : Value} {us : List KidO} {ts : List OT} (H : TreesW w B v us ts) (k : Nat) (hk : k ≤ us.length) : ∃ a cap a2, v = .slice a us.length cap ∧ us.length ≤ cap ∧ (if cap = k then a else a.map (·.add (k * 3))) = a2 ∧ TreesAt w a2 (us.drop k) ∧ TreesW w B (.slice a k cap) (us.take k) (ts.take k) ∧
    ((a2 = none ∧ a = none ∧ us = [] ∧ ts = [] ∧ cap = 0) ∨ ∃ ad, a2 = some ad ∧ ∀ j u, (flatO (us.drop k))[j]? = some u → w.cell? (ad.add j) = some u) := by
  rcases H.at with ⟨rfl, rfl, rfl⟩ | ⟨g, cap, rfl, hc, hB, hg, hat⟩
  · obtain rfl : k = 0 := by simpa using hk
    exact ⟨none, 0, none, rfl, Nat.le_refl _, rfl, fun j hj => absurd hj (Nat.not_lt_zero _), TreesW.nil w B, .inl ⟨rfl, rfl, rfl, rfl, rfl⟩⟩
  · have hcells : ∀ off, TreesAt w (some ⟨g, off, none⟩) (us.drop k) → ∀ j u, (flatO (us.drop k))[j]? = some u → w.cell? ((⟨g, off, none⟩ : Addr).add j) = some u := by
      intro off hA j u hj
      have hjl : j < (us.drop k).length * 3 := by rw [← flatO_len]; exact (List.getElem?_eq_some_iff.1 hj).1
      obtain ⟨g', off', e, _, c0, c1, c2⟩ := hA (j / 3) (by omega)
      simp only [Option.some.injEq, Addr.mk.injEq] at e
      obtain ⟨rfl, rfl, _⟩ := e
      obtain ⟨f0, f1, f2⟩ := flatO_at (us.drop k) (j / 3) (by omega)
      rw [WideShapes.add_plain]
      have h3 : j % 3 = 0 ∨ j % 3 = 1 ∨ j % 3 = 2 := by omega
      rcases h3 with h | h | h
      · have ej : j = j / 3 * 3 := by omega
        rw [ej] at hj ⊢
        rw [f0] at hj
        rw [c0, hj]
      · have ej : j = j / 3 * 3 + 1 := by omega
        rw [ej] at hj ⊢
        rw [f1] at hj
        rw [← Nat.add_assoc, c1, hj]
      · have ej : j = j / 3 * 3 + 2 := by omega
        rw [ej] at hj ⊢
        rw [f2] at hj
        rw [← Nat.add_assoc, c2, hj]
    by_cases hck : cap = k
    · have hkn : k = us.length := by omega
      have hd : us.drop k = [] := List.drop_eq_nil_of_le (by omega)
      refine ⟨some ⟨g, 0, none⟩, cap, some ⟨g, 0, none⟩, rfl, hc, by rw [if_pos hck], by rw [hd]; exact fun j hj => absurd hj (Nat.not_lt_zero _), H.first k hk, .inr ⟨⟨g, 0, none⟩, rfl, by rw [hd]; intro j u hj; simp [flatO] at hj⟩⟩
    · have e : (some (⟨g, 0, none⟩ : Addr)).map (·.add (k * 3)) = some ⟨g, k * 3, none⟩ := by
        rw [Option.map_some, WideShapes.add_plain, Nat.zero_add]
      exact ⟨some ⟨g, 0, none⟩, cap, some ⟨g, k * 3, none⟩, rfl, hc, by rw [if_neg hck]; exact e, hat k hk, H.first k hk, .inr ⟨⟨g, k * 3, none⟩, rfl, hcells _ (hat k hk)⟩⟩
/-- the builder: the rules, the rest of the text, the trees -/
def BoxB (w : World) (b : Nat) (v0 v1 v2 : Value) : Prop := w.heap[b]? = some (.cells #[v0, v1, v2] 66)
theorem BoxB.lt {w : World} {b : Nat} {v0 v1 v2 : Value} (h : BoxB w b v0 v1 v2) : b < w.heap.size := (Array.getElem?_eq_some_iff.1 h).1
theorem BoxB.keep {w w' : World} {b : Nat} {v0 v1 v2 : Value} (h : BoxB w b v0 v1 v2) (hb : w'.heap[b]? = w.heap[b]?) : BoxB w' b v0 v1 v2 := hb.trans h
theorem BoxB.below {w w' : World} {b : Nat} {v0 v1 v2 : Value} (h : BoxB w b v0 v1 v2) (hb : Below w.heap.size w w') : BoxB w' b v0 v1 v2 := h.keep (hb.block b h.lt)
theorem BoxB.cells {w : World} {b : Nat} {v0 v1 v2 : Value} (h : BoxB w b v0 v1 v2) : w.cell? ⟨b, 0, none⟩ = some v0 ∧ w.cell? ⟨b, 1, none⟩ = some v1 ∧ w.cell? ⟨b, 2, none⟩ = some v2 ∧ ∀ o, w.frozen? ⟨b, o, none⟩ = false :=
  ⟨by rw [cell_of_block h]; rfl, by rw [cell_of_block h]; rfl, by rw [cell_of_block h]; rfl, fun o => frozen_of_block h o⟩
theorem BoxB.set2 {w : World} {b : Nat} {v0 v1 v2 : Value} (h : BoxB w b v0 v1 v2) (u : Value) : BoxB (w.setCell ⟨b, 2, none⟩ u) b v0 v1 u := by unfold BoxB at h ⊢; simp [World.setCell, Array.getElem?_modify, h]
theorem BoxB.set1 {w : World} {b : Nat} {v0 v1 v2 : Value} (h : BoxB w b v0 v1 v2) (u : Value) : BoxB (w.setCell ⟨b, 1, none⟩ u) b v0 u v2 := by unfold BoxB at h ⊢; simp [World.setCell, Array.getElem?_modify, h]
theorem joinT_neg {rs : List RuleT} {Ts : List Tr} {r : Int} (h : r < 0) : joinT rs Ts r = none := by unfold joinT ruleIx; rw [if_neg (by omega)]
theorem joinT_out {rs : List RuleT} {Ts : List Tr} {r : Int} (h : (rs.length : Int) ≤ r) : joinT rs Ts r = none := by
  have e : ruleIx rs r = none := by unfold ruleIx; split; exact List.getElem?_eq_none (by omega); rfl
  unfold joinT; rw [e]
theorem joinT_in {rs : List RuleT} {Ts : List Tr} {i : Nat} (h : i < rs.length) : joinT rs Ts (i : Int) = if rs[i].2.size ≤ Ts.length ∧ signsT (Ts.drop (Ts.length - rs[i].2.size)) = rs[i].2.data.toList then some (Ts.take (Ts.length - rs[i].2.size) ++ [.node rs[i].1 i (Ts.drop (Ts.length - rs[i].2.size))]) else none := by
  have e : ruleIx rs (i : Int) = some rs[i] := by unfold ruleIx; rw [if_pos (by omega)]; simp [h]
  unfold joinT; rw [e]
theorem join_kids (ts : List OT) (k g : Nat) (s : ByteArray) (r : Int) : (ts.take k ++ [OT.node g s r (ts.drop k)]).map OT.tr = (ts.map OT.tr).take k ++ [.node s r ((ts.map OT.tr).drop k)] := by
  rw [List.map_append, List.map_take, List.map_cons, List.map_nil, OT.tr, List.map_drop]
theorem below_drewN (w : World) (n : Nat) : Below w.heap.size w (w.drewN n) := ⟨rfl, rfl, rfl, Nat.le_refl _, fun _ _ => rfl⟩
theorem keepR {w w' : World} {b c : Nat} {v u : Value} (h1 : w.cell? ⟨b, 2, none⟩ = some v) (h2 : w.cell? ⟨c, 1, none⟩ = some u) (hb1 : b < w.heap.size) (hb2 : c < w.heap.size) (hb : Below w.heap.size w w') : w'.cell? ⟨b, 2, none⟩ = some v ∧ w'.cell? ⟨c, 1, none⟩ = some u :=
  ⟨(hb.cell (p := ⟨b, 2, none⟩) hb1).trans h1, (hb.cell (p := ⟨c, 1, none⟩) hb2).trans h2⟩
/-- the kids, copied into a new row -/
theorem copy_kids {w : World} {us : List KidO} {a2 : Option Addr} {k c2 B : Nat} (hcase : (a2 = none ∧ us = [] ∧ c2 = 0) ∨ ∃ ad, a2 = some ad ∧ ∀ j u, (flatO (us.drop k))[j]? = some u → w.cell? (ad.add j) = some u)
    (hone : ∀ u ∈ us.drop k, u.2.2.oneCell' = true) (hn : us.length ≤ 1000) (hB : B ≤ w.heap.size) :
    ∃ v2 w3, (appT #[28, 28] 28 #[.slice none 0 0, .slice a2 (us.length - k) c2]).run Try.prog w = .ok v2 w3 ∧ w3.ownsRow B 30 3 v2 (us.length - k) (flatO (us.drop k)) ∧ Below w.heap.size w w3 ∧ (∀ g, v2.ownBlock = some g → w.heap.size ≤ g) ∧ v2.oneCell' = true := by
  rcases hcase with ⟨rfl, rfl, rfl⟩ | ⟨ad, rfl, hc⟩
  · refine ⟨.slice none 0 0, w, ?_, ⟨by simp [flatO], .inl ⟨rfl, by simp⟩⟩, Below.refl _ _, (fun g h => by simp [Value.ownBlock] at h), rfl⟩
    have := run_appT_none (w := w) (B := 0) (v := .slice none 0 0) (us := []) ⟨rfl, .inl ⟨rfl, rfl⟩⟩
    simpa using this
  · obtain ⟨v2, w3, h1, h2, h3, _, h5⟩ := run_appT (w := w) (B := B) (v := .slice none 0 0) (us := []) ⟨rfl, .inl ⟨rfl, rfl⟩⟩ ad (us.drop k) c2 hc hone (by simp; omega) hB
    rw [List.length_drop] at h1
    simp only [List.length_nil, Nat.zero_add, List.nil_append, List.length_drop] at h2
    have hv : v2.oneCell' = true := by
      rcases h2.2 with ⟨e, _⟩ | ⟨_, _, _, e, _⟩ <;> rw [e] <;> rfl
    refine ⟨v2, w3, h1, h2, ⟨h3.os, h3.tape, h3.output, h3.size, fun x hx => h3.block x hx (by simp [Value.ownBlock])⟩, fun g hg => ?_, hv⟩
    rcases h5 with h | h
    · rw [h] at hg; simp [Value.ownBlock] at hg
    · rw [h] at hg; simp at hg; omega
attribute [-go_sem] BigFrame.builtin_append
attribute [local go_sem ↓] builtin_appT
set_option maxHeartbeats 4000000 in
theorem reduce_any (b : Nat) (a : Option Addr) (cg : Nat) (rs : List RuleT) (rest : ByteArray) (v : Value) (us : List KidO) (ts : List OT) (r : Int) (w : World) (HB : BoxB w b (.slice a rs.length cg) (.string rest) v) (HT : TreesW w (b + 1) v us ts) (HR : RulesAt w a rs)
    (hrs : ∀ x ∈ rs, x.1.size = 1 ∧ x.2.size ≤ 4) (hr : (Lit.int .i64 r).wf = true) (hn : us.length ≤ 201) (hs : ∀ t ∈ ts, t.s.size = 1) :
    Calls Try.prog 58 #[.pointer (some ⟨b, 0, none⟩), .int .i64 r] w fun e w' => Below b w w' ∧
      ((joinT rs (ts.map OT.tr) r = none ∧ e = .returned (.bool false)) ∨
       ∃ v' us' ts', joinT rs (ts.map OT.tr) r = some (ts'.map OT.tr) ∧ e = .returned (.bool true) ∧ BoxB w' b (.slice a rs.length cg) (.string rest) v' ∧ TreesW w' (b + 1) v' us' ts') := by
  obtain ⟨k0, k1, k2, kf⟩ := HB.cells
  have hbl := HB.lt
  by_cases hneg : r < 0
  · have hd : decide (r < 0) = true := decide_eq_true hneg
    go_enter Try.func58, Try.ntmps58
    go_wp2
    go_ret
    exact ⟨Below.refl _ _, .inl ⟨joinT_neg hneg, rfl⟩⟩
  have hd : decide (r < 0) = false := decide_eq_false hneg
  by_cases hout : (rs.length : Int) ≤ r
  · have hd2 : decide ((rs.length : Int) ≤ r) = true := decide_eq_true hout
    go_enter Try.func58, Try.ntmps58
    go_wp2
    go_ret
    exact ⟨Below.refl _ _, .inl ⟨joinT_out hout, rfl⟩⟩
  have hd2 : decide ((rs.length : Int) ≤ r) = false := decide_eq_false hout
  obtain ⟨i, hi, rfl⟩ : ∃ i : Nat, i < rs.length ∧ r = (i : Int) := ⟨r.toNat, by omega, by omega⟩
  obtain ⟨z1, z2, gR, offR, rfl, hgR, c1, c2⟩ := HR.2 i hi
  obtain ⟨hx1, hx2⟩ := hrs rs[i] (List.getElem_mem hi)
  have HJ := Lib.hid (joinT_in (Ts := ts.map OT.tr) hi)
  have HLEN := Lib.hid HT.len
  have hbR := (Below.refl w.heap.size w).alloc (Nat.le_refl _) (.cells #[.string rs[i].1, .string rs[i].2] 84)
  have XR := Box2.new w (.string rs[i].1) (.string rs[i].2) 84
  obtain ⟨av, cv, rfl⟩ : ∃ av cv, v = .slice av us.length cv := by obtain ⟨a, cap, _, e, _⟩ := HT.cuts 0 (Nat.zero_le _); exact ⟨a, cap, e⟩
  by_cases hm : us.length < rs[i].2.size
  · have hm' : decide (((us.length : Nat) : Int) - ((rs[i].2.size : Nat) : Int) < 0) = true := decide_eq_true (by omega)
    go_enter Try.func58, Try.ntmps58
    go_wp2
    go_region
    all_goals
      go_wp2
      go_quiet (fail)
      go_wp2
      go_ret
      exact ⟨((hbR.drew).trans ((below_drewN _ _).mono (by simp))).mono (Nat.le_of_lt hbl), .inl ⟨by rw [HJ.out, if_neg (by rw [List.length_map, ← HLEN.out]; omega)], rfl⟩⟩
  obtain ⟨k, hk⟩ : ∃ k, us.length = k + rs[i].2.size := ⟨us.length - rs[i].2.size, by omega⟩
  have hkk : ((us.length : Nat) : Int) - ((rs[i].2.size : Nat) : Int) = (k : Int) := by omega
  have hk0 : decide ((k : Int) < 0) = false := decide_eq_false (by omega)
  obtain ⟨a', cap', a2, e, hcap, hif, hA, hfirst, hcase⟩ := HT.cuts k (by omega)
  simp only [Value.slice.injEq, true_and] at e
  obtain ⟨rfl, rfl⟩ := e
  have hdl : (us.drop k).length = rs[i].2.size := by rw [List.length_drop]; omega
  have hsu : ∀ u ∈ us.drop k, u.1.size ≤ 1 ∧ ∃ c n d, u.2.2 = .slice c n d := fun u hu => by
    obtain ⟨j, hj, rfl⟩ := List.getElem_of_mem (List.mem_of_mem_drop hu)
    obtain ⟨x, c, e, _⟩ := HT.kid j hj
    rw [e]
    have hl := HT.len
    exact ⟨by have := hs _ (List.getElem_mem (show j < ts.length by omega)); show ts[j].s.size ≤ 1; omega, _, _, _, rfl⟩
  have hsg := signsU_eq HT k
  go_enter Try.func58, Try.ntmps58
  have C : ∀ W, TreesAt W a2 (us.drop k) → Calls Try.prog 34 #[.slice a2 (us.length - k) (cv - k)] W fun e w' => e = .returned (.string (bytesOf (signsL (ts.drop k)))) ∧ Below W.heap.size W w' := fun W h => by
    rw [← List.length_drop, ← hsg]
    exact signsOf_any a2 (cv - k) (us.drop k) W h (by omega) (fun u hu => (hsu u hu).1) (fun u hu => (hsu u hu).2)
  have HB1 : BoxB (w.alloc (.cells #[.string rs[i].1, .string rs[i].2] 84)).drew b (.slice (some ⟨gR, offR, none⟩) rs.length cg) (.string rest) (.slice av us.length cv) := HB.below hbR.drew
  have HT1 : TreesW (w.alloc (.cells #[.string rs[i].1, .string rs[i].2] 84)).drew (b + 1) (.slice av us.length cv) us ts := HT.below hbR.drew
  have XR1 : Box2 (w.alloc (.cells #[.string rs[i].1, .string rs[i].2] 84)).drew w.heap.size (.string rs[i].1) (.string rs[i].2) := XR
  have hA1 : TreesAt (w.alloc (.cells #[.string rs[i].1, .string rs[i].2] 84)).drew a2 (us.drop k) := hA.below hbR.drew
  have hb1 : Below w.heap.size w (w.alloc (.cells #[.string rs[i].1, .string rs[i].2] 84)).drew := hbR.drew
  have hs1 : w.heap.size + 1 = (w.alloc (.cells #[.string rs[i].1, .string rs[i].2] 84)).drew.heap.size := by simp
  have hk1 : ((k : Nat) : Int) ≤ ((us.length : Nat) : Int) := by omega
  have hk2 : (0 : Int) ≤ ((k : Nat) : Int) := by omega
  have HK := Lib.hid hk
  have HDL := Lib.hid hdl
  clear hk hdl hsg
  go_wp2
  go_region
  clear hbR XR c1 c2 k0 k1 k2 kf hA hfirst HB
  go_wp2_with fail
  generalize (w.alloc (.cells #[.string rs[i].1, .string rs[i].2] 84)).drew = W1 at *
  obtain ⟨k0, k1, k2, kf⟩ := HB1.cells
  obtain ⟨r0, r1⟩ := XR1.2
  have hbl1 : b < W1.heap.size := HB1.lt
  have hwl1 : w.heap.size < W1.heap.size := XR1.1
  have hbe : (bytesOf (signsL (ts.drop k))).toList = signsL (ts.drop k) := by rw [Go.ByteArray.toList_eq]; rfl
  have hsg2 : signsT ((ts.map OT.tr).drop ((ts.map OT.tr).length - rs[i].2.size)) = signsL (ts.drop k) := by
    rw [List.length_map, ← HLEN.out, show us.length - rs[i].2.size = k from by have := HK.out; omega, signsL_tr, List.map_drop]
  have HBE := Lib.hid hbe
  have HSG := Lib.hid hsg2
  clear hbe hsg2
  cases hq : ((bytesOf (signsL (ts.drop k))).toList == rs[i].2.toList) with
  | false =>
    have hq2 : ((bytesOf (signsL (ts.drop k))).toList != rs[i].2.toList) = true := by rw [bne, hq]; rfl
    go_region_held3 (fun w' => w'.cell? ⟨b, 2, none⟩ = some (.slice av us.length cv) ∧ w'.cell? ⟨w.heap.size, 1, none⟩ = some (.string rs[i].2))
      (first
        | go_keep
        | with_reducible exact keepR k2 r1 hbl1 hwl1 hb2
        | fail)
      (first
        | (go_at_call 34; (with_reducible refine (C _ ?_).mono ?_); (exact hA1.drew); rintro e w2 ⟨rfl, hb2'⟩; have hb2 := below_of_drew hb2')
        | fail)
    go_wp2
    go_ret
    have hne : signsL (ts.drop k) ≠ rs[i].2.data.toList := fun e => by
      rw [HBE.out, e, Go.ByteArray.toList_eq] at hq
      simp at hq
    exact ⟨(hb1.trans (hb2.mono hb1.size)).mono (by omega), .inl ⟨by rw [HJ.out, if_neg (fun h => hne (by rw [← HSG.out]; exact h.2))], rfl⟩⟩
  | true =>
    have hq2 : ((bytesOf (signsL (ts.drop k))).toList != rs[i].2.toList) = false := by rw [bne, hq]; rfl
    go_region_held3 (fun w' => w'.cell? ⟨b, 2, none⟩ = some (.slice av us.length cv) ∧ w'.cell? ⟨w.heap.size, 1, none⟩ = some (.string rs[i].2))
      (first
        | go_keep
        | with_reducible exact keepR k2 r1 hbl1 hwl1 hb2
        | fail)
      (first
        | (go_at_call 34; (with_reducible refine (C _ ?_).mono ?_); (exact hA1.drew); rintro e w2 ⟨rfl, hb2'⟩; have hb2 := below_of_drew hb2')
        | fail)
    have HEQ : Hid (signsL (ts.drop k) = rs[i].2.data.toList) := by
      show _ = _
      rw [HBE.out, Go.ByteArray.toList_eq] at hq
      simpa using hq
    clear hq hq2 C
    have HB2 := HB1.below hb2
    have HT2 := HT1.below hb2
    have XR2 := XR1.below hb2
    have hb12 := hb1.trans (hb2.mono hb1.size)
    have hs2 := hb2.size
    have hcase2 : (a2 = none ∧ us = [] ∧ cv - k = 0) ∨ ∃ ad, a2 = some ad ∧ ∀ j u, (flatO (us.drop k))[j]? = some u → w2.cell? (ad.add j) = some u := by
      rcases hcase with ⟨h1, h2, h3, h4, h5⟩ | ⟨ad, h1, h2⟩
      · exact .inl ⟨h1, h3, by omega⟩
      · exact .inr ⟨ad, h1, fun j u hj => by
          have hc := h2 j u hj
          have hbl := World.block_lt_of_cell? _ _ hc
          rw [(Below.on hb1 hb2 (Nat.le_refl _)).cell hbl]
          exact hc⟩
    have hone : ∀ u ∈ us.drop k, u.2.2.oneCell' = true := fun u hu => by obtain ⟨_, c, n, d, e⟩ := hsu u hu; rw [e]; rfl
    have hcnt : us.length ≤ 1000 := by omega
    have hBw2 : b + 1 ≤ w2.heap.size := HB2.lt
    obtain ⟨v2, w3, hap1, hrow3, hb3, hnew3, hv2⟩ := copy_kids (B := b + 1) hcase2 hone hcnt hBw2
    obtain ⟨vx, vc, rfl⟩ : ∃ vx vc, v2 = .slice vx (us.length - k) vc := by obtain ⟨a, c, e, _⟩ := owns_at hrow3; exact ⟨a, c, e⟩
    have HB3 := HB2.below hb3
    have HT3 := HT2.below hb3
    have XR3 := XR2.below hb3
    obtain ⟨q0, q1, q2, qf⟩ := HB2.cells
    obtain ⟨t0, t1, t2, tf⟩ := HB3.cells
    obtain ⟨r0', r1'⟩ := XR3.2
    have hb13 := hb12.trans (hb3.mono hb12.size)
    have hs3 := hb3.size
    go_wp2_with fail
    have hkl : k ≤ us.length := by have := HK.out; omega
    obtain ⟨av', cv', _, e, _, _, _, hfirst3, _⟩ := HT3.cuts k hkl
    simp only [Value.slice.injEq, true_and] at e
    obtain ⟨rfl, rfl⟩ := e
    obtain ⟨g2, hkid3, hnd3, hlow3⟩ := HT2.node (w' := w3) (s := rs[i].1) (r := (i : Int)) hkl (fun b hb => hb3.block b hb) hrow3 hnew3 (by unfold maxLen; omega) hr
    have hbA := (Below.refl _ _).alloc (Nat.le_refl w3.heap.size) (.cells #[.string rs[i].1, .int .i64 (i : Int), .slice vx (us.length - k) vc] 30)
    have HB4 := HB3.below hbA
    have hfirst4 := hfirst3.below hbA
    have hif0 : (if cv = 0 then av else Option.map (fun x => x.add 0) av) = av := by
      have : (fun x : Addr => x.add 0) = id := by funext x; simp [Addr.add]
      rw [this]; simp
    have hk3 : ((k : Nat) : Int) ≤ ((cv : Nat) : Int) := by omega
    obtain ⟨v', w5, hap2, hrow5, hg5, hiff5, hat5⟩ := run_appT (w := (w3.alloc (.cells #[.string rs[i].1, .int .i64 (i : Int), .slice vx (us.length - k) vc] 30)).drew) (B := b + 1) (v := .slice av k cv) (us := us.take k) hfirst4.row ⟨w3.heap.size, 0, none⟩ [(rs[i].1, (i : Int), .slice vx (us.length - k) vc)] 1 (fun j u hj => by
        have hn := blk_new w3 (.cells #[.string rs[i].1, .int .i64 (i : Int), .slice vx (us.length - k) vc] 30) rfl
        show (w3.alloc (.cells #[.string rs[i].1, .int .i64 (i : Int), .slice vx (us.length - k) vc] 30)).cell? _ = _
        rw [WideShapes.add_plain, cell_of_block hn]
        simpa [flatO] using hj) (fun u hu => by rw [List.mem_singleton] at hu; subst hu; exact hv2) (by simp; omega) (by have := HB4.lt; show b + 1 ≤ (w3.alloc _).heap.size; omega)
    have hap3 : (appT #[28, 28] 28 #[.slice av k cv, .slice (some ⟨w3.heap.size, 0, none⟩) 1 1]).run Try.prog (w3.alloc (.cells #[.string rs[i].1, .int .i64 (i : Int), .slice vx (us.length - k) vc] 30)).drew = .ok v' w5 := hap2
    clear hap2
    have hrow6 := hrow5
    obtain ⟨nv, hnv⟩ : ∃ nv, nv = (us.take k).length + 1 := ⟨_, rfl⟩
    obtain ⟨va, vcap, rfl⟩ : ∃ va vcap, v' = .slice va nv vcap := by obtain ⟨a, c, e, _⟩ := owns_at hrow6; exact ⟨a, c, by rw [e, hnv]; rfl⟩
    have HNV := Lib.hid hnv
    clear hnv hrow6
    have hvne : ∀ x, (Value.slice av k cv).ownBlock = some x → b + 1 ≤ x := fun x hx => (hfirst4.block x hx).1
    have HB5 : BoxB w5 b (.slice (some ⟨gR, offR, none⟩) rs.length cg) (.string rest) (.slice av us.length cv) := HB4.keep (hg5.block b (by have := HB4.lt; exact this) (fun e => by have := hvne b e.symm; omega))
    obtain ⟨x0, x1, x2, xf⟩ := HB4.cells
    obtain ⟨y0, y1, y2, yf⟩ := HB5.cells
    have xr0 : (w3.alloc (.cells #[.string rs[i].1, .int .i64 (i : Int), .slice vx (us.length - k) vc] 30)).cell? ⟨w.heap.size, 0, none⟩ = some (.string rs[i].1) := (XR3.below hbA).2.1
    have hyf := yf 2
    have HT5 : Hid (∃ us' ts', TreesW (w5.setCell ⟨b, 2, none⟩ (.slice va nv vcap)) (b + 1) (.slice va nv vcap) us' ts' ∧ ts'.map OT.tr = (ts.map OT.tr).take k ++ [.node rs[i].1 (i : Int) ((ts.map OT.tr).drop k)]) := by
      refine ⟨us.take k ++ [(rs[i].1, (i : Int), .slice vx (us.length - k) vc)], ts.take k ++ [.node g2 rs[i].1 (i : Int) (ts.drop k)], ?_, join_kids ts k g2 rs[i].1 (i : Int)⟩
      have hp := hfirst4.push (u := (rs[i].1, (i : Int), .slice vx (us.length - k) vc)) (t := .node g2 rs[i].1 (i : Int) (ts.drop k)) (w' := w5) (v' := .slice va nv vcap) (L := (w3.alloc (.cells #[.string rs[i].1, .int .i64 (i : Int), .slice vx (us.length - k) vc] 30)).heap.size) (hkid3.keep (fun x hx => hbA.block x (hkid3.lt x hx))) hrow5
        (fun x hx hne => hg5.block x hx (fun e => hne e.symm)) hg5.size hat5 (Nat.le_refl _) hnd3 (fun x hx => ⟨(hlow3 x hx).1, by
          have := (hlow3 x hx).2
          cases av with
          | none => simp [Value.ownBlock]
          | some p => exact this⟩)
      exact hp.keep (fun x hx _ => Below.heap_setCell _ _ _ _ (by show x ≠ b; omega)) (by simp [World.setCell])
    have HBF : Hid (BoxB (w5.setCell ⟨b, 2, none⟩ (.slice va nv vcap)) b (.slice (some ⟨gR, offR, none⟩) rs.length cg) (.string rest) (.slice va nv vcap)) := HB5.set2 _
    have hsz5 := hg5.size
    have HBB : Hid (Below b w (w5.setCell ⟨b, 2, none⟩ (.slice va nv vcap))) := by
      have h4 : Below b w w5 := (hb13.mono (Nat.le_of_lt hbl)).trans (((hbA.mono (show b ≤ w3.heap.size by omega))).trans ⟨hg5.os, hg5.tape, hg5.output, hg5.size, fun x hx => hg5.block x (by simp; omega) (fun e => by have := hvne x e.symm; omega)⟩)
      exact h4.setCell (Nat.le_refl _) _
    clear hrow5 hg5 hiff5 hat5 HB5 HB4 hfirst4 hfirst3 hkid3 hnd3 hlow3 hrow3 hnew3 hb3 HT3 HT2 HB3 HB2 XR2 XR3 hbA yf xf tf qf q0 q1 q2 hcase hcase2 hb12 hb13
    go_region_law (fail)
    all_goals
      go_wp2_with fail
      go_ret
      obtain ⟨us', ts', h1, h2⟩ := HT5.out
      exact ⟨HBB.out, .inr ⟨_, us', ts', by rw [HJ.out, if_pos ⟨by rw [List.length_map, ← HLEN.out]; have := HK.out; omega, by rw [HSG.out, HEQ.out]⟩, h2, List.length_map, ← HLEN.out, show us.length - rs[i].2.size = k from by have := HK.out; omega], rfl, HBF.out, h1⟩⟩
end Go.Proofs.Ytcningdeocmbgaa
