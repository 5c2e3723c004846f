/- Rows of steps; the contracts of the model's l7Of and StepsOf. -/
import Derived.Test.YtcningdeocmbgaaSzT
import Derived.Test.YtcningdeocmbgaaRowG
import Derived.Deep.Cut
import Derived.Deep.DeepCutAuto
namespace Go.Proofs.Ytcningdeocmbgaa
open Go.ChangeShapes Go.WideShapes Go.ChangeAt Go.RowKit Go.Deep
set_option maxRecDepth 100000
/-- a step: its kind and its rule -/
abbrev StpT := Int × Int
def flatS (zs : List StpT) : List Value := zs.flatMap fun z => [.int .i64 z.1, .int .i64 z.2]
theorem flatS_len (zs : List StpT) : (flatS zs).length = zs.length * 2 := by
  unfold flatS
  induction zs with
  | nil => rfl
  | cons x l ih => rw [List.flatMap_cons, List.length_append, ih, List.length_cons]; simp; omega
theorem flatS_append (xs ys : List StpT) : flatS (xs ++ ys) = flatS xs ++ flatS ys := by unfold flatS; rw [List.flatMap_append]
theorem flatS_one (zs : List StpT) : ∀ u ∈ flatS zs, u.oneCell' = true := by
  intro u hu
  obtain ⟨r, _, h⟩ := List.mem_flatMap.1 hu
  simp only [List.mem_cons, List.not_mem_nil, or_false] at h
  rcases h with rfl | rfl <;> rfl
theorem flatS_at : ∀ (us : List StpT) (j : Nat) (h : j < us.length), (flatS us)[j * 2]? = some (.int .i64 us[j].1) ∧ (flatS us)[j * 2 + 1]? = some (.int .i64 us[j].2)
  | [], j, h => absurd h (Nat.not_lt_zero _)
  | x :: us, 0, h => ⟨rfl, rfl⟩
  | x :: us, j + 1, h => by
    have h' : j < us.length := by simpa using h
    have := flatS_at us j h'
    have e : flatS (x :: us) = [.int .i64 x.1, .int .i64 x.2] ++ flatS us := rfl
    rw [e, List.getElem?_append_right (by simp; omega), List.getElem?_append_right (by simp; omega)]
    simp only [List.length_cons, List.length_nil, Nat.reduceAdd, List.getElem_cons_succ]
    rw [show (j + 1) * 2 - 2 = j * 2 from by omega, show (j + 1) * 2 + 1 - 2 = j * 2 + 1 from by omega]
    exact this
theorem infoStep : (Try.prog.info? 57).map (fun i => (i.zero, i.size, i.bytes)) = some (some (.agg #[.int .i64 0, .int .i64 0]), 2, 16) := by kernel_rfl
/-- steps of the call's own, or none -/
def RowS (w : World) (B : Nat) (v : Value) (zs : List StpT) : Prop := w.ownsRow B 57 2 v zs.length (flatS zs)
theorem RowS.keep {w w' : World} {B : Nat} {v : Value} {zs : List StpT} (h : RowS w B v zs) (hk : ∀ g, B ≤ g → g < w.heap.size → w'.heap[g]? = w.heap[g]?) : RowS w' B v zs := by
  refine ⟨h.1, ?_⟩
  rcases h.2 with h0 | ⟨g, cap, cur, hv, hg, hh, hl, hm, hs, ht⟩
  · exact .inl h0
  · exact .inr ⟨g, cap, cur, hv, hg, by rw [hk g hg (Array.getElem?_eq_some_iff.1 hh).1]; exact hh, hl, hm, hs, ht⟩
theorem RowS.below {w w' : World} {B : Nat} {v : Value} {zs : List StpT} (h : RowS w B v zs) (hb : Below w.heap.size w w') : RowS w' B v zs := h.keep fun g _ hg => hb.block g hg
theorem RowS.mono {w : World} {B B' : Nat} {v : Value} {zs : List StpT} (h : RowS w B v zs) (hB : B' ≤ B) : RowS w B' v zs := by
  refine ⟨h.1, ?_⟩
  rcases h.2 with h0 | ⟨g, cap, cur, hv, hg, hh⟩
  · exact .inl h0
  · exact .inr ⟨g, cap, cur, hv, Nat.le_trans hB hg, hh⟩
theorem RowS.none (w : World) (B : Nat) : RowS w B (.slice none 0 0) [] := ⟨rfl, .inl ⟨rfl, rfl⟩⟩
/-- a row that lies in a block, whole -/
theorem RowS.of_new {w : World} {B g : Nat} {zs : List StpT} {c : Array Value} (hg : B ≤ g) (hh : w.heap[g]? = some (.cells c 57)) (hc : c.toList = flatS zs) (hm : zs.length ≤ maxLen) : RowS w B (.slice (some ⟨g, 0, Option.none⟩) zs.length zs.length) zs :=
  ⟨flatS_len zs, .inr ⟨g, zs.length, c, rfl, hg, hh, Nat.le_refl _, hm, by rw [← Array.length_toList, hc, flatS_len], by rw [hc]; exact List.take_of_length_le (by rw [flatS_len]; omega)⟩⟩
theorem RowS.row {w : World} {B : Nat} {v : Value} {zs : List StpT} (h : RowS w B v zs) : ∀ k, v.ownBlock = some k → B ≤ k := by
  intro k hk
  rcases h.2 with ⟨hv, _⟩ | ⟨g, _, _, hv, hg, _⟩
  · rw [hv] at hk; simp [Value.ownBlock] at hk
  · rw [hv] at hk; simp [Value.ownBlock] at hk; omega
/-- a row that is not empty: its block and its cells -/
theorem RowS.open {w : World} {B : Nat} {v : Value} {zs : List StpT} (h : RowS w B v zs) (hp : zs ≠ []) : ∃ g cap, v = .slice (some ⟨g, 0, Option.none⟩) zs.length cap ∧ B ≤ g ∧ ∀ j u, (flatS zs)[j]? = some u → w.cell? ((⟨g, 0, Option.none⟩ : Addr).add j) = some u := by
  rcases h.2 with ⟨_, h0⟩ | ⟨g, cap, cur, hv, hg, hh, hlc, hm, hs, ht⟩
  · exact absurd (List.eq_nil_of_length_eq_zero h0) hp
  · refine ⟨g, cap, hv, hg, fun j u hj => ?_⟩
    rw [WideShapes.add_plain]
    rw [← ht, List.getElem?_take] at hj
    split at hj
    · rw [cell_of_block hh]; simpa using hj
    · cases hj
/-- a slice, whichever it is -/
theorem RowS.slice {w : World} {B : Nat} {v : Value} {zs : List StpT} (h : RowS w B v zs) : ∃ a cap, v = .slice a zs.length cap := by
  obtain ⟨a, cap, e, _⟩ := owns_at h
  exact ⟨a, cap, e⟩
/-- the steps of a tree: those of its kids, then its own -/
def stepsL : Tr → List StpT
  | .node _ r ks => if r < 0 then [(1, 0)] else ks.flatMap stepsL ++ [(2, r)]
theorem steps_len (m : Nat) : ∀ (T : Tr), T.sz ≤ m → (stepsL T).length ≤ T.sz := by
  induction m with
  | zero =>
    intro T hT
    cases T with
    | node s r ks => rw [Tr.sz] at hT; omega
  | succ m ih =>
    intro T hT
    cases T with
    | node s r ks =>
      have hk : ∀ k ∈ ks, (stepsL k).length ≤ k.sz := fun k hk => ih k (by have := Tr.sz_kid (s := s) (r := r) hk; omega)
      have hall : ∀ l : List Tr, (∀ k ∈ l, (stepsL k).length ≤ k.sz) → (l.flatMap stepsL).length ≤ (l.map Tr.sz).sum := by
        intro l
        induction l with
        | nil => intro _; simp
        | cons x xs ih2 =>
          intro h
          have h1 := h x (List.mem_cons_self ..)
          have h2 := ih2 (fun k hk => h k (List.mem_cons_of_mem _ hk))
          simp only [List.flatMap_cons, List.length_append, List.map_cons, List.sum_cons]
          omega
      have := hall ks hk
      rw [stepsL, Tr.sz]
      split
      · simp
      · rw [List.length_append, List.length_singleton]; omega
theorem steps_ne (T : Tr) : stepsL T ≠ [] := by
  cases T with
  | node s r ks =>
    rw [stepsL]
    split
    · simp
    · simp
def stepsTo (ks : List Tr) (i : Nat) : List StpT := (ks.take i).flatMap stepsL
theorem stepsTo_succ {ks : List Tr} {i : Nat} (h : i < ks.length) : stepsTo ks (i + 1) = stepsTo ks i ++ stepsL ks[i] := by
  unfold stepsTo
  rw [List.take_succ_eq_append_getElem h, List.flatMap_append]
  simp
theorem stepsTo_len {s : ByteArray} {r : Int} {ks : List Tr} (i : Nat) : (stepsTo ks i).length + 1 ≤ (Tr.node s r ks).sz := by
  have h1 : ∀ l : List Tr, (l.flatMap stepsL).length ≤ (l.map Tr.sz).sum := by
    intro l
    induction l with
    | nil => simp
    | cons x xs ih =>
      have := steps_len _ x (Nat.le_refl _)
      simp only [List.flatMap_cons, List.length_append, List.map_cons, List.sum_cons]
      omega
  have h2 := h1 (ks.take i)
  have h3 := szTo_le (ks := ks) i
  unfold szTo at h3
  unfold stepsTo
  rw [Tr.sz]
  omega
set_option maxHeartbeats 2000000 in
theorem l7Of_any (m : Nat) : ∀ (T : Tr), T.sz ≤ m → T.sz ≤ 2000000 → ∀ v w, TrIn w 0 v T →
    Calls Try.prog 43 #[v] w fun e w' => ∃ x, e = .returned x ∧ RowS w' w.heap.size x (stepsL T) ∧ Below w.heap.size w w' := by
  obtain ⟨i0, hi0, hz0, hz1, hz2⟩ := info_parts infoStep
  induction m with
  | zero =>
    intro T hT
    cases T with
    | node s r ks => rw [Tr.sz] at hT; omega
  | succ m ih =>
    intro T hT hW v w HT
    obtain ⟨s, r, ks, a, cap, rfl, rfl, hs, hr, hn, hc, HK⟩ := HT.open
    have hkid : ∀ k ∈ ks, k.sz < (Tr.node s r ks).sz := fun k hk => Tr.sz_kid hk
    have HIH := Lib.hid ih
    have HKD := Lib.hid hkid
    have HTT := Lib.hid hT
    have HWW := Lib.hid hW
    have hbA := (Below.refl w.heap.size w).alloc (Nat.le_refl _) (.cells #[.string s, .int .i64 r, .slice a ks.length cap] 30)
    have hB0 : BoxT (w.alloc (.cells #[.string s, .int .i64 r, .slice a ks.length cap] 30)) w.heap.size (.string s) (.int .i64 r) (.slice a ks.length cap) := blk_new _ _ rfl
    obtain ⟨o0, o1, o2, of0, of1, of2⟩ := hB0.cells
    unfold maxLen at hn
    clear ih hkid hT hW
    go_enter Try.func43, Try.ntmps43
    by_cases h0 : r < 0
    · have HY : Hid (stepsL (.node s r ks) = [(1, 0)]) := by show _ = _; rw [stepsL, if_pos h0]
      have hd : decide (r < 0) = true := decide_eq_true h0
      clear HIH HKD HTT HWW HK
      go_wp2
      go_ret
      refine ⟨_, rfl, ?_, hbA.alloc (by simp) _⟩
      rw [HY.out]
      exact RowS.of_new (by simp) (blk_new _ _ (by simp)) rfl (by unfold maxLen; simp)
    · have HY : Hid (stepsL (.node s r ks) = stepsTo ks ks.length ++ [(2, r)]) := by show _ = _; rw [stepsL, if_neg h0]; unfold stepsTo; rw [List.take_length]
      have hd : decide (r < 0) = false := decide_eq_false h0
      have hbE := hbA.alloc (by simp) (.cells #[] 57)
      have hBE : BoxT ((w.alloc (.cells #[.string s, .int .i64 r, .slice a ks.length cap] 30)).alloc (.cells #[] 57)) w.heap.size (.string s) (.int .i64 r) (.slice a ks.length cap) := (blk_old _ _ (by simp)).trans hB0
      have hE : RowS ((w.alloc (.cells #[.string s, .int .i64 r, .slice a ks.length cap] 30)).alloc (.cells #[] 57)) (w.heap.size + 1) (.slice (some ⟨w.heap.size + 1, 0, none⟩) 0 0) [] :=
        RowS.of_new (zs := []) (Nat.le_refl _) (blk_new _ _ (by simp)) rfl (Nat.zero_le _)
      go_wp2_with fail
      go_loopg [3, 4] (ks.length + 1) (fun gk nv iv wr => ∃ i : Nat, gk = ks.length + 1 - i ∧ i ≤ ks.length ∧ iv = .int .i64 (i : Int) ∧ RowS wr (w.heap.size + 1) nv (stepsTo ks i) ∧ BoxT wr w.heap.size (.string s) (.int .i64 r) (.slice a ks.length cap) ∧ Below w.heap.size w wr)
      case atStart => exact ⟨0, rfl, Nat.zero_le _, rfl, hE, hBE, hbE⟩
      case round =>
        clear hE hBE hbE hB0 hbA o0 o1 o2 of0 of1 of2
        obtain ⟨i, hgk, hi, rfl, hO, hB, hb⟩ := hrel
        have HG := Lib.hid hgk
        obtain ⟨o0, o1, o2, of0, of1, of2⟩ := hB.cells
        clear hgk
        obtain ⟨a1, cp1, rfl⟩ := hO.slice
        by_cases hlt : i < ks.length
        · have hil : (i : Int) < (ks.length : Int) := by omega
          obtain ⟨g, off, s', r', x, rfl, _, hg, c0, c1, c2, ht⟩ := (HK.below hb) i hlt
          obtain ⟨a3, n3, cap3, rfl⟩ := ht.third
          have HMS := Lib.hid (stepsTo_succ hlt)
          have hl1 : (stepsTo ks i).length ≤ 2000000 := by have h1 := stepsTo_len (s := s) (r := r) (ks := ks) i; have := HWW.out; omega
          have hl2 : (stepsL ks[i]).length ≤ 2000000 := by have h2 := steps_len _ ks[i] (Nat.le_refl _); have h3 := HKD.out ks[i] (List.getElem_mem hlt); have := HWW.out; omega
          go_wp2_with fail
          refine (HIH.out ks[i] (by have := HKD.out ks[i] (List.getElem_mem hlt); have := HTT.out; omega) (by have := HKD.out ks[i] (List.getElem_mem hlt); have := HWW.out; omega) _ _ ht).mono ?_
          rintro e w3 ⟨x3, rfl, hx3, hb3⟩
          have hB3 := hB.below hb3
          have hBB := hb.trans (hb3.mono hb.size)
          have hO3 := hO.below hb3
          have hsz := hb.size
          have hsz3 := hb3.size
          have hBl := hB.lt
          clear hB hb hb3 c0 c1 c2 ht o0 o1 o2 of0 of1 of2 hO
          obtain ⟨g2, cp2, rfl, _, hc2⟩ := hx3.open (steps_ne _)
          go_wp2_with (at_builtin; refine wpList_append_own _ rfl _ _ 37 rfl (w.heap.size + 1) 57 i0 (.agg #[.int .i64 0, .int .i64 0]) 2 16 Try.underlying37 hi0 hz0 hz1 hz2 rfl (by decide) (.slice a1 (stepsTo ks i).length cp1) (stepsTo ks i).length (flatS (stepsTo ks i)) rfl hO3 ⟨g2, 0, none⟩ (stepsL ks[i]).length cp2 (flatS (stepsL ks[i])) rfl (flatS_len _) hc2 (flatS_one _) ?d3 ?d4 ?d5 ?_)
          case d3 => unfold maxLen; omega
          case d4 => omega
          case d5 => omega
          intro v' w6 h1 h2 h3
          have hbR := (Below.refl (w.heap.size + 1) _).grown h2 (by omega) hO3.row
          have hB6 : BoxT w6 w.heap.size (.string s) (.int .i64 r) _ := (hbR.block w.heap.size (by omega)).trans hB3
          have hb6 : Below w.heap.size w w6 := hBB.trans (hbR.mono (by omega))
          have hO6 : RowS w6 (w.heap.size + 1) v' (stepsTo ks (i + 1)) := by
            rw [HMS.out]
            unfold RowS
            rw [List.length_append, flatS_append]
            exact h1
          clear h1 h2 h3 hbR hB3 hBB hO3 hx3 hc2
          go_wp2_with fail
          go_roundg (ks.length + 1 - (i + 1))
          case measure => have := HG.out; omega
          case rel => exact ⟨i + 1, rfl, by omega, by go_num, hO6, hB6, hb6⟩
        · have hil : ¬ (i : Int) < (ks.length : Int) := by omega
          obtain rfl : i = ks.length := by omega
          have hl1 : (stepsTo ks ks.length).length ≤ 2000000 := by have h1 := stepsTo_len (s := s) (r := r) (ks := ks) ks.length; have := HWW.out; omega
          have hb5 := (Below.refl _ _).alloc (Nat.le_refl wr.heap.size) (.cells #[.int .i64 2, .int .i64 r] 57)
          have hO5 := hO.below hb5
          have hsz := hb.size
          go_wp2_with (at_builtin; refine wpList_append_own _ rfl _ _ 37 rfl (w.heap.size + 1) 57 i0 (.agg #[.int .i64 0, .int .i64 0]) 2 16 Try.underlying37 hi0 hz0 hz1 hz2 rfl (by decide) (.slice a1 (stepsTo ks ks.length).length cp1) (stepsTo ks ks.length).length (flatS (stepsTo ks ks.length)) rfl hO5 ⟨wr.heap.size, 0, none⟩ 1 1 (flatS [(2, r)]) rfl rfl ?c1 ?c2 ?c3 ?c4 (by have := hB.lt; simp; omega) ?_)
          case c1 =>
            intro q u hq
            match q, hq with
            | 0, hq => simp [flatS] at hq; subst hq; simp
            | 1, hq => simp [flatS] at hq; subst hq; simp
          case c2 => exact flatS_one _
          case c3 => unfold maxLen; omega
          case c4 => omega
          intro v' w6 h1 h2 h3
          have hbR := (Below.refl (w.heap.size + 1) _).grown h2 (by have := hB.lt; simp; omega) hO5.row
          have hb6 : Below w.heap.size w w6 := (hb.alloc hb.size _).trans (hbR.mono (by omega))
          have hO6 : RowS w6 (w.heap.size + 1) v' (stepsTo ks ks.length ++ [(2, r)]) := by
            unfold RowS
            rw [List.length_append, flatS_append]
            exact h1
          clear h1 h2 h3 hbR hO5 hb5
          go_wp2_with fail
          go_ret
          exact ⟨_, rfl, by rw [HY.out]; exact hO6.mono (by omega), hb6⟩
/-- what StepsOf answers -/
def stepsOfM (st : ByteArray) (rs : List RuleT) : Tr → List StpT
  | .node s r ks => if treeOkB st rs (.node s r ks) = true ∧ (s.toList == st.toList) = true then stepsL (.node s r ks) ++ [(3, 0)] else []
set_option maxHeartbeats 2000000 in
theorem sStepsOf_any (st : ByteArray) (ag : Option Addr) (cg : Nat) (rs : List RuleT) (T : Tr) (v : Value) (w : World) (HR : RulesAt w ag rs) (hcg : rs.length ≤ cg) (HT : TrIn w 0 v T) (hW : T.wt ≤ 1048576) (hz : T.sz ≤ 2000000) :
    Calls Try.prog 19 #[.agg #[.string st, .slice ag rs.length cg], v] w fun e w' => ∃ x, e = .returned x ∧ RowS w' w.heap.size x (stepsOfM st rs T) ∧ Below w.heap.size w w' := by
  obtain ⟨i0, hi0, hz0, hz1, hz2⟩ := info_parts infoStep
  obtain ⟨s, r, ks, a, cap, rfl, rfl, _⟩ := HT.open
  have hb2 := ((Below.refl w.heap.size w).alloc (Nat.le_refl _) (.cells #[.string st, .slice ag rs.length cg] 35)).alloc (by simp) (.cells #[.string s, .int .i64 r, .slice a ks.length cap] 30)
  have hG2 : GB2 ((w.alloc (.cells #[.string st, .slice ag rs.length cg] 35)).alloc (.cells #[.string s, .int .i64 r, .slice a ks.length cap] 30)) w.heap.size (.string st) (.slice ag rs.length cg) := (blk_old _ _ (by simp)).trans (blk_new _ _ rfl)
  have hT2 : BoxT ((w.alloc (.cells #[.string st, .slice ag rs.length cg] 35)).alloc (.cells #[.string s, .int .i64 r, .slice a ks.length cap] 30)) (w.heap.size + 1) (.string s) (.int .i64 r) (.slice a ks.length cap) := blk_new _ _ (by simp)
  have HR2 := HR.below hb2 (Nat.le_refl _)
  have HT2 := HT.keep hb2
  clear HR HT
  obtain ⟨g0, g1⟩ := hG2.cells
  obtain ⟨o0, o1, o2, _, _, _⟩ := hT2.cells
  go_enter Try.func19, Try.ntmps19
  go_wp2_with fail
  refine (sTreeOk_any st ag cg rs _ _ _ HR2 hcg HT2 hW).mono ?_
  rintro e w3 ⟨rfl, hb3⟩
  have hT3 := hT2.below hb3
  have hG3 : GB2 w3 w.heap.size (.string st) (.slice ag rs.length cg) := (hb3.block _ (by simp; omega)).trans hG2
  have HT3 := HT2.keep hb3
  have hB3 := hb2.trans (hb3.mono (by simp; omega))
  clear hb2 hG2 hT2 HR2 HT2 hb3 g0 g1 o0 o1 o2
  obtain ⟨g0, g1⟩ := hG3.cells
  obtain ⟨o0, o1, o2, _, _, _⟩ := hT3.cells
  cases hok : treeOkB st rs (.node s r ks) with
  | false =>
    have HM : Hid (stepsOfM st rs (.node s r ks) = []) := by show _ = _; rw [stepsOfM, hok, if_neg (by simp)]
    go_wp2_with fail
    go_ret
    refine ⟨_, rfl, ?_, hB3.alloc hB3.size _⟩
    rw [HM.out]
    exact RowS.of_new (zs := []) hB3.size (blk_new _ _ rfl) rfl (Nat.zero_le _)
  | true =>
    cases hst : (s.toList == st.toList) with
    | false =>
      have HM : Hid (stepsOfM st rs (.node s r ks) = []) := by show _ = _; rw [stepsOfM, hst, if_neg (by simp)]
      have hne : (s.toList != st.toList) = true := by rw [bne, hst]; rfl
      go_wp2_with fail
      go_ret
      refine ⟨_, rfl, ?_, hB3.alloc hB3.size _⟩
      rw [HM.out]
      exact RowS.of_new (zs := []) hB3.size (blk_new _ _ rfl) rfl (Nat.zero_le _)
    | true =>
      have HM : Hid (stepsOfM st rs (.node s r ks) = stepsL (.node s r ks) ++ [(3, 0)]) := by show _ = _; rw [stepsOfM, hok, hst, if_pos ⟨rfl, rfl⟩]
      have hne : (s.toList != st.toList) = false := by rw [bne, hst]; rfl
      have hl2 := steps_len _ (.node s r ks) (Nat.le_refl _)
      go_wp2_with fail
      refine (l7Of_any _ _ (Nat.le_refl _) hz _ _ HT3).mono ?_
      rintro e w4 ⟨x4, rfl, hx4, hb4⟩
      have hB4 := hB3.trans (hb4.mono hB3.size)
      have hb5 := (Below.refl _ _).alloc (Nat.le_refl w4.heap.size) (.cells #[.int .i64 3, .int .i64 0] 57)
      have hO5 := (hx4.mono hB3.size).below hb5
      have hsz := hB4.size
      clear o0 o1 o2 g0 g1 hx4 hb4
      go_wp2_with (at_builtin; refine wpList_append_own _ rfl _ _ 37 rfl w.heap.size 57 i0 (.agg #[.int .i64 0, .int .i64 0]) 2 16 Try.underlying37 hi0 hz0 hz1 hz2 rfl (by decide) x4 (stepsL (.node s r ks)).length (flatS (stepsL (.node s r ks))) rfl hO5 ⟨w4.heap.size, 0, none⟩ 1 1 (flatS [(3, 0)]) rfl rfl ?c1 ?c2 ?c3 ?c4 ?c5 ?_)
      case c1 =>
        intro q u hq
        match q, hq with
        | 0, hq => simp [flatS] at hq; subst hq; simp [Addr.add]
        | 1, hq => simp [flatS] at hq; subst hq; simp [Addr.add]
      case c2 => exact flatS_one _
      case c3 => unfold maxLen; omega
      case c4 => omega
      case c5 => simp; omega
      intro v' w6 h1 h2 h3
      have hbR := (Below.refl w.heap.size _).grown h2 (by simp; omega) hO5.row
      go_wp2_with fail
      go_ret
      refine ⟨_, rfl, ?_, (hB4.alloc hB4.size _).trans hbR⟩
      rw [HM.out]
      unfold RowS
      rw [List.length_append, flatS_append]
      exact h1
end Go.Proofs.Ytcningdeocmbgaa
