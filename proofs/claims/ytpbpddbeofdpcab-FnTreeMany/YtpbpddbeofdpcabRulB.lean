/- The contracts of the model's l3Rules and TreeRules. -/
import Derived.Test.YtpbpddbeofdpcabSzT
import Derived.Test.YtpbpddbeofdpcabForA
import Derived.Deep.Cut
import Derived.Deep.DeepCutAuto
namespace Go.Proofs.Ytpbpddbeofdpcab
open Go.ChangeShapes Go.WideShapes Go.ChangeAt Go.RowKit Go.Deep
set_option maxRecDepth 100000
/-- the rules of a tree, a node ahead of its kids -/
def rulesL : Tr → List Int
  | .node _ r ks => (if 0 ≤ r then [r] else []) ++ ks.flatMap rulesL
theorem rules_len (m : Nat) : ∀ (T : Tr), T.sz ≤ m → (rulesL T).length ≤ T.sz := by
  induction m with
  | zero =>
    intro T hT
    cases T with
    | node s r ks => rw [Tr.sz] at hT; omega
  | succ m ih =>
    intro T hT
    cases T with
    | node s r ks =>
      have hk : ∀ k ∈ ks, (rulesL k).length ≤ k.sz := fun k hk => ih k (by have := Tr.sz_kid (s := s) (r := r) hk; omega)
      have hall : ∀ l : List Tr, (∀ k ∈ l, (rulesL k).length ≤ k.sz) → (l.flatMap rulesL).length ≤ (l.map Tr.sz).sum := by
        intro l
        induction l with
        | nil => intro _; simp
        | cons x xs ih2 =>
          intro h
          have h1 := h x (List.mem_cons_self ..)
          have h2 := ih2 (fun k hk => h k (List.mem_cons_of_mem _ hk))
          simp only [List.flatMap_cons, List.length_append, List.map_cons, List.sum_cons]
          omega
      have := hall ks hk
      have h1 : (if 0 ≤ r then [r] else []).length ≤ 1 := by split <;> simp
      rw [rulesL, Tr.sz, List.length_append]
      omega
def rulesTo (r : Int) (ks : List Tr) (i : Nat) : List Int := (if 0 ≤ r then [r] else []) ++ (ks.take i).flatMap rulesL
theorem rulesTo_succ {r : Int} {ks : List Tr} {i : Nat} (h : i < ks.length) : rulesTo r ks (i + 1) = rulesTo r ks i ++ rulesL ks[i] := by
  unfold rulesTo
  rw [List.take_succ_eq_append_getElem h, List.flatMap_append]
  simp
theorem rulesTo_len {s : ByteArray} {r : Int} {ks : List Tr} (i : Nat) : (rulesTo r ks i).length ≤ (Tr.node s r ks).sz := by
  have h1 : ∀ l : List Tr, (l.flatMap rulesL).length ≤ (l.map Tr.sz).sum := by
    intro l
    induction l with
    | nil => simp
    | cons x xs ih =>
      have := rules_len _ x (Nat.le_refl _)
      simp only [List.flatMap_cons, List.length_append, List.map_cons, List.sum_cons]
      omega
  have h2 := h1 (ks.take i)
  have h3 := szTo_le (ks := ks) i
  unfold szTo at h3
  unfold rulesTo
  have h4 : (if 0 ≤ r then [r] else []).length ≤ 1 := by split <;> simp
  rw [Tr.sz, List.length_append]
  omega
theorem OwnZ.cells {w : World} {B g cap : Nat} {zs : List Int} {n : Nat} (h : OwnZ w B (.slice (some ⟨g, 0, none⟩) n cap) zs) : ∀ j u, (intCells zs)[j]? = some u → w.cell? ((⟨g, 0, none⟩ : Addr).add j) = some u := by
  intro j u hj
  rw [WideShapes.add_plain]
  rcases h.2.2 with ⟨h0, _⟩ | ⟨g', cap', cur, hv, hg, hh, hlc, hm, hs, ht⟩
  · cases h0
  · simp only [Value.slice.injEq, Option.some.injEq, Addr.mk.injEq] at hv
    obtain ⟨⟨rfl, _⟩, _, rfl⟩ := hv
    rw [← ht, List.getElem?_take] at hj
    split at hj
    · rw [cell_of_block hh]; simpa using hj
    · cases hj
theorem ints_one (zs : List Int) : ∀ u ∈ intCells zs, u.oneCell' = true := by
  intro u hu
  obtain ⟨z, _, rfl⟩ := List.mem_map.1 hu
  rfl
theorem BoxT.oldR {w : World} {b : Nat} {v0 v1 v2 : Value} (h : BoxT w b v0 v1 v2) (o : Obj) : BoxT (w.alloc o) b v0 v1 v2 := (blk_old _ _ h.lt).trans h
set_option maxHeartbeats 2000000 in
theorem l3Rules_any (m : Nat) : ∀ (T : Tr), T.sz ≤ m → T.sz ≤ 2000000 → ∀ v w, TrIn w 0 v T →
    Calls Try.prog 33 #[v] w fun e w' => ∃ x, e = .returned x ∧ OwnZ w' w.heap.size x (rulesL T) ∧ Below w.heap.size w w' := by
  obtain ⟨i0, hi0, hz0, hz1, hz2⟩ := info_parts infoInt
  induction m with
  | zero =>
    intro T hT
    cases T with
    | node s r ks => rw [Tr.sz] at hT; omega
  | succ m ih =>
    intro T hT hW v w HT
    obtain ⟨s, r, ks, a, cap, rfl, rfl, hs, hr, hn, hc, HK⟩ := HT.open
    have hkid : ∀ k ∈ ks, k.sz < (Tr.node s r ks).sz := fun k hk => Tr.sz_kid hk
    have HIH := Lib.hid ih
    have HKD := Lib.hid hkid
    have HTT := Lib.hid hT
    have HWW := Lib.hid hW
    have HY : Hid (rulesL (.node s r ks) = rulesTo r ks ks.length) := by show _ = _; rw [rulesL]; unfold rulesTo; rw [List.take_length]
    have hbA := ((Below.refl w.heap.size w).alloc (Nat.le_refl _) (.cells #[.string s, .int .i64 r, .slice a ks.length cap] 28)).alloc (by simp) (.cells #[] 3)
    have hB0 : BoxT ((w.alloc (.cells #[.string s, .int .i64 r, .slice a ks.length cap] 28)).alloc (.cells #[] 3)) w.heap.size (.string s) (.int .i64 r) (.slice a ks.length cap) := (blk_old _ _ (by simp)).trans (blk_new _ _ rfl)
    have hE : OwnZ ((w.alloc (.cells #[.string s, .int .i64 r, .slice a ks.length cap] 28)).alloc (.cells #[] 3)) (w.heap.size + 1) (.slice (some ⟨w.heap.size + 1, 0, none⟩) 0 0) [] :=
      ⟨⟨_, _, rfl⟩, rfl, .inr ⟨w.heap.size + 1, 0, #[], rfl, Nat.le_refl _, blk_new _ _ (by simp), Nat.le_refl _, Nat.zero_le _, rfl, rfl⟩⟩
    obtain ⟨o0, o1, o2, of0, of1, of2⟩ := hB0.cells
    unfold maxLen at hn
    clear ih hkid hT HT hW
    go_enter Try.func33, Try.ntmps33
    go_upto_if 8 with fail
    go_cut [3] (fun s3 wx => OwnZ wx (w.heap.size + 1) s3 (rulesTo r ks 0) ∧ BoxT wx w.heap.size (.string s) (.int .i64 r) (.slice a ks.length cap) ∧ Below w.heap.size w wx)
    case first =>
      clear HIH HKD HTT HWW HY HK
      by_cases h0 : 0 ≤ r
      · have hr0 : rulesTo r ks 0 = [] ++ [r] := by unfold rulesTo; rw [if_pos h0]; simp
        have HR := Lib.hid hr0
        clear hr0
        have hown5 := hE.keep (w' := World.alloc _ (.cells #[.int .i64 r] 3)) (fun q hq hq2 => Below.heap_alloc _ _ q hq2)
        have hA5 := BoxT.oldR hB0 (.cells #[.int .i64 r] 3)
        have hb5 := hbA.alloc hbA.size (.cells #[.int .i64 r] 3)
        have hd : decide (0 ≤ r) = true := decide_eq_true h0
        go_wp2_with (at_builtin; (refine wpList_append_own _ rfl _ _ 31 rfl (w.heap.size + 1) 3 i0 (.int .i64 0) 1 8 Try.underlying31 hi0 hz0 hz1 hz2 rfl (by decide) (.slice (some ⟨w.heap.size + 1, 0, none⟩) 0 0) 0 [] rfl hown5.2 ⟨w.heap.size + 1 + 1, 0, none⟩ 1 1 [.int .i64 r] rfl rfl ?c1 ?c2 ?c3 ?c4 ?c5 ?_))
        case c1 =>
          have h := cell_one_new ((w.alloc (.cells #[.string s, .int .i64 r, .slice a ks.length cap] 28)).alloc (.cells #[] 3)) (.int .i64 r) 3
          have e : ((w.alloc (.cells #[.string s, .int .i64 r, .slice a ks.length cap] 28)).alloc (.cells #[] 3)).heap.size = w.heap.size + 1 + 1 := by simp
          rw [e] at h
          exact h
        case c2 => intro u hu; simp at hu; subst hu; rfl
        case c3 => unfold maxLen; omega
        case c4 => omega
        case c5 => simp
        intro v' w6 h1 h2 h3
        have hbR := (Below.refl (w.heap.size + 1) _).grown h2 (by simp) hown5.row
        have hA7 : BoxT w6 w.heap.size (.string s) (.int .i64 r) (.slice a ks.length cap) := (hbR.block w.heap.size (by omega)).trans hA5
        have hb7 : Below w.heap.size w w6 := hb5.trans (hbR.mono (by omega))
        rcases h1.2 with ⟨h0, _⟩ | ⟨g', cp', cur, hv', _⟩
        · exact absurd h0 h3
        subst hv'
        have hO7 : OwnZ w6 (w.heap.size + 1) (.slice (some ⟨g', 0, none⟩) (0 + 1) cp') (rulesTo r ks 0) := by
          rw [HR.out]
          exact ⟨⟨g', cp', by simp⟩, by simpa [intCells] using h1⟩
        clear h1 h2 h3 hbR hA5 hb5 hown5 hE hB0 hbA o0 o1 o2 of0 of1 of2
        go_wp2
        go_meet
        case rel => exact ⟨hO7, hA7, hb7⟩
      · have hr0 : rulesTo r ks 0 = [] := by unfold rulesTo; rw [if_neg h0]; simp
        have HR := Lib.hid hr0
        clear hr0
        have hd : decide (0 ≤ r) = false := decide_eq_false h0
        go_wp2
        go_meet
        case rel => exact ⟨by rw [HR.out]; exact hE, hB0, hbA⟩
    case rest =>
      obtain ⟨hO, hB, hb⟩ := hcut
      clear hE hB0 hbA o0 o1 o2 of0 of1 of2
      go_wp2_with fail
      go_loopg [3, 4] (ks.length + 1) (fun gk nv iv wr => ∃ i : Nat, gk = ks.length + 1 - i ∧ i ≤ ks.length ∧ iv = .int .i64 (i : Int) ∧ OwnZ wr (w.heap.size + 1) nv (rulesTo r ks i) ∧ BoxT wr w.heap.size (.string s) (.int .i64 r) (.slice a ks.length cap) ∧ Below w.heap.size w wr)
      case atStart => exact ⟨0, rfl, Nat.zero_le _, rfl, hO, hB, hb⟩
      case round =>
        clear hO hB hb
        obtain ⟨i, hgk, hi, rfl, hO, hB, hb⟩ := hrel
        have HG := Lib.hid hgk
        obtain ⟨o0, o1, o2, of0, of1, of2⟩ := hB.cells
        clear hgk
        obtain ⟨g1, cp1, rfl⟩ := hO.1
        by_cases hlt : i < ks.length
        · have hil : (i : Int) < (ks.length : Int) := by omega
          obtain ⟨g, off, s', r', x, rfl, _, hg, c0, c1, c2, ht⟩ := (HK.below hb) i hlt
          obtain ⟨a3, n3, cap3, rfl⟩ := ht.third
          have HMS := Lib.hid (rulesTo_succ (r := r) hlt)
          have hl1 : (rulesTo r ks i).length ≤ 2000000 := by have h1 := rulesTo_len (s := s) (r := r) (ks := ks) i; have := HWW.out; omega
          have hl2 : (rulesL ks[i]).length ≤ 2000000 := by have h2 := rules_len _ ks[i] (Nat.le_refl _); have h3 := HKD.out ks[i] (List.getElem_mem hlt); have := HWW.out; omega
          go_wp2_with fail
          refine (HIH.out ks[i] (by have := HKD.out ks[i] (List.getElem_mem hlt); have := HTT.out; omega) (by have := HKD.out ks[i] (List.getElem_mem hlt); have := HWW.out; omega) _ _ ht).mono ?_
          rintro e w3 ⟨x3, rfl, hx3, hb3⟩
          have hB3 := hB.below hb3
          have hBB := hb.trans (hb3.mono hb.size)
          have hO3 := hO.keep (w' := w3) (fun q hq hq2 => hb3.block q hq2)
          have hsz := hb.size
          have hsz3 := hb3.size
          have hBl := hB.lt
          clear hB hb hb3 c0 c1 c2 ht o0 o1 o2 of0 of1 of2 hO
          obtain ⟨g2, cp2, rfl⟩ := hx3.1
          go_wp2_with (at_builtin; refine wpList_append_own _ rfl _ _ 31 rfl (w.heap.size + 1) 3 i0 (.int .i64 0) 1 8 Try.underlying31 hi0 hz0 hz1 hz2 rfl (by decide) (.slice (some ⟨g1, 0, none⟩) (rulesTo r ks i).length cp1) (rulesTo r ks i).length (intCells (rulesTo r ks i)) rfl hO3.2 ⟨g2, 0, none⟩ (rulesL ks[i]).length cp2 (intCells (rulesL ks[i])) rfl (by simp [intCells]) hx3.cells (ints_one _) ?d3 ?d4 ?d5 ?_)
          case d3 => unfold maxLen; omega
          case d4 => omega
          case d5 => omega
          intro v' w6 h1 h2 h3
          have hbR := (Below.refl (w.heap.size + 1) _).grown h2 (by omega) hO3.row
          have hB6 : BoxT w6 w.heap.size (.string s) (.int .i64 r) _ := (hbR.block w.heap.size (by omega)).trans hB3
          have hb6 : Below w.heap.size w w6 := hBB.trans (hbR.mono (by omega))
          rcases h1.2 with ⟨h0, _⟩ | ⟨g', cp', cur, hv', _⟩
          · exact absurd h0 h3
          subst hv'
          have hO6 : OwnZ w6 (w.heap.size + 1) (.slice (some ⟨g', 0, none⟩) ((rulesTo r ks i).length + (rulesL ks[i]).length) cp') (rulesTo r ks (i + 1)) := by
            rw [HMS.out]
            exact ⟨⟨g', cp', by simp⟩, by simpa [intCells] using h1⟩
          clear h1 h2 h3 hbR hB3 hBB hO3 hx3
          go_wp2_with fail
          go_roundg (ks.length + 1 - (i + 1))
          case measure => have := HG.out; omega
          case rel => exact ⟨i + 1, rfl, by omega, by go_num, hO6, hB6, hb6⟩
        · have hil : ¬ (i : Int) < (ks.length : Int) := by omega
          obtain rfl : i = ks.length := by omega
          go_wp2_with fail
          go_ret
          exact ⟨_, rfl, by rw [HY.out]; exact hO.mono (by omega), hb⟩
def treeRulesM (st : ByteArray) (rs : List RuleT) (T : Tr) : List Int := if treeOkB st rs T = true then rulesL T else []
set_option maxHeartbeats 2000000 in
theorem sTreeRules_any (st : ByteArray) (ag : Option Addr) (cg : Nat) (rs : List RuleT) (T : Tr) (v : Value) (w : World) (HR : RulesAt w ag rs) (hcg : rs.length ≤ cg) (HT : TrIn w 0 v T) (hW : T.wt ≤ 1048576) (hz : T.sz ≤ 2000000) :
    Calls Try.prog 10 #[.agg #[.string st, .slice ag rs.length cg], v] w fun e w' => ∃ x, e = .returned x ∧ OwnZ w' w.heap.size x (treeRulesM st rs T) ∧ Below w.heap.size w w' := by
  obtain ⟨s, r, ks, a, cap, rfl, hTe, _⟩ := HT.open
  have hb2 := ((Below.refl w.heap.size w).alloc (Nat.le_refl _) (.cells #[.string st, .slice ag rs.length cg] 25)).alloc (by simp) (.cells #[.string s, .int .i64 r, .slice a ks.length cap] 28)
  have hG2 : GB2 ((w.alloc (.cells #[.string st, .slice ag rs.length cg] 25)).alloc (.cells #[.string s, .int .i64 r, .slice a ks.length cap] 28)) w.heap.size (.string st) (.slice ag rs.length cg) := (blk_old _ _ (by simp)).trans (blk_new _ _ rfl)
  have hT2 : BoxT ((w.alloc (.cells #[.string st, .slice ag rs.length cg] 25)).alloc (.cells #[.string s, .int .i64 r, .slice a ks.length cap] 28)) (w.heap.size + 1) (.string s) (.int .i64 r) (.slice a ks.length cap) := blk_new _ _ (by simp)
  have HR2 := HR.below hb2 (Nat.le_refl _)
  have HT2 := HT.keep hb2
  clear HR HT hTe
  obtain ⟨g0, g1⟩ := hG2.cells
  obtain ⟨o0, o1, o2, _, _, _⟩ := hT2.cells
  go_enter Try.func10, Try.ntmps10
  go_wp2_with fail
  refine (sTreeOk_any st ag cg rs T _ _ HR2 hcg HT2 hW).mono ?_
  rintro e w3 ⟨rfl, hb3⟩
  have hT3 := hT2.below hb3
  have HT3 := HT2.keep hb3
  have hB3 := hb2.trans (hb3.mono (by simp; omega))
  clear hb2 hG2 hT2 HR2 HT2 hb3 g0 g1 o0 o1 o2
  obtain ⟨o0, o1, o2, _, _, _⟩ := hT3.cells
  cases hok : treeOkB st rs T with
  | false =>
    have HM : Hid (treeRulesM st rs T = []) := by show _ = _; unfold treeRulesM; rw [hok]; rfl
    go_wp2_with fail
    go_ret
    refine ⟨_, rfl, ?_, hB3.alloc hB3.size _⟩
    rw [HM.out]
    exact ⟨⟨_, _, rfl⟩, rfl, .inr ⟨w3.heap.size, 0, #[], rfl, hB3.size, blk_new _ _ rfl, Nat.le_refl _, Nat.zero_le _, rfl, rfl⟩⟩
  | true =>
    have HM : Hid (treeRulesM st rs T = rulesL T) := by show _ = _; unfold treeRulesM; rw [hok]; rfl
    go_wp2_with fail
    refine (l3Rules_any _ T (Nat.le_refl _) hz _ _ HT3).mono ?_
    rintro e w4 ⟨x4, rfl, hx4, hb4⟩
    obtain ⟨g2, cp2, rfl⟩ := hx4.1
    clear o0 o1 o2
    go_wp2_with fail
    go_ret
    exact ⟨_, rfl, by rw [HM.out]; exact hx4.mono hB3.size, hB3.trans (hb4.mono hB3.size)⟩
end Go.Proofs.Ytpbpddbeofdpcab
