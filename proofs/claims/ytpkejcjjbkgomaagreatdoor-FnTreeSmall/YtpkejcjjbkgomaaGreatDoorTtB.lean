/- The text of a tree: its numbers (NumA), what else TtB and TtC need. -/
import Derived.Test.YtpkejcjjbkgomaaGreatDoorNumA
import Derived.Test.YtpkejcjjbkgomaaGreatDoorBldF
import Derived.Test.YtpkejcjjbkgomaaGreatDoorTokA
import Derived.Test.YtpkejcjjbkgomaaGreatDoorTokV

namespace Go.Proofs.YtpkejcjjbkgomaaGreatDoor
open Go.ChangeShapes Go.WideShapes Go.ChangeAt Go.RowKit Go.Deep
set_option maxRecDepth 100000
set_option linter.unusedVariables false
def okR (t : PT) : Prop := (t.r = -1 ∧ t.s.size = 1) ∨ ∃ n : Nat, n < 8 ∧ t.r = (n : Int)
theorem nodeR {rs : List RuleT} {s : ByteArray} {r : Int} {ks : List Tr} (h : nodeB rs (.node s r ks) = true) : (isSmallS s = true ∧ r = -1 ∧ ks = []) ∨ (isSmallS s = false ∧ ∃ (n : Nat), n < rs.length ∧ r = n) := by
  rw [nodeB] at h
  split at h
  · rename_i hs
    simp only [Bool.and_eq_true, beq_iff_eq] at h
    exact Or.inl ⟨hs, h.1, List.eq_nil_of_length_eq_zero h.2⟩
  · rename_i hs
    refine Or.inr ⟨by simpa using hs, ?_⟩
    unfold ruleAt at h
    by_cases hr : r < 0
    · rw [if_pos hr] at h; cases h
    · rw [if_neg hr] at h
      by_cases hl : r.toNat < rs.length
      · exact ⟨r.toNat, hl, by omega⟩
      · rw [List.getElem?_eq_none (by omega)] at h; cases h
def entL (s : ByteArray) (r : Int) : List UInt8 := if r = -1 then s.data.toList else 91 :: (decS r.toNat).data.toList
def levL (r : Int) : List UInt8 := if r = -1 then [] else [93]
def textN : Tr → List UInt8
  | .node s r ks => entL s r ++ (ks.flatMap textN ++ levL r)
theorem textN_node (s : ByteArray) (r : Int) (ks : List Tr) : textN (.node s r ks) = entL s r ++ (ks.flatMap textN ++ levL r) := by rw [textN]
def tRun : List (PT × Bool) → List UInt8
  | [] => []
  | (t, true) :: es => entL t.s t.r ++ tRun es
  | (t, false) :: es => levL t.r ++ tRun es
theorem tRun_kids : ∀ (l : List PT), (∀ t ∈ l, ∀ rest, tRun (t.evs ++ rest) = textN t.tr ++ tRun rest) → ∀ rest, tRun (l.flatMap PT.evs ++ rest) = (l.map PT.tr).flatMap textN ++ tRun rest
  | [], _, rest => rfl
  | t :: l, h, rest => by
    rw [List.flatMap_cons, List.append_assoc, h t (List.mem_cons_self ..), tRun_kids l (fun x hx => h x (List.mem_cons_of_mem _ hx)), List.map_cons, List.flatMap_cons, List.append_assoc]
theorem tRun_evs (m : Nat) : ∀ (t : PT), t.sz ≤ m → ∀ rest, tRun (t.evs ++ rest) = textN t.tr ++ tRun rest := by
  induction m with
  | zero => intro t h; have := t.sz_pos; omega
  | succ m ih =>
    intro t h rest
    cases t with
    | node b o s r ks =>
      rw [PT.evs, PT.tr, textN_node]
      simp only [List.cons_append, List.append_assoc, tRun]
      rw [tRun_kids ks (fun k hk rest => ih k (by have := PT.sz_kid (t := .node b o s r ks) hk; omega) rest)]
      simp only [List.nil_append, tRun]
      rfl
theorem tRun_all (t : PT) : tRun t.evs = textN t.tr := by
  have := tRun_evs _ t (Nat.le_refl _) []
  simpa [tRun] using this
theorem evs_ok (rs : List RuleT) (h8 : rs.length ≤ 8) : ∀ (d : Nat) (t : PT), shapeB rs d t.tr = true → ∀ x ∈ t.evs, okR x.1
  | 0, _, h => by rw [shapeB] at h; cases h
  | d + 1, .node b o s r ks, h => by
    rw [PT.tr, shape_split, Bool.and_eq_true, List.all_eq_true] at h
    have hok : okR (.node b o s r ks) := by
      rcases nodeR h.1 with ⟨hs, hr, _⟩ | ⟨_, n, hn, hr⟩
      · refine Or.inl ⟨hr, ?_⟩
        show s.size = 1
        unfold isSmallS at hs; simp only [Bool.and_eq_true, decide_eq_true_eq] at hs; exact hs.1
      · exact Or.inr ⟨n, by omega, hr⟩
    intro x hx
    rw [PT.evs] at hx
    simp only [List.mem_cons, List.mem_append, List.mem_flatMap, List.not_mem_nil, or_false] at hx
    rcases hx with rfl | ⟨k, hk, hx⟩ | rfl
    · exact hok
    · exact evs_ok rs h8 d k (h.2 _ (List.mem_map_of_mem hk)) x hx
    · exact hok
theorem textN_len (rs : List RuleT) : ∀ (d : Nat) (T : Tr), shapeB rs d T = true → (textN T).length ≤ 3 * T.sz
  | 0, _, h => by rw [shapeB] at h; cases h
  | d + 1, .node s r ks, h => by
    rw [shape_split, Bool.and_eq_true, List.all_eq_true] at h
    have ih : ∀ l : List Tr, (∀ k ∈ l, shapeB rs d k = true) → (l.flatMap textN).length ≤ 3 * (l.map Tr.sz).sum := by
      intro l
      induction l with
      | nil => intro _; simp
      | cons x xs ihl =>
        intro hx
        have h1 := textN_len rs d x (hx x (List.mem_cons_self ..))
        have h2 := ihl (fun k hk => hx k (List.mem_cons_of_mem _ hk))
        simp only [List.flatMap_cons, List.length_append, List.map_cons, List.sum_cons]
        omega
    have hks := ih ks h.2
    rw [textN_node, Tr.sz, List.length_append, List.length_append]
    unfold entL levL
    rcases nodeR h.1 with ⟨hs, rfl, rfl⟩ | ⟨_, n, _, rfl⟩
    · have hz : s.size = 1 := by unfold isSmallS at hs; simp only [Bool.and_eq_true, decide_eq_true_eq] at hs; exact hs.1
      simp [hz]
    · have hd : (decS ((n : Int)).toNat).data.toList.length = 1 := rfl
      rw [if_neg (by omega), if_neg (by omega)]
      simp only [List.length_cons, List.length_nil, hd]
      omega
def txtTo (n : Nat) (ks : List Tr) (i : Nat) : List UInt8 := 91 :: ((decS n).data.toList ++ (ks.take i).flatMap textN)
theorem txtTo_succ {n : Nat} {ks : List Tr} {i : Nat} (h : i < ks.length) : txtTo n ks (i + 1) = txtTo n ks i ++ textN ks[i] := by
  unfold txtTo; rw [List.take_succ_eq_append_getElem h, List.flatMap_append]; simp
theorem txtTo_len {rs : List RuleT} {d n : Nat} {s : ByteArray} {ks : List Tr} (h : ∀ k ∈ ks, shapeB rs d k = true) (i : Nat) : (txtTo n ks i).length ≤ 2 + 3 * (ks.map Tr.sz).sum := by
  have ih : ∀ l : List Tr, (∀ k ∈ l, shapeB rs d k = true) → (l.flatMap textN).length ≤ 3 * (l.map Tr.sz).sum := by
    intro l
    induction l with
    | nil => intro _; simp
    | cons x xs ihl =>
      intro hx
      have h1 := textN_len rs d x (hx x (List.mem_cons_self ..))
      have h2 := ihl (fun k hk => hx k (List.mem_cons_of_mem _ hk))
      simp only [List.flatMap_cons, List.length_append, List.map_cons, List.sum_cons]
      omega
  have h1 := ih (ks.take i) (fun k hk => h k (List.mem_of_mem_take hk))
  have h2 : ((ks.take i).map Tr.sz).sum + ((ks.drop i).map Tr.sz).sum = (ks.map Tr.sz).sum := by
    rw [← List.sum_append, ← List.map_append, List.take_append_drop]
  have hd : (decS n).data.toList.length = 1 := rfl
  unfold txtTo
  simp only [List.length_cons, List.length_append, hd]
  omega
set_option maxHeartbeats 4000000 in
theorem l3Text_any (rs : List RuleT) (h8 : rs.length ≤ 8) : ∀ (d : Nat) (T : Tr), shapeB rs d T = true → T.sz ≤ 2000000 → ∀ v w, TrIn w 0 v T →
    Calls Tryz.prog 61 #[v] w fun e w' => e = .returned (.string (bytesOf (textN T))) ∧ Below w.heap.size w w' := by
  intro d
  induction d with
  | zero => intro T h; rw [shapeB] at h; cases h
  | succ d ih =>
    intro T hT hW v w HT
    obtain ⟨s, r, ks, a, cap, rfl, rfl, hs, hr, hn, hc, HK⟩ := HT.open
    rw [shape_split, Bool.and_eq_true, List.all_eq_true] at hT
    have hkid : ∀ k ∈ ks, k.sz < (Tr.node s r ks).sz := fun k hk => Tr.sz_kid hk
    have HKD := Lib.hid hkid
    have HIH := Lib.hid ih
    have HSH := Lib.hid hT.2
    have hsum : 1 + (ks.map Tr.sz).sum ≤ 2000000 := by rw [Tr.sz] at hW; exact hW
    have HTL := Lib.hid (fun (n i : Nat) => txtTo_len (rs := rs) (d := d) (n := n) (s := s) (ks := ks) hT.2 i)
    have HW := Lib.hid hW
    have hbA := (Below.refl w.heap.size w).alloc (Nat.le_refl _) (.cells #[.string s, .int .i64 r, .slice a ks.length cap] 30)
    have hB0 : BoxT (w.alloc (.cells #[.string s, .int .i64 r, .slice a ks.length cap] 30)) w.heap.size (.string s) (.int .i64 r) (.slice a ks.length cap) := blk_new _ _ rfl
    unfold maxLen at hn
    obtain ⟨o0, o1, o2, of0, of1, of2⟩ := hB0.cells
    rcases nodeR hT.1 with ⟨hsm, rfl, rfl⟩ | ⟨_, n, hnl, rfl⟩
    · have HY : Hid (textN (.node s (-1) []) = s.data.toList) := by show _ = _; rw [textN_node]; simp [entL, levL]
      clear ih hT hkid HT hW
      go_enter Tryz.func61, Tryz.ntmps61
      go_wp2_with fail
      go_ret
      exact ⟨ret_bytes (by rw [HY.out, bytesOf_self]), hbA⟩
    · have hn8 : n < 8 := by omega
      have HY : Hid (textN (.node s (n : Int) ks) = txtTo n ks ks.length ++ [93]) := by
        show _ = _
        rw [textN_node]; unfold entL levL txtTo
        rw [if_neg (by omega), if_neg (by omega), List.take_length]
        simp
      clear ih hT hkid HT hW
      have hn0 : ¬ (n : Int) < 0 := by omega
      have ha1 : ∀ w, (Op.stringOp .add (⟨#[91]⟩ : ByteArray) (decS n)).run Tryz.prog w = .ok (.string (bytesOf (txtTo n ks 0))) w := fun w => by
        rw [run_string_add_sum w _ _ (by have : (decS n).size = 1 := rfl; rw [this, one_size]; omega)]
        congr 2
      go_enter Tryz.func61, Tryz.ntmps61
      go_wp2_with fail
      refine (l17Dec_any n hn8 _).mono ?_
      rintro e w2 ⟨rfl, hb2⟩
      have hB2 := hB0.below hb2
      have hbB := Below.on hbA hb2 (Nat.le_refl _)
      clear o0 o1 o2 of0 of1 of2 hbA hB0 hb2
      go_wp2_with fail
      clear ha1
      go_loopg [3, 4] (ks.length + 1) (fun gk nv iv wr => ∃ i : Nat, gk = ks.length + 1 - i ∧ i ≤ ks.length ∧ iv = .int .i64 (i : Int) ∧ nv = .string (bytesOf (txtTo n ks i)) ∧ BoxT wr w.heap.size (.string s) (.int .i64 (n : Int)) (.slice a ks.length cap) ∧ Below w.heap.size w wr)
      case atStart => exact ⟨0, rfl, Nat.zero_le _, rfl, rfl, hB2, hbB⟩
      case round =>
        clear hB2 hbB
        obtain ⟨i, hgk, hi, rfl, rfl, hB, hb⟩ := hrel
        have HG := Lib.hid hgk
        obtain ⟨o0, o1, o2, of0, of1, of2⟩ := hB.cells
        clear hgk
        by_cases hlt : i < ks.length
        · have hil : (i : Int) < (ks.length : Int) := by omega
          obtain ⟨g, off, s', r', x, rfl, _, hg, c0, c1, c2, ht⟩ := (HK.below hb) i hlt
          obtain ⟨a3, n3, cap3, rfl⟩ := ht.third
          have HMS := Lib.hid (txtTo_succ (n := n) hlt)
          have hl1 := HTL.out n (i + 1)
          rw [HMS.out, List.length_append] at hl1
          have hadd := run_add_bytes (P := Tryz.prog) (txtTo n ks i) (bytesOf (textN ks[i])) (by rw [bytesOf_size]; omega)
          have HC : Hid (bytesOf (cat (txtTo n ks i) (bytesOf (textN ks[i]))) = bytesOf (txtTo n ks (i + 1))) := by show _ = _; rw [HMS.out]; rfl
          clear hl1
          go_wp2_with fail
          refine (HIH.out ks[i] (HSH.out ks[i] (List.getElem_mem hlt)) (by have := HKD.out ks[i] (List.getElem_mem hlt); have := HW.out; omega) _ _ ht).mono ?_
          rintro e w3 ⟨rfl, hb3⟩
          have hB3 := hB.below hb3
          have hBB := hb.trans (hb3.mono hb.size)
          clear hB hb hb3 c0 c1 c2 ht o0 o1 o2 of0 of1 of2
          go_wp2_with fail
          go_roundg (ks.length + 1 - (i + 1))
          case measure => have := HG.out; omega
          case rel => exact ⟨i + 1, rfl, by omega, by go_num, by rw [HC.out], hB3, hBB⟩
        · have hil : ¬ (i : Int) < (ks.length : Int) := by omega
          obtain rfl : i = ks.length := by omega
          have hl1 := HTL.out n ks.length
          have hadd := run_add_bytes (P := Tryz.prog) (txtTo n ks ks.length) (⟨#[93]⟩ : ByteArray) (by rw [one_size]; omega)
          clear hl1
          go_wp2_with fail
          go_ret
          exact ⟨ret_bytes (by rw [HY.out]; rfl), hb⟩
def treeTextS (st : ByteArray) (rs : List RuleT) (T : Tr) : ByteArray := bytesOf (if treeOkB st rs T = true then textN T else [])
theorem ok_shape {st : ByteArray} {rs : List RuleT} {T : Tr} (h : treeOkB st rs T = true) : rs.length ≤ 8 ∧ shapeB rs 20 T = true := by
  unfold treeOkB gramOkB at h
  simp only [Bool.and_eq_true, decide_eq_true_eq] at h
  exact ⟨h.1.2.1, h.2.1⟩
set_option maxHeartbeats 2000000 in
theorem sTreeText_any (st : ByteArray) (ag : Option Addr) (cg : Nat) (rs : List RuleT) (T : Tr) (v : Value) (w : World) (HR : RulesAt w ag rs) (hcg : rs.length ≤ cg) (HT : TrIn w 0 v T) (hW : T.wt ≤ 1048576) (hz : T.sz ≤ 2000000) :
    Calls Tryz.prog 22 #[.agg #[.string st, .slice ag rs.length cg], v] w fun e w' => e = .returned (.string (treeTextS st rs T)) ∧ Below w.heap.size w w' := by
  obtain ⟨s, r, ks, a, cap, rfl, hTe, _⟩ := HT.open
  clear hTe
  have hb1 := ((Below.refl w.heap.size w).alloc (Nat.le_refl _) (.cells #[.string st, .slice ag rs.length cg] 25)).alloc (by simp) (.cells #[.string s, .int .i64 r, .slice a ks.length cap] 30)
  have Y1 := Box3.new (w.alloc (.cells #[.string st, .slice ag rs.length cg] 25)) (.string s) (.int .i64 r) (.slice a ks.length cap) 30
  simp only [World.size_alloc] at Y1
  have HR1 := HR.below hb1 (Nat.le_refl _)
  have HT1 := HT.keep hb1
  go_enter Tryz.func22, Tryz.ntmps22
  go_wp2_with fail
  refine (sTreeOk_any st _ _ rs T _ _ HR1 hcg HT1 hW).mono ?_
  rintro e w2 ⟨rfl, hb2⟩
  have Y2 := Y1.below hb2
  have HT2 := HT1.keep hb2
  have c2 := Below.on hb1 hb2 (Nat.le_refl _)
  clear Y1 HT1 hb1 hb2 HR1
  obtain ⟨y0, y1, y2⟩ := Y2.2
  cases hok : treeOkB st rs T with
  | false =>
    have HI : Hid (treeTextS st rs T = ⟨#[]⟩) := by show _ = _; unfold treeTextS; rw [hok]; rfl
    go_wp2_with fail
    go_ret
    exact ⟨ret_bytes HI.out.symm, c2⟩
  | true =>
    have HI : Hid (treeTextS st rs T = bytesOf (textN T)) := by show _ = _; unfold treeTextS; rw [hok]; rfl
    obtain ⟨h8, hsh⟩ := ok_shape hok
    go_wp2_with fail
    refine (l3Text_any rs h8 20 T hsh hz _ _ HT2).mono ?_
    rintro e w3 ⟨rfl, hb3⟩
    generalize bytesOf (textN T) = q at *
    go_wp2_with fail
    go_ret
    exact ⟨ret_bytes HI.out.symm, Below.on c2 hb3 (Nat.le_refl _)⟩
end Go.Proofs.YtpkejcjjbkgomaaGreatDoor
