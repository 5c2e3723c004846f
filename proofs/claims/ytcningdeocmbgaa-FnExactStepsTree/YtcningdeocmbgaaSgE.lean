/- The contract of the program's StepsTree. -/
import Derived.Test.YtcningdeocmbgaaSgD
import Derived.Test.YtcningdeocmbgaaStArg
import Derived.Test.YtcningdeocmbgaaTreD
namespace Go.Proofs.Ytcningdeocmbgaa
open Go.ChangeShapes Go.WideShapes Go.ChangeAt Go.RowKit Go.Deep
set_option maxRecDepth 100000
theorem stM_gram {st : ByteArray} {rs : List RuleT} {s : ByteArray} {zs : List StpT} (h : gramOkB st rs = false) : stepsTreeM st rs s zs = none := by unfold stepsTreeM; rw [if_neg (fun e => by rw [h] at e; exact absurd e.1 (by decide))]
theorem stM_text {st : ByteArray} {rs : List RuleT} {s : ByteArray} {zs : List StpT} (h : textB s = false) : stepsTreeM st rs s zs = none := by unfold stepsTreeM; rw [if_neg (fun e => by rw [h] at e; exact absurd e.2.1 (by decide))]
theorem stM_nil {st : ByteArray} {rs : List RuleT} {s : ByteArray} {zs : List StpT} (h : zs.length = 0) : stepsTreeM st rs s zs = none := by
  have : zs = [] := List.eq_nil_of_length_eq_zero h
  subst this
  unfold stepsTreeM; rw [if_neg (fun e => by have := e.2.2.2; simp at this)]
theorem stM_long {st : ByteArray} {rs : List RuleT} {s : ByteArray} {zs : List StpT} (h : 201 < zs.length) : stepsTreeM st rs s zs = none := by unfold stepsTreeM; rw [if_neg (fun e => by have := e.2.2.1; omega)]
theorem stM_last {st : ByteArray} {rs : List RuleT} {s : ByteArray} {zs : List StpT} {L : Nat} (hl : zs.length = L + 1) (h : zs[L]'(by omega) ≠ (3, 0)) : stepsTreeM st rs s zs = none := by
  unfold stepsTreeM
  rw [if_neg (fun e => h (by have := e.2.2.2; rw [hl, Nat.add_sub_cancel, List.getElem?_eq_getElem (by omega)] at this; simpa using this))]
theorem stM_run {st : ByteArray} {rs : List RuleT} {s : ByteArray} {zs : List StpT} {L : Nat} (hl : zs.length = L + 1) (h : runTo rs s zs L = none) : stepsTreeM st rs s zs = none := by
  unfold stepsTreeM
  split
  · rw [hl, Nat.add_sub_cancel, h]
  · rfl
theorem stM_fin {st : ByteArray} {rs : List RuleT} {s : ByteArray} {zs : List StpT} {L : Nat} {q : Nat × List Tr} (hg : gramOkB st rs = true) (ht : textB s = true) (hl : zs.length = L + 1) (hL : L ≤ 200) (hz : zs[L]'(by omega) = (3, 0)) (h : runTo rs s zs L = some q) :
    stepsTreeM st rs s zs = if q.1 = s.size ∧ signsT q.2 = st.data.toList then q.2.head? else none := by
  unfold stepsTreeM
  rw [if_pos ⟨hg, ht, by omega, by rw [hl, Nat.add_sub_cancel, List.getElem?_eq_getElem (by omega), hz]⟩, hl, Nat.add_sub_cancel, h]
/-- the row of trees, whole -/
theorem TreesW.all {w : World} {B : Nat} {v : Value} {us : List KidO} {ts : List OT} (H : TreesW w B v us ts) : ∃ a cap, v = .slice a us.length cap ∧ us.length ≤ cap ∧ TreesAt w a us := by
  rcases H.at with ⟨rfl, rfl, rfl⟩ | ⟨g, cap, rfl, hc, _, _, hat⟩
  · exact ⟨none, 0, rfl, Nat.le_refl _, fun j hj => absurd hj (Nat.not_lt_zero _)⟩
  · refine ⟨some ⟨g, 0, none⟩, cap, rfl, hc, ?_⟩
    have := hat 0 (Nat.zero_le _)
    rw [Nat.zero_mul, List.drop_zero] at this
    exact this
theorem zero_tree {w : World} {b : Nat} {v0 v1 v2 : Value} (h : BoxT w b v0 v1 v2) (u0 u1 u2 : Value) : BoxT (((w.setCell ⟨b, 0, none⟩ u0).setCell ⟨b, 1, none⟩ u1).setCell ⟨b, 2, none⟩ u2) b u0 u1 u2 := by unfold BoxT at h ⊢; simp [World.setCell, Array.getElem?_modify, h]
theorem keepS {w w' : World} {b c d : Nat} {o1 : Nat} {u0 u1 u2 u3 u4 : Value} (h0 : w.cell? ⟨b, o1, none⟩ = some u0) (h1 : w.cell? ⟨b, o1 + 1, none⟩ = some u1) (h2 : w.cell? ⟨c, 1, none⟩ = some u2) (h3 : w.cell? ⟨c, 2, none⟩ = some u3) (h4 : w.cell? ⟨d, 0, none⟩ = some u4)
    (hb1 : b < w.heap.size) (hb2 : c < w.heap.size) (hb3 : d < w.heap.size) (hb : Below w.heap.size w w') : w'.cell? ⟨b, o1, none⟩ = some u0 ∧ w'.cell? ⟨b, o1 + 1, none⟩ = some u1 ∧ w'.cell? ⟨c, 1, none⟩ = some u2 ∧ w'.cell? ⟨c, 2, none⟩ = some u3 ∧ w'.cell? ⟨d, 0, none⟩ = some u4 :=
  ⟨(hb.cell (p := ⟨b, _, none⟩) hb1).trans h0, (hb.cell (p := ⟨b, _, none⟩) hb1).trans h1, (hb.cell (p := ⟨c, _, none⟩) hb2).trans h2, (hb.cell (p := ⟨c, _, none⟩) hb2).trans h3, (hb.cell (p := ⟨d, _, none⟩) hb3).trans h4⟩
set_option maxHeartbeats 4000000 in
theorem stepsTree_any (st : ByteArray) (ag : Option Addr) (cg : Nat) (rs : List RuleT) (s : ByteArray) (c : Option Addr) (cup : Nat) (zs : List StpT) (w : World) (HR : RulesAt w ag rs) (hcg : rs.length ≤ cg) (hs : s.size ≤ maxLen) (HS : StepsAt w c zs) (hcup : zs.length ≤ cup) :
    Calls Try.prog 10 #[.agg #[.string st, .slice ag rs.length cg], .string s, .slice c zs.length cup] w fun e w' => Below w.heap.size w w' ∧
      ((stepsTreeM st rs s zs = none ∧ e = .returned (.tuple #[.agg #[.string ⟨#[]⟩, .int .i64 0, .slice none 0 0], .bool false])) ∨
       ∃ t a' cap', stepsTreeM st rs s zs = some (OT.tr t) ∧ e = .returned (.tuple #[.agg #[.string t.s, .int .i64 t.r, .slice a' t.ks.length cap'], .bool true]) ∧ KidOk w' (t.s, t.r, .slice a' t.ks.length cap') t ∧ t.bs.Nodup ∧ (∀ b ∈ t.bs, w.heap.size ≤ b) ∧ t.tr.sz ≤ 201) := by
  have hb2 := ((Below.refl w.heap.size w).alloc (Nat.le_refl _) (.cells #[.string st, .slice ag rs.length cg] 35)).alloc (by simp) (.cells #[.string ⟨#[]⟩, .int .i64 0, .slice none 0 0] 30)
  have hG2 : GB2 ((w.alloc (.cells #[.string st, .slice ag rs.length cg] 35)).alloc (.cells #[.string ⟨#[]⟩, .int .i64 0, .slice none 0 0] 30)) w.heap.size (.string st) (.slice ag rs.length cg) := (blk_old _ _ (by simp)).trans (blk_new _ _ rfl)
  have hT2 : BoxT ((w.alloc (.cells #[.string st, .slice ag rs.length cg] 35)).alloc (.cells #[.string ⟨#[]⟩, .int .i64 0, .slice none 0 0] 30)) (w.heap.size + 1) (.string ⟨#[]⟩) (.int .i64 0) (.slice none 0 0) := blk_new _ _ (by simp)
  have HR2 := HR.below hb2 (Nat.le_refl _)
  have hs2 : w.heap.size + 2 = ((w.alloc (.cells #[.string st, .slice ag rs.length cg] 35)).alloc (.cells #[.string ⟨#[]⟩, .int .i64 0, .slice none 0 0] 30)).heap.size := by simp
  obtain ⟨g0, g1⟩ := hG2.cells
  obtain ⟨o0, o1, o2, of0, of1, of2⟩ := hT2.cells
  go_enter Try.func10, Try.ntmps10
  go_wp2_with fail
  refine (gramOk_any st ag cg rs _ HR2 hcg).mono ?_
  rintro e w3 ⟨rfl, hb3⟩
  have hG3 : GB2 w3 w.heap.size (.string st) (.slice ag rs.length cg) := (hb3.block _ (by omega)).trans hG2
  have hT3 := hT2.below hb3
  have hB3 := hb2.trans (hb3.mono hb2.size)
  have hs3 : w.heap.size + 2 ≤ w3.heap.size := by have := hb3.size; omega
  clear g0 g1 o0 o1 o2 of0 of1 of2 hb2 hG2 hT2 HR2 hb3 hs2
  obtain ⟨o0, o1, o2, of0, of1, of2⟩ := hT3.cells
  obtain ⟨f0, f1, f2, _, _, _⟩ := (zero_tree hT3 (.string ⟨#[]⟩) (.int .i64 0) (.slice none 0 0)).cells
  have hBz : Below w.heap.size w (((w3.setCell ⟨w.heap.size + 1, 0, none⟩ (.string ⟨#[]⟩)).setCell ⟨w.heap.size + 1, 1, none⟩ (.int .i64 0)).setCell ⟨w.heap.size + 1, 2, none⟩ (.slice none 0 0)) := ((hB3.setCell (Nat.le_succ _) _).setCell (Nat.le_succ _) _).setCell (Nat.le_succ _) _
  cases hok : gramOkB st rs with
  | false =>
    have HM : Hid (stepsTreeM st rs s zs = none) := stM_gram hok
    go_wp2_with fail
    exact bodyPost_ret (v := .tuple #[.agg #[.string ⟨#[]⟩, .int .i64 0, .slice none 0 0], .bool false]) (by simp [results, Try.results10, go_sem, f0, f1, f2]) rfl ⟨hBz, .inl ⟨HM.out, rfl⟩⟩
  | true =>
  have HOK := Lib.hid hok
  go_wp2_with fail
  refine (textOk_any s _ hs).mono ?_
  rintro e w4 ⟨rfl, rfl⟩
  cases htx : textB s with
  | false =>
    have HM : Hid (stepsTreeM st rs s zs = none) := stM_text htx
    go_wp2_with fail
    exact bodyPost_ret (v := .tuple #[.agg #[.string ⟨#[]⟩, .int .i64 0, .slice none 0 0], .bool false]) (by simp [results, Try.results10, go_sem, f0, f1, f2]) rfl ⟨hBz, .inl ⟨HM.out, rfl⟩⟩
  | true =>
  have HTX := Lib.hid htx
  by_cases hz0 : zs.length = 0
  · have HM : Hid (stepsTreeM st rs s zs = none) := stM_nil hz0
    have hz1 : (((zs.length : Nat) : Int) == 0) = true := by simp [hz0]
    clear hz0
    go_wp2_with fail
    exact bodyPost_ret (v := .tuple #[.agg #[.string ⟨#[]⟩, .int .i64 0, .slice none 0 0], .bool false]) (by simp [results, Try.results10, go_sem, f0, f1, f2]) rfl ⟨hBz, .inl ⟨HM.out, rfl⟩⟩
  have hz1 : (((zs.length : Nat) : Int) == 0) = false := by rw [beq_eq_false_iff_ne]; omega
  by_cases hzl : 201 < zs.length
  · have HM : Hid (stepsTreeM st rs s zs = none) := stM_long hzl
    have hz2 : decide ((201 : Int) < ((zs.length : Nat) : Int)) = true := decide_eq_true (by omega)
    go_wp2_with fail
    exact bodyPost_ret (v := .tuple #[.agg #[.string ⟨#[]⟩, .int .i64 0, .slice none 0 0], .bool false]) (by simp [results, Try.results10, go_sem, f0, f1, f2]) rfl ⟨hBz, .inl ⟨HM.out, rfl⟩⟩
  have hz2 : decide ((201 : Int) < ((zs.length : Nat) : Int)) = false := decide_eq_false (by omega)
  obtain ⟨L, hL⟩ : ∃ L, zs.length = L + 1 := ⟨zs.length - 1, by omega⟩
  have hLi : ((zs.length : Nat) : Int) - 1 = (L : Int) := by omega
  have HL := Lib.hid hL
  have hL200 : L ≤ 200 := by omega
  have hif0 : (if cup = 0 then c else Option.map (fun x => x.add 0) c) = c := by
    have : (fun x : Addr => x.add 0) = id := by funext x; simp [Addr.add]
    rw [this]; simp
  have hLc : ((L : Nat) : Int) ≤ ((cup : Nat) : Int) := by omega
  have hL0 : (0 : Int) ≤ ((L : Nat) : Int) := by omega
  have HB0 : BoxB (w3.alloc (.cells #[.slice ag rs.length cg, .string s, .slice none 0 0] 66)) w3.heap.size (.slice ag rs.length cg) (.string s) (.slice none 0 0) := blk_new _ _ rfl
  have HT0 : TreesW (w3.alloc (.cells #[.slice ag rs.length cg, .string s, .slice none 0 0] 66)) (w3.heap.size + 1) (.slice none 0 0) [] [] := TreesW.nil _ _
  have hb0 : Below w3.heap.size w3 (w3.alloc (.cells #[.slice ag rs.length cg, .string s, .slice none 0 0] 66)) := (Below.refl _ _).alloc (Nat.le_refl _) _
  rw [← restS_zero s] at HB0
  obtain ⟨g0, g1⟩ := hG3.cells
  clear hL hzl hok htx f0 f1 f2 hBz
  go_wp2_with fail
  go_loopw [42] (fun i wr => ∃ (k : Nat) (q : Nat × List Tr) (v : Value) (us : List KidO) (ts : List OT), k ≤ L ∧ i = .int .i64 (k : Int) ∧ Hid (runTo rs s zs k = some q) ∧ Hid (q.2 = ts.map OT.tr) ∧ Hid (StOk s k q) ∧ Hid (BoxB wr w3.heap.size (.slice ag rs.length cg) (.string (restS s q.1)) v) ∧ Hid (TreesW wr (w3.heap.size + 1) v us ts) ∧ Below w3.heap.size w3 wr) (fun i _ => L - (intOf i).toNat)
  case atStart => exact ⟨0, (0, []), .slice none 0 0, [], [], Nat.zero_le _, rfl, rfl, rfl, StOk.zero s, HB0, HT0, hb0⟩
  case round =>
    clear HB0 HT0 hb0
    obtain ⟨k, q, v, us, ts, hk, rfl, HRUN, HTR, HST, HBX, HTW, hb⟩ := hrel
    have hbw := hB3.trans (hb.mono (by omega))
    obtain ⟨gl1, gl2⟩ := gram_left HOK.out
    obtain ⟨_, _, gl3⟩ := gramOk_facts HOK.out
    have hrs : ∀ x ∈ rs, x.1.size = 1 ∧ x.2.size ≤ 4 := fun x hx => by
      obtain ⟨i, hi, rfl⟩ := List.getElem_of_mem hx
      exact gl3 i hi
    have hus : us.length ≤ 200 := by
      have h1 := HTW.out.len
      have h2 := HST.out.len
      rw [HTR.out, List.length_map] at h2
      omega
    have hts : ∀ t ∈ ts, t.s.size = 1 := fun t ht => by
      rw [← OT.sg_tr]
      exact HST.out.sg _ (by rw [HTR.out]; exact List.mem_map.2 ⟨t, ht, rfl⟩)
    have hqe : q = (q.1, ts.map OT.tr) := by rw [← HTR.out]
    have HQE := Lib.hid hqe
    have HRS := Lib.hid hrs
    have HTS := Lib.hid hts
    have hTr : BoxT wr (w.heap.size + 1) (.string ⟨#[]⟩) (.int .i64 0) (.slice none 0 0) := (hb.block _ (by omega)).trans hT3
    have hGr : GB2 wr w.heap.size (.string st) (.slice ag rs.length cg) := (hb.block _ (by omega)).trans hG3
    clear hqe hrs hts gl3 gl2 o0 o1 o2 of0 of1 of2 g0 g1
    by_cases hlt : k < L
    · obtain ⟨hzw, bb, off, e, hbb, c0, c1⟩ := HS.2 k (by have := HL.out; omega)
      have d0 : wr.cell? ⟨bb, off + k * 2, none⟩ = some (.int .i64 (zs[k]'(by have := HL.out; omega)).1) := (hbw.cell (p := ⟨bb, _, none⟩) hbb).trans c0
      have d1 : wr.cell? ⟨bb, off + k * 2 + 1, none⟩ = some (.int .i64 (zs[k]'(by have := HL.out; omega)).2) := (hbw.cell (p := ⟨bb, _, none⟩) hbb).trans c1
      have hzr := hzw.2
      have hsucc := runTo_succ (rs := rs) (s := s) (show k < zs.length by have := HL.out; omega) HRUN.out
      have HSU := Lib.hid hsucc
      clear hsucc
      generalize (zs[k]'(by have := HL.out; omega)) = z at *
      subst e
      have hkl : ((k : Nat) : Int) < ((L : Nat) : Int) := by omega
      have hk0 : (0 : Int) ≤ ((k : Nat) : Int) := by omega
      have hbx := (Below.refl _ _).alloc (Nat.le_refl wr.heap.size) (.cells #[.int .i64 z.1, .int .i64 z.2] 57)
      clear c0 c1
      go_wp2_with fail
      have hbA := (hb.mono (Nat.le_refl _)).trans (hbx.mono hb.size)
      refine (do_any w3.heap.size ag cg rs s q.1 v us ts z _ (HBX.out.below hbx) (HTW.out.below hbx) ((HR.below (hbw.trans (hbx.mono hbw.size)) (Nat.le_refl _))) HRS.out hzr (by omega) HTS.out).mono ?_
      rintro e w5 ⟨hb5, ⟨hd, rfl⟩ | ⟨n', v', us', ts', hd, rfl, HB5, HT5⟩⟩
      · have HM : Hid (stepsTreeM st rs s zs = none) := stM_run HL.out (runTo_none (k := k + 1) (by omega) (by rw [HSU.out, HQE.out]; exact hd))
        have hT5 : BoxT w5 (w.heap.size + 1) (.string ⟨#[]⟩) (.int .i64 0) (.slice none 0 0) := (hb5.block _ (by omega)).trans ((hbx.block _ (hTr.lt)).trans hTr)
        have hB5 : Below w.heap.size w w5 := hB3.trans ((hbA.trans hb5).mono (by omega))
        obtain ⟨o0, o1, o2, of0, of1, of2⟩ := hT5.cells
        obtain ⟨f0, f1, f2, _, _, _⟩ := (zero_tree hT5 (.string ⟨#[]⟩) (.int .i64 0) (.slice none 0 0)).cells
        clear hd
        go_wp2_with fail
        exact bodyPost_ret (v := .tuple #[.agg #[.string ⟨#[]⟩, .int .i64 0, .slice none 0 0], .bool false]) (by simp [results, Try.results10, go_sem, f0, f1, f2]) rfl ⟨((hB5.setCell (Nat.le_succ _) _).setCell (Nat.le_succ _) _).setCell (Nat.le_succ _) _, .inl ⟨HM.out, rfl⟩⟩
      · have HR5 : Hid (runTo rs s zs (k + 1) = some (n', ts'.map OT.tr)) := by show _ = _; rw [HSU.out, HQE.out]; exact hd
        have HS5 : Hid (StOk s (k + 1) (n', ts'.map OT.tr)) := HST.out.next (rs := rs) (z := z) (fun x hx => (HRS.out x hx).1) (by rw [HQE.out]; exact hd)
        have HB6 := Lib.hid HB5
        have HT6 := Lib.hid HT5
        have hb6 := hbA.trans hb5
        clear hd HB5 HT5
        go_wp2_with fail
        go_roundw
        case rel => exact ⟨k + 1, (n', ts'.map OT.tr), v', us', ts', by omega, by go_num, HR5, rfl, HS5, HB6, HT6, hb6⟩
        case measure => simp [intOf]; omega
    · obtain rfl : k = L := by omega
      obtain ⟨hzw, bb, off, e, hbb, c0, c1⟩ := HS.2 k (by have := HL.out; omega)
      have d0 : wr.cell? ⟨bb, off + k * 2, none⟩ = some (.int .i64 (zs[k]'(by have := HL.out; omega)).1) := (hbw.cell (p := ⟨bb, _, none⟩) hbb).trans c0
      have d1 : wr.cell? ⟨bb, off + k * 2 + 1, none⟩ = some (.int .i64 (zs[k]'(by have := HL.out; omega)).2) := (hbw.cell (p := ⟨bb, _, none⟩) hbb).trans c1
      have HZL : Hid (zs[k]'(by have := HL.out; omega) = zs[k]'(by have := HL.out; omega)) := rfl
      have HLAST : Hid (∀ x, zs[k]'(by have := HL.out; omega) = x → x ≠ (3, 0) → stepsTreeM st rs s zs = none) := fun x h1 h2 => stM_last HL.out (by rw [h1]; exact h2)
      have HFIN : Hid (∀ x, zs[k]'(by have := HL.out; omega) = x → x = (3, 0) → stepsTreeM st rs s zs = if q.1 = s.size ∧ signsT q.2 = st.data.toList then q.2.head? else none) := fun x h1 h2 => stM_fin HOK.out HTX.out HL.out (by omega) (by rw [h1]; exact h2) HRUN.out
      obtain ⟨z, hz⟩ : ∃ z, zs[k]'(by have := HL.out; omega) = z := ⟨_, rfl⟩
      have HZ := Lib.hid hz
      rw [hz] at d0 d1
      clear hz c0 c1 HZL
      subst e
      obtain ⟨m0, m1, m2, mf⟩ := HBX.out.cells
      obtain ⟨av, cv, rfl, hcv, hA⟩ := HTW.out.all
      obtain ⟨g0, g1⟩ := hGr.cells
      obtain ⟨o0, o1, o2, of0, of1, of2⟩ := hTr.cells
      have hgd := eqGuard_Step
      have hkz : ((k : Nat) : Int) < ((zs.length : Nat) : Int) := by have := HL.out; omega
      have hk0 : (0 : Int) ≤ ((k : Nat) : Int) := by omega
      have hTq : ∀ W : World, W.heap[w.heap.size + 1]? = wr.heap[w.heap.size + 1]? → BoxT W (w.heap.size + 1) (.string ⟨#[]⟩) (.int .i64 0) (.slice none 0 0) := fun W h => h.trans hTr
      cases he : eqS z (3, 0) with
      | false =>
        have HM : Hid (stepsTreeM st rs s zs = none) := HLAST.out z HZ.out (fun e => by have := (eqS_iff z (3, 0)).2 e; rw [he] at this; cases this)
        have hnq : ∀ W : World, Sem.run Try.prog (binOp .neq 57 (.agg #[.int .i64 z.1, .int .i64 z.2]) (.agg #[.int .i64 3, .int .i64 0])) W = .ok (.bool true) W := fun W => by rw [run_neq_Step]; show Result.ok (Value.bool (!eqS z (3, 0))) W = _; rw [he]; rfl
        clear he
        go_wp2_with fail
        go_quiet (fail)
        obtain ⟨f0, f1, f2, _, _, _⟩ := (zero_tree (hTq (wr.drewN nq) rfl) (.string ⟨#[]⟩) (.int .i64 0) (.slice none 0 0)).cells
        have p0 : (wr.drewN nq).cell? ⟨w.heap.size + 1, 0, none⟩ = some (.string ⟨#[]⟩) := o0
        have p1 : (wr.drewN nq).cell? ⟨w.heap.size + 1, 1, none⟩ = some (.int .i64 0) := o1
        have p2 : (wr.drewN nq).cell? ⟨w.heap.size + 1, 2, none⟩ = some (.slice none 0 0) := o2
        have pf0 : (wr.drewN nq).frozen? ⟨w.heap.size + 1, 0, none⟩ = false := of0
        have pf1 : (wr.drewN nq).frozen? ⟨w.heap.size + 1, 1, none⟩ = false := of1
        have pf2 : (wr.drewN nq).frozen? ⟨w.heap.size + 1, 2, none⟩ = false := of2
        have hBq : Below w.heap.size w (wr.drewN nq) := hbw.trans ((below_drewN _ _).mono hbw.size)
        go_wp2_with fail
        exact bodyPost_ret (v := .tuple #[.agg #[.string ⟨#[]⟩, .int .i64 0, .slice none 0 0], .bool false]) (by simp [results, Try.results10, go_sem, f0, f1, f2]) rfl ⟨((hBq.setCell (Nat.le_succ _) _).setCell (Nat.le_succ _) _).setCell (Nat.le_succ _) _, .inl ⟨HM.out, rfl⟩⟩
      | true =>
        have hnq : ∀ W : World, Sem.run Try.prog (binOp .neq 57 (.agg #[.int .i64 z.1, .int .i64 z.2]) (.agg #[.int .i64 3, .int .i64 0])) W = .ok (.bool false) W := fun W => by rw [run_neq_Step]; show Result.ok (Value.bool (!eqS z (3, 0))) W = _; rw [he]; rfl
        have hfin := HFIN.out z HZ.out ((eqS_iff z (3, 0)).1 he)
        have HF := Lib.hid hfin
        have hemp := restS_empty s q.1
        have hrd := HST.out.read
        clear hfin he
        by_cases hrest : s.size ≤ q.1
        · have hq1 : q.1 = s.size := by omega
          have HQ1 := Lib.hid hq1
          rw [decide_eq_true hrest] at hemp
          have hnil : (restS s q.1).toList = [] := List.isEmpty_iff.1 hemp
          have hsu := signsU_eq HTW.out 0
          rw [List.drop_zero, List.drop_zero, signsL_tr, ← HTR.out] at hsu
          have HSU2 := Lib.hid hsu
          have hbe : (bytesOf (signsU us)).toList = signsU us := by rw [Go.ByteArray.toList_eq]; rfl
          have HBE := Lib.hid hbe
          have hsu1 : ∀ u ∈ us, u.1.size ≤ 1 ∧ ∃ c n d, u.2.2 = .slice c n d := fun u hu => by
            obtain ⟨j, hj, rfl⟩ := List.getElem_of_mem hu
            obtain ⟨x, c, e, _⟩ := HTW.out.kid j hj
            rw [e]
            have hj' : j < ts.length := by rw [← HTW.out.len]; exact hj
            exact ⟨by have := HTS.out _ (List.getElem_mem hj'); show (ts[j]'hj').s.size ≤ 1; omega, _, _, _, rfl⟩
          have C : ∀ W, TreesAt W av us → Calls Try.prog 34 #[.slice av us.length cv] W fun e w' => e = .returned (.string (bytesOf (signsU us))) ∧ Below W.heap.size W w' := fun W h => signsOf_any av cv us W h (by omega) (fun u hu => (hsu1 u hu).1) (fun u hu => (hsu1 u hu).2)
          have hbl := HBX.out.lt
          have hbb2 : bb < wr.heap.size := Nat.lt_of_lt_of_le hbb hbw.size
          clear hbe hsu hq1 hsu1
          have hgl : w.heap.size < wr.heap.size := by omega
          cases hq : ((bytesOf (signsU us)).toList == st.toList) with
          | false =>
            have hq2 : ((bytesOf (signsU us)).toList != st.toList) = true := by rw [bne, hq]; rfl
            have HM : Hid (stepsTreeM st rs s zs = none) := by
              show _ = _
              rw [HF.out, if_neg (fun h => ?_)]
              rw [HBE.out, HSU2.out, h.2, Go.ByteArray.toList_eq] at hq
              simp at hq
            go_wp2_with fail
            go_region_held3 (fun w' => w'.cell? ⟨bb, off + k * 2, none⟩ = some (.int .i64 z.1) ∧ w'.cell? ⟨bb, off + k * 2 + 1, none⟩ = some (.int .i64 z.2) ∧ w'.cell? ⟨w3.heap.size, 1, none⟩ = some (.string (restS s q.1)) ∧ w'.cell? ⟨w3.heap.size, 2, none⟩ = some (.slice av us.length cv) ∧ w'.cell? ⟨w.heap.size, 0, none⟩ = some (.string st))
              (first
                | go_keep
                | with_reducible exact keepS d0 d1 m1 m2 g0 hbb2 hbl hgl hb6
                | fail)
              (first
                | (go_at_call 34; (with_reducible refine (C _ ?_).mono ?_); (exact hA.drew); rintro e w6 ⟨rfl, hb6'⟩; have hb6 := below_of_drew hb6')
                | fail)
            have hT6 := hTr.below hb6
            have hB6 : Below w.heap.size w w6 := hbw.trans (hb6.mono hbw.size)
            obtain ⟨n0, n1, n2, nf0, nf1, nf2⟩ := hT6.cells
            obtain ⟨f0, f1, f2, _, _, _⟩ := (zero_tree hT6 (.string ⟨#[]⟩) (.int .i64 0) (.slice none 0 0)).cells
            go_wp2_with fail
            exact bodyPost_ret (v := .tuple #[.agg #[.string ⟨#[]⟩, .int .i64 0, .slice none 0 0], .bool false]) (by simp [results, Try.results10, go_sem, f0, f1, f2]) rfl ⟨((hB6.setCell (Nat.le_succ _) _).setCell (Nat.le_succ _) _).setCell (Nat.le_succ _) _, .inl ⟨HM.out, rfl⟩⟩
          | true =>
            have hq2 : ((bytesOf (signsU us)).toList != st.toList) = false := by rw [bne, hq]; rfl
            have hsq : signsT q.2 = st.data.toList := by
              rw [HBE.out, HSU2.out, Go.ByteArray.toList_eq] at hq
              simpa using hq
            obtain ⟨T0, l0, hTl⟩ := head_of_signs gl1 hsq
            have HM : Hid (stepsTreeM st rs s zs = some T0) := by show _ = _; rw [HF.out, if_pos ⟨HQ1.out, hsq⟩, hTl]; rfl
            have hlen0 : 0 < us.length := by rw [HTW.out.len]; have := congrArg List.length HTR.out; rw [hTl, List.length_map] at this; simp at this; omega
            have hlen1 : 0 < ts.length := by rw [← HTW.out.len]; exact hlen0
            have hT0 : T0 = (ts[0]'hlen1).tr := by
              have := HTR.out
              rw [hTl] at this
              have h2 := congrArg List.head? this
              rw [List.head?_map] at h2
              rw [List.head?_eq_getElem?, List.head?_eq_getElem?, List.getElem?_eq_getElem hlen1] at h2
              simpa using h2
            obtain ⟨x, cx, hu0, hk1, hk2, hk3, hk4, hk5⟩ := HTW.out.kid 0 hlen0
            have hnd0 := HTW.out.nd
            have hlow0 := HTW.out.low
            obtain ⟨gA, offA, e, hgA, a0, a1, a2⟩ := hA 0 hlen0
            rw [hu0] at a0 a1 a2
            have ht0 : (ts[0]'hlen1) ∈ ts := List.getElem_mem hlen1
            have hsz0 : T0.sz ≤ 201 := by
              have h1 := HST.out.sz
              rw [hTl, List.map_cons, List.sum_cons] at h1
              omega
            have HFINAL : Hid ((ts[0]'hlen1).bs.Nodup ∧ ∀ b ∈ (ts[0]'hlen1).bs, w3.heap.size + 1 ≤ b) := ⟨(nodup_at hnd0).1 0 hlen1, fun b hb => (hlow0 b (mem_bs hlen1 hb)).1⟩
            have HKID : Hid (KidOk wr ((ts[0]'hlen1).s, (ts[0]'hlen1).r, .slice x (ts[0]'hlen1).ks.length cx) (ts[0]'hlen1)) := ⟨x, cx, rfl, hk1, hk2, hk3, hk4, hk5⟩
            obtain ⟨t, ht⟩ : ∃ t, (ts[0]'hlen1) = t := ⟨_, rfl⟩
            rw [ht] at a0 a1 a2 HFINAL HKID hT0
            have HT0' := Lib.hid hT0
            have HSZ0 := Lib.hid hsz0
            have hav : av = some ⟨gA, offA, none⟩ := e
            subst hav
            have hul : (0 : Int) < ((us.length : Nat) : Int) := by omega
            rw [Nat.zero_mul, Nat.add_zero] at a0 a1 a2
            clear hu0 hk1 hk2 hk3 hk4 hk5 hnd0 hlow0 ht ht0 hsz0 hT0 hTl hsq
            go_wp2_with fail
            go_region_held3 (fun w' => w'.cell? ⟨bb, off + k * 2, none⟩ = some (.int .i64 z.1) ∧ w'.cell? ⟨bb, off + k * 2 + 1, none⟩ = some (.int .i64 z.2) ∧ w'.cell? ⟨w3.heap.size, 1, none⟩ = some (.string (restS s q.1)) ∧ w'.cell? ⟨w3.heap.size, 2, none⟩ = some (.slice (some ⟨gA, offA, none⟩) us.length cv) ∧ w'.cell? ⟨w.heap.size, 0, none⟩ = some (.string st))
              (first
                | go_keep
                | with_reducible exact keepS d0 d1 m1 m2 g0 hbb2 hbl hgl hb6
                | fail)
              (first
                | (go_at_call 34; (with_reducible refine (C _ ?_).mono ?_); (exact hA.drew); rintro e w6 ⟨rfl, hb6'⟩; have hb6 := below_of_drew hb6')
                | fail)
            have hT6 := hTr.below hb6
            have hB6 : Below w.heap.size w w6 := hbw.trans (hb6.mono hbw.size)
            have hX6 := HBX.out.below hb6
            obtain ⟨_, _, x2, _⟩ := hX6.cells
            have b0 := (hb6.cell (p := ⟨gA, offA, none⟩) hgA).trans a0
            have b1 := (hb6.cell (p := ⟨gA, offA + 1, none⟩) hgA).trans a1
            have b2 := (hb6.cell (p := ⟨gA, offA + 2, none⟩) hgA).trans a2
            obtain ⟨n0, n1, n2, nf0, nf1, nf2⟩ := hT6.cells
            obtain ⟨f0, f1, f2, _, _, _⟩ := (zero_tree hT6 (.string t.s) (.int .i64 t.r) (.slice x t.ks.length cx)).cells
            go_wp2_with fail
            refine bodyPost_ret (v := .tuple #[.agg #[.string t.s, .int .i64 t.r, .slice x t.ks.length cx], .bool true]) (by simp [results, Try.results10, go_sem, f0, f1, f2]) rfl ⟨((hB6.setCell (Nat.le_succ _) _).setCell (Nat.le_succ _) _).setCell (Nat.le_succ _) _, .inr ⟨t, x, cx, by rw [HM.out, HT0'.out], rfl, ?_, HFINAL.out.1, fun b hb => by have := HFINAL.out.2 b hb; omega, by rw [← HT0'.out]; exact HSZ0.out⟩⟩
            refine HKID.out.keep fun b hb => ?_
            have h1 := HFINAL.out.2 b hb
            have h2 := HKID.out.lt b hb
            rw [Below.heap_setCell _ _ _ _ (by show b ≠ w.heap.size + 1; omega), Below.heap_setCell _ _ _ _ (by show b ≠ w.heap.size + 1; omega), Below.heap_setCell _ _ _ _ (by show b ≠ w.heap.size + 1; omega)]
            exact hb6.block b h2
        · have hnil : ¬ (restS s q.1).toList = [] := fun e => by rw [decide_eq_false hrest, e] at hemp; simp at hemp
          rw [decide_eq_false hrest] at hemp
          have HM : Hid (stepsTreeM st rs s zs = none) := by show _ = _; rw [HF.out, if_neg (fun h => by have := h.1; omega)]
          go_wp2_with fail
          go_quiet (fail)
          obtain ⟨f0, f1, f2, _, _, _⟩ := (zero_tree (hTq (wr.drewN nq) rfl) (.string ⟨#[]⟩) (.int .i64 0) (.slice none 0 0)).cells
          have p0 : (wr.drewN nq).cell? ⟨w.heap.size + 1, 0, none⟩ = some (.string ⟨#[]⟩) := o0
          have p1 : (wr.drewN nq).cell? ⟨w.heap.size + 1, 1, none⟩ = some (.int .i64 0) := o1
          have p2 : (wr.drewN nq).cell? ⟨w.heap.size + 1, 2, none⟩ = some (.slice none 0 0) := o2
          have pf0 : (wr.drewN nq).frozen? ⟨w.heap.size + 1, 0, none⟩ = false := of0
          have pf1 : (wr.drewN nq).frozen? ⟨w.heap.size + 1, 1, none⟩ = false := of1
          have pf2 : (wr.drewN nq).frozen? ⟨w.heap.size + 1, 2, none⟩ = false := of2
          have hBq : Below w.heap.size w (wr.drewN nq) := hbw.trans ((below_drewN _ _).mono hbw.size)
          go_wp2_with fail
          exact bodyPost_ret (v := .tuple #[.agg #[.string ⟨#[]⟩, .int .i64 0, .slice none 0 0], .bool false]) (by simp [results, Try.results10, go_sem, f0, f1, f2]) rfl ⟨((hBq.setCell (Nat.le_succ _) _).setCell (Nat.le_succ _) _).setCell (Nat.le_succ _) _, .inl ⟨HM.out, rfl⟩⟩
end Go.Proofs.Ytcningdeocmbgaa
