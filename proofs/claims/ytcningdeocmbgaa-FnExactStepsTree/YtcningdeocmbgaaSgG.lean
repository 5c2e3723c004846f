/- The contract of the model's StepsTree. -/
import Derived.Test.YtcningdeocmbgaaSgF
import Derived.Test.YtcningdeocmbgaaSgE
namespace Go.Proofs.Ytcningdeocmbgaa
open Go.ChangeShapes Go.WideShapes Go.ChangeAt Go.RowKit Go.Deep
set_option maxRecDepth 100000
/-- what the model's StepsTree gives -/
def StGives (st : ByteArray) (rs : List RuleT) (s : ByteArray) (zs : List StpT) (w : World) (e : Ending) (w' : World) : Prop := Below w.heap.size w w' ∧
  ((stepsTreeM st rs s zs = none ∧ e = .returned (.tuple #[.agg #[.string ⟨#[]⟩, .int .i64 0, .slice none 0 0], .bool false])) ∨ ∃ v T, stepsTreeM st rs s zs = some T ∧ e = .returned (.tuple #[v, .bool true]) ∧ TrIn w' 0 v T)
theorem fail_at {st : ByteArray} {rs : List RuleT} {s : ByteArray} {zs : List StpT} {k : Nat} {q : Nat × List Tr} {z : StpT} (hk : k < zs.length) (hz : zs[k] = z) (hr : runTo rs s zs k = some q) (hd : doT rs s q z = none) (h : z ≠ (3, 0) ∨ k + 1 ≠ zs.length) : stepsTreeM st rs s zs = none := by
  by_cases hl : k + 1 = zs.length
  · rcases h with h | h
    · exact stM_last (L := k) hl.symm (by rw [hz]; exact h)
    · exact absurd hl h
  · obtain ⟨L, hL⟩ : ∃ L, zs.length = L + 1 := ⟨zs.length - 1, by omega⟩
    refine stM_run hL (runTo_none (k := k + 1) (by omega) ?_)
    rw [runTo_succ hk hr, hz]
    exact hd
theorem doT_other {rs : List RuleT} {s : ByteArray} {q : Nat × List Tr} {z : StpT} (h2 : z.1 ≠ 2) (h1 : z ≠ (1, 0) ∨ s.size ≤ q.1) : doT rs s q z = none := by
  unfold doT
  rw [if_neg h2, if_neg (fun h => by rcases h1 with h1 | h1; exact h1 h.1; have := h.2; omega)]
theorem extract_one {s : ByteArray} {n : Nat} (h : n < s.size) : s.extract n (n + 1) = bytesOf [s.data.toList.getD n 0] := by
  have hl : n < s.data.toList.length := by simpa using h
  apply bytesOf_ext
  rw [ByteArray.data_extract]
  unfold bytesOf
  rw [List.getD_eq_getElem?_getD, List.getElem?_eq_getElem hl]
  apply List.ext_getElem
  · simp
    omega
  · intro i h1 h2
    have : i = 0 := by simp at h2; omega
    subst this
    simp
theorem doT_leaf {rs : List RuleT} {s : ByteArray} {n : Nat} {ts : List OT} {c : UInt8} (h : n < s.size) (hc : c = s.data.toList.getD n 0) : doT rs s (n, ts.map OT.tr) (1, 0) = some (n + 1, (ts ++ [OT.node 0 (bytesOf [c]) (-1) []]).map OT.tr) := by
  unfold doT
  rw [if_neg (by decide), if_pos ⟨rfl, h⟩]
  show some (n + 1, ts.map OT.tr ++ [leafT s n]) = _
  unfold leafT
  rw [← hc, List.map_append, List.map_cons, List.map_nil, OT.tr]
  rfl
theorem keepG {w w' : World} {d : Nat} {u : Value} (h4 : w.cell? ⟨d, 0, none⟩ = some u) (hb3 : d < w.heap.size) (hb : Below w.heap.size w w') : w'.cell? ⟨d, 0, none⟩ = some u := (hb.cell (p := ⟨d, _, none⟩) hb3).trans h4
attribute [-go_sem] BigFrame.builtin_append
attribute [local go_sem ↓] builtin_appT
set_option maxHeartbeats 8000000 in
theorem sStepsTree_any (st : ByteArray) (ag : Option Addr) (cg : Nat) (rs : List RuleT) (s : ByteArray) (c : Option Addr) (cup : Nat) (zs : List StpT) (w : World) (HR : RulesAt w ag rs) (hcg : rs.length ≤ cg) (hs : s.size ≤ maxLen) (HS : StepsAt w c zs) :
    Calls Try.prog 7 #[.agg #[.string st, .slice ag rs.length cg], .string s, .slice c zs.length cup] w (StGives st rs s zs w) := by
  have hb2 := ((Below.refl w.heap.size w).alloc (Nat.le_refl _) (.cells #[.string st, .slice ag rs.length cg] 35)).alloc (by simp) (.cells #[.string ⟨#[]⟩, .int .i64 0, .slice none 0 0] 30)
  have hG2 : GB2 ((w.alloc (.cells #[.string st, .slice ag rs.length cg] 35)).alloc (.cells #[.string ⟨#[]⟩, .int .i64 0, .slice none 0 0] 30)) w.heap.size (.string st) (.slice ag rs.length cg) := (blk_old _ _ (by simp)).trans (blk_new _ _ rfl)
  have hT2 : BoxT ((w.alloc (.cells #[.string st, .slice ag rs.length cg] 35)).alloc (.cells #[.string ⟨#[]⟩, .int .i64 0, .slice none 0 0] 30)) (w.heap.size + 1) (.string ⟨#[]⟩) (.int .i64 0) (.slice none 0 0) := blk_new _ _ (by simp)
  have HR2 := HR.below hb2 (Nat.le_refl _)
  have hs2 : w.heap.size + 2 = ((w.alloc (.cells #[.string st, .slice ag rs.length cg] 35)).alloc (.cells #[.string ⟨#[]⟩, .int .i64 0, .slice none 0 0] 30)).heap.size := by simp
  obtain ⟨g0, g1⟩ := hG2.cells
  obtain ⟨o0, o1, o2, of0, of1, of2⟩ := hT2.cells
  go_enter Try.func7, Try.ntmps7
  go_wp2_with fail
  refine (sGramOk_any st ag cg rs _ HR2 hcg).mono ?_
  rintro e w3 ⟨rfl, hb3⟩
  have hG3 : GB2 w3 w.heap.size (.string st) (.slice ag rs.length cg) := (hb3.block _ (by omega)).trans hG2
  have hT3 := hT2.below hb3
  have hB3 := hb2.trans (hb3.mono hb2.size)
  have hs3 : w.heap.size + 2 ≤ w3.heap.size := by have := hb3.size; omega
  clear g0 g1 o0 o1 o2 of0 of1 of2 hb2 hG2 hT2 HR2 hb3 hs2
  obtain ⟨o0, o1, o2, of0, of1, of2⟩ := hT3.cells
  obtain ⟨f0, f1, f2, _, _, _⟩ := (zero_tree hT3 (.string ⟨#[]⟩) (.int .i64 0) (.slice none 0 0)).cells
  have hBz : Below w.heap.size w (((w3.setCell ⟨w.heap.size + 1, 0, none⟩ (.string ⟨#[]⟩)).setCell ⟨w.heap.size + 1, 1, none⟩ (.int .i64 0)).setCell ⟨w.heap.size + 1, 2, none⟩ (.slice none 0 0)) := ((hB3.setCell (Nat.le_succ _) _).setCell (Nat.le_succ _) _).setCell (Nat.le_succ _) _
  cases hok : gramOkB st rs with
  | false =>
    have HM : Hid (stepsTreeM st rs s zs = none) := stM_gram hok
    go_wp2_with fail
    exact bodyPost_ret (v := .tuple #[.agg #[.string ⟨#[]⟩, .int .i64 0, .slice none 0 0], .bool false]) (by simp [results, Try.results7, go_sem, f0, f1, f2]) rfl ⟨hBz, .inl ⟨HM.out, rfl⟩⟩
  | true =>
  have HOK := Lib.hid hok
  go_wp2_with fail
  refine (sTextOk_any s _ hs).mono ?_
  rintro e w4 ⟨rfl, rfl⟩
  cases htx : textB s with
  | false =>
    have HM : Hid (stepsTreeM st rs s zs = none) := stM_text htx
    go_wp2_with fail
    exact bodyPost_ret (v := .tuple #[.agg #[.string ⟨#[]⟩, .int .i64 0, .slice none 0 0], .bool false]) (by simp [results, Try.results7, go_sem, f0, f1, f2]) rfl ⟨hBz, .inl ⟨HM.out, rfl⟩⟩
  | true =>
  have HTX := Lib.hid htx
  by_cases hzl : 201 < zs.length
  · have HM : Hid (stepsTreeM st rs s zs = none) := stM_long hzl
    have hz2 : decide ((201 : Int) < ((zs.length : Nat) : Int)) = true := decide_eq_true (by omega)
    go_wp2_with fail
    exact bodyPost_ret (v := .tuple #[.agg #[.string ⟨#[]⟩, .int .i64 0, .slice none 0 0], .bool false]) (by simp [results, Try.results7, go_sem, f0, f1, f2]) rfl ⟨hBz, .inl ⟨HM.out, rfl⟩⟩
  have hz2 : decide ((201 : Int) < ((zs.length : Nat) : Int)) = false := decide_eq_false (by omega)
  have HZL := Lib.hid hzl
  have hT0 : TreesW (w3.alloc (.cells #[] 30)) w3.heap.size (.slice (some ⟨w3.heap.size, 0, none⟩) 0 0) [] [] :=
    ⟨empty_row (Nat.le_refl _) (blk_new _ _ rfl), rfl, fun j h => absurd h (Nat.not_lt_zero _), List.nodup_nil, fun b h => by cases h⟩
  have hb0 : Below w3.heap.size w3 (w3.alloc (.cells #[] 30)) := (Below.refl _ _).alloc (Nat.le_refl _) _
  obtain ⟨g0, g1⟩ := hG3.cells
  clear hzl hok htx f0 f1 f2 hBz
  go_wp2_with fail
  go_loopw [8, 9, 10] (fun lv nv iv wr => ∃ (k n : Nat) (v : Value) (us : List KidO) (ts : List OT), k ≤ zs.length ∧ iv = .int .i64 (k : Int) ∧ nv = .int .i64 (n : Int) ∧ lv = v ∧ Hid (runTo rs s zs k = some (n, ts.map OT.tr)) ∧ Hid (StOk s k (n, ts.map OT.tr)) ∧ Hid (TreesW wr w3.heap.size v us ts) ∧ Hid (∀ j (h : j < zs.length), j < k → zs[j].1 ≠ 3) ∧ Below w3.heap.size w3 wr) (fun _ _ iv _ => zs.length - (intOf iv).toNat)
  case atStart => exact ⟨0, 0, _, [], [], Nat.zero_le _, rfl, rfl, rfl, rfl, StOk.zero s, hT0, fun j _ h => absurd h (Nat.not_lt_zero _), hb0⟩
  case round =>
    clear hT0 hb0
    obtain ⟨k, n, v, us, ts, hk, rfl, rfl, rfl, HRUN, HST, HTW, HN3, hb⟩ := hrel
    have hbw := hB3.trans (hb.mono (by omega))
    obtain ⟨gl1, gl2⟩ := gram_left HOK.out
    obtain ⟨_, _, gl3⟩ := gramOk_facts HOK.out
    have hrs : ∀ x ∈ rs, x.1.size = 1 ∧ x.2.size ≤ 4 := fun x hx => by
      obtain ⟨i, hi, rfl⟩ := List.getElem_of_mem hx
      exact gl3 i hi
    have hus : us.length ≤ 201 := by
      have h1 := HTW.out.len
      have h2 := HST.out.len
      have h3 := HZL.out
      rw [List.length_map] at h2
      omega
    have hts : ∀ t ∈ ts, t.s.size = 1 := fun t ht => by
      rw [← OT.sg_tr]
      exact HST.out.sg _ (List.mem_map.2 ⟨t, ht, rfl⟩)
    have hread : n ≤ s.size := HST.out.read
    have hzb : zs.length ≤ 201 := by have := HZL.out; omega
    have HRS := Lib.hid hrs
    have HTS := Lib.hid hts
    have hTr : BoxT wr (w.heap.size + 1) (.string ⟨#[]⟩) (.int .i64 0) (.slice none 0 0) := (hb.block _ (by omega)).trans hT3
    have hGr : GB2 wr w.heap.size (.string st) (.slice ag rs.length cg) := (hb.block _ (by omega)).trans hG3
    clear hrs hts gl3 gl2 o0 o1 o2 of0 of1 of2 g0 g1
    obtain ⟨av, cv, rfl, hcv, hA⟩ := HTW.out.all
    by_cases hlt : k < zs.length
    · obtain ⟨hzw, bb, off, e, hbb, c0, c1⟩ := HS.2 k hlt
      have d0 : wr.cell? ⟨bb, off + k * 2, none⟩ = some (.int .i64 zs[k].1) := (hbw.cell (p := ⟨bb, _, none⟩) hbb).trans c0
      have d1 : wr.cell? ⟨bb, off + k * 2 + 1, none⟩ = some (.int .i64 zs[k].2) := (hbw.cell (p := ⟨bb, _, none⟩) hbb).trans c1
      have hzr := hzw.2
      have HSU : Hid (runTo rs s zs (k + 1) = doT rs s (n, ts.map OT.tr) zs[k]) := runTo_succ hlt HRUN.out
      obtain ⟨z, hz⟩ : ∃ z, zs[k] = z := ⟨_, rfl⟩
      have HZ := Lib.hid hz
      rw [hz] at d0 d1 hzr HSU
      clear hz c0 c1 hzw
      subst e
      have hkl : ((k : Nat) : Int) < ((zs.length : Nat) : Int) := by omega
      have hk0 : (0 : Int) ≤ ((k : Nat) : Int) := by omega
      have hbx := (Below.refl _ _).alloc (Nat.le_refl wr.heap.size) (.cells #[.int .i64 z.1, .int .i64 z.2] 57)
      have hX1 := Box2.new wr (.int .i64 z.1) (.int .i64 z.2) 57
      have hT1 := hTr.below hbx
      have hG1 : GB2 (wr.alloc (.cells #[.int .i64 z.1, .int .i64 z.2] 57)) w.heap.size (.string st) (.slice ag rs.length cg) := (hbx.block _ ((Array.getElem?_eq_some_iff.1 hGr).1)).trans hGr
      have hTW1 := Lib.hid (HTW.out.below hbx)
      have hb1 := hb.trans (hbx.mono hb.size)
      have hbw1 := hbw.trans (hbx.mono hbw.size)
      have hA1 := hA.below hbx
      obtain ⟨x0, x1⟩ := hX1.2
      obtain ⟨g0, g1⟩ := hG1.cells
      obtain ⟨o0, o1, o2, of0, of1, of2⟩ := hT1.cells
      have HFAIL : Hid (doT rs s (n, ts.map OT.tr) z = none → (z ≠ (3, 0) ∨ k + 1 ≠ zs.length) → stepsTreeM st rs s zs = none) := fun h1 h2 => fail_at hlt HZ.out HRUN.out h1 h2
      obtain ⟨f0, f1, f2, _, _, _⟩ := (zero_tree hT1 (.string ⟨#[]⟩) (.int .i64 0) (.slice none 0 0)).cells
      have hBz : Below w.heap.size w ((((wr.alloc (.cells #[.int .i64 z.1, .int .i64 z.2] 57)).setCell ⟨w.heap.size + 1, 0, none⟩ (.string ⟨#[]⟩)).setCell ⟨w.heap.size + 1, 1, none⟩ (.int .i64 0)).setCell ⟨w.heap.size + 1, 2, none⟩ (.slice none 0 0)) := ((hbw1.setCell (Nat.le_succ _) _).setCell (Nat.le_succ _) _).setCell (Nat.le_succ _) _
      by_cases h1 : z.1 = 1
      · have k1 : (z.1 == 1) = true := by simp [h1]
        by_cases hz0 : z.2 = 0
        · have kz : (z.2 == 0) = true := by simp [hz0]
          have hze : z = (1, 0) := by rw [← h1, ← hz0]
          have HZE := Lib.hid hze
          by_cases hr : s.size ≤ n
          · have hd : decide (((n : Nat) : Int) < ((s.size : Nat) : Int)) = false := decide_eq_false (by omega)
            have HM : Hid (stepsTreeM st rs s zs = none) := HFAIL.out (doT_other (by rw [h1]; decide) (.inr hr)) (.inl (fun e => by rw [e] at h1; exact absurd h1 (by decide)))
            clear h1 hz0 hze
            go_wp2_with fail
            exact bodyPost_ret (v := .tuple #[.agg #[.string ⟨#[]⟩, .int .i64 0, .slice none 0 0], .bool false]) (by simp [results, Try.results7, go_sem, f0, f1, f2]) rfl ⟨hBz, .inl ⟨HM.out, rfl⟩⟩
          · have hd : decide (((n : Nat) : Int) < ((s.size : Nat) : Int)) = true := decide_eq_true (by omega)
            obtain ⟨cc, hcc⟩ : ∃ cc, cc = s.data.toList.getD n 0 := ⟨_, rfl⟩
            have hext : s.extract n (n + 1) = bytesOf [cc] := by rw [hcc]; exact extract_one (by omega)
            have hn0 : (0 : Int) ≤ ((n : Nat) : Int) := by omega
            have hn1 : ((n : Nat) : Int) ≤ ((n : Nat) : Int) + 1 := by omega
            have hn2 : ((n : Nat) : Int) + 1 ≤ ((s.size : Nat) : Int) := by omega
            have hsl : s.size ≤ 9223372036854775807 := hs
            have hnt : (((n : Nat) : Int) + 1).toNat = n + 1 := by omega
            have hdo : doT rs s (n, ts.map OT.tr) z = some (n + 1, (ts ++ [OT.node 0 (bytesOf [cc]) (-1) []]).map OT.tr) := by rw [hze]; exact doT_leaf (by omega) hcc
            have HR5 : Hid (runTo rs s zs (k + 1) = some (n + 1, (ts ++ [OT.node 0 (bytesOf [cc]) (-1) []]).map OT.tr)) := by show _ = _; rw [HSU.out]; exact hdo
            have HS5 : Hid (StOk s (k + 1) (n + 1, (ts ++ [OT.node 0 (bytesOf [cc]) (-1) []]).map OT.tr)) := HST.out.next (rs := rs) (z := z) (fun x hx => (HRS.out x hx).1) hdo
            have HN5 : Hid (∀ j (h : j < zs.length), j < k + 1 → zs[j].1 ≠ 3) := fun j hj hjk => by
              by_cases e : j = k
              · subst e; rw [HZ.out, h1]; decide
              · exact HN3.out j hj (by omega)
            have hbU := (Below.refl _ _).alloc (Nat.le_refl (wr.alloc (.cells #[.int .i64 z.1, .int .i64 z.2] 57)).heap.size) (.cells #[.string (bytesOf [cc]), .int .i64 (-1), .slice none 0 0] 30)
            have hTU := hTW1.out.below hbU
            obtain ⟨a4, c4, y, hap, hTy, hgy⟩ := push_one (U := (wr.alloc (.cells #[.int .i64 z.1, .int .i64 z.2] 57)).heap.size) hTU (leaf_ok _ cc) (nodup_more hTU.nd (by rw [OT.bs]; simp) (fun b _ h2 => by rw [OT.bs] at h2; simp at h2)) (fun b hb => by rw [OT.bs] at hb; simp at hb) (blk_new _ _ rfl) (by omega) (by have := hb1.size; simp at this ⊢; omega)
            have hap2 : (appT #[28, 28] 28 #[.slice av us.length cv, .slice (some ⟨wr.heap.size + 1, 0, none⟩) 1 1]).run Try.prog ((wr.alloc (.cells #[.int .i64 z.1, .int .i64 z.2] 57)).alloc (.cells #[.string (bytesOf [cc]), .int .i64 (-1), .slice none 0 0] 30)) = .ok (.slice a4 (us.length + 1) c4) y := by simpa using hap
            have hb5 : Below w3.heap.size w3 y := (hb1.trans (hbU.mono hb1.size)).trans ⟨hgy.os, hgy.tape, hgy.output, hgy.size, fun x hx => hgy.block x (by have := hb1.size; simp at this ⊢; omega) (fun e => by have := (hTU.block x e.symm).1; omega)⟩
            have HT5 := Lib.hid hTy
            clear hcc hze h1 hz0 hap hTy hgy hTU hbU hdo
            go_wp2_with fail
            go_roundw
            case rel => exact ⟨k + 1, n + 1, _, _, _, by omega, by go_num, by go_num, rfl, HR5, HS5, HT5, HN5, hb5⟩
            case measure => simp [intOf]; omega
        · have kz : (z.2 == 0) = false := by simp [hz0]
          have HM : Hid (stepsTreeM st rs s zs = none) := HFAIL.out (doT_other (by rw [h1]; decide) (.inl (fun e => hz0 (by rw [e])))) (.inl (fun e => hz0 (by rw [e])))
          clear h1 hz0
          go_wp2_with fail
          exact bodyPost_ret (v := .tuple #[.agg #[.string ⟨#[]⟩, .int .i64 0, .slice none 0 0], .bool false]) (by simp [results, Try.results7, go_sem, f0, f1, f2]) rfl ⟨hBz, .inl ⟨HM.out, rfl⟩⟩
      have k1 : (z.1 == 1) = false := by simp [h1]
      by_cases h2 : z.1 = 2
      · have k2 : (z.1 == 2) = true := by simp [h2]
        have HD2 : Hid (doT rs s (n, ts.map OT.tr) z = (joinT rs (ts.map OT.tr) z.2).map (fun Ts => (n, Ts))) := doT_two h2
        have HZ3 : Hid (z ≠ (3, 0)) := fun e => by rw [e] at h2; exact absurd h2 (by decide)
        have HZ2 : Hid (z.1 = 2) := h2
        clear h1 h2
        go_wp2_with fail
        refine (l7Join_any w3.heap.size st ag cg rs _ us ts z.2 _ hTW1.out (HR.below hbw1 (Nat.le_refl _)) hb1.size HRS.out hzr hus HTS.out).mono ?_
        rintro e w5 ⟨hb5, ⟨hj, rfl⟩ | ⟨v', us', ts', hj, rfl, HT5⟩⟩
        · have HM : Hid (stepsTreeM st rs s zs = none) := HFAIL.out (by rw [HD2.out, hj]; rfl) (.inl HZ3.out)
          have hT5 := hT1.below hb5
          have hB5 := hbw1.trans (hb5.mono hbw1.size)
          obtain ⟨p0, p1, p2, pf0, pf1, pf2⟩ := hT5.cells
          obtain ⟨f0, f1, f2, _, _, _⟩ := (zero_tree hT5 (.string ⟨#[]⟩) (.int .i64 0) (.slice none 0 0)).cells
          have hBz : Below w.heap.size w (((w5.setCell ⟨w.heap.size + 1, 0, none⟩ (.string ⟨#[]⟩)).setCell ⟨w.heap.size + 1, 1, none⟩ (.int .i64 0)).setCell ⟨w.heap.size + 1, 2, none⟩ (.slice none 0 0)) := ((hB5.setCell (Nat.le_succ _) _).setCell (Nat.le_succ _) _).setCell (Nat.le_succ _) _
          clear hj
          go_wp2_with fail
          exact bodyPost_ret (v := .tuple #[.agg #[.string ⟨#[]⟩, .int .i64 0, .slice none 0 0], .bool false]) (by simp [results, Try.results7, go_sem, f0, f1, f2]) rfl ⟨hBz, .inl ⟨HM.out, rfl⟩⟩
        · have HR5 : Hid (runTo rs s zs (k + 1) = some (n, ts'.map OT.tr)) := by show _ = _; rw [HSU.out, HD2.out, hj]; rfl
          have HS5 : Hid (StOk s (k + 1) (n, ts'.map OT.tr)) := HST.out.next (rs := rs) (z := z) (fun x hx => (HRS.out x hx).1) (by rw [HD2.out, hj]; rfl)
          have HN5 : Hid (∀ j (h : j < zs.length), j < k + 1 → zs[j].1 ≠ 3) := fun j hj hjk => by
            by_cases e : j = k
            · subst e; rw [HZ.out, HZ2.out]; decide
            · exact HN3.out j hj (by omega)
          have HT6 := Lib.hid HT5
          have hb6 := hb1.trans (hb5.mono hb1.size)
          clear hj HT5
          go_wp2_with fail
          go_roundw
          case rel => exact ⟨k + 1, n, _, _, _, by omega, by go_num, rfl, rfl, HR5, HS5, HT6, HN5, hb6⟩
          case measure => simp [intOf]; omega
      have k2 : (z.1 == 2) = false := by simp [h2]
      by_cases h3 : z.1 = 3
      · have k3 : (z.1 == 3) = true := by simp [h3]
        have hTq : ∀ W : World, W.heap[w.heap.size + 1]? = (wr.alloc (.cells #[.int .i64 z.1, .int .i64 z.2] 57)).heap[w.heap.size + 1]? → BoxT W (w.heap.size + 1) (.string ⟨#[]⟩) (.int .i64 0) (.slice none 0 0) := fun W h => h.trans hT1
        by_cases hz0 : z.2 = 0
        case neg =>
          have kz : (z.2 == 0) = false := by simp [hz0]
          have HM : Hid (stepsTreeM st rs s zs = none) := HFAIL.out (doT_other h2 (.inl (fun e => h1 (by rw [e])))) (.inl (fun e => hz0 (by rw [e])))
          clear h1 h2 h3 hz0 f0 f1 f2 hBz
          go_wp2_with fail
          go_quiet (fail)
          obtain ⟨f0, f1, f2, _, _, _⟩ := (zero_tree (hTq ((wr.alloc (.cells #[.int .i64 z.1, .int .i64 z.2] 57)).drewN nq) rfl) (.string ⟨#[]⟩) (.int .i64 0) (.slice none 0 0)).cells
          have p0 : ((wr.alloc (.cells #[.int .i64 z.1, .int .i64 z.2] 57)).drewN nq).cell? ⟨w.heap.size + 1, 0, none⟩ = some (.string ⟨#[]⟩) := o0
          have p1 : ((wr.alloc (.cells #[.int .i64 z.1, .int .i64 z.2] 57)).drewN nq).cell? ⟨w.heap.size + 1, 1, none⟩ = some (.int .i64 0) := o1
          have p2 : ((wr.alloc (.cells #[.int .i64 z.1, .int .i64 z.2] 57)).drewN nq).cell? ⟨w.heap.size + 1, 2, none⟩ = some (.slice none 0 0) := o2
          have pf0 : ((wr.alloc (.cells #[.int .i64 z.1, .int .i64 z.2] 57)).drewN nq).frozen? ⟨w.heap.size + 1, 0, none⟩ = false := of0
          have pf1 : ((wr.alloc (.cells #[.int .i64 z.1, .int .i64 z.2] 57)).drewN nq).frozen? ⟨w.heap.size + 1, 1, none⟩ = false := of1
          have pf2 : ((wr.alloc (.cells #[.int .i64 z.1, .int .i64 z.2] 57)).drewN nq).frozen? ⟨w.heap.size + 1, 2, none⟩ = false := of2
          have hBz : Below w.heap.size w (((((wr.alloc (.cells #[.int .i64 z.1, .int .i64 z.2] 57)).drewN nq).setCell ⟨w.heap.size + 1, 0, none⟩ (.string ⟨#[]⟩)).setCell ⟨w.heap.size + 1, 1, none⟩ (.int .i64 0)).setCell ⟨w.heap.size + 1, 2, none⟩ (.slice none 0 0)) := (((hbw1.trans ((below_drewN _ _).mono hbw1.size)).setCell (Nat.le_succ _) _).setCell (Nat.le_succ _) _).setCell (Nat.le_succ _) _
          go_wp2_with fail
          exact bodyPost_ret (v := .tuple #[.agg #[.string ⟨#[]⟩, .int .i64 0, .slice none 0 0], .bool false]) (by simp [results, Try.results7, go_sem, f0, f1, f2]) rfl ⟨hBz, .inl ⟨HM.out, rfl⟩⟩
        have kz : (z.2 == 0) = true := by simp [hz0]
        have hze : z = (3, 0) := by rw [← h3, ← hz0]
        by_cases hkz : k + 1 = zs.length
        case neg =>
          have kk : (((k : Nat) : Int) == ((zs.length : Nat) : Int) - 1) = false := by rw [beq_eq_false_iff_ne]; omega
          have HM : Hid (stepsTreeM st rs s zs = none) := HFAIL.out (doT_other h2 (.inl (fun e => h1 (by rw [e])))) (.inr hkz)
          clear h1 h2 h3 hz0 hkz hze f0 f1 f2 hBz
          go_wp2_with fail
          go_quiet (fail)
          obtain ⟨f0, f1, f2, _, _, _⟩ := (zero_tree (hTq ((wr.alloc (.cells #[.int .i64 z.1, .int .i64 z.2] 57)).drewN nq) rfl) (.string ⟨#[]⟩) (.int .i64 0) (.slice none 0 0)).cells
          have p0 : ((wr.alloc (.cells #[.int .i64 z.1, .int .i64 z.2] 57)).drewN nq).cell? ⟨w.heap.size + 1, 0, none⟩ = some (.string ⟨#[]⟩) := o0
          have p1 : ((wr.alloc (.cells #[.int .i64 z.1, .int .i64 z.2] 57)).drewN nq).cell? ⟨w.heap.size + 1, 1, none⟩ = some (.int .i64 0) := o1
          have p2 : ((wr.alloc (.cells #[.int .i64 z.1, .int .i64 z.2] 57)).drewN nq).cell? ⟨w.heap.size + 1, 2, none⟩ = some (.slice none 0 0) := o2
          have pf0 : ((wr.alloc (.cells #[.int .i64 z.1, .int .i64 z.2] 57)).drewN nq).frozen? ⟨w.heap.size + 1, 0, none⟩ = false := of0
          have pf1 : ((wr.alloc (.cells #[.int .i64 z.1, .int .i64 z.2] 57)).drewN nq).frozen? ⟨w.heap.size + 1, 1, none⟩ = false := of1
          have pf2 : ((wr.alloc (.cells #[.int .i64 z.1, .int .i64 z.2] 57)).drewN nq).frozen? ⟨w.heap.size + 1, 2, none⟩ = false := of2
          have hBz : Below w.heap.size w (((((wr.alloc (.cells #[.int .i64 z.1, .int .i64 z.2] 57)).drewN nq).setCell ⟨w.heap.size + 1, 0, none⟩ (.string ⟨#[]⟩)).setCell ⟨w.heap.size + 1, 1, none⟩ (.int .i64 0)).setCell ⟨w.heap.size + 1, 2, none⟩ (.slice none 0 0)) := (((hbw1.trans ((below_drewN _ _).mono hbw1.size)).setCell (Nat.le_succ _) _).setCell (Nat.le_succ _) _).setCell (Nat.le_succ _) _
          go_wp2_with fail
          exact bodyPost_ret (v := .tuple #[.agg #[.string ⟨#[]⟩, .int .i64 0, .slice none 0 0], .bool false]) (by simp [results, Try.results7, go_sem, f0, f1, f2]) rfl ⟨hBz, .inl ⟨HM.out, rfl⟩⟩
        have kk : (((k : Nat) : Int) == ((zs.length : Nat) : Int) - 1) = true := by rw [beq_iff_eq]; omega
        have HFIN : Hid (stepsTreeM st rs s zs = if n = s.size ∧ signsT (ts.map OT.tr) = st.data.toList then (ts.map OT.tr).head? else none) := stM_fin HOK.out HTX.out (L := k) hkz.symm (by omega) (by rw [HZ.out]; exact hze) HRUN.out
        clear h1 h2 h3 hz0 hkz hze
        by_cases hn : n = s.size
        case neg =>
          have kn : (((n : Nat) : Int) == ((s.size : Nat) : Int)) = false := by rw [beq_eq_false_iff_ne]; omega
          have HM : Hid (stepsTreeM st rs s zs = none) := by show _ = _; rw [HFIN.out, if_neg (fun h => hn h.1)]
          clear hn f0 f1 f2 hBz
          go_wp2_with fail
          go_quiet (fail)
          obtain ⟨f0, f1, f2, _, _, _⟩ := (zero_tree (hTq ((wr.alloc (.cells #[.int .i64 z.1, .int .i64 z.2] 57)).drewN nq) rfl) (.string ⟨#[]⟩) (.int .i64 0) (.slice none 0 0)).cells
          have p0 : ((wr.alloc (.cells #[.int .i64 z.1, .int .i64 z.2] 57)).drewN nq).cell? ⟨w.heap.size + 1, 0, none⟩ = some (.string ⟨#[]⟩) := o0
          have p1 : ((wr.alloc (.cells #[.int .i64 z.1, .int .i64 z.2] 57)).drewN nq).cell? ⟨w.heap.size + 1, 1, none⟩ = some (.int .i64 0) := o1
          have p2 : ((wr.alloc (.cells #[.int .i64 z.1, .int .i64 z.2] 57)).drewN nq).cell? ⟨w.heap.size + 1, 2, none⟩ = some (.slice none 0 0) := o2
          have pf0 : ((wr.alloc (.cells #[.int .i64 z.1, .int .i64 z.2] 57)).drewN nq).frozen? ⟨w.heap.size + 1, 0, none⟩ = false := of0
          have pf1 : ((wr.alloc (.cells #[.int .i64 z.1, .int .i64 z.2] 57)).drewN nq).frozen? ⟨w.heap.size + 1, 1, none⟩ = false := of1
          have pf2 : ((wr.alloc (.cells #[.int .i64 z.1, .int .i64 z.2] 57)).drewN nq).frozen? ⟨w.heap.size + 1, 2, none⟩ = false := of2
          have hBz : Below w.heap.size w (((((wr.alloc (.cells #[.int .i64 z.1, .int .i64 z.2] 57)).drewN nq).setCell ⟨w.heap.size + 1, 0, none⟩ (.string ⟨#[]⟩)).setCell ⟨w.heap.size + 1, 1, none⟩ (.int .i64 0)).setCell ⟨w.heap.size + 1, 2, none⟩ (.slice none 0 0)) := (((hbw1.trans ((below_drewN _ _).mono hbw1.size)).setCell (Nat.le_succ _) _).setCell (Nat.le_succ _) _).setCell (Nat.le_succ _) _
          go_wp2_with fail
          exact bodyPost_ret (v := .tuple #[.agg #[.string ⟨#[]⟩, .int .i64 0, .slice none 0 0], .bool false]) (by simp [results, Try.results7, go_sem, f0, f1, f2]) rfl ⟨hBz, .inl ⟨HM.out, rfl⟩⟩
        have kn : (((n : Nat) : Int) == ((s.size : Nat) : Int)) = true := by rw [beq_iff_eq]; omega
        have HN := Lib.hid hn
        have hsu := signsU_eq hTW1.out 0
        rw [List.drop_zero, List.drop_zero, signsL_tr] at hsu
        have HSU2 := Lib.hid hsu
        have hbe : (bytesOf (signsU us)).toList = signsU us := by rw [Go.ByteArray.toList_eq]; rfl
        have HBE := Lib.hid hbe
        have hsu1 : ∀ u ∈ us, u.1.size ≤ 1 := fun u hu => by
          obtain ⟨j, hj, rfl⟩ := List.getElem_of_mem hu
          obtain ⟨x, c, e, _⟩ := HTW.out.kid j hj
          rw [e]
          have hj' : j < ts.length := by rw [← HTW.out.len]; exact hj
          have := HTS.out _ (List.getElem_mem hj')
          show (ts[j]'hj').s.size ≤ 1
          omega
        have C : ∀ W, TreesAt W av us → Calls Try.prog 27 #[.slice av us.length cv] W fun e w' => e = .returned (.string (bytesOf (signsU us))) ∧ Below W.heap.size W w' := fun W h => l7Signs_any av cv us W h (by omega) hsu1
        have hgl : w.heap.size < (wr.alloc (.cells #[.int .i64 z.1, .int .i64 z.2] 57)).heap.size := by have := hb1.size; omega
        have HWZ : Hid (IntKind.i64.wrap (((zs.length : Nat) : Int) - 1) = ((zs.length : Nat) : Int) - 1) := IntWalk.i64_in _ (by omega)
        clear hn hbe hsu hsu1 f0 f1 f2 hBz
        cases hq : ((bytesOf (signsU us)).toList == st.toList) with
        | false =>
          have HM : Hid (stepsTreeM st rs s zs = none) := by
            show _ = _
            rw [HFIN.out, if_neg (fun h => ?_)]
            rw [HBE.out, HSU2.out, h.2, Go.ByteArray.toList_eq] at hq
            simp at hq
          have hwz := HWZ.out
          go_wp2_with fail
          go_region_held3 (fun w' => w'.cell? ⟨w.heap.size, 0, none⟩ = some (.string st))
            (first
              | go_keep
              | with_reducible exact keepG g0 hgl hb6
              | fail)
            (first
              | (go_at_call 27; (with_reducible refine (C _ ?_).mono ?_); (exact hA1.drew); rintro e w6 ⟨rfl, hb6'⟩; have hb6 := below_of_drew hb6')
              | fail)
          clear hwz
          have hT6 := hT1.below hb6
          have hB6 : Below w.heap.size w w6 := hbw1.trans (hb6.mono hbw1.size)
          obtain ⟨n0, n1, n2, nf0, nf1, nf2⟩ := hT6.cells
          obtain ⟨f0, f1, f2, _, _, _⟩ := (zero_tree hT6 (.string ⟨#[]⟩) (.int .i64 0) (.slice none 0 0)).cells
          have hBz : Below w.heap.size w (((w6.setCell ⟨w.heap.size + 1, 0, none⟩ (.string ⟨#[]⟩)).setCell ⟨w.heap.size + 1, 1, none⟩ (.int .i64 0)).setCell ⟨w.heap.size + 1, 2, none⟩ (.slice none 0 0)) := ((hB6.setCell (Nat.le_succ _) _).setCell (Nat.le_succ _) _).setCell (Nat.le_succ _) _
          go_wp2_with fail
          exact bodyPost_ret (v := .tuple #[.agg #[.string ⟨#[]⟩, .int .i64 0, .slice none 0 0], .bool false]) (by simp [results, Try.results7, go_sem, f0, f1, f2]) rfl ⟨hBz, .inl ⟨HM.out, rfl⟩⟩
        | true =>
          have hsq : signsT (ts.map OT.tr) = st.data.toList := by
            rw [HBE.out, HSU2.out, Go.ByteArray.toList_eq] at hq
            simpa using hq
          obtain ⟨T0, l0, hTl⟩ := head_of_signs gl1 hsq
          have HM : Hid (stepsTreeM st rs s zs = some T0) := by show _ = _; rw [HFIN.out, if_pos ⟨HN.out, hsq⟩, hTl]; rfl
          have hlen0 : 0 < us.length := by rw [HTW.out.len]; have := congrArg List.length hTl; rw [List.length_map] at this; simp at this; omega
          have hlen1 : 0 < ts.length := by rw [← HTW.out.len]; exact hlen0
          have hT0 : T0 = (ts[0]'hlen1).tr := by
            have h2 := congrArg List.head? hTl
            rw [List.head?_map] at h2
            rw [List.head?_eq_getElem?, List.head?_eq_getElem?, List.getElem?_eq_getElem hlen1] at h2
            simpa using h2.symm
          obtain ⟨x, cx, hu0, hk1, hk2, hk3, hk4, hk5⟩ := hTW1.out.kid 0 hlen0
          obtain ⟨gA, offA, e, hgA, a0, a1, a2⟩ := hA1 0 hlen0
          rw [hu0] at a0 a1 a2
          have hsz0 : T0.sz ≤ 201 := by
            have h1 := HST.out.sz
            have h3 := HZL.out
            rw [hTl, List.map_cons, List.sum_cons] at h1
            omega
          have HKID : Hid (KidOk (wr.alloc (.cells #[.int .i64 z.1, .int .i64 z.2] 57)) ((ts[0]'hlen1).s, (ts[0]'hlen1).r, .slice x (ts[0]'hlen1).ks.length cx) (ts[0]'hlen1)) := ⟨x, cx, rfl, hk1, hk2, hk3, hk4, hk5⟩
          obtain ⟨t, ht⟩ : ∃ t, (ts[0]'hlen1) = t := ⟨_, rfl⟩
          rw [ht] at a0 a1 a2 HKID hT0
          have HT0' := Lib.hid hT0
          have HSZ0 := Lib.hid hsz0
          have hav : av = some ⟨gA, offA, none⟩ := e
          subst hav
          have hul : (0 : Int) < ((us.length : Nat) : Int) := by omega
          rw [Nat.zero_mul, Nat.add_zero] at a0 a1 a2
          clear hu0 hk1 hk2 hk3 hk4 hk5 ht hsz0 hT0 hTl hsq
          have hwz := HWZ.out
          go_wp2_with fail
          go_region_held3 (fun w' => w'.cell? ⟨w.heap.size, 0, none⟩ = some (.string st))
            (first
              | go_keep
              | with_reducible exact keepG g0 hgl hb6
              | fail)
            (first
              | (go_at_call 27; (with_reducible refine (C _ ?_).mono ?_); (exact hA1.drew); rintro e w6 ⟨rfl, hb6'⟩; have hb6 := below_of_drew hb6')
              | fail)
          clear hwz
          have hT6 := hT1.below hb6
          have hB6 : Below w.heap.size w w6 := hbw1.trans (hb6.mono hbw1.size)
          have b0 := (hb6.cell (p := ⟨gA, offA, none⟩) hgA).trans a0
          have b1 := (hb6.cell (p := ⟨gA, offA + 1, none⟩) hgA).trans a1
          have b2 := (hb6.cell (p := ⟨gA, offA + 2, none⟩) hgA).trans a2
          have HTI : Hid (TrIn w6 0 (.agg #[.string t.s, .int .i64 t.r, .slice x t.ks.length cx]) t.tr) := (HKID.out.keep (fun b hb => hb6.block b (HKID.out.lt b hb))).tree
          go_wp2_with fail
          refine (l4Copy_any 201 t.tr (by rw [← HT0'.out]; exact HSZ0.out) (by rw [← HT0'.out]; have := HSZ0.out; omega) _ _ HTI.out).mono ?_
          rintro e w7 ⟨hb7, t2, a7, c7, htr, rfl, hkid, hnd, hlow⟩
          have hT7 := hT6.below hb7
          have hB7 : Below w.heap.size w w7 := hB6.trans (hb7.mono hB6.size)
          obtain ⟨n0, n1, n2, nf0, nf1, nf2⟩ := hT7.cells
          obtain ⟨f0, f1, f2, _, _, _⟩ := (zero_tree hT7 (.string t2.s) (.int .i64 t2.r) (.slice a7 t2.ks.length c7)).cells
          have HK7 := Lib.hid hkid
          have HL7 := Lib.hid hlow
          have HTR7 := Lib.hid htr
          have h67 : w.heap.size + 1 < w6.heap.size := hT6.lt
          clear hkid hlow htr hnd
          go_wp2_with fail
          refine bodyPost_ret (v := .tuple #[.agg #[.string t2.s, .int .i64 t2.r, .slice a7 t2.ks.length c7], .bool true]) (by simp [results, Try.results7, go_sem, f0, f1, f2]) rfl ⟨((hB7.setCell (Nat.le_succ _) _).setCell (Nat.le_succ _) _).setCell (Nat.le_succ _) _, .inr ⟨_, T0, HM.out, rfl, ?_⟩⟩
          rw [HT0'.out, ← HTR7.out]
          refine (HK7.out.keep fun b hb => ?_).tree
          have h1 := HL7.out b hb
          rw [Below.heap_setCell _ _ _ _ (by show b ≠ w.heap.size + 1; omega), Below.heap_setCell _ _ _ _ (by show b ≠ w.heap.size + 1; omega), Below.heap_setCell _ _ _ _ (by show b ≠ w.heap.size + 1; omega)]
      have k3 : (z.1 == 3) = false := by simp [h3]
      have HM : Hid (stepsTreeM st rs s zs = none) := HFAIL.out (doT_other h2 (.inl (fun e => h1 (by rw [e])))) (.inl (fun e => h3 (by rw [e])))
      cases hz0 : (z.2 == 0)
      all_goals
        go_wp2_with fail
        exact bodyPost_ret (v := .tuple #[.agg #[.string ⟨#[]⟩, .int .i64 0, .slice none 0 0], .bool false]) (by simp [results, Try.results7, go_sem, f0, f1, f2]) rfl ⟨hBz, .inl ⟨HM.out, rfl⟩⟩
    · obtain rfl : k = zs.length := by omega
      have HM : Hid (stepsTreeM st rs s zs = none) := by
        show _ = _
        by_cases h0 : zs.length = 0
        · exact stM_nil h0
        · obtain ⟨L, hL⟩ : ∃ L, zs.length = L + 1 := ⟨zs.length - 1, by omega⟩
          exact stM_last hL (fun e => HN3.out L (by omega) (by omega) (by rw [e]))
      obtain ⟨o0, o1, o2, of0, of1, of2⟩ := hTr.cells
      obtain ⟨f0, f1, f2, _, _, _⟩ := (zero_tree hTr (.string ⟨#[]⟩) (.int .i64 0) (.slice none 0 0)).cells
      go_wp2_with fail
      exact bodyPost_ret (v := .tuple #[.agg #[.string ⟨#[]⟩, .int .i64 0, .slice none 0 0], .bool false]) (by simp [results, Try.results7, go_sem, f0, f1, f2]) rfl ⟨((hbw.setCell (Nat.le_succ _) _).setCell (Nat.le_succ _) _).setCell (Nat.le_succ _) _, .inl ⟨HM.out, rfl⟩⟩
end Go.Proofs.Ytcningdeocmbgaa
