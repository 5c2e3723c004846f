/- The contract of reachableSet and of GramMet of the program. -/
import Derived.Test.YtjpkohahabclgaaMetB
namespace Go.Proofs.Ytjpkohahabclgaa
open Go.ChangeShapes Go.WideShapes Go.ChangeAt Go.RowKit Go.Conc
set_option maxRecDepth 100000
theorem hasN_zero0 (c : UInt8) : hasN 0 c = false := by simp [hasN]
theorem mkChan5 (w : World) : (Instr.makeChan 124 (.int .i64 5)).run Try.prog w = .ok (.chan (some w.heap.size)) (w.alloc (.chan 5 #[] false 0 0 false)) := by
  have h : (Try.prog.info? 9).map (·.bytes) = some 16 := by kernel_rfl
  obtain ⟨i, hi, hb⟩ := Option.map_eq_some_iff.1 h
  simpa using run_makeChan (P := Try.prog) (w := w) Try.underlying124 hi .i64 5 (by omega) (by rw [hb]; omega)
def chanLen (w : World) (c : Nat) : Nat := match w.heap[c]? with
  | some (.chan _ buf _ _ _ _) => buf.size
  | _ => 0
theorem chanLen_of {w : World} {c cap s r : Nat} {l : List UInt8} (h : w.heap[c]? = some (.chan cap (strsOf l) false s r false)) : chanLen w c = l.length := by
  unfold chanLen; rw [h]; exact strsOf_size l
theorem MetW.pot {w0 W : World} {B m : Nat} {l : List UInt8} (h : MetW w0 W B m l) : 2 * (10 - pc (cellN W (B + 1))) + chanLen W (B + 2) = Go.Proofs.Ytjpkohahabclgaa.pot m l := by
  obtain ⟨_, _, _, k1, ⟨s, r, k2⟩, _⟩ := h
  rw [k1.cellN, chanLen_of k2]; rfl
theorem MetW.alloc {w0 W : World} {B m : Nat} {l : List UInt8} (h : MetW w0 W B m l) (o : Obj) : MetW w0 (W.alloc o) B m l := by
  obtain ⟨h1, h2, h3, k1, ⟨s, r, k2⟩, k3, hb⟩ := h
  have hlt := (Array.getElem?_eq_some_iff.1 k2).1
  exact ⟨h1, h2, h3, k1.alloc _, ⟨s, r, (blk_old _ _ hlt).trans k2⟩, k3.alloc _, hb.alloc (by omega) _⟩
theorem ok_start1 {st : ByteArray} {rs : List RuleT} (h : gramOkB st rs = true) : ∃ c : UInt8, st = ⟨#[c]⟩ ∧ bigN (c.toNat : Int) = true := by
  unfold gramOkB at h
  simp only [Bool.and_eq_true] at h
  have h5 := h.1
  simp only [isBigS, Bool.and_eq_true, decide_eq_true_eq, byteAt] at h5
  obtain ⟨h6, h7⟩ := h5
  have hl : st.data.toList.length = 1 := by simpa using h6
  match hs : st.data.toList, hl with
  | [x], _ =>
    rw [hs] at h7
    exact ⟨x, bytesOf_ext (by rw [hs]), by simpa using h7⟩
theorem ok_rule {st : ByteArray} {rs : List RuleT} (h : gramOkB st rs = true) {k : Nat} (hk : k < rs.length) : (∃ c : UInt8, rs[k].1 = ⟨#[c]⟩ ∧ bigN (c.toNat : Int) = true) ∧ rs[k].2.size ≤ 4 := by
  unfold gramOkB at h
  simp only [Bool.and_eq_true, decide_eq_true_eq, List.all_eq_true, List.mem_range] at h
  have h4 := h.2.2 k hk
  rw [goodB_at hk] at h4
  simp only [ruleOkB, Bool.and_eq_true, decide_eq_true_eq] at h4
  have h5 := h4.1.1
  simp only [isBigS, Bool.and_eq_true, decide_eq_true_eq, byteAt] at h5
  obtain ⟨h6, h7⟩ := h5
  have hl : rs[k].1.data.toList.length = 1 := by simpa using h6
  refine ⟨?_, h4.1.2.1⟩
  match hs : rs[k].1.data.toList, hl with
  | [x], _ =>
    rw [hs] at h7
    exact ⟨x, bytesOf_ext (by rw [hs]), by simpa using h7⟩
theorem strs_extract (d : UInt8) (l : List UInt8) : (strsOf (d :: l)).extract 1 (strsOf (d :: l)).size = strsOf l := by
  simp only [strsOf, List.map_cons, List.size_toArray, List.length_cons, List.extract_toArray, List.extract_eq_take_drop, List.drop_succ_cons, List.drop_zero, Nat.add_sub_cancel]
  rw [List.take_of_length_le (by simp)]
theorem opStep_recv_to {P : Program} {ops : Array Oper} {i : Nat} {o : Oper} {a : Act} {w w' : World} {c cap s r : Nat} {buf buf' : Array Value} {z v : Value} {tm closed : Bool} (ho : ops[i]? = some o) (hg : o.guard = none) (hr : (execOp a.eval o).run P w = .ok (.comm #[rcase c z] false .select) w')
    (hc : w'.heap[c]? = some (.chan cap buf closed s r tm)) (hsome : 0 < buf.size) (hx : buf.extract 1 buf.size = buf') (hv : buf.getD 0 undef = v) : OpStep P ops i a w (a.put o.dst (.tuple #[goInt 0, .bool true, v])) (w'.setChan c cap buf' closed s (r + 1) tm) := by
  subst hx hv
  exact opStep_recv ho hg hr hc hsome
set_option maxHeartbeats 2000000 in
theorem reachableSet_any (st : ByteArray) (a : Option Addr) (cap : Nat) (rs : List RuleT) (w : World) (H : RulesAt w a rs) (hok : gramOkB st rs = true) :
    Calls Try.prog 73 #[.agg #[.string st, .slice a rs.length cap]] w fun e w' => e = .returned (.int .u16 (metLeast st rs : Nat)) ∧ Below w.heap.size w w' := by
  have hmc := mkChan5
  have hmf := makeFunc_run
  have eg : ∀ args w, (callFunc 114 args).run Try.prog w = .ok (.enter 114 args) w := enters_of Try.func114 (by kernel_rfl) rfl
  obtain ⟨c, hst, hbig⟩ := ok_start1 hok
  have hl := (gramOk_facts hok).2.1
  have HOK := Lib.hid hok
  clear hok
  have HST := Lib.hid hst
  have hG : GBox (w.alloc (.cells #[.string st, .slice a rs.length cap] 24)) w.heap.size st a rs.length cap := blk_new _ _ rfl
  have hb0 := (Below.refl w.heap.size w).alloc (Nat.le_refl _) (.cells #[.string st, .slice a rs.length cap] 24)
  have hW0 : (w.alloc (.cells #[.string st, .slice a rs.length cap] 24)).heap.size = w.heap.size + 1 := by simp
  have hM0 : MetW (w.alloc (.cells #[.string st, .slice a rs.length cap] 24)) ((((w.alloc (.cells #[.string st, .slice a rs.length cap] 24)).alloc (.cells #[.int .u16 0] 75)).alloc (.chan 5 #[] false 0 0 false)).alloc (.cells #[.chan (some (w.heap.size + 2))] 124)) w.heap.size 0 [] := by
    refine ⟨by omega, Sub.zero _, by simp, ((show one1 _ (w.heap.size + 1) _ _ from blk_new _ _ (by simp)).alloc _).alloc _, ⟨0, 0, (blk_old _ _ (by simp)).trans (blk_new _ _ (by simp))⟩, blk_new _ _ (by simp), ?_⟩
    exact (((Below.refl _ _).alloc (by simp) _).alloc (by simp) _).alloc (by simp) _
  go_enter Try.func73, Try.ntmps73
  subst hst
  go_wp2_with fail
  refine (meet_any w.heap.size 0 [] c _ _ hM0).mono ?_
  rintro e w2 ⟨⟨u, rfl⟩, hM2⟩
  have e1 : meetM 0 c = bitN c := by unfold meetM meets; rw [hbig, hasN_zero0]; simp
  have e2 : meetL 0 [] c = [c] := by unfold meetL meets; rw [hbig, hasN_zero0]; simp
  rw [e1, e2] at hM2
  clear hM0 e1 e2
  generalize w.alloc (.cells #[.string ⟨#[c]⟩, .slice a rs.length cap] 24) = w0 at *
  go_wp2
  go_loopw [6] (fun _ wr => ∃ (m : Nat) (l : List UInt8), MetW w0 wr w.heap.size m l ∧ Hid (MetI ⟨#[c]⟩ rs m l none)) (fun _ wr => 2 * (10 - pc (cellN wr (w.heap.size + 1))) + chanLen wr (w.heap.size + 2))
  case atStart => exact ⟨_, _, hM2, MetI.start rfl hbig⟩
  case round =>
    obtain ⟨m, l, hM, HI⟩ := hrel
    obtain ⟨h1, h2, h3, k1, ⟨s, r, k2⟩, k3, hb⟩ := hM
    obtain ⟨c1, f1⟩ := k1.cell
    obtain ⟨c3, f3⟩ := k3.cell
    go_upto_region 6 with fail
    cases l with
    | nil =>
      refine wp_region_three rfl (opStep_default (w' := wr) (c := w.heap.size + 2) (z := .string ⟨#[]⟩) rfl rfl (by simp [execOp, rcase, Act.eval]) (by simpa [strsOf] using k2)) (opStep_value (v := goInt (-1)) (w' := wr) rfl rfl (by go_simp)) (opStep_value (v := .bool false) (w' := wr) rfl rfl (by go_simp)) ?_
      go_wp2
      go_ret
      exact ⟨ret_u16 (by rw [HI.out.fin h1]), hb0.trans (hb.mono (by omega))⟩
    | cons d l' =>
      have j0 : (strsOf (d :: l')).getD 0 undef = .string ⟨#[d]⟩ := by simp [strsOf]
      have j2 := heap_setChan wr (w.heap.size + 2) 5 (strsOf l') false s (r + 1) false (Array.getElem?_eq_some_iff.1 k2).1
      have j1 := k1.chan (c := w.heap.size + 2) (by omega) (cap := 5) (buf := strsOf l') (cl := false) (s := s) (r := r + 1) (tm := false)
      have j3 := k3.chan (c := w.heap.size + 2) (by omega) (cap := 5) (buf := strsOf l') (cl := false) (s := s) (r := r + 1) (tm := false)
      have j4 := below_setChan hb (c := w.heap.size + 2) (by omega) 5 (strsOf l') false s (r + 1) false
      have hl' : l'.length ≤ pc m := by simp at h3; omega
      refine wp_region_three rfl (opStep_recv_to (w' := wr) (c := w.heap.size + 2) (z := .string ⟨#[]⟩) rfl rfl (by simp [execOp, rcase, Act.eval]) k2 (by rw [strsOf_size]; simp) (strs_extract d l') j0) (opStep_value (v := goInt 0) (w' := wr.setChan (w.heap.size + 2) 5 (strsOf l') false s (r + 1) false) rfl rfl (by go_simp)) (opStep_value (v := .bool true) (w' := wr.setChan (w.heap.size + 2) 5 (strsOf l') false s (r + 1) false) rfl rfl (by go_simp)) ?_
      generalize wr.setChan (w.heap.size + 2) 5 (strsOf l') false s (r + 1) false = W1 at *
      have hM1 : MetW w0 W1 w.heap.size m l' := ⟨h1, h2, hl', j1, ⟨_, _, j2⟩, j3, j4⟩
      have HP := Lib.hid HI.out.pop
      have hdm := (HI.out.2.2.1 d (List.mem_cons_self ..)).2
      obtain ⟨e1, e2⟩ := (show GBox W1 w.heap.size _ _ _ _ from (j4.block _ (by omega)).trans hG).cells
      have HMS : Hid (2 * (10 - pc (cellN wr (w.heap.size + 1))) + chanLen wr (w.heap.size + 2) = pot m l' + 1) := by
        show _ = _
        rw [k1.cellN, chanLen_of k2]; simp [pot]; omega
      clear c1 f1 c3 f3 k1 k2 k3 j0 j1 j2 j3 HI
      generalize hds : (⟨#[d]⟩ : ByteArray) = ds
      have HDS := Lib.hid hds
      clear hds
      go_wp2
      go_loopw [24] (fun i wi => ∃ (k m' : Nat) (l2 : List UInt8), k ≤ rs.length ∧ i = .int .i64 k ∧ MetW w0 wi w.heap.size m' l2 ∧ Hid (MetI ⟨#[c]⟩ rs m' l2 (some d) ∧ hasN m' d = true ∧ Worked rs m' d k ∧ pot m' l2 ≤ pot m l')) (fun i _ => rs.length - (intOf i).toNat)
      case atStart => exact ⟨0, m, l', Nat.zero_le _, rfl, hM1, HP.out, hdm, fun j _ hj => absurd hj (Nat.not_lt_zero j), Nat.le_refl _⟩
      case round =>
        obtain ⟨k, m', l2, hk, rfl, hM', HI'⟩ := hrel
        by_cases hlt : k < rs.length
        · obtain ⟨z1, z2, b, off, e, hbb, c1, c2⟩ := H.2 k hlt
          subst e
          have hbw := hb0.trans (hM'.2.2.2.2.2.2.mono (show w.heap.size ≤ w.heap.size + 1 by omega))
          have d1 : wr.cell? ⟨b, off + k * 2, none⟩ = some (.string rs[k].1) := by rw [hbw.cell (p := ⟨b, _, none⟩) hbb, c1]
          have d2 : wr.cell? ⟨b, off + k * 2 + 1, none⟩ = some (.string rs[k].2) := by rw [hbw.cell (p := ⟨b, _, none⟩) hbb, c2]
          have hkl : (k : Int) < (rs.length : Int) := by omega
          have hM2 := hM'.alloc (.cells #[.string rs[k].1, .string rs[k].2] 55)
          have hsz4 : rs[k].2.size ≤ 1000 := by have := (ok_rule HOK.out hlt).2; omega
          by_cases hq : rs[k].1 = ds
          · have HL : Hid (leftB rs[k] = d) := by show _ = _; rw [leftB, hq, ← HDS.out]; rfl
            rw [hq] at hM2
            go_wp2_with fail
            refine (eachSign_any w.heap.size m' l2 rs[k].2 w0 _ hsz4 hM2).mono ?_
            rintro e W2 ⟨⟨u2, rfl⟩, hM3⟩
            go_wp2
            go_roundw
            case rel =>
              obtain ⟨i1, i2, i3, i4⟩ := HI'.out
              have hs := foldM_sub rs[k].2.data.toList m'
              refine ⟨k + 1, _, _, by omega, by go_num, hM3, i1.fold hM'.1 hM'.2.1 i2 hlt HL.out, hasN_mono hs i2, fun j hj hjk hlj x hx hxb => ?_, Nat.le_trans (fold_pot _ hM'.1 hM'.2.1) i4⟩
              by_cases hjk2 : j < k
              · exact hasN_mono hs (i3 j hj hjk2 hlj x hx hxb)
              · obtain rfl : j = k := by omega
                exact foldM_has _ _ x hx hxb
            case measure => simp [intOf]; omega
          · have HL : Hid (leftB rs[k] ≠ d) := by
              obtain ⟨e, he, _⟩ := (ok_rule HOK.out hlt).1
              show _ ≠ _
              rw [leftB, he]
              intro h
              exact hq (by rw [he, show e = d from h, HDS.out])
            have hteq : (rs[k].1.toList == ds.toList) = false := by
              rw [beq_eq_false_iff_ne]
              intro e
              refine hq (bytesOf_ext ?_)
              rwa [ByteArray.toList_eq, ByteArray.toList_eq] at e
            go_wp2
            go_roundw
            case rel =>
              obtain ⟨i1, i2, i3, i4⟩ := HI'.out
              refine ⟨k + 1, _, _, by omega, by go_num, hM2, i1, i2, fun j hj hjk hlj x hx hxb => ?_, i4⟩
              by_cases hjk2 : j < k
              · exact i3 j hj hjk2 hlj x hx hxb
              · obtain rfl : j = k := by omega
                exact absurd hlj HL.out
            case measure => simp [intOf]; omega
        · have hkl : ¬ (k : Int) < (rs.length : Int) := by omega
          obtain rfl : k = rs.length := by omega
          go_wp2
          go_roundw
          case rel =>
            obtain ⟨i1, i2, i3, i4⟩ := HI'.out
            exact ⟨_, _, hM', i1.done i3⟩
          case measure =>
            have := HMS.out
            have := HI'.out.2.2.2
            have := hM'.pot
            omega
end Go.Proofs.Ytjpkohahabclgaa
