/- The contracts of the program's rightOf and nodeOk. -/
import Derived.Test.YtpkejcjjbkgomaaDoorPtB
namespace Go.Proofs.YtpkejcjjbkgomaaDoor
open Go.ChangeShapes Go.WideShapes Go.ChangeAt Go.RowKit Go.Deep
set_option maxRecDepth 100000
/-- the right side of the rule at r, if it is one of s -/
def rightO (rs : List RuleT) (r : Int) (s : ByteArray) : Option ByteArray := if r < 0 then none else match rs[r.toNat]? with
  | some q => if (q.1.toList == s.toList) = true then some q.2 else none
  | none => none
def rightV : Option ByteArray → Value
  | some x => .tuple #[.string x, .bool true]
  | none => .tuple #[.string ⟨#[]⟩, .bool false]
theorem rightO_at {rs : List RuleT} {n : Nat} (s : ByteArray) (h : n < rs.length) : rightO rs (n : Int) s = if (rs[n].1.toList == s.toList) = true then some rs[n].2 else none := by
  unfold rightO
  rw [if_neg (by omega), Int.toNat_natCast, List.getElem?_eq_getElem h]
theorem ruleAt_right (rs : List RuleT) (r : Int) (s : ByteArray) (k : Nat) : ruleAt rs r s k = match rightO rs r s with
  | some x => if k = x.size then some x else none
  | none => none := by
  unfold ruleAt rightO
  by_cases h : r < 0
  · rw [if_pos h, if_pos h]
  · rw [if_neg h, if_neg h]
    cases rs[r.toNat]? with
    | none => rfl
    | some q =>
      show (if (q.1.toList == s.toList) = true ∧ k = q.2.size then some q.2 else none) = match (if (q.1.toList == s.toList) = true then some q.2 else none) with
        | some x => if k = x.size then some x else none
        | none => none
      by_cases hq : (q.1.toList == s.toList) = true
      · rw [if_pos hq]
        by_cases hk : k = q.2.size
        · rw [if_pos ⟨hq, hk⟩]
          show some q.2 = if k = q.2.size then some q.2 else none
          rw [if_pos hk]
        · rw [if_neg (fun h => hk h.2)]
          show none = if k = q.2.size then some q.2 else none
          rw [if_neg hk]
      · rw [if_neg (fun h => hq h.1), if_neg hq]
set_option maxHeartbeats 2000000 in
theorem rightOf_any (st : ByteArray) (ag : Option Addr) (cg : Nat) (rs : List RuleT) (s : ByteArray) (r : Int) (w : World) (HR : RulesAt w ag rs) :
    Calls Tryd.prog 121 #[.agg #[.string st, .slice ag rs.length cg], .string s, .int .i64 r] w fun e w' => e = .returned (rightV (rightO rs r s)) ∧ Below w.heap.size w w' := by
  have hb2 := (Below.refl w.heap.size w).alloc (Nat.le_refl _) (.cells #[.string st, .slice ag rs.length cg] 64)
  have hG2 : GB2 (w.alloc (.cells #[.string st, .slice ag rs.length cg] 64)) w.heap.size (.string st) (.slice ag rs.length cg) := blk_new _ _ rfl
  obtain ⟨g0, g1⟩ := hG2.cells
  have HR2 := HR.below hb2 (Nat.le_refl _)
  by_cases hr0 : r < 0
  · have hv : rightO rs r s = none := by unfold rightO; rw [if_pos hr0]
    go_enter Tryd.func121, Tryd.ntmps121
    go_wp2_with fail
    go_ret2
    exact ⟨by rw [hv]; rfl, hb2⟩
  · obtain ⟨n, rfl⟩ : ∃ n : Nat, r = (n : Int) := ⟨r.toNat, by omega⟩
    by_cases hrn : n < rs.length
    · have hv := rightO_at s hrn
      obtain ⟨_, _, b, off, rfl, hb, d1, d2⟩ := HR2.2 n hrn
      have hrn' : ¬ (rs.length : Int) ≤ (n : Int) := by omega
      have hn0 : (0 : Int) ≤ (n : Int) := by omega
      have hrl : (n : Int) < (rs.length : Int) := by omega
      cases hle : (rs[n].1.toList == s.toList) with
      | false =>
        have hle' : (rs[n].1.toList != s.toList) = true := by unfold bne; rw [hle]; rfl
        rw [hle, if_neg (by simp)] at hv
        have HV := Lib.hid hv
        clear hv
        go_enter Tryd.func121, Tryd.ntmps121
        go_wp2_with fail
        go_ret2
        exact ⟨by rw [HV.out]; rfl, hb2⟩
      | true =>
        have hle' : (rs[n].1.toList != s.toList) = false := by unfold bne; rw [hle]; rfl
        rw [hle, if_pos rfl] at hv
        have HV := Lib.hid hv
        clear hv
        go_enter Tryd.func121, Tryd.ntmps121
        go_wp2_with fail
        go_ret2
        exact ⟨by rw [HV.out]; rfl, hb2⟩
    · have hv : rightO rs (n : Int) s = none := by unfold rightO; rw [if_neg hr0, Int.toNat_natCast, List.getElem?_eq_none (by omega)]
      have hrn' : (rs.length : Int) ≤ (n : Int) := by omega
      have HV := Lib.hid hv
      clear hv
      go_enter Tryd.func121, Tryd.ntmps121
      go_wp2_with fail
      go_ret2
      exact ⟨by rw [HV.out]; rfl, hb2⟩
theorem len_zero (n : Nat) : ((n : Int) == 0) = (n == 0) := by rw [Bool.eq_iff_iff]; simp
theorem nodeB_small (rs : List RuleT) (t : PT) (h : isSmallS t.s = true) : nodeB rs t.tr = (t.r == -1 && t.ks.length == 0) := by
  rw [t.tr_eq, nodeB_eq, if_pos h, List.length_map]
theorem nodeB_none (rs : List RuleT) (t : PT) (h : isSmallS t.s = false) (h1 : rightO rs t.r t.s = none) : nodeB rs t.tr = false := by
  rw [t.tr_eq, nodeB_eq, if_neg (by rw [h]; simp), ruleAt_right, h1]
theorem nodeB_len (rs : List RuleT) (t : PT) (x : ByteArray) (h : isSmallS t.s = false) (h1 : rightO rs t.r t.s = some x) (h2 : t.ks.length ≠ x.size) : nodeB rs t.tr = false := by
  rw [t.tr_eq, nodeB_eq, if_neg (by rw [h]; simp), ruleAt_right, h1, List.length_map]
  show (match (if t.ks.length = x.size then some x else none) with
    | some rt => kidsTo (fun _ => true) rt (t.ks.map PT.tr) t.ks.length
    | none => false) = false
  rw [if_neg h2]
theorem nodeB_kids (rs : List RuleT) (t : PT) (x : ByteArray) (h : isSmallS t.s = false) (h1 : rightO rs t.r t.s = some x) (h2 : t.ks.length = x.size) : nodeB rs t.tr = kidsTo (fun _ => true) x (t.ks.map PT.tr) t.ks.length := by
  rw [t.tr_eq, nodeB_eq, if_neg (by rw [h]; simp), ruleAt_right, h1, List.length_map]
  show (match (if t.ks.length = x.size then some x else none) with
    | some rt => kidsTo (fun _ => true) rt (t.ks.map PT.tr) t.ks.length
    | none => false) = _
  rw [if_pos h2]
theorem kid_step (x : ByteArray) (t : PT) (i : Nat) (h : i < t.ks.length) : kidsTo (fun _ => true) x (t.ks.map PT.tr) (i + 1) = (kidsTo (fun _ => true) x (t.ks.map PT.tr) i && (t.ks[i].s.toList == (x.extract i (i + 1)).toList)) := by
  rw [kidsTo_succ (by simpa using h), List.getElem_map]
  unfold kidB
  rw [Bool.and_true, show t.ks[i].tr.sign = t.ks[i].s from by rw [PT.tr_eq]; rfl]
theorem kid_bad (x : ByteArray) (t : PT) (i : Nat) (h : i < t.ks.length) (hb : (t.ks[i].s.toList == (x.extract i (i + 1)).toList) = false) : kidsTo (fun _ => true) x (t.ks.map PT.tr) t.ks.length = false := by
  refine kidsTo_false (i := i) (by simpa using h) ?_ t.ks.length h (by simp)
  unfold kidB
  rw [Bool.and_true, List.getElem_map, show t.ks[i].tr.sign = t.ks[i].s from by rw [PT.tr_eq]; rfl, hb]
theorem rightO_size {w : World} {ag : Option Addr} {rs : List RuleT} (HR : RulesAt w ag rs) {r : Int} {s x : ByteArray} (h : rightO rs r s = some x) : x.size ≤ maxLen := by
  unfold rightO at h
  split at h
  · cases h
  · split at h
    · rename_i q hq
      split at h
      · obtain ⟨hi, rfl⟩ := List.getElem?_eq_some_iff.1 hq
        simp only [Option.some.injEq] at h
        rw [← h]
        exact (HR.2 _ hi).2.1
      · cases h
    · cases h
theorem PtIn.keep {w w' : World} {M : Nat → Prop} {t : PT} (h : PtIn w M t) (hM : ∀ k, M k → k < w.heap.size) (hb : Below w.heap.size w w') : PtIn w' M t := h.stay (fun g hg => hb.block g (hM g hg)) (fun _ h => h)
theorem ret_b {a b : Bool} (h : a = b) : Ending.returned (.bool a) = .returned (.bool b) := by rw [h]
set_option maxHeartbeats 4000000 in
theorem nodeOk_any (st : ByteArray) (ag : Option Addr) (cg : Nat) (rs : List RuleT) (t : PT) (M : Nat → Prop) (w : World) (HR : RulesAt w ag rs) (HP : PtIn w M t) (hM : ∀ k, M k → k < w.heap.size) :
    Calls Tryd.prog 102 #[.agg #[.string st, .slice ag rs.length cg], .pointer (some ⟨t.b, t.o, none⟩)] w fun e w' => e = .returned (.bool (nodeB rs t.tr)) ∧ Below w.heap.size w w' := by
  have hb2 := (Below.refl w.heap.size w).alloc (Nat.le_refl _) (.cells #[.string st, .slice ag rs.length cg] 64)
  have hG2 : GB2 (w.alloc (.cells #[.string st, .slice ag rs.length cg] 64)) w.heap.size (.string st) (.slice ag rs.length cg) := blk_new _ _ rfl
  obtain ⟨g0, g1⟩ := hG2.cells
  have HR2 := HR.below hb2 (Nat.le_refl _)
  have HP2 := HP.keep hM hb2
  obtain ⟨a, kc, hMb, k0, k1, k2, hs, hr, hn, hc, hk, ht⟩ := HP2.open
  have HK := Lib.hid hk
  unfold maxLen at hs hn
  cases hsm : isSmallS t.s with
  | true =>
    have hv := nodeB_small rs t hsm
    have HV := Lib.hid hv
    clear hv hk ht
    cases hr1 : (t.r == -1) with
    | true =>
      go_enter Tryd.func102, Tryd.ntmps102
      go_wp2_with (go_at_call 71; refine (signSmall_any _ _).mono ?_; rintro e w' ⟨rfl, rfl⟩; rw [hsm])
      go_ret
      exact ⟨ret_b (by rw [HV.out, hr1, Bool.true_and]; exact len_zero _), hb2⟩
    | false =>
      go_enter Tryd.func102, Tryd.ntmps102
      go_wp2_with (go_at_call 71; refine (signSmall_any _ _).mono ?_; rintro e w' ⟨rfl, rfl⟩; rw [hsm])
      go_ret
      exact ⟨ret_b (by rw [HV.out, hr1]; rfl), hb2⟩
  | false =>
    go_enter Tryd.func102, Tryd.ntmps102
    go_wp2_with (go_at_call 71; refine (signSmall_any _ _).mono ?_; rintro e w' ⟨rfl, rfl⟩; rw [hsm])
    clear g1
    generalize w.alloc (.cells #[.string st, .slice ag rs.length cg] 64) = W at *
    have hMW : ∀ k, M k → k < W.heap.size := fun k h => Nat.lt_of_lt_of_le (hM k h) hb2.size
    have hlG := hG2.lt
    have hlT := hMW _ hMb
    obtain ⟨g0, g1⟩ := hG2.cells
    have q0 : ∀ y, (grow W y).cell? ⟨w.heap.size, 0, none⟩ = some (.string st) := fun y => by rw [grow_cell _ _ _ _ hlG]; exact g0
    have q1 : ∀ y, (grow W y).cell? ⟨w.heap.size, 1, none⟩ = some (.slice ag rs.length cg) := fun y => by rw [grow_cell _ _ _ _ hlG]; exact g1
    have q2 : ∀ y, (grow W y).cell? ⟨t.b, t.o, none⟩ = some (.string t.s) := fun y => by rw [grow_cell _ _ _ _ hlT]; exact k0
    have q3 : ∀ y, (grow W y).cell? ⟨t.b, t.o + 1, none⟩ = some (.int .i64 t.r) := fun y => by rw [grow_cell _ _ _ _ hlT]; exact k1
    have q4 : ∀ y, (grow W y).cell? ⟨t.b, t.o + 2, none⟩ = some (.slice a t.ks.length kc) := fun y => by rw [grow_cell _ _ _ _ hlT]; exact k2
    have C1 : ∀ y, Calls Tryd.prog 121 #[.agg #[.string st, .slice ag rs.length cg], .string t.s, .int .i64 t.r] (grow W y) fun e w' => e = .returned (rightV (rightO rs t.r t.s)) ∧ ∃ z, w' = grow W z :=
      fun y => Calls.grow_of (rightOf_any st ag cg rs t.s t.r _ (HR2.below (below_grow _ y) (Nat.le_refl _)))
    cases hro : rightO rs t.r t.s with
    | none =>
      rw [hro] at C1
      unfold rightV at C1
      have HNO := Lib.hid (nodeB_none rs t hsm hro)
      refine wp_region_grow (by kernel_rfl) (by kernel_rfl) ?_
      repeat (go_big_quiet_step ((first | (go_at_call 121; exact C1 _))))
      refine wpQuiet_nil ?_
      rintro _ ⟨y, rfl⟩
      go_wp2_with fail
      go_ret
      exact ⟨ret_b (by rw [HNO.out]), hb2.trans ((below_grow W y).mono hb2.size)⟩
    | some x =>
      rw [hro] at C1
      unfold rightV at C1
      have hxs := rightO_size HR hro
      unfold maxLen at hxs
      by_cases hkl : t.ks.length = x.size
      · have HYES := Lib.hid (nodeB_kids rs t x hsm hro hkl)
        have hk1 : ((x.size : Int) != (t.ks.length : Int)) = false := by rw [hkl]; simp
        have HKL := Lib.hid hkl
        clear hkl
        refine wp_region_grow (by kernel_rfl) (by kernel_rfl) ?_
        repeat (go_big_quiet_step ((first | (go_at_call 121; exact C1 _))))
        refine wpQuiet_nil ?_
        rintro _ ⟨y, rfl⟩
        have hbY := below_grow W y
        have HP5 := HP2.keep hMW hbY
        have hB5 := hb2.trans (hbY.mono hb2.size)
        have hM5 : ∀ k, M k → k < (grow W y).heap.size := fun k h => Nat.lt_of_lt_of_le (hMW k h) hbY.size
        have k2' := q4 y
        clear q0 q1 q2 q3 q4 C1 g0 g1 k0 k1 k2 hG2 HR2 HP2 hlG hlT hb2 hMW hbY hk ht
        generalize grow W y = W5 at *
        go_wp2_with fail
        go_loopg [57] (t.ks.length + 1) (fun gk iv wr => ∃ i : Nat, gk = t.ks.length + 1 - i ∧ i ≤ t.ks.length ∧ iv = .int .i64 (i : Int) ∧ Hid (kidsTo (fun _ => true) x (t.ks.map PT.tr) i = true) ∧ Below W5.heap.size W5 wr)
        case atStart => exact ⟨0, rfl, Nat.zero_le _, rfl, rfl, Below.refl _ _⟩
        case round =>
          obtain ⟨i, hgk, hi, rfl, HOK, hbw⟩ := hrel
          have HG := Lib.hid hgk
          have HPw := HP5.keep hM5 hbw
          have hB : Below w.heap.size w wr := hB5.trans (hbw.mono hB5.size)
          clear hgk
          by_cases hlt : i < t.ks.length
          · have hil : (i : Int) < (t.ks.length : Int) := by omega
            have hi0 : (0 : Int) ≤ (i : Int) := by omega
            have hkz := HKL.out
            have hiz : (i : Int) + 1 ≤ (x.size : Int) := by omega
            have hiz2 : i + 1 ≤ x.size := by omega
            have hw1 : IntKind.i64.wrap ((i : Int) + 1) = (i : Int) + 1 := IntWalk.i64_in _ (by omega)
            have hw2 : (0 : Int) ≤ (i : Int) + 1 := by omega
            have hw3 : ((i : Int) + 1).toNat = i + 1 := by omega
            clear hkz
            obtain ⟨_, _, _, _, _, _, _, _, _, _, _, ht6⟩ := HPw.open
            obtain ⟨g', off', rfl, e1, e2⟩ := HK.out i hlt
            obtain ⟨a7, kc7, hM7, p0, p1, p2, hs7, _, _, _, _, _⟩ := (ht6 i hlt).open
            rw [e1] at hM7 p0 p1 p2
            rw [e2] at p0 p1 p2
            have hg' := hM5 _ hM7
            clear ht6 HPw e1 e2
            go_wp2_with fail
            have hn6 : (wr.alloc (.cells #[.string t.ks[i].s, .int .i64 t.ks[i].r, .slice a7 t.ks[i].ks.length kc7] 29)).cell? ⟨wr.heap.size, 0, none⟩ = some (.string t.ks[i].s) := by rw [cell_of_block (blk_new _ _ rfl)]; rfl
            have hbA := hbw.alloc hbw.size (.cells #[.string t.ks[i].s, .int .i64 t.ks[i].r, .slice a7 t.ks[i].ks.length kc7] 29)
            have hBA := hB5.trans (hbA.mono hB5.size)
            have HST := Lib.hid (kid_step x t i hlt)
            have HBD := Lib.hid (kid_bad x t i hlt)
            clear p0 p1 p2 hg' hM7
            generalize wr.alloc (.cells #[.string t.ks[i].s, .int .i64 t.ks[i].r, .slice a7 t.ks[i].ks.length kc7] 29) = W6 at *
            cases hsg : (t.ks[i].s.toList == (x.extract i (i + 1)).toList) with
            | false =>
              have hsg' : (t.ks[i].s.toList != (x.extract i (i + 1)).toList) = true := by unfold bne; rw [hsg]; rfl
              go_quiet (fail)
              go_wp2_with fail
              go_ret
              exact ⟨ret_b (by rw [HYES.out, HBD.out hsg]), Below.drewN' hBA⟩
            | true =>
              have hsg' : (t.ks[i].s.toList != (x.extract i (i + 1)).toList) = false := by unfold bne; rw [hsg]; rfl
              have HN : Hid (kidsTo (fun _ => true) x (t.ks.map PT.tr) (i + 1) = true) := by show _ = _; rw [HST.out, HOK.out, hsg]; rfl
              go_quiet (fail)
              go_wp2_with fail
              go_roundg (t.ks.length + 1 - (i + 1))
              case measure => have := HG.out; omega
              case rel => exact ⟨i + 1, rfl, by omega, by go_num, HN, Below.drewN' hbA⟩
          · have hil : ¬ (i : Int) < (t.ks.length : Int) := by omega
            obtain rfl : i = t.ks.length := by omega
            go_wp2_with fail
            go_ret
            exact ⟨ret_b (by rw [HYES.out, HOK.out]), hB⟩
      · have HNO := Lib.hid (nodeB_len rs t x hsm hro hkl)
        have hk1 : ((x.size : Int) != (t.ks.length : Int)) = true := by rw [bne_iff_ne]; omega
        clear hkl
        refine wp_region_grow (by kernel_rfl) (by kernel_rfl) ?_
        repeat (go_big_quiet_step ((first | (go_at_call 121; exact C1 _))))
        refine wpQuiet_nil ?_
        rintro _ ⟨y, rfl⟩
        have k2' := q4 y
        go_wp2_with fail
        go_ret
        exact ⟨ret_b (by rw [HNO.out]), hb2.trans ((below_grow W y).mono hb2.size)⟩
end Go.Proofs.YtpkejcjjbkgomaaDoor
