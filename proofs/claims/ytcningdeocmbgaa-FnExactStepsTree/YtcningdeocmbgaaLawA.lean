/- Contracts of the exact laws' helpers: szRule, szRuleS, szGram, eqRule, eqRuleS, eqGram. -/
import Derived.Test.YtcningdeocmbgaaOkC
namespace Go.Proofs.Ytcningdeocmbgaa
open Go.ChangeShapes Go.WideShapes Go.ChangeAt Go.RowKit
def szRuleM (r : RuleT) (left : Int) : Int := if left - r.1.size < 0 then -1 else if left - r.1.size - r.2.size < 0 then -1 else left - r.1.size - r.2.size
def szFold : List RuleT → Int → Int
  | [], left => left
  | r :: rs, left => if szRuleM r left < 0 then -1 else szFold rs (szRuleM r left)
def szRulesM (rs : List RuleT) (left : Int) : Int := if left - rs.length < 0 then -1 else szFold rs (left - rs.length)
def szGramM (st : ByteArray) (rs : List RuleT) (left : Int) : Int := if left - st.size < 0 then -1 else szRulesM rs (left - st.size)
theorem ret_int {k : IntKind} {a b : Int} (h : a = b) : Ending.returned (.int k a) = .returned (.int k b) := by rw [h]
theorem szRuleM_le (r : RuleT) (left : Int) (h0 : 0 ≤ left) : szRuleM r left ≤ left ∧ -1 ≤ szRuleM r left := by
  unfold szRuleM; split
  · omega
  · split <;> omega
theorem szFold_le (rs : List RuleT) : ∀ left : Int, 0 ≤ left → szFold rs left ≤ left ∧ -1 ≤ szFold rs left := by
  induction rs with
  | nil => intro left h; simp [szFold]; omega
  | cons r rs ih =>
    intro left h
    have h1 := szRuleM_le r left h
    unfold szFold
    split
    · omega
    · have := ih (szRuleM r left) (by omega); omega
theorem szRulesM_le (rs : List RuleT) (left : Int) (h : 0 ≤ left) : szRulesM rs left ≤ left ∧ -1 ≤ szRulesM rs left := by
  unfold szRulesM; split
  · omega
  · have := szFold_le rs (left - rs.length) (by omega); omega
theorem szFold_mem (rs : List RuleT) : ∀ left : Int, 0 ≤ left → 0 ≤ szFold rs left → ∀ r ∈ rs, (r.1.size : Int) ≤ left ∧ (r.2.size : Int) ≤ left := by
  induction rs with
  | nil => intro left _ _ r hr; cases hr
  | cons x rs ih =>
    intro left h h0 r hr
    unfold szFold at h0
    split at h0
    · omega
    · rename_i hx
      have hx' : (x.1.size : Int) ≤ left ∧ (x.2.size : Int) ≤ left := by
        unfold szRuleM at hx; split at hx
        · omega
        · split at hx <;> omega
      rcases List.mem_cons.1 hr with rfl | hr
      · exact hx'
      · have h1 := szRuleM_le x left h
        have := ih _ (by omega) h0 r hr
        omega

theorem szRule_any (l r : ByteArray) (left : Int) (w : World) (h0 : 0 ≤ left) (h1 : left ≤ 1048576) (hl : l.size ≤ maxLen) (hr : r.size ≤ maxLen) :
    Calls Try.prog 47 #[.agg #[.string l, .string r], .int .i64 left] w fun e w' => e = .returned (.int .i64 (szRuleM (l, r) left)) ∧ Below w.heap.size w w' := by
  unfold maxLen at hl hr
  by_cases c1 : left - (l.size : Int) < 0
  · go_enter Try.func47, Try.ntmps47
    go_wp2
    go_ret
    exact ⟨ret_int (by unfold szRuleM; rw [if_pos c1]), (Below.refl _ _).alloc (Nat.le_refl _) _⟩
  · by_cases c2 : left - (l.size : Int) - (r.size : Int) < 0
    all_goals
      go_enter Try.func47, Try.ntmps47
      go_wp2
      go_ret
      refine ⟨ret_int ?_, (Below.refl _ _).alloc (Nat.le_refl _) _⟩
      unfold szRuleM; rw [if_neg (by dsimp only; omega)]; first | (rw [if_pos (by dsimp only; omega)]; done) | (rw [if_neg (by dsimp only; omega)]; done)

theorem eqRule_any (a b c d : ByteArray) (w : World) :
    Calls Try.prog 61 #[.agg #[.string a, .string b], .agg #[.string c, .string d]] w fun e w' => e = .returned (.bool (eqR (a, b) (c, d))) ∧ Below w.heap.size w w' := by
  go_enter Try.func61, Try.ntmps61
  go_wp2
  all_goals go_ret
  all_goals refine ⟨ret_bool ?_, ((Below.refl _ _).alloc (Nat.le_refl _) _).alloc (by simp) _⟩
  all_goals (unfold eqR; simp_all)

set_option maxHeartbeats 400000 in
theorem szRuleS_any (a : Option Addr) (cap : Nat) (rs : List RuleT) (left : Int) (w : World) (H : RulesAt w a rs) (h0 : 0 ≤ left) (h1 : left ≤ 1048576) :
    Calls Try.prog 23 #[.slice a rs.length cap, .int .i64 left] w fun e w' => e = .returned (.int .i64 (szRulesM rs left)) ∧ Below w.heap.size w w' := by
  have hn := H.1
  unfold maxLen at hn
  by_cases c1 : left - (rs.length : Int) < 0
  · go_enter Try.func23, Try.ntmps23
    go_wp2
    go_ret
    exact ⟨ret_int (by unfold szRulesM; rw [if_pos c1]), Below.refl _ _⟩
  · have c1' : decide (left - (rs.length : Int) < 0) = false := by simpa using c1
    go_enter Try.func23, Try.ntmps23
    go_wp2
    go_loopw [1, 5] (fun s i wr => ∃ (k : Nat) (v : Int), k ≤ rs.length ∧ i = .int .i64 k ∧ s = .int .i64 v ∧ 0 ≤ v ∧ v ≤ left ∧ Hid (szFold (rs.drop k) v = szFold rs (left - rs.length)) ∧ Below w.heap.size w wr) (fun _ i _ => rs.length - (intOf i).toNat)
    case atStart => exact ⟨0, left - rs.length, Nat.zero_le _, rfl, rfl, by omega, by omega, rfl, Below.refl _ _⟩
    case round =>
      obtain ⟨k, v, hk, rfl, rfl, hv0, hv1, HS, hb⟩ := hrel
      by_cases hlt : k < rs.length
      · obtain ⟨z1, z2, b, off, e, hbb, c1, c2⟩ := H.2 k hlt
        subst e
        have d1 : wr.cell? ⟨b, off + k * 2, none⟩ = some (.string rs[k].1) := by rw [hb.cell (p := ⟨b, _, none⟩) hbb, c1]
        have d2 : wr.cell? ⟨b, off + k * 2 + 1, none⟩ = some (.string rs[k].2) := by rw [hb.cell (p := ⟨b, _, none⟩) hbb, c2]
        have hle := szRuleM_le rs[k] v hv0
        have HD : Hid (szFold (rs.drop k) v = if szRuleM rs[k] v < 0 then -1 else szFold (rs.drop (k + 1)) (szRuleM rs[k] v)) := by
          show _ = _; rw [List.drop_eq_getElem_cons hlt]; rfl
        go_wp2_with (go_at_call 47; refine (szRule_any _ _ _ _ hv0 (by omega) z1 z2).mono ?_; rintro e w' ⟨rfl, hb'⟩)
        · have hneg : szRuleM rs[k] v < 0 := by assumption
          go_ret
          exact ⟨ret_int (by unfold szRulesM; rw [if_neg (by omega), ← HS.out, HD.out, if_pos hneg]), hb.trans (hb'.mono hb.size)⟩
        · have hpos : 0 ≤ szRuleM rs[k] v := by assumption
          go_roundw
          case rel => exact ⟨k + 1, szRuleM rs[k] v, by omega, by go_num, rfl, hpos, by omega, by show _ = _; rw [← HS.out, HD.out, if_neg (by omega)], hb.trans (hb'.mono hb.size)⟩
          case measure => simp [intOf]; omega
      · go_wp2
        go_ret
        exact ⟨ret_int (by unfold szRulesM; rw [if_neg (by omega), ← HS.out, List.drop_eq_nil_of_le (by omega)]; rfl), hb⟩

theorem szGram_any (st : ByteArray) (a : Option Addr) (cap : Nat) (rs : List RuleT) (left : Int) (w : World) (H : RulesAt w a rs) (hs : st.size ≤ maxLen) (h0 : 0 ≤ left) (h1 : left ≤ 1048576) :
    Calls Try.prog 5 #[.agg #[.string st, .slice a rs.length cap], .int .i64 left] w fun e w' => e = .returned (.int .i64 (szGramM st rs left)) ∧ Below w.heap.size w w' := by
  unfold maxLen at hs
  have hbw := (Below.refl w.heap.size w).alloc (Nat.le_refl _) (.cells #[.string st, .slice a rs.length cap] 24)
  by_cases c1 : left - (st.size : Int) < 0
  · go_enter Try.func5, Try.ntmps5
    go_wp2
    go_ret
    exact ⟨ret_int (by unfold szGramM; rw [if_pos c1]), hbw⟩
  · have hle := szRulesM_le rs (left - st.size) (by omega)
    go_enter Try.func5, Try.ntmps5
    go_wp2_with (go_at_call 23; refine (szRuleS_any _ _ rs _ _ (H.below hbw (Nat.le_refl _)) (by omega) (by omega)).mono ?_; rintro e w' ⟨rfl, hb'⟩)
    all_goals go_ret
    all_goals refine ⟨ret_int ?_, hbw.trans (hb'.mono (by simp))⟩
    · unfold szGramM; rw [if_neg (by omega)]; omega
    · unfold szGramM; rw [if_neg (by omega)]

def eqRs (xs ys : List RuleT) : Bool := decide (xs.length = ys.length) && (List.range xs.length).all fun i => match xs[i]?, ys[i]? with
  | some x, some y => eqR x y
  | _, _ => true
theorem eqRs_len {xs ys : List RuleT} (h : xs.length ≠ ys.length) : eqRs xs ys = false := by simp [eqRs, h]
theorem eqRs_bad {xs ys : List RuleT} {k : Nat} (h1 : k < xs.length) (h2 : k < ys.length) (h : eqR xs[k] ys[k] = false) : eqRs xs ys = false := by
  unfold eqRs
  rw [Bool.and_eq_false_iff]
  right
  rw [List.all_eq_false]
  exact ⟨k, by simpa using h1, by simp [h1, h2, h]⟩
theorem eqRs_all {xs ys : List RuleT} (hl : xs.length = ys.length) (h : ∀ k (h1 : k < xs.length) (h2 : k < ys.length), eqR xs[k] ys[k] = true) : eqRs xs ys = true := by
  unfold eqRs
  rw [Bool.and_eq_true]
  refine ⟨by simpa using hl, ?_⟩
  rw [List.all_eq_true]
  intro i hi
  have h1 : i < xs.length := by simpa using hi
  have h2 : i < ys.length := by omega
  simp [h1, h2, h i h1 h2]
theorem eqR_refl (x : RuleT) : eqR x x = true := by simp [eqR]
theorem eqRs_refl (xs : List RuleT) : eqRs xs xs = true := eqRs_all rfl fun _ _ _ => eqR_refl _

set_option maxHeartbeats 400000 in
theorem eqRuleS_any (a a' : Option Addr) (cap cap' : Nat) (xs ys : List RuleT) (w : World) (HA : RulesAt w a xs) (HB : RulesAt w a' ys) :
    Calls Try.prog 36 #[.slice a xs.length cap, .slice a' ys.length cap'] w fun e w' => e = .returned (.bool (eqRs xs ys)) ∧ Below w.heap.size w w' := by
  have hn := HA.1
  unfold maxLen at hn
  by_cases hl : xs.length = ys.length
  case neg =>
    have hl' : ((xs.length : Int) != (ys.length : Int)) = true := by rw [bne_iff_ne]; omega
    go_enter Try.func36, Try.ntmps36
    go_wp2
    go_ret
    exact ⟨ret_bool (eqRs_len hl).symm, Below.refl _ _⟩
  case pos =>
    have HL := Lib.hid hl
    have hl' : ((xs.length : Int) != (ys.length : Int)) = false := by simp [hl]
    have hle1 : xs.length ≤ ys.length := by omega
    clear hl
    go_enter Try.func36, Try.ntmps36
    go_wp2
    go_loopw [5] (fun i wr => ∃ k : Nat, k ≤ xs.length ∧ i = .int .i64 k ∧ Hid (∀ j (h1 : j < xs.length) (h2 : j < ys.length), j < k → eqR xs[j] ys[j] = true) ∧ Below w.heap.size w wr) (fun i _ => xs.length - (intOf i).toNat)
    case atStart => exact ⟨0, Nat.zero_le _, rfl, fun j _ _ h => by omega, Below.refl _ _⟩
    case round =>
      obtain ⟨k, hk, rfl, HN, hb⟩ := hrel
      by_cases hlt : k < xs.length
      · have hlt2 : k < ys.length := by omega
        obtain ⟨z1, z2, b, off, e, hbb, c1, c2⟩ := HA.2 k hlt
        obtain ⟨z1', z2', b', off', e', hbb', c1', c2'⟩ := HB.2 k hlt2
        subst e e'
        have hsz := hb.size
        have d1 : wr.cell? ⟨b, off + k * 2, none⟩ = some (.string xs[k].1) := by rw [hb.cell (p := ⟨b, _, none⟩) hbb, c1]
        have d2 : wr.cell? ⟨b, off + k * 2 + 1, none⟩ = some (.string xs[k].2) := by rw [hb.cell (p := ⟨b, _, none⟩) hbb, c2]
        have d1' : wr.cell? ⟨b', off' + k * 2, none⟩ = some (.string ys[k].1) := by rw [hb.cell (p := ⟨b', _, none⟩) hbb', c1']
        have d2' : wr.cell? ⟨b', off' + k * 2 + 1, none⟩ = some (.string ys[k].2) := by rw [hb.cell (p := ⟨b', _, none⟩) hbb', c2']
        have g1 : ∀ x, (grow wr x).cell? ⟨b, off + k * 2, none⟩ = some (.string xs[k].1) := fun x => by rw [grow_cell _ _ _ _ (by omega), d1]
        have g2 : ∀ x, (grow wr x).cell? ⟨b, off + k * 2 + 1, none⟩ = some (.string xs[k].2) := fun x => by rw [grow_cell _ _ _ _ (by omega), d2]
        have g3 : ∀ x, (grow wr x).cell? ⟨b', off' + k * 2, none⟩ = some (.string ys[k].1) := fun x => by rw [grow_cell _ _ _ _ (by omega), d1']
        have g4 : ∀ x, (grow wr x).cell? ⟨b', off' + k * 2 + 1, none⟩ = some (.string ys[k].2) := fun x => by rw [grow_cell _ _ _ _ (by omega), d2']
        have hkl : (k : Int) < (xs.length : Int) := by omega
        have hkl' : (k : Int) < (ys.length : Int) := by omega
        go_wp2
        refine wp_region_grow (by kernel_rfl) (by kernel_rfl) ?_
        repeat (go_big_quiet_step ((go_at_call 61; exact Calls.grow_of (eqRule_any _ _ _ _ _))))
        refine wpQuiet_nil ?_
        rintro _ ⟨x, rfl⟩
        have hfin : Below w.heap.size w (grow wr x) := hb.trans ((below_grow _ _).mono hsz)
        cases he : eqR (xs[k].1, xs[k].2) (ys[k].1, ys[k].2) with
        | false =>
          go_wp2
          go_ret
          exact ⟨ret_bool (eqRs_bad hlt hlt2 he).symm, hfin⟩
        | true =>
          have HE := Lib.hid he
          go_wp2
          go_roundw
          case rel => exact ⟨k + 1, by omega, by go_num, fun j h1 h2 hj => by
                        by_cases e : j = k
                        · subst e; exact HE.out
                        · exact HN.out j h1 h2 (by omega), hfin⟩
          case measure => simp [intOf]; omega
      · go_wp2
        go_ret
        exact ⟨ret_bool (eqRs_all HL.out (fun j h1 h2 => HN.out j h1 h2 (by omega))).symm, hb⟩

def eqG (sa : ByteArray) (xs : List RuleT) (sb : ByteArray) (ys : List RuleT) : Bool := sa.toList == sb.toList && eqRs xs ys
theorem eqG_refl (sa : ByteArray) (xs : List RuleT) : eqG sa xs sa xs = true := by simp [eqG, eqRs_refl]
theorem eqGram_any (sa sb : ByteArray) (a a' : Option Addr) (cap cap' : Nat) (xs ys : List RuleT) (w : World) (HA : RulesAt w a xs) (HB : RulesAt w a' ys) :
    Calls Try.prog 12 #[.agg #[.string sa, .slice a xs.length cap], .agg #[.string sb, .slice a' ys.length cap']] w fun e w' => e = .returned (.bool (eqG sa xs sb ys)) ∧ Below w.heap.size w w' := by
  have hbw := ((Below.refl w.heap.size w).alloc (Nat.le_refl _) (.cells #[.string sa, .slice a xs.length cap] 35)).alloc (by simp) (.cells #[.string sb, .slice a' ys.length cap'] 35)
  go_enter Try.func12, Try.ntmps12
  go_wp2_with (go_at_call 36; refine (eqRuleS_any _ _ _ _ xs ys _ (HA.below hbw (Nat.le_refl _)) (HB.below hbw (Nat.le_refl _))).mono ?_; rintro e w' ⟨rfl, hb'⟩)
  all_goals go_ret
  · exact ⟨ret_bool (by unfold eqG; simp_all), hbw⟩
  · exact ⟨ret_bool (by unfold eqG; simp_all), hbw.trans (hb'.mono (by simp; omega))⟩
  · exact ⟨ret_bool (by unfold eqG; simp_all), hbw.trans (hb'.mono (by simp; omega))⟩
end Go.Proofs.Ytcningdeocmbgaa
