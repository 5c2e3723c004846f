/- Contracts of slices.Equal over rules and of GramSame, the program's and the model's. -/
import Derived.Test.YtjpkohahabclgaaLawB
namespace Go.Proofs.Ytjpkohahabclgaa
open Go.ChangeShapes Go.WideShapes Go.ChangeAt Go.RowKit
theorem run_neq_rule (a b c d : ByteArray) (w : World) : Sem.run Try.prog (binOp .neq 55 (.agg #[.string a, .string b]) (.agg #[.string c, .string d])) w = .ok (.bool (!eqR (a, b) (c, d))) w := by
  rw [run_neq_struct, equalIn_rule]; rfl

set_option maxHeartbeats 400000 in
theorem equal_any (a a' : Option Addr) (cap cap' : Nat) (xs ys : List RuleT) (w : World) (HA : RulesAt w a xs) (HB : RulesAt w a' ys) :
    Calls Try.prog 82 #[.slice a xs.length cap, .slice a' ys.length cap'] w fun e w' => e = .returned (.bool (eqRs xs ys)) ∧ Below w.heap.size w w' := by
  have hn := HA.1
  unfold maxLen at hn
  have heq := run_neq_rule
  have hgd := eqGuard_rule
  by_cases hl : xs.length = ys.length
  case neg =>
    have hl' : ((xs.length : Int) != (ys.length : Int)) = true := by rw [bne_iff_ne]; omega
    go_enter Try.func82, Try.ntmps82
    go_wp2
    go_ret
    exact ⟨ret_bool (eqRs_len hl).symm, Below.refl _ _⟩
  case pos =>
    have HL := Lib.hid hl
    have hl' : ((xs.length : Int) != (ys.length : Int)) = false := by simp [hl]
    have hle1 : xs.length ≤ ys.length := by omega
    clear hl
    go_enter Try.func82, Try.ntmps82
    go_wp2
    go_loopw [13] (fun i wr => ∃ k : Nat, k ≤ xs.length ∧ i = .int .i64 k ∧ Hid (∀ j (h1 : j < xs.length) (h2 : j < ys.length), j < k → eqR xs[j] ys[j] = true) ∧ ∃ n, wr = w.drewN n) (fun i _ => xs.length - (intOf i).toNat)
    case atStart => exact ⟨0, Nat.zero_le _, rfl, fun j _ _ h => by omega, 0, rfl⟩
    case round =>
      obtain ⟨k, hk, rfl, HN, n, rfl⟩ := hrel
      by_cases hlt : k < xs.length
      · have hlt2 : k < ys.length := by omega
        obtain ⟨z1, z2, b, off, e, hbb, c1, c2⟩ := HA.2 k hlt
        obtain ⟨z1', z2', b', off', e', hbb', c1', c2'⟩ := HB.2 k hlt2
        subst e e'
        have hkl : (k : Int) < (xs.length : Int) := by omega
        have hkl' : (k : Int) < (ys.length : Int) := by omega
        go_wp2
        go_quiet (fail)
        cases he : eqR (xs[k].1, xs[k].2) (ys[k].1, ys[k].2) with
        | false =>
          go_wp2
          go_ret
          exact ⟨ret_bool (eqRs_bad hlt hlt2 he).symm, rfl, rfl, rfl, Nat.le_refl _, fun _ _ => rfl⟩
        | true =>
          have HE := Lib.hid he
          go_wp2
          go_roundw
          case rel => exact ⟨k + 1, by omega, by go_num, fun j h1 h2 hj => by
                        by_cases e : j = k
                        · subst e; exact HE.out
                        · exact HN.out j h1 h2 (by omega), _, rfl⟩
          case measure => simp [intOf]; omega
      · go_wp2
        go_ret
        exact ⟨ret_bool (eqRs_all HL.out (fun j h1 h2 => HN.out j h1 h2 (by omega))).symm, rfl, rfl, rfl, Nat.le_refl _, fun _ _ => rfl⟩

theorem gramSame_any (sa sb : ByteArray) (a a' : Option Addr) (cap cap' : Nat) (xs ys : List RuleT) (w : World) (HA : RulesAt w a xs) (HB : RulesAt w a' ys) :
    Calls Try.prog 38 #[.agg #[.string sa, .slice a xs.length cap], .agg #[.string sb, .slice a' ys.length cap']] w fun e w' => e = .returned (.bool (eqG sa xs sb ys)) ∧ Below w.heap.size w w' := by
  have hbw := ((Below.refl w.heap.size w).alloc (Nat.le_refl _) (.cells #[.string sa, .slice a xs.length cap] 24)).alloc (by simp) (.cells #[.string sb, .slice a' ys.length cap'] 24)
  cases hs : (sa.toList == sb.toList) with
  | false =>
    go_enter Try.func38, Try.ntmps38
    go_wp2
    go_ret
    exact ⟨ret_bool (by unfold eqG; rw [hs]; rfl), hbw⟩
  | true =>
    go_enter Try.func38, Try.ntmps38
    go_wp2_with (go_at_call 82; refine (equal_any _ _ _ _ xs ys _ (HA.below hbw (Nat.le_refl _)) (HB.below hbw (Nat.le_refl _))).mono ?_; rintro e w' ⟨rfl, hb'⟩)
    go_ret
    exact ⟨ret_bool (by unfold eqG; rw [hs]; rfl), hbw.trans (hb'.mono (by simp; omega))⟩

end Go.Proofs.Ytjpkohahabclgaa
