/- GramOnly of the program: the rules that a list of places names. -/
import Derived.Test.YtjpkohahabclgaaBentA
namespace Go.Proofs.Ytjpkohahabclgaa
open Go.ChangeShapes Go.WideShapes Go.ChangeAt Go.RowKit
set_option maxRecDepth 100000
/-- whole numbers in memory -/
def IntsAt (w : World) (a : Option Addr) (zs : List Int) : Prop := zs.length ≤ maxLen ∧ ∀ i (h : i < zs.length), ∃ b off, a = some ⟨b, off, none⟩ ∧ b < w.heap.size ∧ w.cell? ⟨b, off + i, none⟩ = some (.int .i64 zs[i])
theorem IntsAt.below {w w' : World} {a : Option Addr} {zs : List Int} (h : IntsAt w a zs) (hb : Below w.heap.size w w') : IntsAt w' a zs := by
  refine ⟨h.1, fun i hi => ?_⟩
  obtain ⟨b, off, e, hl, hc⟩ := h.2 i hi
  exact ⟨b, off, e, Nat.lt_of_lt_of_le hl hb.size, by rw [hb.cell (p := ⟨b, _, none⟩) hl]; exact hc⟩
def hasI (zs : List Int) (v : Int) : Bool := zs.any fun z => z == v
theorem hasI_true {zs : List Int} {v : Int} {k : Nat} (h : k < zs.length) (e : v = zs[k]) : hasI zs v = true := by
  unfold hasI
  rw [List.any_eq_true]
  exact ⟨zs[k], List.getElem_mem h, by simp [e]⟩
theorem hasI_false {zs : List Int} {v : Int} (h : ∀ k (hk : k < zs.length), ¬ v = zs[k]) : hasI zs v = false := by
  unfold hasI
  rw [List.any_eq_false]
  intro z hz
  obtain ⟨k, hk, rfl⟩ := List.getElem_of_mem hz
  have := h k hk
  rw [beq_iff_eq]
  exact fun e => this e.symm
set_option maxHeartbeats 400000 in
theorem indexI_any (a : Option Addr) (cap : Nat) (zs : List Int) (v : Int) (w : World) (H : IntsAt w a zs) :
    Calls Try.prog 99 #[.slice a zs.length cap, .int .i64 v] w fun e w' => ∃ i : Int, e = .returned (.int .i64 i) ∧ decide (0 ≤ i) = hasI zs v ∧ w = w' := by
  have hn := H.1
  unfold maxLen at hn
  go_enter Try.func99, Try.ntmps99
  go_wp2
  go_loop [8] (fun i => ∃ k : Nat, k ≤ zs.length ∧ i = .int .i64 k ∧ Hid (∀ j (h : j < zs.length), j < k → ¬ v = zs[j])) (fun i => zs.length - (intOf i).toNat)
  case atStart => exact ⟨0, Nat.zero_le _, rfl, fun j _ h => absurd h (Nat.not_lt_zero _)⟩
  case round =>
    obtain ⟨k, hk, rfl, HN⟩ := hrel
    by_cases hlt : k < zs.length
    · obtain ⟨b, off, e, hb, c1⟩ := H.2 k hlt
      subst e
      have hkl : (k : Int) < (zs.length : Int) := by omega
      by_cases hv : v = zs[k]
      · have hd : (v == zs[k]) = true := by simpa using hv
        clear hv
        go_wp2
        go_ret
        exact ⟨_, rfl, by rw [hasI_true hlt (by simpa using hd)]; simp, rfl⟩
      · have hd : (v == zs[k]) = false := by simpa using hv
        have HV := Lib.hid hv
        clear hv
        go_wp2
        go_round
        case rel => exact ⟨k + 1, by omega, by go_num, fun j hj h => by
                      by_cases e : j = k
                      · subst e; exact HV.out
                      · exact HN.out j hj (by omega)⟩
        case measure => simp [intOf]; omega
    · have hkl : ¬ (k : Int) < (zs.length : Int) := by omega
      go_wp2
      go_ret
      exact ⟨-1, rfl, by rw [hasI_false (fun j hj => HN.out j hj (by omega))]; decide, rfl⟩
theorem containsI_any (a : Option Addr) (cap : Nat) (zs : List Int) (v : Int) (w : World) (H : IntsAt w a zs) :
    Calls Try.prog 61 #[.slice a zs.length cap, .int .i64 v] w fun e w' => e = .returned (.bool (hasI zs v)) ∧ w = w' := by
  go_enter Try.func61, Try.ntmps61
  go_wp2_with fail
  refine (indexI_any a cap zs v w H).mono ?_
  rintro e w2 ⟨i, rfl, hi, rfl⟩
  go_wp2
  go_ret
  exact ⟨rfl, rfl⟩
/-- the first k rules, of them those that are named -/
def onlyTo (rs : List RuleT) (zs : List Int) : Nat → List RuleT
  | 0 => []
  | k + 1 => onlyTo rs zs k ++ (if hasI zs (k : Int) then (rs[k]?).toList else [])
theorem onlyTo_len (rs : List RuleT) (zs : List Int) : ∀ k, (onlyTo rs zs k).length ≤ k
  | 0 => Nat.le_refl _
  | k + 1 => by
    have := onlyTo_len rs zs k
    unfold onlyTo
    split
    · cases rs[k]? <;> simp <;> omega
    · simp; omega
theorem onlyTo_yes {rs : List RuleT} {zs : List Int} {k : Nat} (hk : k < rs.length) (h : hasI zs (k : Int) = true) : onlyTo rs zs (k + 1) = onlyTo rs zs k ++ [(rs[k].1, rs[k].2)] := by
  rw [onlyTo, if_pos h]; simp [hk]
theorem onlyTo_no {rs : List RuleT} {zs : List Int} {k : Nat} (h : hasI zs (k : Int) = false) : onlyTo rs zs (k + 1) = onlyTo rs zs k := by
  rw [onlyTo, if_neg (by simp [h])]; simp
theorem onlyTo_small {rs : List RuleT} {zs : List Int} (h : SmallR rs) : ∀ k, SmallR (onlyTo rs zs k)
  | 0 => fun r hr => by cases hr
  | k + 1 => by
    intro r hr
    unfold onlyTo at hr
    rcases List.mem_append.1 hr with hr | hr
    · exact onlyTo_small h k r hr
    · split at hr
      · have := List.mem_of_getElem? (Option.mem_toList.1 hr)
        exact h r this
      · cases hr
end Go.Proofs.Ytjpkohahabclgaa
