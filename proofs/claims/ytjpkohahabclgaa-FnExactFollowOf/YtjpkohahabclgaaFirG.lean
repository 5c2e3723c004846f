/- The contract of the program's FirstOf. -/
import Derived.Test.YtjpkohahabclgaaFirF
namespace Go.Proofs.Ytjpkohahabclgaa
open Go.ChangeShapes Go.WideShapes Go.ChangeAt Go.RowKit
set_option maxRecDepth 100000
def firstAsk (st : ByteArray) (rs : List RuleT) (s : ByteArray) : Bool := gramOkB st rs && (decide (s.size ≤ 8) && allSym s)
/-- what FirstOf tells, by the FIRST sets -/
def firstRes (st : ByteArray) (rs : List RuleT) (F : V5) (s : ByteArray) : List UInt8 × Bool := if firstAsk st rs s = true then (textN (firstA (leftsLeast rs 0) F 0 s.data.toList).1, (firstA (leftsLeast rs 0) F 0 s.data.toList).2) else ([], false)
def FirstSays (st : ByteArray) (rs : List RuleT) (s : ByteArray) (w : World) (e : Ending) (w' : World) : Prop :=
  ∃ F, (firstAsk st rs s = true → IsFirst rs (leftsLeast rs 0) F) ∧ e = .returned (.tuple #[.string (bytesOf (firstRes st rs F s).1), .bool (firstRes st rs F s).2]) ∧ Below w.heap.size w w'
set_option maxHeartbeats 1000000 in
theorem firstOf_any (st : ByteArray) (a : Option Addr) (cap : Nat) (rs : List RuleT) (s : ByteArray) (w : World) (H : RulesAt w a rs) (hcap : rs.length ≤ cap) (hs : s.size ≤ maxLen) :
    Calls Try.prog 45 #[.agg #[.string st, .slice a rs.length cap], .string s] w (FirstSays st rs s w) := by
  have hG : GBox (w.alloc (.cells #[.string st, .slice a rs.length cap] 24)) w.heap.size st a rs.length cap := blk_new _ _ rfl
  have hbw := (Below.refl w.heap.size w).alloc (Nat.le_refl _) (.cells #[.string st, .slice a rs.length cap] 24)
  go_enter Try.func45, Try.ntmps45
  go_wp2_with fail
  refine (gramOk_any _ _ _ rs _ (H.below hbw (Nat.le_refl _)) hcap).mono ?_
  rintro e w2 ⟨rfl, hb2⟩
  have c2 : Below w.heap.size w w2 := hbw.trans (hb2.mono (by simp))
  obtain ⟨g0, g1⟩ := (hG.below hb2).cells
  have H2 := H.below c2 (Nat.le_refl _)
  clear hG hbw hb2
  cases hok : gramOkB st rs with
  | false =>
    go_wp2
    exact bodyPost_ret (v := .tuple #[.string ⟨#[]⟩, .bool false]) (by simp [results, Try.results45, go_sem]) rfl ⟨zero5, (fun h => by simp [firstAsk, hok] at h), by simp [firstRes, firstAsk, hok, bytesOf], c2⟩
  | true =>
    by_cases h8 : (8 : Int) < (s.size : Int)
    · have h8' : ¬ s.size ≤ 8 := by omega
      go_wp2_with fail
      exact bodyPost_ret (v := .tuple #[.string ⟨#[]⟩, .bool false]) (by simp [results, Try.results45, go_sem]) rfl ⟨zero5, (fun h => by simp [firstAsk, h8'] at h), by simp [firstRes, firstAsk, h8', bytesOf], c2⟩
    · have h8' : s.size ≤ 8 := by omega
      have h8d : decide ((8 : Int) < (s.size : Int)) = false := by simpa using h8
      clear h8
      go_wp2_with fail
      refine (allSymbols_any s _ hs).mono ?_
      rintro e w3 ⟨rfl, rfl⟩
      cases hsym : allSym s with
      | false =>
        go_wp2
        exact bodyPost_ret (v := .tuple #[.string ⟨#[]⟩, .bool false]) (by simp [results, Try.results45, go_sem]) rfl ⟨zero5, (fun h => by simp [firstAsk, hsym] at h), by simp [firstRes, firstAsk, hsym, bytesOf], c2⟩
      | true =>
        go_wp2_with fail
        refine (firstSetsOf_any st a cap rs _ H2 hok).mono ?_
        rintro e w4 ⟨F, rfl, hF, hb4⟩
        have hn := leftsLeast_lt rs 0
        have hask : firstAsk st rs s = true := by simp [firstAsk, hok, hsym]; omega
        have hlt := firstA_lt (n := leftsLeast rs 0) hF.1 s.data.toList 0 (by omega)
        go_wp2_with fail
        refine (ofFirst_any (leftsLeast rs 0) F s _ hn hF.1 (by omega) hsym).mono ?_
        rintro e w5 ⟨rfl, hb5⟩
        go_wp2_with fail
        refine (setText_any _ _ hlt).mono ?_
        rintro e w6 ⟨rfl, hb6⟩
        have hfin : Below w.heap.size w w6 := c2.trans (((hb4.trans (hb5.mono hb4.size)).trans (hb6.mono (Nat.le_trans hb4.size hb5.size))).mono c2.size)
        go_wp2
        exact bodyPost_ret (v := .tuple #[.string (bytesOf (textN (firstA (leftsLeast rs 0) F 0 s.data.toList).1)), .bool (firstA (leftsLeast rs 0) F 0 s.data.toList).2]) (by simp [results, Try.results45, go_sem]) rfl ⟨F, (fun _ => hF), by unfold firstRes; rw [if_pos hask], hfin⟩
end Go.Proofs.Ytjpkohahabclgaa
