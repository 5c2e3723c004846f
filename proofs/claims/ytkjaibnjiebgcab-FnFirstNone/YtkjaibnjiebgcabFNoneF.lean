/- The walk of FnFirstNone. -/
import Derived.Test.YtkjaibnjiebgcabFirI
import Derived.Test.YtkjaibnjiebgcabDrawI
namespace Go.Proofs.Ytkjaibnjiebgcab
open Go.ChangeShapes Go.WideShapes Go.ChangeAt Go.RowKit
set_option maxRecDepth 100000
theorem firstRes_empty (st : ByteArray) (rs : List RuleT) (F : V5) : firstRes st rs F ⟨#[]⟩ = ([], gramOkB st rs) := by
  have h1 : allSym ⟨#[]⟩ = true := by decide
  unfold firstRes firstAsk
  rw [h1]
  cases gramOkB st rs
  · simp
  · simp [ByteArray.size, firstA]; decide
theorem firstRes_a (st : ByteArray) (rs : List RuleT) (F : V5) : firstRes st rs F ⟨#[97]⟩ = (if gramOkB st rs = true then [97] else [], false) := by
  have h1 : allSym ⟨#[97]⟩ = true := by decide
  have h2 : textN 64 = [97] := by decide
  have h3 : firstA (leftsLeast rs 0) F 0 (⟨#[97]⟩ : ByteArray).data.toList = (64, false) := by
    show firstA _ F 0 [97] = _
    unfold firstA
    rw [if_pos (by decide)]; rfl
  unfold firstRes firstAsk
  rw [h1, h3, h2]
  cases gramOkB st rs
  · simp
  · simp [ByteArray.size]
theorem firstOf_empty (st : ByteArray) (a : Option Addr) (cap : Nat) (rs : List RuleT) (w : World) (H : RulesAt w a rs) (hcap : rs.length ≤ cap) :
    Calls Try.prog 29 #[.agg #[.string st, .slice a rs.length cap], .string ⟨#[]⟩] w fun e w' => e = .returned (.tuple #[.string ⟨#[]⟩, .bool (gramOkB st rs)]) ∧ Below w.heap.size w w' :=
  (firstOf_any st a cap rs ⟨#[]⟩ w H hcap (by simp [ByteArray.size, maxLen])).mono fun e w' ⟨F, _, he, hb⟩ => ⟨by rw [he, firstRes_empty]; rfl, hb⟩
theorem sFirstOf_empty (st : ByteArray) (a : Option Addr) (cap : Nat) (rs : List RuleT) (w : World) (H : RulesAt w a rs) (hcap : rs.length ≤ cap) :
    Calls Try.prog 30 #[.agg #[.string st, .slice a rs.length cap], .string ⟨#[]⟩] w fun e w' => e = .returned (.tuple #[.string ⟨#[]⟩, .bool (gramOkB st rs)]) ∧ Below w.heap.size w w' :=
  (sFirstOf_any st a cap rs ⟨#[]⟩ w H hcap (by simp [ByteArray.size, maxLen])).mono fun e w' ⟨F, _, he, hb⟩ => ⟨by rw [he, firstRes_empty]; rfl, hb⟩
def aText (b : Bool) : ByteArray := if b then ⟨#[97]⟩ else ⟨#[]⟩
theorem firstOf_a (st : ByteArray) (a : Option Addr) (cap : Nat) (rs : List RuleT) (w : World) (H : RulesAt w a rs) (hcap : rs.length ≤ cap) :
    Calls Try.prog 29 #[.agg #[.string st, .slice a rs.length cap], .string ⟨#[97]⟩] w fun e w' => e = .returned (.tuple #[.string (aText (gramOkB st rs)), .bool false]) ∧ Below w.heap.size w w' :=
  (firstOf_any st a cap rs ⟨#[97]⟩ w H hcap (by simp [ByteArray.size, maxLen])).mono fun e w' ⟨F, _, he, hb⟩ => ⟨by rw [he, firstRes_a]; cases gramOkB st rs <;> rfl, hb⟩
set_option maxHeartbeats 4000000 in
theorem fNoneF_law (a : Option Addr) (n cap : Nat) (w : World) (H : BytesAt w a n cap) :
    Calls Try.prog 11 #[.slice a n cap] w fun e w' => e = .returned (.bool true) ∧ Below w.heap.size w w' := by
  have hm := H.2.1
  unfold maxLen at hm
  by_cases h : (1048576 : Int) < (n : Int)
  · go_enter Try.func11, Try.ntmps11
    go_wp2
    go_ret
    exact ⟨rfl, Below.refl _ _⟩
  go_enter Try.func11, Try.ntmps11
  go_wp2_with fail
  refine (drawFirstOf_any a n cap w H).mono ?_
  rintro e w1 ⟨v1, st, rs, s, rfl, ⟨b, off, c1, rfl, hc1, hR1, hl1, hs1, hS1, hb1⟩, hss, hB1⟩
  have hbw := (Below.refl w1.heap.size w1).alloc (Nat.le_refl _) (.cells #[.string st, .slice (some ⟨b, off, none⟩) rs.length c1] 25)
  have hR2 := hR1.below hbw (Nat.le_refl _)
  have hG : GBox (w1.alloc (.cells #[.string st, .slice (some ⟨b, off, none⟩) rs.length c1] 25)) w1.heap.size st (some ⟨b, off, none⟩) rs.length c1 := blk_new _ _ rfl
  go_wp2_with fail
  refine (firstOf_empty st (some ⟨b, off, none⟩) c1 rs _ hR2 hc1).mono ?_
  rintro e w3 ⟨rfl, hb3⟩
  have hG3 := hG.below hb3
  have hR3 := hR2.below hb3 (Nat.le_refl _)
  have hB3 : Below w.heap.size w w3 := hB1.trans ((hbw.trans (hb3.mono (by simp))).mono hB1.size)
  obtain ⟨g0, g1⟩ := hG3.cells
  clear hG hR2 hb3 hbw
  go_wp2_with fail
  refine (firstOf_a st (some ⟨b, off, none⟩) c1 rs _ hR3 hc1).mono ?_
  rintro e w4 ⟨rfl, hb4⟩
  have hG4 := hG3.below hb4
  have hR4 := hR3.below hb4 (Nat.le_refl _)
  have hB4 : Below w.heap.size w w4 := hB3.trans (hb4.mono hB3.size)
  clear g0 g1 hG3 hR3 hb4 hB3 hR1
  obtain ⟨g0, g1⟩ := hG4.cells
  go_wp2_with fail
  refine (sFirstOf_empty st (some ⟨b, off, none⟩) c1 rs _ hR4 hc1).mono ?_
  rintro e w5 ⟨rfl, hb5⟩
  have hG5 := hG4.below hb5
  have hR5 := hR4.below hb5 (Nat.le_refl _)
  have hB5 : Below w.heap.size w w5 := hB4.trans (hb5.mono hB4.size)
  clear g0 g1 hG4 hR4 hb5 hB4
  obtain ⟨g0, g1⟩ := hG5.cells
  cases hok : gramOkB st rs with
  | false =>
    rw [show aText false = ⟨#[]⟩ from rfl]
    go_wp2_with fail
    refine (sGramOk_any st (some ⟨b, off, none⟩) c1 rs _ hR5 hc1).mono ?_
    rintro e w6 ⟨rfl, hb6⟩
    rw [hok]
    have hG6 := hG5.below hb6
    have hR6 := hR5.below hb6 (Nat.le_refl _)
    have hB6 : Below w.heap.size w w6 := hB5.trans (hb6.mono hB5.size)
    clear g0 g1 hG5 hR5 hb6 hB5
    obtain ⟨g0, g1⟩ := hG6.cells
    go_wp2_with fail
    refine (sGramOk_any st (some ⟨b, off, none⟩) c1 rs _ hR6 hc1).mono ?_
    rintro e w7 ⟨rfl, hb7⟩
    rw [hok]
    have hG7 := hG6.below hb7
    have hR7 := hR6.below hb7 (Nat.le_refl _)
    have hB7 : Below w.heap.size w w7 := hB6.trans (hb7.mono hB6.size)
    clear g0 g1 hG6 hR6 hb7 hB6
    obtain ⟨g0, g1⟩ := hG7.cells
    go_wp2_with fail
    refine (sGramOk_any st (some ⟨b, off, none⟩) c1 rs _ hR7 hc1).mono ?_
    rintro e w8 ⟨rfl, hb8⟩
    rw [hok]
    go_wp2
    go_ret
    exact ⟨by first | rfl | simp [bytesOf], hB7.trans (hb8.mono hB7.size)⟩
  | true =>
    rw [show aText true = ⟨#[97]⟩ from rfl]
    go_wp2_with fail
    refine (sGramOk_any st (some ⟨b, off, none⟩) c1 rs _ hR5 hc1).mono ?_
    rintro e w6 ⟨rfl, hb6⟩
    rw [hok]
    have hG6 := hG5.below hb6
    have hR6 := hR5.below hb6 (Nat.le_refl _)
    have hB6 : Below w.heap.size w w6 := hB5.trans (hb6.mono hB5.size)
    clear g0 g1 hG5 hR5 hb6 hB5
    obtain ⟨g0, g1⟩ := hG6.cells
    go_wp2_with fail
    refine (sGramOk_any st (some ⟨b, off, none⟩) c1 rs _ hR6 hc1).mono ?_
    rintro e w7 ⟨rfl, hb7⟩
    rw [hok]
    go_wp2
    go_ret
    exact ⟨by first | rfl | simp [bytesOf], hB6.trans (hb7.mono hB6.size)⟩
end Go.Proofs.Ytkjaibnjiebgcab
