/- The walk of FnSetsBent. -/
import Derived.Test.YtkjaibnjiebgcabDrawI
import Derived.Test.YtkjaibnjiebgcabSetE
namespace Go.Proofs.Ytkjaibnjiebgcab
open Go.ChangeShapes Go.WideShapes Go.ChangeAt Go.RowKit
set_option maxRecDepth 100000
theorem rules_none (w : World) : RulesAt w none [] := ⟨by simp [maxLen], fun i h => absurd h (Nat.not_lt_zero i)⟩
theorem gramNone_bad (st : ByteArray) (a : Option Addr) (cap : Nat) (rs : List RuleT) (w : World) (H : RulesAt w a rs) (hcap : rs.length ≤ cap) (hok : gramOkB st rs = false) :
    Calls Try.prog 15 #[.agg #[.string st, .slice a rs.length cap]] w fun e w' => e = .returned (.string ⟨#[]⟩) ∧ Below w.heap.size w w' := by
  have hbw := (Below.refl w.heap.size w).alloc (Nat.le_refl _) (.cells #[.string st, .slice a rs.length cap] 25)
  go_enter Try.func15, Try.ntmps15
  go_wp2_with fail
  refine (gramOk_any _ _ _ rs _ (H.below hbw (Nat.le_refl _)) hcap).mono ?_
  rintro e w2 ⟨rfl, hb2⟩
  rw [hok]
  have c2 : Below w.heap.size w w2 := hbw.trans (hb2.mono (by simp))
  clear hb2 hbw
  go_wp2
  go_ret
  exact ⟨rfl, c2⟩
theorem gramMade_bad (st : ByteArray) (a : Option Addr) (cap : Nat) (rs : List RuleT) (w : World) (H : RulesAt w a rs) (hcap : rs.length ≤ cap) (hok : gramOkB st rs = false) :
    Calls Try.prog 21 #[.agg #[.string st, .slice a rs.length cap]] w fun e w' => e = .returned (.string ⟨#[]⟩) ∧ Below w.heap.size w w' := by
  have hbw := (Below.refl w.heap.size w).alloc (Nat.le_refl _) (.cells #[.string st, .slice a rs.length cap] 25)
  go_enter Try.func21, Try.ntmps21
  go_wp2_with fail
  refine (gramOk_any _ _ _ rs _ (H.below hbw (Nat.le_refl _)) hcap).mono ?_
  rintro e w2 ⟨rfl, hb2⟩
  rw [hok]
  have c2 : Below w.heap.size w w2 := hbw.trans (hb2.mono (by simp))
  clear hb2 hbw
  go_wp2
  go_ret
  exact ⟨rfl, c2⟩
theorem gramMet_bad (st : ByteArray) (a : Option Addr) (cap : Nat) (rs : List RuleT) (w : World) (H : RulesAt w a rs) (hcap : rs.length ≤ cap) (hok : gramOkB st rs = false) :
    Calls Try.prog 25 #[.agg #[.string st, .slice a rs.length cap]] w fun e w' => e = .returned (.string ⟨#[]⟩) ∧ Below w.heap.size w w' := by
  have hbw := (Below.refl w.heap.size w).alloc (Nat.le_refl _) (.cells #[.string st, .slice a rs.length cap] 25)
  go_enter Try.func25, Try.ntmps25
  go_wp2_with fail
  refine (gramOk_any _ _ _ rs _ (H.below hbw (Nat.le_refl _)) hcap).mono ?_
  rintro e w2 ⟨rfl, hb2⟩
  rw [hok]
  have c2 : Below w.heap.size w w2 := hbw.trans (hb2.mono (by simp))
  clear hb2 hbw
  go_wp2
  go_ret
  exact ⟨rfl, c2⟩
theorem followOf_bad (st : ByteArray) (a : Option Addr) (cap : Nat) (rs : List RuleT) (s : ByteArray) (w : World) (H : RulesAt w a rs) (hcap : rs.length ≤ cap) (hok : gramOkB st rs = false) :
    Calls Try.prog 32 #[.agg #[.string st, .slice a rs.length cap], .string s] w fun e w' => e = .returned (.string ⟨#[]⟩) ∧ Below w.heap.size w w' := by
  have hbw := (Below.refl w.heap.size w).alloc (Nat.le_refl _) (.cells #[.string st, .slice a rs.length cap] 25)
  go_enter Try.func32, Try.ntmps32
  go_wp2_with fail
  refine (gramOk_any _ _ _ rs _ (H.below hbw (Nat.le_refl _)) hcap).mono ?_
  rintro e w2 ⟨rfl, hb2⟩
  rw [hok]
  have c2 : Below w.heap.size w w2 := hbw.trans (hb2.mono (by simp))
  clear hb2 hbw
  go_wp2
  go_ret
  exact ⟨rfl, c2⟩
theorem firstOf_bad (st : ByteArray) (a : Option Addr) (cap : Nat) (rs : List RuleT) (s : ByteArray) (w : World) (H : RulesAt w a rs) (hcap : rs.length ≤ cap) (hok : gramOkB st rs = false) :
    Calls Try.prog 29 #[.agg #[.string st, .slice a rs.length cap], .string s] w fun e w' => e = .returned (.tuple #[.string ⟨#[]⟩, .bool false]) ∧ Below w.heap.size w w' := by
  have hbw := (Below.refl w.heap.size w).alloc (Nat.le_refl _) (.cells #[.string st, .slice a rs.length cap] 25)
  go_enter Try.func29, Try.ntmps29
  go_wp2_with fail
  refine (gramOk_any _ _ _ rs _ (H.below hbw (Nat.le_refl _)) hcap).mono ?_
  rintro e w2 ⟨rfl, hb2⟩
  rw [hok]
  have c2 : Below w.heap.size w w2 := hbw.trans (hb2.mono (by simp))
  clear hb2 hbw
  go_wp2
  exact bodyPost_ret (v := .tuple #[.string ⟨#[]⟩, .bool false]) (by simp [results, Try.results29, go_sem]) rfl ⟨rfl, c2⟩
theorem gramTrim_bad (st : ByteArray) (a : Option Addr) (cap : Nat) (rs : List RuleT) (w : World) (H : RulesAt w a rs) (hcap : rs.length ≤ cap) (hok : gramOkB st rs = false) :
    Calls Try.prog 35 #[.agg #[.string st, .slice a rs.length cap]] w fun e w' => e = .returned (.agg #[.string ⟨#[]⟩, .slice none 0 0]) ∧ Below w.heap.size w w' := by
  have hbw := ((Below.refl w.heap.size w).alloc (Nat.le_refl _) (.cells #[.string st, .slice a rs.length cap] 25)).alloc (by simp) (.cells #[.string ⟨#[]⟩, .slice none 0 0] 25)
  have hZ : BoxG ((w.alloc (.cells #[.string st, .slice a rs.length cap] 25)).alloc (.cells #[.string ⟨#[]⟩, .slice none 0 0] 25)) (w.heap.size + 1) (.string ⟨#[]⟩) (.slice none 0 0) := blk_new _ _ (by simp)
  go_enter Try.func35, Try.ntmps35
  go_wp2_with fail
  refine (gramOk_any _ _ _ rs _ (H.below hbw (Nat.le_refl _)) hcap).mono ?_
  rintro e w2 ⟨rfl, hb2⟩
  rw [hok]
  have c2 : Below w.heap.size w w2 := hbw.trans (hb2.mono (by simp; omega))
  obtain ⟨z0, z1, zf0, zf1⟩ := (hZ.below hb2).cells
  clear hb2 hbw hZ
  go_wp2
  exact bodyPost_ret (v := .agg #[.string ⟨#[]⟩, .slice none 0 0]) (by simp [results, Try.results35, go_sem, z0, z1]) rfl ⟨rfl, (c2.setCell (p := ⟨w.heap.size + 1, 0, none⟩) (Nat.le_succ _) _).setCell (p := ⟨w.heap.size + 1, 1, none⟩) (Nat.le_succ _) _⟩
set_option maxHeartbeats 4000000 in
theorem setsBent_law (a : Option Addr) (n cap : Nat) (w : World) (H : BytesAt w a n cap) :
    Calls Try.prog 10 #[.slice a n cap] w fun e w' => e = .returned (.bool true) ∧ Below w.heap.size w w' := by
  have hm := H.2.1
  unfold maxLen at hm
  by_cases h : (1048576 : Int) < (n : Int)
  · go_enter Try.func10, Try.ntmps10
    go_wp2
    go_ret
    exact ⟨rfl, Below.refl _ _⟩
  go_enter Try.func10, Try.ntmps10
  go_wp2_with fail
  refine (drawFirstOf_any a n cap w H).mono ?_
  rintro e w1 ⟨v1, st, rs, s, rfl, ⟨b, off, c1, rfl, hc1, hR1, hl1, hs1, hS1, hb1⟩, hss, hB1⟩
  have hbw := (Below.refl w1.heap.size w1).alloc (Nat.le_refl _) (.cells #[.string st, .slice (some ⟨b, off, none⟩) rs.length c1] 25)
  have hR2 := hR1.below hbw (Nat.le_refl _)
  have hG : GBox (w1.alloc (.cells #[.string st, .slice (some ⟨b, off, none⟩) rs.length c1] 25)) w1.heap.size st (some ⟨b, off, none⟩) rs.length c1 := blk_new _ _ rfl
  go_wp2_with fail
  refine (gramOk_any st (some ⟨b, off, none⟩) c1 rs _ hR2 hc1).mono ?_
  rintro e w3 ⟨rfl, hb3⟩
  have hG3 := hG.below hb3
  have hR3 := hR2.below hb3 (Nat.le_refl _)
  have hB3 : Below w.heap.size w w3 := hB1.trans ((hbw.trans (hb3.mono (by simp))).mono hB1.size)
  obtain ⟨g0, g1⟩ := hG3.cells
  clear hG hR2 hb3 hbw
  go_wp2_with fail
  refine (sGramOk_any st (some ⟨b, off, none⟩) c1 rs _ hR3 hc1).mono ?_
  rintro e w5 ⟨rfl, hb5⟩
  have hG5 := hG3.below hb5
  have hR5 := hR3.below hb5 (Nat.le_refl _)
  have hB5 : Below w.heap.size w w5 := hB3.trans (hb5.mono hB3.size)
  clear g0 g1 hG3 hR3 hb5 hB3 hR1
  obtain ⟨g0, g1⟩ := hG5.cells
  cases hok : gramOkB st rs with
  | true =>
    go_wp2_with fail
    refine (sGramOk_any st (some ⟨b, off, none⟩) c1 rs _ hR5 hc1).mono ?_
    rintro e w6 ⟨rfl, hb6⟩
    rw [hok]
    go_wp2
    go_ret
    exact ⟨rfl, hB5.trans (hb6.mono hB5.size)⟩
  | false =>
    go_wp2_with fail
    refine (firstOf_bad st (some ⟨b, off, none⟩) c1 rs s _ hR5 hc1 hok).mono ?_
    rintro e w6 ⟨rfl, hb6⟩
    have hG6 := hG5.below hb6
    have hR6 := hR5.below hb6 (Nat.le_refl _)
    have hB6 : Below w.heap.size w w6 := hB5.trans (hb6.mono hB5.size)
    clear g0 g1 hG5 hR5 hb6 hB5
    obtain ⟨g0, g1⟩ := hG6.cells
    have hap : ((⟨#[]⟩ : ByteArray) ++ (⟨#[]⟩ : ByteArray)) = ⟨#[]⟩ := bytesOf_ext (by simp)
    have hltg := hG6.lt
    have q0 : ∀ x, (grow w6 x).cell? ⟨w1.heap.size, 0, none⟩ = some (.string st) := fun x => by rw [grow_cell _ _ _ _ hltg]; exact g0
    have q1 : ∀ x, (grow w6 x).cell? ⟨w1.heap.size, 1, none⟩ = some (.slice (some ⟨b, off, none⟩) rs.length c1) := fun x => by rw [grow_cell _ _ _ _ hltg]; exact g1
    have HW : ∀ x, RulesAt (grow w6 x) (some ⟨b, off, none⟩) rs := fun x => hR6.below (below_grow _ x) (Nat.le_refl _)
    have hsame : ∀ w, Calls Try.prog 36 #[.agg #[.string ⟨#[]⟩, .slice none 0 0], .agg #[.string ⟨#[]⟩, .slice none 0 0]] w fun e w' => e = .returned (.bool true) ∧ Below w.heap.size w w' := fun w => by
      have h := gramSame_any ⟨#[]⟩ ⟨#[]⟩ none none 0 0 [] [] w (rules_none w) (rules_none w)
      rwa [show eqG ⟨#[]⟩ [] ⟨#[]⟩ [] = true from eqG_refl _ _] at h
    go_wp2_with fail
    refine wp_region_grow (by kernel_rfl) (by kernel_rfl) ?_
    repeat (go_big_quiet_step ((first | (go_at_call 15; exact Calls.grow_of (gramNone_bad st _ c1 rs _ (HW _) hc1 hok)) | (go_at_call 21; exact Calls.grow_of (gramMade_bad st _ c1 rs _ (HW _) hc1 hok)) | (go_at_call 25; exact Calls.grow_of (gramMet_bad st _ c1 rs _ (HW _) hc1 hok)) | (go_at_call 32; exact Calls.grow_of (followOf_bad st _ c1 rs _ _ (HW _) hc1 hok)) | (go_at_call 35; exact Calls.grow_of (gramTrim_bad st _ c1 rs _ (HW _) hc1 hok)) | (go_at_call 36; exact Calls.grow_of (hsame _)))))
    refine wpQuiet_nil ?_
    rintro _ ⟨x, rfl⟩
    go_wp2
    go_ret
    exact ⟨rfl, hB6.trans ((below_grow _ _).mono hB6.size)⟩
end Go.Proofs.Ytkjaibnjiebgcab
