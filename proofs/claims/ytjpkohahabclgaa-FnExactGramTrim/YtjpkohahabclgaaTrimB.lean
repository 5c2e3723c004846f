/- The contract of GramTrim of the program at rules that are right. -/
import Derived.Test.YtjpkohahabclgaaTrimA
import Derived.Test.YtjpkohahabclgaaSetF
import Derived.Test.YtjpkohahabclgaaMetD
namespace Go.Proofs.Ytjpkohahabclgaa
open Go.ChangeShapes Go.WideShapes Go.ChangeAt Go.RowKit
set_option maxRecDepth 100000
theorem ok_filter {st : ByteArray} {rs : List RuleT} (p : RuleT → Bool) (h : gramOkB st rs = true) : gramOkB st (rs.filter p) = true := by
  rw [ok_iff] at h ⊢
  have hs : List.Sublist (rs.filter p) rs := List.filter_sublist
  exact ⟨h.1, Nat.le_trans hs.length_le h.2.1, fun r hr => h.2.2.1 r (hs.subset hr), h.2.2.2.sublist hs⟩
theorem ok_small {st : ByteArray} {rs : List RuleT} (h : gramOkB st rs = true) : SmallR rs := by
  intro r hr
  obtain ⟨i, hi, rfl⟩ := List.getElem_of_mem hr
  have := (gramOk_facts h).2.2 i hi
  omega
def usefulP (rs : List RuleT) (r : RuleT) : Bool := hasAllN (leftsLeast rs 960 ||| 960) r.2.data.toList
def usefulL (rs : List RuleT) : List RuleT := rs.filter (usefulP rs)
def metP (m : Nat) (r : RuleT) : Bool := hasAllN m r.1.data.toList
def trimL (st : ByteArray) (rs : List RuleT) : List RuleT := (usefulL rs).filter (metP (metLeast st (usefulL rs)))
theorem trim1_any (cb m : Nat) (r : RuleT) (w : World) (hm : m < 1024) (hz : r.2.size ≤ 100) (hV : one1 w cb (.int .u16 (m : Nat)) 75) :
    Calls Try.prog 71 #[.agg #[.string r.1, .string r.2], .pointer (some ⟨cb, 0, none⟩)] w fun e w' => e = .returned (.bool (hasAllN m r.2.data.toList)) ∧ Below w.heap.size w w' := by
  have hbw := (Below.refl w.heap.size w).alloc (Nat.le_refl _) (.cells #[.string r.1, .string r.2] 55)
  have hc := (hV.alloc (.cells #[.string r.1, .string r.2] 55)).cell.1
  go_enter Try.func71, Try.ntmps71
  go_wp2_with fail
  refine (hasAll_any m r.2 _ hm (by unfold maxLen; omega)).mono ?_
  rintro e w2 ⟨rfl, rfl⟩
  go_wp2
  go_ret
  exact ⟨rfl, hbw⟩
theorem trim2_any (cb m : Nat) (r : RuleT) (w : World) (hm : m < 1024) (hz : r.1.size ≤ 100) (hV : one1 w cb (.int .u16 (m : Nat)) 75) :
    Calls Try.prog 74 #[.agg #[.string r.1, .string r.2], .pointer (some ⟨cb, 0, none⟩)] w fun e w' => e = .returned (.bool (hasAllN m r.1.data.toList)) ∧ Below w.heap.size w w' := by
  have hbw := (Below.refl w.heap.size w).alloc (Nat.le_refl _) (.cells #[.string r.1, .string r.2] 55)
  have hc := (hV.alloc (.cells #[.string r.1, .string r.2] 55)).cell.1
  go_enter Try.func74, Try.ntmps74
  go_wp2_with fail
  refine (hasAll_any m r.1 _ hm (by unfold maxLen; omega)).mono ?_
  rintro e w2 ⟨rfl, rfl⟩
  go_wp2
  go_ret
  exact ⟨rfl, hbw⟩
set_option maxHeartbeats 2000000 in
theorem gramTrim_any (st : ByteArray) (a : Option Addr) (cap : Nat) (rs : List RuleT) (w : World) (H : RulesAt w a rs) (hcap : rs.length ≤ cap) (hok : gramOkB st rs = true) :
    Calls Try.prog 32 #[.agg #[.string st, .slice a rs.length cap]] w fun e w' => ∃ v, e = .returned (.agg #[.string st, v]) ∧ OwnN w' w.heap.size v (trimL st rs) ∧ Below w.heap.size w w' := by
  have hmf := makeFunc_run
  have eg1 : ∀ args w, (callFunc 71 args).run Try.prog w = .ok (.enter 71 args) w := enters_of Try.func71 (by kernel_rfl) rfl
  have eg2 : ∀ args w, (callFunc 74 args).run Try.prog w = .ok (.enter 74 args) w := enters_of Try.func74 (by kernel_rfl) rfl
  have hbw := ((Below.refl w.heap.size w).alloc (Nat.le_refl _) (.cells #[.string st, .slice a rs.length cap] 24)).alloc (by simp) (.cells #[.string ⟨#[]⟩, .slice none 0 0] 24)
  have hG : BoxG ((w.alloc (.cells #[.string st, .slice a rs.length cap] 24)).alloc (.cells #[.string ⟨#[]⟩, .slice none 0 0] 24)) w.heap.size (.string st) (.slice a rs.length cap) := BoxG.old (blk_new _ _ rfl) _
  have hZ : BoxG ((w.alloc (.cells #[.string st, .slice a rs.length cap] 24)).alloc (.cells #[.string ⟨#[]⟩, .slice none 0 0] 24)) (w.heap.size + 1) (.string ⟨#[]⟩) (.slice none 0 0) := blk_new _ _ (by simp)
  go_enter Try.func32, Try.ntmps32
  go_wp2_with fail
  refine (gramOk_any _ _ _ rs _ (H.below hbw (Nat.le_refl _)) hcap).mono ?_
  rintro e w2 ⟨rfl, hb2⟩
  rw [hok]
  have hB2 : Below w.heap.size w w2 := hbw.trans (hb2.mono (by simp; omega))
  have hG2 := hG.below hb2
  have hZ2 := hZ.below hb2
  have H2 := H.below hB2 (Nat.le_refl _)
  clear hb2 hbw hG hZ
  obtain ⟨g0, g1, _, _⟩ := hG2.cells
  have hmlt : leftsLeast rs 960 ||| 960 < 1024 := or_lt (leftsLeast_lt rs 960) (by omega)
  have hor : bits .or .u16 ((leftsLeast rs 960 : Nat) : Int) 960 = ((leftsLeast rs 960 ||| 960 : Nat) : Int) := bits_or (leftsLeast rs 960) 960 (leftsLeast_lt rs 960) (by omega)
  go_wp2_with fail
  refine (productiveSet_any st a cap rs _ H2).mono ?_
  rintro e w3 ⟨rfl, hb3⟩
  have hB3 : Below w.heap.size w w3 := hB2.trans (hb3.mono hB2.size)
  have hG3 := hG2.below hb3
  have hZ3 := hZ2.below hb3
  clear g0 g1 hG2 hZ2 H2 hb3
  obtain ⟨g0, g1, _, _⟩ := hG3.cells
  go_wp2_with fail
  refine (setSmalls_any _).mono ?_
  rintro e w4 ⟨rfl, rfl⟩
  have hM4 : one1 (w3.alloc (.cells #[.int .u16 (leftsLeast rs 960 ||| 960 : Nat)] 75)) w3.heap.size (.int .u16 (leftsLeast rs 960 ||| 960 : Nat)) 75 := blk_new _ _ rfl
  have hB4 := hB3.alloc hB3.size (.cells #[.int .u16 (leftsLeast rs 960 ||| 960 : Nat)] 75)
  have hG4 := hG3.old (.cells #[.int .u16 (leftsLeast rs 960 ||| 960 : Nat)] 75)
  have hZ4 := hZ3.old (.cells #[.int .u16 (leftsLeast rs 960 ||| 960 : Nat)] 75)
  obtain ⟨a0, a1, _, _⟩ := hG4.cells
  go_wp2_with fail
  have HS := Lib.hid (ok_small hok)
  have hl8 := (gramOk_facts hok).2.1
  have H4 := H.below hB4 (Nat.le_refl _)
  refine (rulesWhere_any 71 w3.heap.size (usefulP rs) st a cap rs _ H4 (by omega) HS.out eg1 (fun k hk W hW => trim1_any w3.heap.size (leftsLeast rs 960 ||| 960) rs[k] W hmlt (HS.out _ (List.getElem_mem hk)).2 (hM4.below hW))).mono ?_
  rintro e w5 ⟨v5, rfl, hO5, hb5⟩
  have hB5 : Below w.heap.size w w5 := hB4.trans (hb5.mono hB4.size)
  have hZ5 := hZ4.below hb5
  have hokU : gramOkB st (usefulL rs) = true := ok_filter _ hok
  have hU8 := (gramOk_facts hokU).2.1
  have HSU := Lib.hid (ok_small hokU)
  have hO5' : OwnN w5 (w3.alloc (.cells #[.int .u16 (leftsLeast rs 960 ||| 960 : Nat)] 75)).heap.size v5 (usefulL rs) := hO5
  obtain ⟨au, cu, rfl, hcu, HU⟩ := OwnN.at hO5' HSU.out (by omega)
  clear hO5 hO5' hb5 hM4 hB4 hG4 hZ4 a0 a1 g0 g1 hG3 hZ3 hB3 H4
  have HT : Hid (trimL st rs = (usefulL rs).filter (metP (metLeast st (usefulL rs)))) := rfl
  generalize usefulL rs = us at *
  have hb5x := (Below.refl w5.heap.size w5).alloc (Nat.le_refl _) (.cells #[.string st, .slice au us.length cu] 24)
  have HU6 := HU.below hb5x (Nat.le_refl _)
  have hX6 : BoxG (w5.alloc (.cells #[.string st, .slice au us.length cu] 24)) w5.heap.size (.string st) (.slice au us.length cu) := blk_new _ _ rfl
  have hB6 := hB5.alloc hB5.size (.cells #[.string st, .slice au us.length cu] 24)
  have hZ6 := hZ5.old (.cells #[.string st, .slice au us.length cu] 24)
  go_wp2_with fail
  refine (reachableSet_any st au cu us _ HU6 hokU).mono ?_
  rintro e w7 ⟨rfl, hb7⟩
  have hB7 : Below w.heap.size w w7 := hB6.trans (hb7.mono hB6.size)
  have hX7 := hX6.below hb7
  have hZ7 := hZ6.below hb7
  have HU7 := HU6.below hb7 (Nat.le_refl _)
  clear hb5x HU6 hX6 hB6 hZ6 hb7 hB5 hZ5 HU
  have hm2 := metLeast_lt st us
  have hM8 : one1 (w7.alloc (.cells #[.int .u16 (metLeast st us : Nat)] 75)) w7.heap.size (.int .u16 (metLeast st us : Nat)) 75 := blk_new _ _ rfl
  have hB8 := hB7.alloc hB7.size (.cells #[.int .u16 (metLeast st us : Nat)] 75)
  have hX8 := hX7.old (.cells #[.int .u16 (metLeast st us : Nat)] 75)
  have hZ8 := hZ7.old (.cells #[.int .u16 (metLeast st us : Nat)] 75)
  have HU8 := HU7.below ((Below.refl w7.heap.size w7).alloc (Nat.le_refl _) (.cells #[.int .u16 (metLeast st us : Nat)] 75)) (Nat.le_refl _)
  obtain ⟨a0, a1, _, _⟩ := hX8.cells
  go_wp2_with fail
  refine (rulesWhere_any 74 w7.heap.size (metP (metLeast st us)) st au cu us _ HU8 (by omega) HSU.out eg2 (fun k hk W hW => trim2_any w7.heap.size (metLeast st us) us[k] W hm2 (HSU.out _ (List.getElem_mem hk)).1 (hM8.below hW))).mono ?_
  rintro e w9 ⟨v9, rfl, hO9, hb9⟩
  have hB9 : Below w.heap.size w w9 := hB8.trans (hb9.mono hB8.size)
  have hZ9 := hZ8.below hb9
  have hszz := hZ8.lt
  have hO9' := hO9.mono (show w.heap.size + 2 ≤ _ from by omega)
  rw [← HT.out] at hO9'
  clear hO9 hb9 hM8 hB8 hX8 hZ8 HU8 HU7 hX7 hZ7 hB7 a0 a1
  obtain ⟨z0, z1, zf0, zf1⟩ := hZ9.cells
  have l1 : w.heap.size + 1 < w.heap.size + 2 := by omega
  rcases hO9'.2 with ⟨rfl, _⟩ | ⟨g, cp, cur, rfl, _⟩
  · go_wp2
    exact bodyPost_ret (v := .agg #[.string st, .slice none 0 0]) (by simp [results, Try.results32, go_sem, z0, z1]) rfl
      ⟨_, rfl, ((hO9'.set (p := ⟨w.heap.size + 1, 0, none⟩) l1 _).set (p := ⟨w.heap.size + 1, 1, none⟩) l1 _).mono (by omega), (hB9.setCell (p := ⟨w.heap.size + 1, 0, none⟩) (Nat.le_succ _) _).setCell (p := ⟨w.heap.size + 1, 1, none⟩) (Nat.le_succ _) _⟩
  · go_wp2
    exact bodyPost_ret (v := .agg #[.string st, .slice (some ⟨g, 0, none⟩) (trimL st rs).length cp]) (by simp [results, Try.results32, go_sem, z0, z1]) rfl
      ⟨_, rfl, ((hO9'.set (p := ⟨w.heap.size + 1, 0, none⟩) l1 _).set (p := ⟨w.heap.size + 1, 1, none⟩) l1 _).mono (by omega), (hB9.setCell (p := ⟨w.heap.size + 1, 0, none⟩) (Nat.le_succ _) _).setCell (p := ⟨w.heap.size + 1, 1, none⟩) (Nat.le_succ _) _⟩
end Go.Proofs.Ytjpkohahabclgaa
