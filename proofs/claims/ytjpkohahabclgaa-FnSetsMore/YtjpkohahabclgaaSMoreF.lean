/- The walk of FnSetsMore. -/
import Derived.Test.YtjpkohahabclgaaSMoreA
import Derived.Test.YtjpkohahabclgaaBentA
import Derived.Test.YtjpkohahabclgaaMoreA
import Derived.Deep.DeepCutAuto
namespace Go.Proofs.Ytjpkohahabclgaa
open Go.ChangeShapes Go.WideShapes Go.ChangeAt Go.RowKit
set_option maxRecDepth 100000
theorem big_one {s : ByteArray} (h : isBigS s = true) : ∃ c : UInt8, s = ⟨#[c]⟩ ∧ bigN (c.toNat : Int) = true := by
  simp only [isBigS, Bool.and_eq_true, decide_eq_true_eq, byteAt] at h
  obtain ⟨h6, h7⟩ := h
  have hl : s.data.toList.length = 1 := by simpa using h6
  match hs : s.data.toList, hl with
  | [x], _ =>
    rw [hs] at h7
    exact ⟨x, bytesOf_ext (by rw [hs]), by simpa using h7⟩
def catL (a b : List UInt8) : List UInt8 := a ++ b
theorem run_catL (a b : List UInt8) (h : a.length + b.length ≤ 1000) (w : World) : (Op.stringOp .add (bytesOf a) (bytesOf b)).run Try.prog w = .ok (.string (bytesOf (catL a b))) w := by
  have := run_add_bytes (P := Try.prog) a (bytesOf b) (by rw [bytesOf_size]; omega) w
  rwa [show cat a (bytesOf b) = catL a b from by simp [cat, bytesOf, catL]] at this
def sumL (st : ByteArray) (rs : List RuleT) : List UInt8 := catL (catL (noneL st rs) (madeL st rs)) (metL st rs)
theorem sets_len (st : ByteArray) (rs : List RuleT) : (noneL st rs).length ≤ 10 ∧ (madeL st rs).length ≤ 10 ∧ (metL st rs).length ≤ 10 := by
  refine ⟨?_, ?_, ?_⟩
  · unfold noneL; split
    · exact text_len _
    · simp
  · unfold madeL; split
    · exact text_len _
    · simp
  · unfold metL; split
    · exact text_len _
    · simp
theorem sum_len (st : ByteArray) (rs : List RuleT) : (bytesOf (sumL st rs)).size ≤ 30 := by
  have h := sets_len st rs
  rw [bytesOf_size]
  simp only [sumL, catL, List.length_append]
  omega
theorem sum_more {st : ByteArray} {rs : List RuleT} {c : UInt8} (h1 : gramOkB st rs = true) (h2 : gramOkB st (rs ++ [((⟨#[c]⟩ : ByteArray), (⟨#[100, 97, 100, 97]⟩ : ByteArray))]) = true) : ∀ k (h : k < (bytesOf (sumL st rs)).size), hasB (bytesOf (sumL st (rs ++ [((⟨#[c]⟩ : ByteArray), (⟨#[100, 97, 100, 97]⟩ : ByteArray))]))) (((bytesOf (sumL st rs))[k].toNat : Nat) : Int) = true := by
  intro k h
  have h' : k < (sumL st rs).length := by rwa [bytesOf_size] at h
  have hm : (bytesOf (sumL st rs))[k]'h ∈ sumL st rs := List.getElem_mem h'
  generalize (bytesOf (sumL st rs))[k]'h = x at *
  rw [hasB_list]
  have h3 : x ∈ sumL st (rs ++ [((⟨#[c]⟩ : ByteArray), (⟨#[100, 97, 100, 97]⟩ : ByteArray))]) := by
    simp only [sumL, catL, List.mem_append, noneL, madeL, metL, if_pos h1, if_pos h2] at hm ⊢
    rcases hm with (hm | hm) | hm
    · exact .inl (.inl (text_mono (least_more rs _ 0) hm))
    · exact .inl (.inr (text_mono (least_more rs _ 960) hm))
    · exact .inr (text_mono (met_more st rs _) hm)
  simpa using h3
theorem none_same {st : ByteArray} {rs : List RuleT} {c : UInt8} (h1 : gramOkB st rs = true) (h2 : gramOkB st (rs ++ [((⟨#[c]⟩ : ByteArray), (⟨#[100, 97, 100, 97]⟩ : ByteArray))]) = true) : noneL st (rs ++ [((⟨#[c]⟩ : ByteArray), (⟨#[100, 97, 100, 97]⟩ : ByteArray))]) = noneL st rs := by
  unfold noneL
  rw [if_pos h1, if_pos h2]
  exact congrArg textN (none_more h1 ⟨#[c]⟩)
theorem made_has {st : ByteArray} {rs : List RuleT} {c : UInt8} (hb : bigN (c.toNat : Int) = true) (h2 : gramOkB st (rs ++ [((⟨#[c]⟩ : ByteArray), (⟨#[100, 97, 100, 97]⟩ : ByteArray))]) = true) : hasB (bytesOf (madeL st (rs ++ [((⟨#[c]⟩ : ByteArray), (⟨#[100, 97, 100, 97]⟩ : ByteArray))]))) (c.toNat : Int) = true := by
  unfold madeL
  rw [if_pos h2, hasB_text]
  exact made_more rs hb
set_option maxHeartbeats 8000000 in
theorem setsMore_law (a : Option Addr) (n cap : Nat) (w : World) (H : BytesAt w a n cap) :
    Calls Try.prog 13 #[.slice a n cap] w fun e w' => e = .returned (.bool true) ∧ Below w.heap.size w w' := by
  have hm := H.2.1
  unfold maxLen at hm
  by_cases h : (1048576 : Int) < (n : Int)
  · go_enter Try.func13, Try.ntmps13
    go_wp2
    go_ret
    exact ⟨rfl, Below.refl _ _⟩
  go_enter Try.func13, Try.ntmps13
  go_wp2_with fail
  refine (drawGramFor_any a n cap w H).mono ?_
  rintro e w0 ⟨v1, st, rs, left, rfl, ⟨b, off, c1, rfl, hc1, hR1, hl1, hs1, hS1, hb1⟩, hss, hB1⟩
  have hbw := (Below.refl w0.heap.size w0).alloc (Nat.le_refl _) (.cells #[.string st, .slice (some ⟨b, off, none⟩) rs.length c1] 24)
  have hR2 := hR1.below hbw (Nat.le_refl _)
  have hG : BoxG (w0.alloc (.cells #[.string st, .slice (some ⟨b, off, none⟩) rs.length c1] 24)) w0.heap.size (.string st) (.slice (some ⟨b, off, none⟩) rs.length c1) := blk_new _ _ rfl
  go_wp2_with fail
  with_reducible refine (gramOk_any st (some ⟨b, off, none⟩) c1 rs _ hR2 hc1).mono ?_
  rintro e w3 ⟨rfl, hb3⟩
  have hG3 := hG.below hb3
  have hR3 := hR2.below hb3 (Nat.le_refl _)
  have hB3 : Below w.heap.size w w3 := hB1.trans ((hbw.trans (hb3.mono (by simp))).mono hB1.size)
  obtain ⟨g0, g1, _, _⟩ := hG3.cells
  clear hG hR2 hb3 hbw
  go_wp2_with fail
  with_reducible refine (sGramOk_any st (some ⟨b, off, none⟩) c1 rs _ hR3 hc1).mono ?_
  rintro e w5 ⟨rfl, hb5⟩
  have hA := hG3.below hb5
  have hU := hR3.below hb5 (Nat.le_refl _)
  have hB5 : Below w.heap.size w w5 := hB3.trans (hb5.mono hB3.size)
  clear g0 g1 hG3 hR3 hb5 hB3 hR1
  obtain ⟨g0, g1, _, _⟩ := hA.cells
  cases hok : gramOkB st rs with
  | false =>
    go_wp2_with fail
    with_reducible refine (sGramOk_any st (some ⟨b, off, none⟩) c1 rs _ hU hc1).mono ?_
    rintro e w6 ⟨rfl, hb6⟩
    rw [hok]
    go_wp2
    go_ret
    exact ⟨rfl, hB5.trans (hb6.mono hB5.size)⟩
  | true =>
    by_cases h8 : (8 : Int) ≤ (rs.length : Int)
    · go_wp2_with fail
      with_reducible refine (sGramOk_any st (some ⟨b, off, none⟩) c1 rs _ hU hc1).mono ?_
      rintro e w6 ⟨rfl, hb6⟩
      rw [hok]
      go_wp2
      go_ret
      exact ⟨rfl, hB5.trans (hb6.mono hB5.size)⟩
    have h8d : decide ((8 : Int) ≤ (rs.length : Int)) = false := by simpa using h8
    go_wp2_with fail
    with_reducible refine (signBig_any left _).mono ?_
    rintro e w6 ⟨rfl, rfl⟩
    cases hbl : isBigS left with
    | false =>
      go_wp2_with fail
      with_reducible refine (sGramOk_any st (some ⟨b, off, none⟩) c1 rs _ hU hc1).mono ?_
      rintro e w6 ⟨rfl, hb6⟩
      rw [hok]
      go_wp2
      go_ret
      exact ⟨rfl, hB5.trans (hb6.mono hB5.size)⟩
    | true =>
      obtain ⟨c, rfl, hbig'⟩ := big_one hbl
      have hbig := Lib.hid hbig'
      have HOK := Lib.hid hok
      clear hbig' hbl h8d
      have hGl := hA.lt
      go_upto_region 7 with fail
      generalize w5 = w1 at *
      have hlen : rs.length ≤ 100 := by omega
      have h1 : (⟨#[c]⟩ : ByteArray).size ≤ 100 := by show 1 ≤ 100; omega
      have h2 : (⟨#[100, 97, 100, 97]⟩ : ByteArray).size ≤ 100 := by decide
      have HSM := Lib.hid (small_snoc hS1 h1 h2)
      clear hb1 hok g0 g1
      go_cut [6] (fun s4 wx => MoreTo w1 st (rs ++ [(⟨#[c]⟩, ⟨#[100, 97, 100, 97]⟩)]) s4 wx)
      case first =>
        obtain ⟨a0, a1, _, _⟩ := hA.cells
        have O0 : OwnR (w1.alloc (.cells #[] 55)).drew w1.heap.size (.slice (some ⟨w1.heap.size, 0, none⟩) 0 0) [] := own_blk (Blk.new w1 (.cells #[] 55) rfl).drew (by omega)
        have V0 : Below w1.heap.size w1 (w1.alloc (.cells #[] 55)).drew := ((Below.refl w1.heap.size w1).alloc (Nat.le_refl _) (.cells #[] 55)).drew
        have O1 : OwnR ((w1.alloc (.cells #[] 55)).alloc (.cells #[.string ⟨#[c]⟩, .string ⟨#[100, 97, 100, 97]⟩] 55)).drew w1.heap.size (.slice (some ⟨w1.heap.size, 0, none⟩) 0 0) [] := own_blk ((Blk.new w1 (.cells #[] 55) rfl).old _).drew (by omega)
        have V1 : Below w1.heap.size w1 ((w1.alloc (.cells #[] 55)).alloc (.cells #[.string ⟨#[c]⟩, .string ⟨#[100, 97, 100, 97]⟩] 55)).drew := (((Below.refl w1.heap.size w1).alloc (Nat.le_refl _) (.cells #[] 55)).alloc (by simp; try omega) (.cells #[.string ⟨#[c]⟩, .string ⟨#[100, 97, 100, 97]⟩] 55)).drew
        have O2 : OwnR ((w1.alloc (.cells #[.string ⟨#[c]⟩, .string ⟨#[100, 97, 100, 97]⟩] 55)).alloc (.cells #[] 55)).drew w1.heap.size (.slice (some ⟨w1.heap.size + 1, 0, none⟩) 0 0) [] := own_blk (Blk.new (w1.alloc (.cells #[.string ⟨#[c]⟩, .string ⟨#[100, 97, 100, 97]⟩] 55)) (.cells #[] 55) (by simp)).drew (by omega)
        have V2 : Below w1.heap.size w1 ((w1.alloc (.cells #[.string ⟨#[c]⟩, .string ⟨#[100, 97, 100, 97]⟩] 55)).alloc (.cells #[] 55)).drew := (((Below.refl w1.heap.size w1).alloc (Nat.le_refl _) (.cells #[.string ⟨#[c]⟩, .string ⟨#[100, 97, 100, 97]⟩] 55)).alloc (by simp; try omega) (.cells #[] 55)).drew
        have O3 : OwnR ((w1.alloc (.cells #[] 55)).alloc (.cells #[.string ⟨#[]⟩, .slice none 0 0] 24)).drew w1.heap.size (.slice (some ⟨w1.heap.size, 0, none⟩) 0 0) [] := own_blk ((Blk.new w1 (.cells #[] 55) rfl).old _).drew (by omega)
        have V3 : Below w1.heap.size w1 ((w1.alloc (.cells #[] 55)).alloc (.cells #[.string ⟨#[]⟩, .slice none 0 0] 24)).drew := (((Below.refl w1.heap.size w1).alloc (Nat.le_refl _) (.cells #[] 55)).alloc (by simp; try omega) (.cells #[.string ⟨#[]⟩, .slice none 0 0] 24)).drew
        have O4 : OwnR ((w1.alloc (.cells #[.string ⟨#[]⟩, .slice none 0 0] 24)).alloc (.cells #[] 55)).drew w1.heap.size (.slice (some ⟨w1.heap.size + 1, 0, none⟩) 0 0) [] := own_blk (Blk.new (w1.alloc (.cells #[.string ⟨#[]⟩, .slice none 0 0] 24)) (.cells #[] 55) (by simp)).drew (by omega)
        have V4 : Below w1.heap.size w1 ((w1.alloc (.cells #[.string ⟨#[]⟩, .slice none 0 0] 24)).alloc (.cells #[] 55)).drew := (((Below.refl w1.heap.size w1).alloc (Nat.le_refl _) (.cells #[.string ⟨#[]⟩, .slice none 0 0] 24)).alloc (by simp; try omega) (.cells #[] 55)).drew
        have O5 : OwnR (((w1.alloc (.cells #[] 55)).alloc (.cells #[.string ⟨#[c]⟩, .string ⟨#[100, 97, 100, 97]⟩] 55)).alloc (.cells #[.string ⟨#[]⟩, .slice none 0 0] 24)).drew w1.heap.size (.slice (some ⟨w1.heap.size, 0, none⟩) 0 0) [] := own_blk (((Blk.new w1 (.cells #[] 55) rfl).old _).old _).drew (by omega)
        have V5 : Below w1.heap.size w1 (((w1.alloc (.cells #[] 55)).alloc (.cells #[.string ⟨#[c]⟩, .string ⟨#[100, 97, 100, 97]⟩] 55)).alloc (.cells #[.string ⟨#[]⟩, .slice none 0 0] 24)).drew := ((((Below.refl w1.heap.size w1).alloc (Nat.le_refl _) (.cells #[] 55)).alloc (by simp; try omega) (.cells #[.string ⟨#[c]⟩, .string ⟨#[100, 97, 100, 97]⟩] 55)).alloc (by simp; try omega) (.cells #[.string ⟨#[]⟩, .slice none 0 0] 24)).drew
        have O6 : OwnR (((w1.alloc (.cells #[] 55)).alloc (.cells #[.string ⟨#[]⟩, .slice none 0 0] 24)).alloc (.cells #[.string ⟨#[c]⟩, .string ⟨#[100, 97, 100, 97]⟩] 55)).drew w1.heap.size (.slice (some ⟨w1.heap.size, 0, none⟩) 0 0) [] := own_blk (((Blk.new w1 (.cells #[] 55) rfl).old _).old _).drew (by omega)
        have V6 : Below w1.heap.size w1 (((w1.alloc (.cells #[] 55)).alloc (.cells #[.string ⟨#[]⟩, .slice none 0 0] 24)).alloc (.cells #[.string ⟨#[c]⟩, .string ⟨#[100, 97, 100, 97]⟩] 55)).drew := ((((Below.refl w1.heap.size w1).alloc (Nat.le_refl _) (.cells #[] 55)).alloc (by simp; try omega) (.cells #[.string ⟨#[]⟩, .slice none 0 0] 24)).alloc (by simp; try omega) (.cells #[.string ⟨#[c]⟩, .string ⟨#[100, 97, 100, 97]⟩] 55)).drew
        have O7 : OwnR (((w1.alloc (.cells #[.string ⟨#[c]⟩, .string ⟨#[100, 97, 100, 97]⟩] 55)).alloc (.cells #[] 55)).alloc (.cells #[.string ⟨#[]⟩, .slice none 0 0] 24)).drew w1.heap.size (.slice (some ⟨w1.heap.size + 1, 0, none⟩) 0 0) [] := own_blk ((Blk.new (w1.alloc (.cells #[.string ⟨#[c]⟩, .string ⟨#[100, 97, 100, 97]⟩] 55)) (.cells #[] 55) (by simp)).old _).drew (by omega)
        have V7 : Below w1.heap.size w1 (((w1.alloc (.cells #[.string ⟨#[c]⟩, .string ⟨#[100, 97, 100, 97]⟩] 55)).alloc (.cells #[] 55)).alloc (.cells #[.string ⟨#[]⟩, .slice none 0 0] 24)).drew := ((((Below.refl w1.heap.size w1).alloc (Nat.le_refl _) (.cells #[.string ⟨#[c]⟩, .string ⟨#[100, 97, 100, 97]⟩] 55)).alloc (by simp; try omega) (.cells #[] 55)).alloc (by simp; try omega) (.cells #[.string ⟨#[]⟩, .slice none 0 0] 24)).drew
        have O8 : OwnR (((w1.alloc (.cells #[.string ⟨#[c]⟩, .string ⟨#[100, 97, 100, 97]⟩] 55)).alloc (.cells #[.string ⟨#[]⟩, .slice none 0 0] 24)).alloc (.cells #[] 55)).drew w1.heap.size (.slice (some ⟨w1.heap.size + 2, 0, none⟩) 0 0) [] := own_blk (Blk.new ((w1.alloc (.cells #[.string ⟨#[c]⟩, .string ⟨#[100, 97, 100, 97]⟩] 55)).alloc (.cells #[.string ⟨#[]⟩, .slice none 0 0] 24)) (.cells #[] 55) (by simp)).drew (by omega)
        have V8 : Below w1.heap.size w1 (((w1.alloc (.cells #[.string ⟨#[c]⟩, .string ⟨#[100, 97, 100, 97]⟩] 55)).alloc (.cells #[.string ⟨#[]⟩, .slice none 0 0] 24)).alloc (.cells #[] 55)).drew := ((((Below.refl w1.heap.size w1).alloc (Nat.le_refl _) (.cells #[.string ⟨#[c]⟩, .string ⟨#[100, 97, 100, 97]⟩] 55)).alloc (by simp; try omega) (.cells #[.string ⟨#[]⟩, .slice none 0 0] 24)).alloc (by simp; try omega) (.cells #[] 55)).drew
        have O9 : OwnR (((w1.alloc (.cells #[.string ⟨#[]⟩, .slice none 0 0] 24)).alloc (.cells #[] 55)).alloc (.cells #[.string ⟨#[c]⟩, .string ⟨#[100, 97, 100, 97]⟩] 55)).drew w1.heap.size (.slice (some ⟨w1.heap.size + 1, 0, none⟩) 0 0) [] := own_blk ((Blk.new (w1.alloc (.cells #[.string ⟨#[]⟩, .slice none 0 0] 24)) (.cells #[] 55) (by simp)).old _).drew (by omega)
        have V9 : Below w1.heap.size w1 (((w1.alloc (.cells #[.string ⟨#[]⟩, .slice none 0 0] 24)).alloc (.cells #[] 55)).alloc (.cells #[.string ⟨#[c]⟩, .string ⟨#[100, 97, 100, 97]⟩] 55)).drew := ((((Below.refl w1.heap.size w1).alloc (Nat.le_refl _) (.cells #[.string ⟨#[]⟩, .slice none 0 0] 24)).alloc (by simp; try omega) (.cells #[] 55)).alloc (by simp; try omega) (.cells #[.string ⟨#[c]⟩, .string ⟨#[100, 97, 100, 97]⟩] 55)).drew
        have O10 : OwnR (((w1.alloc (.cells #[.string ⟨#[]⟩, .slice none 0 0] 24)).alloc (.cells #[.string ⟨#[c]⟩, .string ⟨#[100, 97, 100, 97]⟩] 55)).alloc (.cells #[] 55)).drew w1.heap.size (.slice (some ⟨w1.heap.size + 2, 0, none⟩) 0 0) [] := own_blk (Blk.new ((w1.alloc (.cells #[.string ⟨#[]⟩, .slice none 0 0] 24)).alloc (.cells #[.string ⟨#[c]⟩, .string ⟨#[100, 97, 100, 97]⟩] 55)) (.cells #[] 55) (by simp)).drew (by omega)
        have V10 : Below w1.heap.size w1 (((w1.alloc (.cells #[.string ⟨#[]⟩, .slice none 0 0] 24)).alloc (.cells #[.string ⟨#[c]⟩, .string ⟨#[100, 97, 100, 97]⟩] 55)).alloc (.cells #[] 55)).drew := ((((Below.refl w1.heap.size w1).alloc (Nat.le_refl _) (.cells #[.string ⟨#[]⟩, .slice none 0 0] 24)).alloc (by simp; try omega) (.cells #[.string ⟨#[c]⟩, .string ⟨#[100, 97, 100, 97]⟩] 55)).alloc (by simp; try omega) (.cells #[] 55)).drew
        go_region_held3 (fun w' => w'.cell? ⟨w0.heap.size, 0, none⟩ = some (.string st) ∧ w'.cell? ⟨w0.heap.size, 1, none⟩ = some (.slice (some ⟨b, off, none⟩) rs.length c1))
          (first
            | with_reducible exact keep_st hA9 hC9 hne9 _ _
            | with_reducible exact keep_box hA9
            | with_reducible exact keep_box (hA9.old _)
            | with_reducible exact keep_box ((hA9.old _).old _)
            | with_reducible exact keep_box hA7
            | with_reducible exact keep_box (hA7.old _)
            | with_reducible exact keep_box ((hA7.old _).old _)
            | with_reducible exact keep_box hA.drew
            | with_reducible exact keep_box (hA.old _).drew
            | with_reducible exact keep_box ((hA.old _).old _).drew
            | with_reducible exact keep_box (((hA.old _).old _).old _).drew
            | go_keep)
          (first
            | (have _ := tok0; refine step_append_rules rfl _ _ rfl w1.heap.size (.slice (some ⟨g7, 0, none⟩) rs.length cap7) rs [(⟨#[c]⟩, ⟨#[100, 97, 100, 97]⟩)] (w7.heap.size) 0 1 rfl rfl ?_ ?_ ?_ ?_ ?_; (with_reducible exact (hO7.alloc _)); (exact rules_blk (Blk.new w7 (.cells #[.string ⟨#[c]⟩, .string ⟨#[100, 97, 100, 97]⟩] 55) rfl) h1 h2); (simp; omega); (first | omega | (simp; omega) | simp); intro g9 cap9 w9 hO9x hgrow9; have hO9 : OwnR w9 w1.heap.size (.slice (some ⟨g9, 0, none⟩) (rs.length + 1) cap9) (rs ++ [(⟨#[c]⟩, ⟨#[100, 97, 100, 97]⟩)]) := (by simpa using hO9x); have hV9 : Below w1.heap.size w1 w9 := grow_below (hV7.alloc (by first | omega | (simp; omega) | simp) _) hgrow9 (by first | omega | (simp; omega) | simp) (own_ge hO7); have hA9 := hA.below hV9; clear hO9x)
            | (have _ := tok0; refine step_append_rules rfl _ _ rfl w1.heap.size (.slice (some ⟨g7, 0, none⟩) rs.length cap7) rs [(⟨#[c]⟩, ⟨#[100, 97, 100, 97]⟩)] (w7.heap.size) 0 1 rfl rfl ?_ ?_ ?_ ?_ ?_; (with_reducible exact ((hO7.alloc _).alloc _)); (exact rules_blk ((Blk.new w7 (.cells #[.string ⟨#[c]⟩, .string ⟨#[100, 97, 100, 97]⟩] 55) rfl).old _) h1 h2); (simp; omega); (first | omega | (simp; omega) | simp); intro g9 cap9 w9 hO9x hgrow9; have hO9 : OwnR w9 w1.heap.size (.slice (some ⟨g9, 0, none⟩) (rs.length + 1) cap9) (rs ++ [(⟨#[c]⟩, ⟨#[100, 97, 100, 97]⟩)]) := (by simpa using hO9x); have hV9 : Below w1.heap.size w1 w9 := grow_below ((hV7.alloc (by first | omega | (simp; omega) | simp) _).alloc (by first | omega | (simp; omega) | simp) _) hgrow9 (by first | omega | (simp; omega) | simp) (own_ge hO7); have hA9 := hA.below hV9; have hC9 : BoxG w9 (w7.heap.size + 1) (.string ⟨#[]⟩) (.slice none 0 0) := grown_keep ((hO7.alloc _).alloc _) hgrow9 (Blk.new (w7.alloc (.cells #[.string ⟨#[c]⟩, .string ⟨#[100, 97, 100, 97]⟩] 55)) (.cells #[.string ⟨#[]⟩, .slice none 0 0] 24) (by simp)) (fun cur h => by simp at h); have hne9 : w0.heap.size ≠ w7.heap.size + 1 := (by omega); have hS9 : w1.heap.size ≤ w7.heap.size + 1 := (by omega); obtain ⟨y0, y1, yf0, yf1⟩ := hC9.cells; clear hO9x)
            | (have _ := tok0; refine step_append_rules rfl _ _ rfl w1.heap.size (.slice (some ⟨g7, 0, none⟩) rs.length cap7) rs [(⟨#[c]⟩, ⟨#[100, 97, 100, 97]⟩)] (w7.heap.size + 1) 0 1 rfl rfl ?_ ?_ ?_ ?_ ?_; (with_reducible exact ((hO7.alloc _).alloc _)); (exact rules_blk (Blk.new (w7.alloc (.cells #[.string ⟨#[]⟩, .slice none 0 0] 24)) (.cells #[.string ⟨#[c]⟩, .string ⟨#[100, 97, 100, 97]⟩] 55) (by simp)) h1 h2); (simp; omega); (first | omega | (simp; omega) | simp); intro g9 cap9 w9 hO9x hgrow9; have hO9 : OwnR w9 w1.heap.size (.slice (some ⟨g9, 0, none⟩) (rs.length + 1) cap9) (rs ++ [(⟨#[c]⟩, ⟨#[100, 97, 100, 97]⟩)]) := (by simpa using hO9x); have hV9 : Below w1.heap.size w1 w9 := grow_below ((hV7.alloc (by first | omega | (simp; omega) | simp) _).alloc (by first | omega | (simp; omega) | simp) _) hgrow9 (by first | omega | (simp; omega) | simp) (own_ge hO7); have hA9 := hA.below hV9; have hC9 : BoxG w9 (w7.heap.size) (.string ⟨#[]⟩) (.slice none 0 0) := grown_keep ((hO7.alloc _).alloc _) hgrow9 ((Blk.new w7 (.cells #[.string ⟨#[]⟩, .slice none 0 0] 24) rfl).old _) (fun cur h => by simp at h); have hne9 : w0.heap.size ≠ w7.heap.size := (by omega); have hS9 : w1.heap.size ≤ w7.heap.size := (by omega); obtain ⟨y0, y1, yf0, yf1⟩ := hC9.cells; clear hO9x)
            | (have _ := tok1; refine step_append_rules rfl _ _ rfl w1.heap.size (.slice (some ⟨g7, 0, none⟩) rs.length cap7) rs [(⟨#[c]⟩, ⟨#[100, 97, 100, 97]⟩)] (w1.heap.size + 1) 0 1 rfl rfl ?_ ?_ ?_ ?_ ?_; (with_reducible exact hO7); (exact rules_blk hP7 h1 h2); (simp; omega); (first | omega | (simp; omega) | simp); intro g9 cap9 w9 hO9x hgrow9; have hO9 : OwnR w9 w1.heap.size (.slice (some ⟨g9, 0, none⟩) (rs.length + 1) cap9) (rs ++ [(⟨#[c]⟩, ⟨#[100, 97, 100, 97]⟩)]) := (by simpa using hO9x); have hV9 : Below w1.heap.size w1 w9 := grow_below hV7 hgrow9 (by first | omega | (simp; omega) | simp) (own_ge hO7); have hA9 := hA.below hV9; clear hO9x)
            | (have _ := tok1; refine step_append_rules rfl _ _ rfl w1.heap.size (.slice (some ⟨g7, 0, none⟩) rs.length cap7) rs [(⟨#[c]⟩, ⟨#[100, 97, 100, 97]⟩)] (w1.heap.size + 1) 0 1 rfl rfl ?_ ?_ ?_ ?_ ?_; (with_reducible exact (hO7.alloc _)); (exact rules_blk (hP7.old _) h1 h2); (simp; omega); (first | omega | (simp; omega) | simp); intro g9 cap9 w9 hO9x hgrow9; have hO9 : OwnR w9 w1.heap.size (.slice (some ⟨g9, 0, none⟩) (rs.length + 1) cap9) (rs ++ [(⟨#[c]⟩, ⟨#[100, 97, 100, 97]⟩)]) := (by simpa using hO9x); have hV9 : Below w1.heap.size w1 w9 := grow_below (hV7.alloc (by first | omega | (simp; omega) | simp) _) hgrow9 (by first | omega | (simp; omega) | simp) (own_ge hO7); have hA9 := hA.below hV9; have hC9 : BoxG w9 (w7.heap.size) (.string ⟨#[]⟩) (.slice none 0 0) := grown_keep (hO7.alloc _) hgrow9 (Blk.new w7 (.cells #[.string ⟨#[]⟩, .slice none 0 0] 24) rfl) (fun cur h => by simp at h); have hne9 : w0.heap.size ≠ w7.heap.size := (by omega); have hS9 : w1.heap.size ≤ w7.heap.size := (by omega); obtain ⟨y0, y1, yf0, yf1⟩ := hC9.cells; clear hO9x)
            | (have _ := tok2; refine step_append_rules rfl _ _ rfl w1.heap.size (.slice (some ⟨g7, 0, none⟩) rs.length cap7) rs [(⟨#[c]⟩, ⟨#[100, 97, 100, 97]⟩)] (w1.heap.size) 0 1 rfl rfl ?_ ?_ ?_ ?_ ?_; (with_reducible exact hO7); (exact rules_blk hP7 h1 h2); (simp; omega); (first | omega | (simp; omega) | simp); intro g9 cap9 w9 hO9x hgrow9; have hO9 : OwnR w9 w1.heap.size (.slice (some ⟨g9, 0, none⟩) (rs.length + 1) cap9) (rs ++ [(⟨#[c]⟩, ⟨#[100, 97, 100, 97]⟩)]) := (by simpa using hO9x); have hV9 : Below w1.heap.size w1 w9 := grow_below hV7 hgrow9 (by first | omega | (simp; omega) | simp) (own_ge hO7); have hA9 := hA.below hV9; clear hO9x)
            | (have _ := tok2; refine step_append_rules rfl _ _ rfl w1.heap.size (.slice (some ⟨g7, 0, none⟩) rs.length cap7) rs [(⟨#[c]⟩, ⟨#[100, 97, 100, 97]⟩)] (w1.heap.size) 0 1 rfl rfl ?_ ?_ ?_ ?_ ?_; (with_reducible exact (hO7.alloc _)); (exact rules_blk (hP7.old _) h1 h2); (simp; omega); (first | omega | (simp; omega) | simp); intro g9 cap9 w9 hO9x hgrow9; have hO9 : OwnR w9 w1.heap.size (.slice (some ⟨g9, 0, none⟩) (rs.length + 1) cap9) (rs ++ [(⟨#[c]⟩, ⟨#[100, 97, 100, 97]⟩)]) := (by simpa using hO9x); have hV9 : Below w1.heap.size w1 w9 := grow_below (hV7.alloc (by first | omega | (simp; omega) | simp) _) hgrow9 (by first | omega | (simp; omega) | simp) (own_ge hO7); have hA9 := hA.below hV9; have hC9 : BoxG w9 (w7.heap.size) (.string ⟨#[]⟩) (.slice none 0 0) := grown_keep (hO7.alloc _) hgrow9 (Blk.new w7 (.cells #[.string ⟨#[]⟩, .slice none 0 0] 24) rfl) (fun cur h => by simp at h); have hne9 : w0.heap.size ≠ w7.heap.size := (by omega); have hS9 : w1.heap.size ≤ w7.heap.size := (by omega); obtain ⟨y0, y1, yf0, yf1⟩ := hC9.cells; clear hO9x)
            | (have _ := tok3; refine step_append_rules rfl _ _ rfl w1.heap.size (.slice (some ⟨g7, 0, none⟩) rs.length cap7) rs [(⟨#[c]⟩, ⟨#[100, 97, 100, 97]⟩)] (w7.heap.size) 0 1 rfl rfl ?_ ?_ ?_ ?_ ?_; (with_reducible exact (hO7.alloc _)); (exact rules_blk (Blk.new w7 (.cells #[.string ⟨#[c]⟩, .string ⟨#[100, 97, 100, 97]⟩] 55) rfl) h1 h2); (simp; omega); (first | omega | (simp; omega) | simp); intro g9 cap9 w9 hO9x hgrow9; have hO9 : OwnR w9 w1.heap.size (.slice (some ⟨g9, 0, none⟩) (rs.length + 1) cap9) (rs ++ [(⟨#[c]⟩, ⟨#[100, 97, 100, 97]⟩)]) := (by simpa using hO9x); have hV9 : Below w1.heap.size w1 w9 := grow_below (hV7.alloc (by first | omega | (simp; omega) | simp) _) hgrow9 (by first | omega | (simp; omega) | simp) (own_ge hO7); have hA9 := hA.below hV9; have hC9 : BoxG w9 (w1.heap.size + 1) (.string ⟨#[]⟩) (.slice none 0 0) := grown_keep (hO7.alloc _) hgrow9 (hC7.old _) (fun cur h => by simp at h); have hne9 : w0.heap.size ≠ w1.heap.size + 1 := (by omega); have hS9 : w1.heap.size ≤ w1.heap.size + 1 := (by omega); obtain ⟨y0, y1, yf0, yf1⟩ := hC9.cells; clear hO9x)
            | (have _ := tok4; refine step_append_rules rfl _ _ rfl w1.heap.size (.slice (some ⟨g7, 0, none⟩) rs.length cap7) rs [(⟨#[c]⟩, ⟨#[100, 97, 100, 97]⟩)] (w7.heap.size) 0 1 rfl rfl ?_ ?_ ?_ ?_ ?_; (with_reducible exact (hO7.alloc _)); (exact rules_blk (Blk.new w7 (.cells #[.string ⟨#[c]⟩, .string ⟨#[100, 97, 100, 97]⟩] 55) rfl) h1 h2); (simp; omega); (first | omega | (simp; omega) | simp); intro g9 cap9 w9 hO9x hgrow9; have hO9 : OwnR w9 w1.heap.size (.slice (some ⟨g9, 0, none⟩) (rs.length + 1) cap9) (rs ++ [(⟨#[c]⟩, ⟨#[100, 97, 100, 97]⟩)]) := (by simpa using hO9x); have hV9 : Below w1.heap.size w1 w9 := grow_below (hV7.alloc (by first | omega | (simp; omega) | simp) _) hgrow9 (by first | omega | (simp; omega) | simp) (own_ge hO7); have hA9 := hA.below hV9; have hC9 : BoxG w9 (w1.heap.size) (.string ⟨#[]⟩) (.slice none 0 0) := grown_keep (hO7.alloc _) hgrow9 (hC7.old _) (fun cur h => by simp at h); have hne9 : w0.heap.size ≠ w1.heap.size := (by omega); have hS9 : w1.heap.size ≤ w1.heap.size := (by omega); obtain ⟨y0, y1, yf0, yf1⟩ := hC9.cells; clear hO9x)
            | (have _ := tok5; refine step_append_rules rfl _ _ rfl w1.heap.size (.slice (some ⟨g7, 0, none⟩) rs.length cap7) rs [(⟨#[c]⟩, ⟨#[100, 97, 100, 97]⟩)] (w1.heap.size + 1) 0 1 rfl rfl ?_ ?_ ?_ ?_ ?_; (with_reducible exact hO7); (exact rules_blk hP7 h1 h2); (simp; omega); (first | omega | (simp; omega) | simp); intro g9 cap9 w9 hO9x hgrow9; have hO9 : OwnR w9 w1.heap.size (.slice (some ⟨g9, 0, none⟩) (rs.length + 1) cap9) (rs ++ [(⟨#[c]⟩, ⟨#[100, 97, 100, 97]⟩)]) := (by simpa using hO9x); have hV9 : Below w1.heap.size w1 w9 := grow_below hV7 hgrow9 (by first | omega | (simp; omega) | simp) (own_ge hO7); have hA9 := hA.below hV9; have hC9 : BoxG w9 (w1.heap.size + 2) (.string ⟨#[]⟩) (.slice none 0 0) := grown_keep hO7 hgrow9 hC7 (fun cur h => by simp at h); have hne9 : w0.heap.size ≠ w1.heap.size + 2 := (by omega); have hS9 : w1.heap.size ≤ w1.heap.size + 2 := (by omega); obtain ⟨y0, y1, yf0, yf1⟩ := hC9.cells; clear hO9x)
            | (have _ := tok6; refine step_append_rules rfl _ _ rfl w1.heap.size (.slice (some ⟨g7, 0, none⟩) rs.length cap7) rs [(⟨#[c]⟩, ⟨#[100, 97, 100, 97]⟩)] (w1.heap.size + 2) 0 1 rfl rfl ?_ ?_ ?_ ?_ ?_; (with_reducible exact hO7); (exact rules_blk hP7 h1 h2); (simp; omega); (first | omega | (simp; omega) | simp); intro g9 cap9 w9 hO9x hgrow9; have hO9 : OwnR w9 w1.heap.size (.slice (some ⟨g9, 0, none⟩) (rs.length + 1) cap9) (rs ++ [(⟨#[c]⟩, ⟨#[100, 97, 100, 97]⟩)]) := (by simpa using hO9x); have hV9 : Below w1.heap.size w1 w9 := grow_below hV7 hgrow9 (by first | omega | (simp; omega) | simp) (own_ge hO7); have hA9 := hA.below hV9; have hC9 : BoxG w9 (w1.heap.size + 1) (.string ⟨#[]⟩) (.slice none 0 0) := grown_keep hO7 hgrow9 hC7 (fun cur h => by simp at h); have hne9 : w0.heap.size ≠ w1.heap.size + 1 := (by omega); have hS9 : w1.heap.size ≤ w1.heap.size + 1 := (by omega); obtain ⟨y0, y1, yf0, yf1⟩ := hC9.cells; clear hO9x)
            | (have _ := tok7; refine step_append_rules rfl _ _ rfl w1.heap.size (.slice (some ⟨g7, 0, none⟩) rs.length cap7) rs [(⟨#[c]⟩, ⟨#[100, 97, 100, 97]⟩)] (w1.heap.size) 0 1 rfl rfl ?_ ?_ ?_ ?_ ?_; (with_reducible exact hO7); (exact rules_blk hP7 h1 h2); (simp; omega); (first | omega | (simp; omega) | simp); intro g9 cap9 w9 hO9x hgrow9; have hO9 : OwnR w9 w1.heap.size (.slice (some ⟨g9, 0, none⟩) (rs.length + 1) cap9) (rs ++ [(⟨#[c]⟩, ⟨#[100, 97, 100, 97]⟩)]) := (by simpa using hO9x); have hV9 : Below w1.heap.size w1 w9 := grow_below hV7 hgrow9 (by first | omega | (simp; omega) | simp) (own_ge hO7); have hA9 := hA.below hV9; have hC9 : BoxG w9 (w1.heap.size + 2) (.string ⟨#[]⟩) (.slice none 0 0) := grown_keep hO7 hgrow9 hC7 (fun cur h => by simp at h); have hne9 : w0.heap.size ≠ w1.heap.size + 2 := (by omega); have hS9 : w1.heap.size ≤ w1.heap.size + 2 := (by omega); obtain ⟨y0, y1, yf0, yf1⟩ := hC9.cells; clear hO9x)
            | (have _ := tok8; refine step_append_rules rfl _ _ rfl w1.heap.size (.slice (some ⟨g7, 0, none⟩) rs.length cap7) rs [(⟨#[c]⟩, ⟨#[100, 97, 100, 97]⟩)] (w1.heap.size) 0 1 rfl rfl ?_ ?_ ?_ ?_ ?_; (with_reducible exact hO7); (exact rules_blk hP7 h1 h2); (simp; omega); (first | omega | (simp; omega) | simp); intro g9 cap9 w9 hO9x hgrow9; have hO9 : OwnR w9 w1.heap.size (.slice (some ⟨g9, 0, none⟩) (rs.length + 1) cap9) (rs ++ [(⟨#[c]⟩, ⟨#[100, 97, 100, 97]⟩)]) := (by simpa using hO9x); have hV9 : Below w1.heap.size w1 w9 := grow_below hV7 hgrow9 (by first | omega | (simp; omega) | simp) (own_ge hO7); have hA9 := hA.below hV9; have hC9 : BoxG w9 (w1.heap.size + 1) (.string ⟨#[]⟩) (.slice none 0 0) := grown_keep hO7 hgrow9 hC7 (fun cur h => by simp at h); have hne9 : w0.heap.size ≠ w1.heap.size + 1 := (by omega); have hS9 : w1.heap.size ≤ w1.heap.size + 1 := (by omega); obtain ⟨y0, y1, yf0, yf1⟩ := hC9.cells; clear hO9x)
            | (have _ := tok9; refine step_append_rules rfl _ _ rfl w1.heap.size (.slice (some ⟨g7, 0, none⟩) rs.length cap7) rs [(⟨#[c]⟩, ⟨#[100, 97, 100, 97]⟩)] (w1.heap.size + 2) 0 1 rfl rfl ?_ ?_ ?_ ?_ ?_; (with_reducible exact hO7); (exact rules_blk hP7 h1 h2); (simp; omega); (first | omega | (simp; omega) | simp); intro g9 cap9 w9 hO9x hgrow9; have hO9 : OwnR w9 w1.heap.size (.slice (some ⟨g9, 0, none⟩) (rs.length + 1) cap9) (rs ++ [(⟨#[c]⟩, ⟨#[100, 97, 100, 97]⟩)]) := (by simpa using hO9x); have hV9 : Below w1.heap.size w1 w9 := grow_below hV7 hgrow9 (by first | omega | (simp; omega) | simp) (own_ge hO7); have hA9 := hA.below hV9; have hC9 : BoxG w9 (w1.heap.size) (.string ⟨#[]⟩) (.slice none 0 0) := grown_keep hO7 hgrow9 hC7 (fun cur h => by simp at h); have hne9 : w0.heap.size ≠ w1.heap.size := (by omega); have hS9 : w1.heap.size ≤ w1.heap.size := (by omega); obtain ⟨y0, y1, yf0, yf1⟩ := hC9.cells; clear hO9x)
            | (have _ := tok10; refine step_append_rules rfl _ _ rfl w1.heap.size (.slice (some ⟨g7, 0, none⟩) rs.length cap7) rs [(⟨#[c]⟩, ⟨#[100, 97, 100, 97]⟩)] (w1.heap.size + 1) 0 1 rfl rfl ?_ ?_ ?_ ?_ ?_; (with_reducible exact hO7); (exact rules_blk hP7 h1 h2); (simp; omega); (first | omega | (simp; omega) | simp); intro g9 cap9 w9 hO9x hgrow9; have hO9 : OwnR w9 w1.heap.size (.slice (some ⟨g9, 0, none⟩) (rs.length + 1) cap9) (rs ++ [(⟨#[c]⟩, ⟨#[100, 97, 100, 97]⟩)]) := (by simpa using hO9x); have hV9 : Below w1.heap.size w1 w9 := grow_below hV7 hgrow9 (by first | omega | (simp; omega) | simp) (own_ge hO7); have hA9 := hA.below hV9; have hC9 : BoxG w9 (w1.heap.size) (.string ⟨#[]⟩) (.slice none 0 0) := grown_keep hO7 hgrow9 hC7 (fun cur h => by simp at h); have hne9 : w0.heap.size ≠ w1.heap.size := (by omega); have hS9 : w1.heap.size ≤ w1.heap.size := (by omega); obtain ⟨y0, y1, yf0, yf1⟩ := hC9.cells; clear hO9x)
            | (refine step_append_first rfl _ _ rfl w1.heap.size (.slice (some ⟨w1.heap.size, 0, none⟩) 0 0) rs b off c1 rfl rfl ?_ ?_ ?_ ?_ ?_; (with_reducible exact O0); (exact (hU.alloc _).drew2); (omega); (first | omega | (simp; omega) | simp); intro g7 cap7 w7 hO7 hgrow7; have tok0 := True.intro; have hV7 : Below w1.heap.size w1 w7 := grow_below V0 hgrow7 V0.size (by omega); have hA7 := hA.below hV7; have hZ7 := hV7.size)
            | (refine step_append_first rfl _ _ rfl w1.heap.size (.slice (some ⟨w1.heap.size, 0, none⟩) 0 0) rs b off c1 rfl rfl ?_ ?_ ?_ ?_ ?_; (with_reducible exact O1); (exact ((hU.alloc _).alloc _).drew2); (omega); (first | omega | (simp; omega) | simp); intro g7 cap7 w7 hO7 hgrow7; have tok1 := True.intro; have hV7 : Below w1.heap.size w1 w7 := grow_below V1 hgrow7 V1.size (by omega); have hA7 := hA.below hV7; have hZ7 := hV7.size; have hP7 : Blk w7 (w1.heap.size + 1) (.cells #[.string ⟨#[c]⟩, .string ⟨#[100, 97, 100, 97]⟩] 55) := (Blk.new (w1.alloc (.cells #[] 55)) (.cells #[.string ⟨#[c]⟩, .string ⟨#[100, 97, 100, 97]⟩] 55) (by simp)).drew.grown hgrow7 (by omega))
            | (refine step_append_first rfl _ _ rfl w1.heap.size (.slice (some ⟨w1.heap.size + 1, 0, none⟩) 0 0) rs b off c1 rfl rfl ?_ ?_ ?_ ?_ ?_; (with_reducible exact O2); (exact ((hU.alloc _).alloc _).drew2); (omega); (first | omega | (simp; omega) | simp); intro g7 cap7 w7 hO7 hgrow7; have tok2 := True.intro; have hV7 : Below w1.heap.size w1 w7 := grow_below V2 hgrow7 V2.size (by omega); have hA7 := hA.below hV7; have hZ7 := hV7.size; have hP7 : Blk w7 (w1.heap.size) (.cells #[.string ⟨#[c]⟩, .string ⟨#[100, 97, 100, 97]⟩] 55) := ((Blk.new w1 (.cells #[.string ⟨#[c]⟩, .string ⟨#[100, 97, 100, 97]⟩] 55) rfl).old _).drew.grown hgrow7 (by omega))
            | (refine step_append_first rfl _ _ rfl w1.heap.size (.slice (some ⟨w1.heap.size, 0, none⟩) 0 0) rs b off c1 rfl rfl ?_ ?_ ?_ ?_ ?_; (with_reducible exact O3); (exact ((hU.alloc _).alloc _).drew2); (omega); (first | omega | (simp; omega) | simp); intro g7 cap7 w7 hO7 hgrow7; have tok3 := True.intro; have hV7 : Below w1.heap.size w1 w7 := grow_below V3 hgrow7 V3.size (by omega); have hA7 := hA.below hV7; have hZ7 := hV7.size; have hC7 : BoxG w7 (w1.heap.size + 1) (.string ⟨#[]⟩) (.slice none 0 0) := (Blk.new (w1.alloc (.cells #[] 55)) (.cells #[.string ⟨#[]⟩, .slice none 0 0] 24) (by simp)).drew.grown hgrow7 (by omega))
            | (refine step_append_first rfl _ _ rfl w1.heap.size (.slice (some ⟨w1.heap.size + 1, 0, none⟩) 0 0) rs b off c1 rfl rfl ?_ ?_ ?_ ?_ ?_; (with_reducible exact O4); (exact ((hU.alloc _).alloc _).drew2); (omega); (first | omega | (simp; omega) | simp); intro g7 cap7 w7 hO7 hgrow7; have tok4 := True.intro; have hV7 : Below w1.heap.size w1 w7 := grow_below V4 hgrow7 V4.size (by omega); have hA7 := hA.below hV7; have hZ7 := hV7.size; have hC7 : BoxG w7 (w1.heap.size) (.string ⟨#[]⟩) (.slice none 0 0) := ((Blk.new w1 (.cells #[.string ⟨#[]⟩, .slice none 0 0] 24) rfl).old _).drew.grown hgrow7 (by omega))
            | (refine step_append_first rfl _ _ rfl w1.heap.size (.slice (some ⟨w1.heap.size, 0, none⟩) 0 0) rs b off c1 rfl rfl ?_ ?_ ?_ ?_ ?_; (with_reducible exact O5); (exact (((hU.alloc _).alloc _).alloc _).drew2); (omega); (first | omega | (simp; omega) | simp); intro g7 cap7 w7 hO7 hgrow7; have tok5 := True.intro; have hV7 : Below w1.heap.size w1 w7 := grow_below V5 hgrow7 V5.size (by omega); have hA7 := hA.below hV7; have hZ7 := hV7.size; have hP7 : Blk w7 (w1.heap.size + 1) (.cells #[.string ⟨#[c]⟩, .string ⟨#[100, 97, 100, 97]⟩] 55) := ((Blk.new (w1.alloc (.cells #[] 55)) (.cells #[.string ⟨#[c]⟩, .string ⟨#[100, 97, 100, 97]⟩] 55) (by simp)).old _).drew.grown hgrow7 (by omega); have hC7 : BoxG w7 (w1.heap.size + 2) (.string ⟨#[]⟩) (.slice none 0 0) := (Blk.new ((w1.alloc (.cells #[] 55)).alloc (.cells #[.string ⟨#[c]⟩, .string ⟨#[100, 97, 100, 97]⟩] 55)) (.cells #[.string ⟨#[]⟩, .slice none 0 0] 24) (by simp)).drew.grown hgrow7 (by omega))
            | (refine step_append_first rfl _ _ rfl w1.heap.size (.slice (some ⟨w1.heap.size, 0, none⟩) 0 0) rs b off c1 rfl rfl ?_ ?_ ?_ ?_ ?_; (with_reducible exact O6); (exact (((hU.alloc _).alloc _).alloc _).drew2); (omega); (first | omega | (simp; omega) | simp); intro g7 cap7 w7 hO7 hgrow7; have tok6 := True.intro; have hV7 : Below w1.heap.size w1 w7 := grow_below V6 hgrow7 V6.size (by omega); have hA7 := hA.below hV7; have hZ7 := hV7.size; have hP7 : Blk w7 (w1.heap.size + 2) (.cells #[.string ⟨#[c]⟩, .string ⟨#[100, 97, 100, 97]⟩] 55) := (Blk.new ((w1.alloc (.cells #[] 55)).alloc (.cells #[.string ⟨#[]⟩, .slice none 0 0] 24)) (.cells #[.string ⟨#[c]⟩, .string ⟨#[100, 97, 100, 97]⟩] 55) (by simp)).drew.grown hgrow7 (by omega); have hC7 : BoxG w7 (w1.heap.size + 1) (.string ⟨#[]⟩) (.slice none 0 0) := ((Blk.new (w1.alloc (.cells #[] 55)) (.cells #[.string ⟨#[]⟩, .slice none 0 0] 24) (by simp)).old _).drew.grown hgrow7 (by omega))
            | (refine step_append_first rfl _ _ rfl w1.heap.size (.slice (some ⟨w1.heap.size + 1, 0, none⟩) 0 0) rs b off c1 rfl rfl ?_ ?_ ?_ ?_ ?_; (with_reducible exact O7); (exact (((hU.alloc _).alloc _).alloc _).drew2); (omega); (first | omega | (simp; omega) | simp); intro g7 cap7 w7 hO7 hgrow7; have tok7 := True.intro; have hV7 : Below w1.heap.size w1 w7 := grow_below V7 hgrow7 V7.size (by omega); have hA7 := hA.below hV7; have hZ7 := hV7.size; have hP7 : Blk w7 (w1.heap.size) (.cells #[.string ⟨#[c]⟩, .string ⟨#[100, 97, 100, 97]⟩] 55) := (((Blk.new w1 (.cells #[.string ⟨#[c]⟩, .string ⟨#[100, 97, 100, 97]⟩] 55) rfl).old _).old _).drew.grown hgrow7 (by omega); have hC7 : BoxG w7 (w1.heap.size + 2) (.string ⟨#[]⟩) (.slice none 0 0) := (Blk.new ((w1.alloc (.cells #[.string ⟨#[c]⟩, .string ⟨#[100, 97, 100, 97]⟩] 55)).alloc (.cells #[] 55)) (.cells #[.string ⟨#[]⟩, .slice none 0 0] 24) (by simp)).drew.grown hgrow7 (by omega))
            | (refine step_append_first rfl _ _ rfl w1.heap.size (.slice (some ⟨w1.heap.size + 2, 0, none⟩) 0 0) rs b off c1 rfl rfl ?_ ?_ ?_ ?_ ?_; (with_reducible exact O8); (exact (((hU.alloc _).alloc _).alloc _).drew2); (omega); (first | omega | (simp; omega) | simp); intro g7 cap7 w7 hO7 hgrow7; have tok8 := True.intro; have hV7 : Below w1.heap.size w1 w7 := grow_below V8 hgrow7 V8.size (by omega); have hA7 := hA.below hV7; have hZ7 := hV7.size; have hP7 : Blk w7 (w1.heap.size) (.cells #[.string ⟨#[c]⟩, .string ⟨#[100, 97, 100, 97]⟩] 55) := (((Blk.new w1 (.cells #[.string ⟨#[c]⟩, .string ⟨#[100, 97, 100, 97]⟩] 55) rfl).old _).old _).drew.grown hgrow7 (by omega); have hC7 : BoxG w7 (w1.heap.size + 1) (.string ⟨#[]⟩) (.slice none 0 0) := ((Blk.new (w1.alloc (.cells #[.string ⟨#[c]⟩, .string ⟨#[100, 97, 100, 97]⟩] 55)) (.cells #[.string ⟨#[]⟩, .slice none 0 0] 24) (by simp)).old _).drew.grown hgrow7 (by omega))
            | (refine step_append_first rfl _ _ rfl w1.heap.size (.slice (some ⟨w1.heap.size + 1, 0, none⟩) 0 0) rs b off c1 rfl rfl ?_ ?_ ?_ ?_ ?_; (with_reducible exact O9); (exact (((hU.alloc _).alloc _).alloc _).drew2); (omega); (first | omega | (simp; omega) | simp); intro g7 cap7 w7 hO7 hgrow7; have tok9 := True.intro; have hV7 : Below w1.heap.size w1 w7 := grow_below V9 hgrow7 V9.size (by omega); have hA7 := hA.below hV7; have hZ7 := hV7.size; have hP7 : Blk w7 (w1.heap.size + 2) (.cells #[.string ⟨#[c]⟩, .string ⟨#[100, 97, 100, 97]⟩] 55) := (Blk.new ((w1.alloc (.cells #[.string ⟨#[]⟩, .slice none 0 0] 24)).alloc (.cells #[] 55)) (.cells #[.string ⟨#[c]⟩, .string ⟨#[100, 97, 100, 97]⟩] 55) (by simp)).drew.grown hgrow7 (by omega); have hC7 : BoxG w7 (w1.heap.size) (.string ⟨#[]⟩) (.slice none 0 0) := (((Blk.new w1 (.cells #[.string ⟨#[]⟩, .slice none 0 0] 24) rfl).old _).old _).drew.grown hgrow7 (by omega))
            | (refine step_append_first rfl _ _ rfl w1.heap.size (.slice (some ⟨w1.heap.size + 2, 0, none⟩) 0 0) rs b off c1 rfl rfl ?_ ?_ ?_ ?_ ?_; (with_reducible exact O10); (exact (((hU.alloc _).alloc _).alloc _).drew2); (omega); (first | omega | (simp; omega) | simp); intro g7 cap7 w7 hO7 hgrow7; have tok10 := True.intro; have hV7 : Below w1.heap.size w1 w7 := grow_below V10 hgrow7 V10.size (by omega); have hA7 := hA.below hV7; have hZ7 := hV7.size; have hP7 : Blk w7 (w1.heap.size + 1) (.cells #[.string ⟨#[c]⟩, .string ⟨#[100, 97, 100, 97]⟩] 55) := ((Blk.new (w1.alloc (.cells #[.string ⟨#[]⟩, .slice none 0 0] 24)) (.cells #[.string ⟨#[c]⟩, .string ⟨#[100, 97, 100, 97]⟩] 55) (by simp)).old _).drew.grown hgrow7 (by omega); have hC7 : BoxG w7 (w1.heap.size) (.string ⟨#[]⟩) (.slice none 0 0) := (((Blk.new w1 (.cells #[.string ⟨#[]⟩, .slice none 0 0] 24) rfl).old _).old _).drew.grown hgrow7 (by omega))
            | fail)
        all_goals (go_wp2_with fail; go_meet)
        all_goals (first | exact more_end2 hV9 hO9 (by simp) HSM.out (by simp; omega) hC9 hS9 | exact more_end1 hV9 hO9 (by simp) HSM.out (by simp; omega))
      case rest =>
        obtain ⟨X, g, cx, rfl, hX, hC, hcx, hRx, hV⟩ := hcut
        have hR2 := hU.below hV (Nat.le_refl _)
        have hA2 := hA.below hV
        have hB2 : Below w.heap.size w wc := hB5.trans (hV.mono hB5.size)
        have hsumT := Lib.hid (@sum_more st rs c HOK.out)
        have hnoneT := Lib.hid (@none_same st rs c HOK.out)
        have hmadeT := Lib.hid (@made_has st rs c hbig.out)
        generalize (rs ++ [((⟨#[c]⟩ : ByteArray), (⟨#[100, 97, 100, 97]⟩ : ByteArray))]) = us at *
        clear hU hA hB5 hV HSM h1 h2 hGl hS1 hbig HOK
        obtain ⟨x0, x1, _, _⟩ := hC.cells
        go_wp2_with fail
        with_reducible refine (gramOk_any st (some ⟨g, 0, none⟩) cx us _ hRx hcx).mono ?_
        rintro e w3 ⟨rfl, hb3⟩
        have hC3 := hC.below hb3
        have hA3 := hA2.below hb3
        have hRx3 := hRx.below hb3 (Nat.le_refl _)
        have hR3 := hR2.below hb3 (Nat.le_refl _)
        have hB3 := Below.on hB2 hb3 (Nat.le_refl _)
        clear hC hA2 hRx hR2 hB2 hb3 x0 x1
        cases hok : gramOkB st us with
        | false =>
          go_wp2
          go_ret
          exact ⟨rfl, hB3⟩
        | true =>
          have HS := Lib.hid (hsumT.out hok)
          have HN := Lib.hid (hnoneT.out hok)
          have HM := hmadeT.out hok
          clear hsumT hnoneT hmadeT hok
          obtain ⟨lx, ly, lz⟩ := sets_len st rs
          obtain ⟨mx, my, mz⟩ := sets_len st us
          have za := sum_len st rs
          have zb := sum_len st us
          have hltg := hA3.lt
          have hltx := hC3.lt
          obtain ⟨g0, g1, _, _⟩ := hA3.cells
          obtain ⟨x0, x1, _, _⟩ := hC3.cells
          have q0 : ∀ x, (grow w3 x).cell? ⟨w0.heap.size, 0, none⟩ = some (.string st) := fun x => by rw [grow_cell _ _ _ _ hltg]; exact g0
          have q1 : ∀ x, (grow w3 x).cell? ⟨w0.heap.size, 1, none⟩ = some (.slice (some ⟨b, off, none⟩) rs.length c1) := fun x => by rw [grow_cell _ _ _ _ hltg]; exact g1
          have p0 : ∀ x, (grow w3 x).cell? ⟨X, 0, none⟩ = some (.string st) := fun x => by rw [grow_cell _ _ _ _ hltx]; exact x0
          have p1 : ∀ x, (grow w3 x).cell? ⟨X, 1, none⟩ = some (.slice (some ⟨g, 0, none⟩) us.length cx) := fun x => by rw [grow_cell _ _ _ _ hltx]; exact x1
          have HW : ∀ x, RulesAt (grow w3 x) (some ⟨b, off, none⟩) rs := fun x => hR3.below (below_grow _ x) (Nat.le_refl _)
          have HX : ∀ x, RulesAt (grow w3 x) (some ⟨g, 0, none⟩) us := fun x => hRx3.below (below_grow _ x) (Nat.le_refl _)
          have s1 := run_catL (noneL st rs) (madeL st rs) (by omega)
          have s2 := run_catL (catL (noneL st rs) (madeL st rs)) (metL st rs) (by simp only [catL, List.length_append]; omega)
          have t1 := run_catL (noneL st us) (madeL st us) (by omega)
          have t2 := run_catL (catL (noneL st us) (madeL st us)) (metL st us) (by simp only [catL, List.length_append]; omega)
          clear hA3 hC3 g0 g1 x0 x1
          go_wp2_with fail
          refine wp_region_grow (by kernel_rfl) (by kernel_rfl) ?_
          repeat (go_big_quiet_step ((first | (go_at_call 50; exact Calls.grow_of (gramNone_any st _ c1 rs _ (HW _) hc1)) | (go_at_call 48; exact Calls.grow_of (gramMade_any st _ c1 rs _ (HW _) hc1)) | (go_at_call 49; exact Calls.grow_of (gramMet_any st _ c1 rs _ (HW _) hc1)))))
          refine wpQuiet_nil ?_
          rintro _ ⟨y1, rfl⟩
          have hb4 := below_grow w3 y1
          have R4 := HW y1
          have Rx4 := HX y1
          have a0 := q0 y1
          have a1 := q1 y1
          have x0 := p0 y1
          have x1 := p1 y1
          have hB4 := Below.on hB3 hb4 (Nat.le_refl _)
          have hltg4 := Nat.lt_of_lt_of_le hltg hb4.size
          have hltx4 := Nat.lt_of_lt_of_le hltx hb4.size
          clear q0 q1 p0 p1 HW HX s1 s2 hB3 hltg hltx hb4 hR3 hRx3
          generalize grow w3 y1 = w4 at *
          have q0 : ∀ x, (grow w4 x).cell? ⟨w0.heap.size, 0, none⟩ = some (.string st) := fun x => by rw [grow_cell _ _ _ _ hltg4]; exact a0
          have q1 : ∀ x, (grow w4 x).cell? ⟨w0.heap.size, 1, none⟩ = some (.slice (some ⟨b, off, none⟩) rs.length c1) := fun x => by rw [grow_cell _ _ _ _ hltg4]; exact a1
          have p0 : ∀ x, (grow w4 x).cell? ⟨X, 0, none⟩ = some (.string st) := fun x => by rw [grow_cell _ _ _ _ hltx4]; exact x0
          have p1 : ∀ x, (grow w4 x).cell? ⟨X, 1, none⟩ = some (.slice (some ⟨g, 0, none⟩) us.length cx) := fun x => by rw [grow_cell _ _ _ _ hltx4]; exact x1
          have HW : ∀ x, RulesAt (grow w4 x) (some ⟨b, off, none⟩) rs := fun x => R4.below (below_grow _ x) (Nat.le_refl _)
          have HX : ∀ x, RulesAt (grow w4 x) (some ⟨g, 0, none⟩) us := fun x => Rx4.below (below_grow _ x) (Nat.le_refl _)
          clear a0 a1 x0 x1
          go_wp2_with fail
          refine wp_region_grow (by kernel_rfl) (by kernel_rfl) ?_
          repeat (go_big_quiet_step ((first | (go_at_call 50; exact Calls.grow_of (gramNone_any st _ cx us _ (HX _) hcx)) | (go_at_call 48; exact Calls.grow_of (gramMade_any st _ cx us _ (HX _) hcx)) | (go_at_call 49; exact Calls.grow_of (gramMet_any st _ cx us _ (HX _) hcx)))))
          refine wpQuiet_nil ?_
          rintro _ ⟨y2, rfl⟩
          have hb5 := below_grow w4 y2
          have R5 := HW y2
          have Rx5 := HX y2
          have a0 := q0 y2
          have a1 := q1 y2
          have x0 := p0 y2
          have x1 := p1 y2
          have hB5 := Below.on hB4 hb5 (Nat.le_refl _)
          have hltg5 := Nat.lt_of_lt_of_le hltg4 hb5.size
          have hltx5 := Nat.lt_of_lt_of_le hltx4 hb5.size
          clear q0 q1 p0 p1 HW HX t1 t2 hB4 hltg4 hltx4 hb5 R4 Rx4
          generalize grow w4 y2 = w5 at *
          have HS2 : Hid (∀ k (h : k < (bytesOf (catL (catL (noneL st rs) (madeL st rs)) (metL st rs))).size), hasB (bytesOf (catL (catL (noneL st us) (madeL st us)) (metL st us))) (((bytesOf (catL (catL (noneL st rs) (madeL st rs)) (metL st rs)))[k].toNat : Nat) : Int) = true) := HS.out
          have za2 : (bytesOf (catL (catL (noneL st rs) (madeL st rs)) (metL st rs))).size ≤ 30 := za
          have zb2 : (bytesOf (catL (catL (noneL st us) (madeL st us)) (metL st us))).size ≤ 30 := zb
          clear HS za zb
          generalize bytesOf (catL (catL (noneL st rs) (madeL st rs)) (metL st rs)) = sa at *
          generalize bytesOf (catL (catL (noneL st us) (madeL st us)) (metL st us)) = sb at *
          have hsb : sb.size ≤ maxLen := by unfold maxLen; omega
          go_wp2_with fail
          go_loopg [9] (sa.size + 1) (fun gk iv wr => ∃ k : Nat, k ≤ sa.size ∧ gk = sa.size + 1 - k ∧ iv = .int .i64 (k : Int) ∧ wr = w5)
          case atStart => exact ⟨0, Nat.zero_le _, rfl, rfl, rfl⟩
          case round =>
            obtain ⟨k, hk, hgk, rfl, rfl⟩ := hrel
            have HG := Lib.hid hgk
            clear hgk
            by_cases hlt : k < sa.size
            · have hkl : (k : Int) < (sa.size : Int) := by omega
              have hhas := HS2.out k hlt
              have HH := Lib.hid hhas
              clear hhas
              go_wp2_with fail
              with_reducible refine (wpHas_any sb _ _ hsb).mono ?_
              rintro e w' ⟨rfl, rfl⟩
              rw [HH.out]
              go_wp2
              go_roundg (sa.size + 1 - (k + 1))
              case measure => have := HG.out; omega
              case rel => exact ⟨k + 1, by omega, rfl, by go_num, rfl⟩
            · have hkl : ¬ (k : Int) < (sa.size : Int) := by omega
              have heN : ((bytesOf (noneL st us)).toList == (bytesOf (noneL st rs)).toList) = true := by rw [HN.out]; simp
              have hmz : (bytesOf (madeL st us)).size ≤ maxLen := by rw [bytesOf_size]; unfold maxLen; omega
              have q0 : ∀ x, (grow wr x).cell? ⟨w0.heap.size, 0, none⟩ = some (.string st) := fun x => by rw [grow_cell _ _ _ _ hltg5]; exact a0
              have q1 : ∀ x, (grow wr x).cell? ⟨w0.heap.size, 1, none⟩ = some (.slice (some ⟨b, off, none⟩) rs.length c1) := fun x => by rw [grow_cell _ _ _ _ hltg5]; exact a1
              have p0 : ∀ x, (grow wr x).cell? ⟨X, 0, none⟩ = some (.string st) := fun x => by rw [grow_cell _ _ _ _ hltx5]; exact x0
              have p1 : ∀ x, (grow wr x).cell? ⟨X, 1, none⟩ = some (.slice (some ⟨g, 0, none⟩) us.length cx) := fun x => by rw [grow_cell _ _ _ _ hltx5]; exact x1
              have HW : ∀ x, RulesAt (grow wr x) (some ⟨b, off, none⟩) rs := fun x => R5.below (below_grow _ x) (Nat.le_refl _)
              have HX : ∀ x, RulesAt (grow wr x) (some ⟨g, 0, none⟩) us := fun x => Rx5.below (below_grow _ x) (Nat.le_refl _)
              have CW : ∀ x, Calls Try.prog 46 #[.string (bytesOf (madeL st us)), .int .u8 (c.toNat : Int)] (grow wr x) fun e w' => e = .returned (.bool true) ∧ ∃ y, w' = grow wr y := fun x => Calls.grow_of ((wpHas_any (bytesOf (madeL st us)) (c.toNat : Int) _ hmz).mono (fun e w' ⟨he, hw⟩ => ⟨by rw [he, HM], hw ▸ Below.refl _ _⟩))
              clear a0 a1 x0 x1
              go_wp2_with fail
              refine wp_region_grow (by kernel_rfl) (by kernel_rfl) ?_
              repeat (go_big_quiet_step ((first | (go_at_call 50; with_reducible exact Calls.grow_of (gramNone_any st _ cx us _ (HX _) hcx)) | (go_at_call 50; with_reducible exact Calls.grow_of (gramNone_any st _ c1 rs _ (HW _) hc1)) | (go_at_call 48; exact Calls.grow_of (gramMade_any st _ cx us _ (HX _) hcx)) | (go_at_call 46; exact CW _))))
              refine wpQuiet_nil ?_
              rintro _ ⟨y3, rfl⟩
              go_wp2
              go_ret
              exact ⟨rfl, Below.on hB5 (below_grow _ _) (Nat.le_refl _)⟩
end Go.Proofs.Ytjpkohahabclgaa
