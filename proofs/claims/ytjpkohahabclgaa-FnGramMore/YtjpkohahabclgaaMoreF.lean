/- The walk of FnGramMore. -/
import Derived.Test.YtjpkohahabclgaaMoreA
import Derived.Test.YtjpkohahabclgaaDrawH
import Derived.Test.YtjpkohahabclgaaEForA
import Derived.Test.YtjpkohahabclgaaTextB
import Derived.Deep.DeepCutAuto
namespace Go.Proofs.Ytjpkohahabclgaa
open Go.ChangeShapes Go.WideShapes Go.ChangeAt Go.RowKit
set_option maxRecDepth 100000
theorem text_more {st : ByteArray} {rs : List RuleT} (h1 : gramOkB st rs = true) (h2 : gramOkB st (rs ++ [((⟨#[68]⟩ : ByteArray), (⟨#[100, 97, 100, 98]⟩ : ByteArray))]) = true) : gramTextL st (rs ++ [((⟨#[68]⟩ : ByteArray), (⟨#[100, 97, 100, 98]⟩ : ByteArray))]) = gramTextL st rs ++ [68, 62, 100, 97, 100, 98, 10] := by
  unfold gramTextL
  rw [if_pos h1, if_pos h2]
  unfold textTo
  rw [List.take_length, List.take_length, List.flatMap_append]
  simp [ruleTextL]
theorem forTo_less (rs t : List RuleT) (left : ByteArray) : ∀ k, k ≤ rs.length → forTo (rs ++ t) left k = forTo rs left k
  | 0, _ => rfl
  | k + 1, h => by
    rw [forTo, forTo, forTo_less rs t left k (by omega), List.getElem?_append_left (by omega)]
theorem for_more {st : ByteArray} {rs : List RuleT} (h1 : gramOkB st rs = true) (h2 : gramOkB st (rs ++ [((⟨#[68]⟩ : ByteArray), (⟨#[100, 97, 100, 98]⟩ : ByteArray))]) = true) : (forL st (rs ++ [((⟨#[68]⟩ : ByteArray), (⟨#[100, 97, 100, 98]⟩ : ByteArray))]) ⟨#[68]⟩).length = (forL st rs ⟨#[68]⟩).length + 1 := by
  unfold forL
  rw [if_pos h1, if_pos h2, show (rs ++ [((⟨#[68]⟩ : ByteArray), (⟨#[100, 97, 100, 98]⟩ : ByteArray))]).length = rs.length + 1 from by simp, forTo_yes (by simp) (by simp), forTo_less _ _ _ _ (Nat.le_refl _)]
  simp
theorem gtext_len (st : ByteArray) (rs : List RuleT) (hl : rs.length ≤ 10) (hs : st.size ≤ 100) (hS : SmallR rs) : (gramTextL st rs).length ≤ 100000 := by
  have h : ∀ us : List RuleT, SmallR us → (us.flatMap ruleTextL).length ≤ 300 * us.length := by
    intro us
    induction us with
    | nil => intro _; simp
    | cons r us ih =>
      intro h
      have h1 := ih (fun x hx => h x (List.mem_cons_of_mem _ hx))
      have h2 := h r (List.mem_cons_self)
      rw [List.flatMap_cons, List.length_append, List.length_cons]
      have h3 : (ruleTextL r).length = r.1.size + r.2.size + 2 := by simp [ruleTextL]; omega
      omega
  unfold gramTextL
  split
  · unfold textTo
    rw [List.take_length, List.length_append, List.length_cons]
    have := h rs hS
    have h4 : st.data.toList.length = st.size := by simp
    omega
  · simp
set_option maxHeartbeats 8000000 in
theorem gramMore_law (a : Option Addr) (n cap : Nat) (w : World) (H : BytesAt w a n cap) :
    Calls Try.prog 10 #[.slice a n cap] w fun e w' => e = .returned (.bool true) ∧ Below w.heap.size w w' := by
  have hm := H.2.1
  unfold maxLen at hm
  by_cases h : (1048576 : Int) < (n : Int)
  · go_enter Try.func10, Try.ntmps10
    go_wp2
    go_ret
    exact ⟨rfl, Below.refl _ _⟩
  go_enter Try.func10, Try.ntmps10
  go_wp2_with fail
  refine (drawGramOk_any a n cap w H).mono ?_
  rintro e w0 ⟨v1, st, rs, rfl, ⟨b, off, c1, rfl, hc1, hR1, hl1, hs1, hS1, hb1⟩, hB1⟩
  have hbw := (Below.refl w0.heap.size w0).alloc (Nat.le_refl _) (.cells #[.string st, .slice (some ⟨b, off, none⟩) rs.length c1] 24)
  have hU := hR1.below hbw (Nat.le_refl _)
  have hA : BoxG (w0.alloc (.cells #[.string st, .slice (some ⟨b, off, none⟩) rs.length c1] 24)) w0.heap.size (.string st) (.slice (some ⟨b, off, none⟩) rs.length c1) := blk_new _ _ rfl
  have hBw : Below w.heap.size w (w0.alloc (.cells #[.string st, .slice (some ⟨b, off, none⟩) rs.length c1] 24)) := hB1.trans (hbw.mono hB1.size)
  have hGl := hA.lt
  go_upto_region 4 with fail
  generalize (w0.alloc (.cells #[.string st, .slice (some ⟨b, off, none⟩) rs.length c1] 24)) = w1 at *
  have hlen : rs.length ≤ 100 := by omega
  have h1 : (⟨#[68]⟩ : ByteArray).size ≤ 100 := by decide
  have h2 : (⟨#[100, 97, 100, 98]⟩ : ByteArray).size ≤ 100 := by decide
  have HSM := Lib.hid (small_snoc hS1 h1 h2)
  clear hbw hR1 hb1
  go_cut [4] (fun s4 wx => MoreTo w1 st (rs ++ [(⟨#[68]⟩, ⟨#[100, 97, 100, 98]⟩)]) s4 wx)
  case first =>
    obtain ⟨a0, a1, _, _⟩ := hA.cells
    have O0 : OwnR (w1.alloc (.cells #[] 55)).drew w1.heap.size (.slice (some ⟨w1.heap.size, 0, none⟩) 0 0) [] := own_blk (Blk.new w1 (.cells #[] 55) rfl).drew (by omega)
    have V0 : Below w1.heap.size w1 (w1.alloc (.cells #[] 55)).drew := ((Below.refl w1.heap.size w1).alloc (Nat.le_refl _) (.cells #[] 55)).drew
    have O1 : OwnR ((w1.alloc (.cells #[] 55)).alloc (.cells #[.string ⟨#[68]⟩, .string ⟨#[100, 97, 100, 98]⟩] 55)).drew w1.heap.size (.slice (some ⟨w1.heap.size, 0, none⟩) 0 0) [] := own_blk ((Blk.new w1 (.cells #[] 55) rfl).old _).drew (by omega)
    have V1 : Below w1.heap.size w1 ((w1.alloc (.cells #[] 55)).alloc (.cells #[.string ⟨#[68]⟩, .string ⟨#[100, 97, 100, 98]⟩] 55)).drew := (((Below.refl w1.heap.size w1).alloc (Nat.le_refl _) (.cells #[] 55)).alloc (by simp; try omega) (.cells #[.string ⟨#[68]⟩, .string ⟨#[100, 97, 100, 98]⟩] 55)).drew
    have O2 : OwnR ((w1.alloc (.cells #[.string ⟨#[68]⟩, .string ⟨#[100, 97, 100, 98]⟩] 55)).alloc (.cells #[] 55)).drew w1.heap.size (.slice (some ⟨w1.heap.size + 1, 0, none⟩) 0 0) [] := own_blk (Blk.new (w1.alloc (.cells #[.string ⟨#[68]⟩, .string ⟨#[100, 97, 100, 98]⟩] 55)) (.cells #[] 55) (by simp)).drew (by omega)
    have V2 : Below w1.heap.size w1 ((w1.alloc (.cells #[.string ⟨#[68]⟩, .string ⟨#[100, 97, 100, 98]⟩] 55)).alloc (.cells #[] 55)).drew := (((Below.refl w1.heap.size w1).alloc (Nat.le_refl _) (.cells #[.string ⟨#[68]⟩, .string ⟨#[100, 97, 100, 98]⟩] 55)).alloc (by simp; try omega) (.cells #[] 55)).drew
    have O3 : OwnR ((w1.alloc (.cells #[] 55)).alloc (.cells #[.string ⟨#[]⟩, .slice none 0 0] 24)).drew w1.heap.size (.slice (some ⟨w1.heap.size, 0, none⟩) 0 0) [] := own_blk ((Blk.new w1 (.cells #[] 55) rfl).old _).drew (by omega)
    have V3 : Below w1.heap.size w1 ((w1.alloc (.cells #[] 55)).alloc (.cells #[.string ⟨#[]⟩, .slice none 0 0] 24)).drew := (((Below.refl w1.heap.size w1).alloc (Nat.le_refl _) (.cells #[] 55)).alloc (by simp; try omega) (.cells #[.string ⟨#[]⟩, .slice none 0 0] 24)).drew
    have O4 : OwnR ((w1.alloc (.cells #[.string ⟨#[]⟩, .slice none 0 0] 24)).alloc (.cells #[] 55)).drew w1.heap.size (.slice (some ⟨w1.heap.size + 1, 0, none⟩) 0 0) [] := own_blk (Blk.new (w1.alloc (.cells #[.string ⟨#[]⟩, .slice none 0 0] 24)) (.cells #[] 55) (by simp)).drew (by omega)
    have V4 : Below w1.heap.size w1 ((w1.alloc (.cells #[.string ⟨#[]⟩, .slice none 0 0] 24)).alloc (.cells #[] 55)).drew := (((Below.refl w1.heap.size w1).alloc (Nat.le_refl _) (.cells #[.string ⟨#[]⟩, .slice none 0 0] 24)).alloc (by simp; try omega) (.cells #[] 55)).drew
    have O5 : OwnR (((w1.alloc (.cells #[] 55)).alloc (.cells #[.string ⟨#[68]⟩, .string ⟨#[100, 97, 100, 98]⟩] 55)).alloc (.cells #[.string ⟨#[]⟩, .slice none 0 0] 24)).drew w1.heap.size (.slice (some ⟨w1.heap.size, 0, none⟩) 0 0) [] := own_blk (((Blk.new w1 (.cells #[] 55) rfl).old _).old _).drew (by omega)
    have V5 : Below w1.heap.size w1 (((w1.alloc (.cells #[] 55)).alloc (.cells #[.string ⟨#[68]⟩, .string ⟨#[100, 97, 100, 98]⟩] 55)).alloc (.cells #[.string ⟨#[]⟩, .slice none 0 0] 24)).drew := ((((Below.refl w1.heap.size w1).alloc (Nat.le_refl _) (.cells #[] 55)).alloc (by simp; try omega) (.cells #[.string ⟨#[68]⟩, .string ⟨#[100, 97, 100, 98]⟩] 55)).alloc (by simp; try omega) (.cells #[.string ⟨#[]⟩, .slice none 0 0] 24)).drew
    have O6 : OwnR (((w1.alloc (.cells #[] 55)).alloc (.cells #[.string ⟨#[]⟩, .slice none 0 0] 24)).alloc (.cells #[.string ⟨#[68]⟩, .string ⟨#[100, 97, 100, 98]⟩] 55)).drew w1.heap.size (.slice (some ⟨w1.heap.size, 0, none⟩) 0 0) [] := own_blk (((Blk.new w1 (.cells #[] 55) rfl).old _).old _).drew (by omega)
    have V6 : Below w1.heap.size w1 (((w1.alloc (.cells #[] 55)).alloc (.cells #[.string ⟨#[]⟩, .slice none 0 0] 24)).alloc (.cells #[.string ⟨#[68]⟩, .string ⟨#[100, 97, 100, 98]⟩] 55)).drew := ((((Below.refl w1.heap.size w1).alloc (Nat.le_refl _) (.cells #[] 55)).alloc (by simp; try omega) (.cells #[.string ⟨#[]⟩, .slice none 0 0] 24)).alloc (by simp; try omega) (.cells #[.string ⟨#[68]⟩, .string ⟨#[100, 97, 100, 98]⟩] 55)).drew
    have O7 : OwnR (((w1.alloc (.cells #[.string ⟨#[68]⟩, .string ⟨#[100, 97, 100, 98]⟩] 55)).alloc (.cells #[] 55)).alloc (.cells #[.string ⟨#[]⟩, .slice none 0 0] 24)).drew w1.heap.size (.slice (some ⟨w1.heap.size + 1, 0, none⟩) 0 0) [] := own_blk ((Blk.new (w1.alloc (.cells #[.string ⟨#[68]⟩, .string ⟨#[100, 97, 100, 98]⟩] 55)) (.cells #[] 55) (by simp)).old _).drew (by omega)
    have V7 : Below w1.heap.size w1 (((w1.alloc (.cells #[.string ⟨#[68]⟩, .string ⟨#[100, 97, 100, 98]⟩] 55)).alloc (.cells #[] 55)).alloc (.cells #[.string ⟨#[]⟩, .slice none 0 0] 24)).drew := ((((Below.refl w1.heap.size w1).alloc (Nat.le_refl _) (.cells #[.string ⟨#[68]⟩, .string ⟨#[100, 97, 100, 98]⟩] 55)).alloc (by simp; try omega) (.cells #[] 55)).alloc (by simp; try omega) (.cells #[.string ⟨#[]⟩, .slice none 0 0] 24)).drew
    have O8 : OwnR (((w1.alloc (.cells #[.string ⟨#[68]⟩, .string ⟨#[100, 97, 100, 98]⟩] 55)).alloc (.cells #[.string ⟨#[]⟩, .slice none 0 0] 24)).alloc (.cells #[] 55)).drew w1.heap.size (.slice (some ⟨w1.heap.size + 2, 0, none⟩) 0 0) [] := own_blk (Blk.new ((w1.alloc (.cells #[.string ⟨#[68]⟩, .string ⟨#[100, 97, 100, 98]⟩] 55)).alloc (.cells #[.string ⟨#[]⟩, .slice none 0 0] 24)) (.cells #[] 55) (by simp)).drew (by omega)
    have V8 : Below w1.heap.size w1 (((w1.alloc (.cells #[.string ⟨#[68]⟩, .string ⟨#[100, 97, 100, 98]⟩] 55)).alloc (.cells #[.string ⟨#[]⟩, .slice none 0 0] 24)).alloc (.cells #[] 55)).drew := ((((Below.refl w1.heap.size w1).alloc (Nat.le_refl _) (.cells #[.string ⟨#[68]⟩, .string ⟨#[100, 97, 100, 98]⟩] 55)).alloc (by simp; try omega) (.cells #[.string ⟨#[]⟩, .slice none 0 0] 24)).alloc (by simp; try omega) (.cells #[] 55)).drew
    have O9 : OwnR (((w1.alloc (.cells #[.string ⟨#[]⟩, .slice none 0 0] 24)).alloc (.cells #[] 55)).alloc (.cells #[.string ⟨#[68]⟩, .string ⟨#[100, 97, 100, 98]⟩] 55)).drew w1.heap.size (.slice (some ⟨w1.heap.size + 1, 0, none⟩) 0 0) [] := own_blk ((Blk.new (w1.alloc (.cells #[.string ⟨#[]⟩, .slice none 0 0] 24)) (.cells #[] 55) (by simp)).old _).drew (by omega)
    have V9 : Below w1.heap.size w1 (((w1.alloc (.cells #[.string ⟨#[]⟩, .slice none 0 0] 24)).alloc (.cells #[] 55)).alloc (.cells #[.string ⟨#[68]⟩, .string ⟨#[100, 97, 100, 98]⟩] 55)).drew := ((((Below.refl w1.heap.size w1).alloc (Nat.le_refl _) (.cells #[.string ⟨#[]⟩, .slice none 0 0] 24)).alloc (by simp; try omega) (.cells #[] 55)).alloc (by simp; try omega) (.cells #[.string ⟨#[68]⟩, .string ⟨#[100, 97, 100, 98]⟩] 55)).drew
    have O10 : OwnR (((w1.alloc (.cells #[.string ⟨#[]⟩, .slice none 0 0] 24)).alloc (.cells #[.string ⟨#[68]⟩, .string ⟨#[100, 97, 100, 98]⟩] 55)).alloc (.cells #[] 55)).drew w1.heap.size (.slice (some ⟨w1.heap.size + 2, 0, none⟩) 0 0) [] := own_blk (Blk.new ((w1.alloc (.cells #[.string ⟨#[]⟩, .slice none 0 0] 24)).alloc (.cells #[.string ⟨#[68]⟩, .string ⟨#[100, 97, 100, 98]⟩] 55)) (.cells #[] 55) (by simp)).drew (by omega)
    have V10 : Below w1.heap.size w1 (((w1.alloc (.cells #[.string ⟨#[]⟩, .slice none 0 0] 24)).alloc (.cells #[.string ⟨#[68]⟩, .string ⟨#[100, 97, 100, 98]⟩] 55)).alloc (.cells #[] 55)).drew := ((((Below.refl w1.heap.size w1).alloc (Nat.le_refl _) (.cells #[.string ⟨#[]⟩, .slice none 0 0] 24)).alloc (by simp; try omega) (.cells #[.string ⟨#[68]⟩, .string ⟨#[100, 97, 100, 98]⟩] 55)).alloc (by simp; try omega) (.cells #[] 55)).drew
    go_region_held3 (fun w' => w'.cell? ⟨w0.heap.size, 0, none⟩ = some (.string st) ∧ w'.cell? ⟨w0.heap.size, 1, none⟩ = some (.slice (some ⟨b, off, none⟩) rs.length c1))
      (first
        | with_reducible exact keep_st hA9 hC9 hne9 _ _
        | with_reducible exact keep_box hA9
        | with_reducible exact keep_box (hA9.old _)
        | with_reducible exact keep_box ((hA9.old _).old _)
        | with_reducible exact keep_box hA7
        | with_reducible exact keep_box (hA7.old _)
        | with_reducible exact keep_box ((hA7.old _).old _)
        | with_reducible exact keep_box hA.drew
        | with_reducible exact keep_box (hA.old _).drew
        | with_reducible exact keep_box ((hA.old _).old _).drew
        | with_reducible exact keep_box (((hA.old _).old _).old _).drew
        | go_keep)
      (first
        | (have _ := tok0; refine step_append_rules rfl _ _ rfl w1.heap.size (.slice (some ⟨g7, 0, none⟩) rs.length cap7) rs [(⟨#[68]⟩, ⟨#[100, 97, 100, 98]⟩)] (w7.heap.size) 0 1 rfl rfl ?_ ?_ ?_ ?_ ?_; (with_reducible exact (hO7.alloc _)); (exact rules_blk (Blk.new w7 (.cells #[.string ⟨#[68]⟩, .string ⟨#[100, 97, 100, 98]⟩] 55) rfl) h1 h2); (simp; omega); (first | omega | (simp; omega) | simp); intro g9 cap9 w9 hO9x hgrow9; have hO9 : OwnR w9 w1.heap.size (.slice (some ⟨g9, 0, none⟩) (rs.length + 1) cap9) (rs ++ [(⟨#[68]⟩, ⟨#[100, 97, 100, 98]⟩)]) := (by simpa using hO9x); have hV9 : Below w1.heap.size w1 w9 := grow_below (hV7.alloc (by first | omega | (simp; omega) | simp) _) hgrow9 (by first | omega | (simp; omega) | simp) (own_ge hO7); have hA9 := hA.below hV9; clear hO9x)
        | (have _ := tok0; refine step_append_rules rfl _ _ rfl w1.heap.size (.slice (some ⟨g7, 0, none⟩) rs.length cap7) rs [(⟨#[68]⟩, ⟨#[100, 97, 100, 98]⟩)] (w7.heap.size) 0 1 rfl rfl ?_ ?_ ?_ ?_ ?_; (with_reducible exact ((hO7.alloc _).alloc _)); (exact rules_blk ((Blk.new w7 (.cells #[.string ⟨#[68]⟩, .string ⟨#[100, 97, 100, 98]⟩] 55) rfl).old _) h1 h2); (simp; omega); (first | omega | (simp; omega) | simp); intro g9 cap9 w9 hO9x hgrow9; have hO9 : OwnR w9 w1.heap.size (.slice (some ⟨g9, 0, none⟩) (rs.length + 1) cap9) (rs ++ [(⟨#[68]⟩, ⟨#[100, 97, 100, 98]⟩)]) := (by simpa using hO9x); have hV9 : Below w1.heap.size w1 w9 := grow_below ((hV7.alloc (by first | omega | (simp; omega) | simp) _).alloc (by first | omega | (simp; omega) | simp) _) hgrow9 (by first | omega | (simp; omega) | simp) (own_ge hO7); have hA9 := hA.below hV9; have hC9 : BoxG w9 (w7.heap.size + 1) (.string ⟨#[]⟩) (.slice none 0 0) := grown_keep ((hO7.alloc _).alloc _) hgrow9 (Blk.new (w7.alloc (.cells #[.string ⟨#[68]⟩, .string ⟨#[100, 97, 100, 98]⟩] 55)) (.cells #[.string ⟨#[]⟩, .slice none 0 0] 24) (by simp)) (fun cur h => by simp at h); have hne9 : w0.heap.size ≠ w7.heap.size + 1 := (by omega); have hS9 : w1.heap.size ≤ w7.heap.size + 1 := (by omega); obtain ⟨y0, y1, yf0, yf1⟩ := hC9.cells; clear hO9x)
        | (have _ := tok0; refine step_append_rules rfl _ _ rfl w1.heap.size (.slice (some ⟨g7, 0, none⟩) rs.length cap7) rs [(⟨#[68]⟩, ⟨#[100, 97, 100, 98]⟩)] (w7.heap.size + 1) 0 1 rfl rfl ?_ ?_ ?_ ?_ ?_; (with_reducible exact ((hO7.alloc _).alloc _)); (exact rules_blk (Blk.new (w7.alloc (.cells #[.string ⟨#[]⟩, .slice none 0 0] 24)) (.cells #[.string ⟨#[68]⟩, .string ⟨#[100, 97, 100, 98]⟩] 55) (by simp)) h1 h2); (simp; omega); (first | omega | (simp; omega) | simp); intro g9 cap9 w9 hO9x hgrow9; have hO9 : OwnR w9 w1.heap.size (.slice (some ⟨g9, 0, none⟩) (rs.length + 1) cap9) (rs ++ [(⟨#[68]⟩, ⟨#[100, 97, 100, 98]⟩)]) := (by simpa using hO9x); have hV9 : Below w1.heap.size w1 w9 := grow_below ((hV7.alloc (by first | omega | (simp; omega) | simp) _).alloc (by first | omega | (simp; omega) | simp) _) hgrow9 (by first | omega | (simp; omega) | simp) (own_ge hO7); have hA9 := hA.below hV9; have hC9 : BoxG w9 (w7.heap.size) (.string ⟨#[]⟩) (.slice none 0 0) := grown_keep ((hO7.alloc _).alloc _) hgrow9 ((Blk.new w7 (.cells #[.string ⟨#[]⟩, .slice none 0 0] 24) rfl).old _) (fun cur h => by simp at h); have hne9 : w0.heap.size ≠ w7.heap.size := (by omega); have hS9 : w1.heap.size ≤ w7.heap.size := (by omega); obtain ⟨y0, y1, yf0, yf1⟩ := hC9.cells; clear hO9x)
        | (have _ := tok1; refine step_append_rules rfl _ _ rfl w1.heap.size (.slice (some ⟨g7, 0, none⟩) rs.length cap7) rs [(⟨#[68]⟩, ⟨#[100, 97, 100, 98]⟩)] (w1.heap.size + 1) 0 1 rfl rfl ?_ ?_ ?_ ?_ ?_; (with_reducible exact hO7); (exact rules_blk hP7 h1 h2); (simp; omega); (first | omega | (simp; omega) | simp); intro g9 cap9 w9 hO9x hgrow9; have hO9 : OwnR w9 w1.heap.size (.slice (some ⟨g9, 0, none⟩) (rs.length + 1) cap9) (rs ++ [(⟨#[68]⟩, ⟨#[100, 97, 100, 98]⟩)]) := (by simpa using hO9x); have hV9 : Below w1.heap.size w1 w9 := grow_below hV7 hgrow9 (by first | omega | (simp; omega) | simp) (own_ge hO7); have hA9 := hA.below hV9; clear hO9x)
        | (have _ := tok1; refine step_append_rules rfl _ _ rfl w1.heap.size (.slice (some ⟨g7, 0, none⟩) rs.length cap7) rs [(⟨#[68]⟩, ⟨#[100, 97, 100, 98]⟩)] (w1.heap.size + 1) 0 1 rfl rfl ?_ ?_ ?_ ?_ ?_; (with_reducible exact (hO7.alloc _)); (exact rules_blk (hP7.old _) h1 h2); (simp; omega); (first | omega | (simp; omega) | simp); intro g9 cap9 w9 hO9x hgrow9; have hO9 : OwnR w9 w1.heap.size (.slice (some ⟨g9, 0, none⟩) (rs.length + 1) cap9) (rs ++ [(⟨#[68]⟩, ⟨#[100, 97, 100, 98]⟩)]) := (by simpa using hO9x); have hV9 : Below w1.heap.size w1 w9 := grow_below (hV7.alloc (by first | omega | (simp; omega) | simp) _) hgrow9 (by first | omega | (simp; omega) | simp) (own_ge hO7); have hA9 := hA.below hV9; have hC9 : BoxG w9 (w7.heap.size) (.string ⟨#[]⟩) (.slice none 0 0) := grown_keep (hO7.alloc _) hgrow9 (Blk.new w7 (.cells #[.string ⟨#[]⟩, .slice none 0 0] 24) rfl) (fun cur h => by simp at h); have hne9 : w0.heap.size ≠ w7.heap.size := (by omega); have hS9 : w1.heap.size ≤ w7.heap.size := (by omega); obtain ⟨y0, y1, yf0, yf1⟩ := hC9.cells; clear hO9x)
        | (have _ := tok2; refine step_append_rules rfl _ _ rfl w1.heap.size (.slice (some ⟨g7, 0, none⟩) rs.length cap7) rs [(⟨#[68]⟩, ⟨#[100, 97, 100, 98]⟩)] (w1.heap.size) 0 1 rfl rfl ?_ ?_ ?_ ?_ ?_; (with_reducible exact hO7); (exact rules_blk hP7 h1 h2); (simp; omega); (first | omega | (simp; omega) | simp); intro g9 cap9 w9 hO9x hgrow9; have hO9 : OwnR w9 w1.heap.size (.slice (some ⟨g9, 0, none⟩) (rs.length + 1) cap9) (rs ++ [(⟨#[68]⟩, ⟨#[100, 97, 100, 98]⟩)]) := (by simpa using hO9x); have hV9 : Below w1.heap.size w1 w9 := grow_below hV7 hgrow9 (by first | omega | (simp; omega) | simp) (own_ge hO7); have hA9 := hA.below hV9; clear hO9x)
        | (have _ := tok2; refine step_append_rules rfl _ _ rfl w1.heap.size (.slice (some ⟨g7, 0, none⟩) rs.length cap7) rs [(⟨#[68]⟩, ⟨#[100, 97, 100, 98]⟩)] (w1.heap.size) 0 1 rfl rfl ?_ ?_ ?_ ?_ ?_; (with_reducible exact (hO7.alloc _)); (exact rules_blk (hP7.old _) h1 h2); (simp; omega); (first | omega | (simp; omega) | simp); intro g9 cap9 w9 hO9x hgrow9; have hO9 : OwnR w9 w1.heap.size (.slice (some ⟨g9, 0, none⟩) (rs.length + 1) cap9) (rs ++ [(⟨#[68]⟩, ⟨#[100, 97, 100, 98]⟩)]) := (by simpa using hO9x); have hV9 : Below w1.heap.size w1 w9 := grow_below (hV7.alloc (by first | omega | (simp; omega) | simp) _) hgrow9 (by first | omega | (simp; omega) | simp) (own_ge hO7); have hA9 := hA.below hV9; have hC9 : BoxG w9 (w7.heap.size) (.string ⟨#[]⟩) (.slice none 0 0) := grown_keep (hO7.alloc _) hgrow9 (Blk.new w7 (.cells #[.string ⟨#[]⟩, .slice none 0 0] 24) rfl) (fun cur h => by simp at h); have hne9 : w0.heap.size ≠ w7.heap.size := (by omega); have hS9 : w1.heap.size ≤ w7.heap.size := (by omega); obtain ⟨y0, y1, yf0, yf1⟩ := hC9.cells; clear hO9x)
        | (have _ := tok3; refine step_append_rules rfl _ _ rfl w1.heap.size (.slice (some ⟨g7, 0, none⟩) rs.length cap7) rs [(⟨#[68]⟩, ⟨#[100, 97, 100, 98]⟩)] (w7.heap.size) 0 1 rfl rfl ?_ ?_ ?_ ?_ ?_; (with_reducible exact (hO7.alloc _)); (exact rules_blk (Blk.new w7 (.cells #[.string ⟨#[68]⟩, .string ⟨#[100, 97, 100, 98]⟩] 55) rfl) h1 h2); (simp; omega); (first | omega | (simp; omega) | simp); intro g9 cap9 w9 hO9x hgrow9; have hO9 : OwnR w9 w1.heap.size (.slice (some ⟨g9, 0, none⟩) (rs.length + 1) cap9) (rs ++ [(⟨#[68]⟩, ⟨#[100, 97, 100, 98]⟩)]) := (by simpa using hO9x); have hV9 : Below w1.heap.size w1 w9 := grow_below (hV7.alloc (by first | omega | (simp; omega) | simp) _) hgrow9 (by first | omega | (simp; omega) | simp) (own_ge hO7); have hA9 := hA.below hV9; have hC9 : BoxG w9 (w1.heap.size + 1) (.string ⟨#[]⟩) (.slice none 0 0) := grown_keep (hO7.alloc _) hgrow9 (hC7.old _) (fun cur h => by simp at h); have hne9 : w0.heap.size ≠ w1.heap.size + 1 := (by omega); have hS9 : w1.heap.size ≤ w1.heap.size + 1 := (by omega); obtain ⟨y0, y1, yf0, yf1⟩ := hC9.cells; clear hO9x)
        | (have _ := tok4; refine step_append_rules rfl _ _ rfl w1.heap.size (.slice (some ⟨g7, 0, none⟩) rs.length cap7) rs [(⟨#[68]⟩, ⟨#[100, 97, 100, 98]⟩)] (w7.heap.size) 0 1 rfl rfl ?_ ?_ ?_ ?_ ?_; (with_reducible exact (hO7.alloc _)); (exact rules_blk (Blk.new w7 (.cells #[.string ⟨#[68]⟩, .string ⟨#[100, 97, 100, 98]⟩] 55) rfl) h1 h2); (simp; omega); (first | omega | (simp; omega) | simp); intro g9 cap9 w9 hO9x hgrow9; have hO9 : OwnR w9 w1.heap.size (.slice (some ⟨g9, 0, none⟩) (rs.length + 1) cap9) (rs ++ [(⟨#[68]⟩, ⟨#[100, 97, 100, 98]⟩)]) := (by simpa using hO9x); have hV9 : Below w1.heap.size w1 w9 := grow_below (hV7.alloc (by first | omega | (simp; omega) | simp) _) hgrow9 (by first | omega | (simp; omega) | simp) (own_ge hO7); have hA9 := hA.below hV9; have hC9 : BoxG w9 (w1.heap.size) (.string ⟨#[]⟩) (.slice none 0 0) := grown_keep (hO7.alloc _) hgrow9 (hC7.old _) (fun cur h => by simp at h); have hne9 : w0.heap.size ≠ w1.heap.size := (by omega); have hS9 : w1.heap.size ≤ w1.heap.size := (by omega); obtain ⟨y0, y1, yf0, yf1⟩ := hC9.cells; clear hO9x)
        | (have _ := tok5; refine step_append_rules rfl _ _ rfl w1.heap.size (.slice (some ⟨g7, 0, none⟩) rs.length cap7) rs [(⟨#[68]⟩, ⟨#[100, 97, 100, 98]⟩)] (w1.heap.size + 1) 0 1 rfl rfl ?_ ?_ ?_ ?_ ?_; (with_reducible exact hO7); (exact rules_blk hP7 h1 h2); (simp; omega); (first | omega | (simp; omega) | simp); intro g9 cap9 w9 hO9x hgrow9; have hO9 : OwnR w9 w1.heap.size (.slice (some ⟨g9, 0, none⟩) (rs.length + 1) cap9) (rs ++ [(⟨#[68]⟩, ⟨#[100, 97, 100, 98]⟩)]) := (by simpa using hO9x); have hV9 : Below w1.heap.size w1 w9 := grow_below hV7 hgrow9 (by first | omega | (simp; omega) | simp) (own_ge hO7); have hA9 := hA.below hV9; have hC9 : BoxG w9 (w1.heap.size + 2) (.string ⟨#[]⟩) (.slice none 0 0) := grown_keep hO7 hgrow9 hC7 (fun cur h => by simp at h); have hne9 : w0.heap.size ≠ w1.heap.size + 2 := (by omega); have hS9 : w1.heap.size ≤ w1.heap.size + 2 := (by omega); obtain ⟨y0, y1, yf0, yf1⟩ := hC9.cells; clear hO9x)
        | (have _ := tok6; refine step_append_rules rfl _ _ rfl w1.heap.size (.slice (some ⟨g7, 0, none⟩) rs.length cap7) rs [(⟨#[68]⟩, ⟨#[100, 97, 100, 98]⟩)] (w1.heap.size + 2) 0 1 rfl rfl ?_ ?_ ?_ ?_ ?_; (with_reducible exact hO7); (exact rules_blk hP7 h1 h2); (simp; omega); (first | omega | (simp; omega) | simp); intro g9 cap9 w9 hO9x hgrow9; have hO9 : OwnR w9 w1.heap.size (.slice (some ⟨g9, 0, none⟩) (rs.length + 1) cap9) (rs ++ [(⟨#[68]⟩, ⟨#[100, 97, 100, 98]⟩)]) := (by simpa using hO9x); have hV9 : Below w1.heap.size w1 w9 := grow_below hV7 hgrow9 (by first | omega | (simp; omega) | simp) (own_ge hO7); have hA9 := hA.below hV9; have hC9 : BoxG w9 (w1.heap.size + 1) (.string ⟨#[]⟩) (.slice none 0 0) := grown_keep hO7 hgrow9 hC7 (fun cur h => by simp at h); have hne9 : w0.heap.size ≠ w1.heap.size + 1 := (by omega); have hS9 : w1.heap.size ≤ w1.heap.size + 1 := (by omega); obtain ⟨y0, y1, yf0, yf1⟩ := hC9.cells; clear hO9x)
        | (have _ := tok7; refine step_append_rules rfl _ _ rfl w1.heap.size (.slice (some ⟨g7, 0, none⟩) rs.length cap7) rs [(⟨#[68]⟩, ⟨#[100, 97, 100, 98]⟩)] (w1.heap.size) 0 1 rfl rfl ?_ ?_ ?_ ?_ ?_; (with_reducible exact hO7); (exact rules_blk hP7 h1 h2); (simp; omega); (first | omega | (simp; omega) | simp); intro g9 cap9 w9 hO9x hgrow9; have hO9 : OwnR w9 w1.heap.size (.slice (some ⟨g9, 0, none⟩) (rs.length + 1) cap9) (rs ++ [(⟨#[68]⟩, ⟨#[100, 97, 100, 98]⟩)]) := (by simpa using hO9x); have hV9 : Below w1.heap.size w1 w9 := grow_below hV7 hgrow9 (by first | omega | (simp; omega) | simp) (own_ge hO7); have hA9 := hA.below hV9; have hC9 : BoxG w9 (w1.heap.size + 2) (.string ⟨#[]⟩) (.slice none 0 0) := grown_keep hO7 hgrow9 hC7 (fun cur h => by simp at h); have hne9 : w0.heap.size ≠ w1.heap.size + 2 := (by omega); have hS9 : w1.heap.size ≤ w1.heap.size + 2 := (by omega); obtain ⟨y0, y1, yf0, yf1⟩ := hC9.cells; clear hO9x)
        | (have _ := tok8; refine step_append_rules rfl _ _ rfl w1.heap.size (.slice (some ⟨g7, 0, none⟩) rs.length cap7) rs [(⟨#[68]⟩, ⟨#[100, 97, 100, 98]⟩)] (w1.heap.size) 0 1 rfl rfl ?_ ?_ ?_ ?_ ?_; (with_reducible exact hO7); (exact rules_blk hP7 h1 h2); (simp; omega); (first | omega | (simp; omega) | simp); intro g9 cap9 w9 hO9x hgrow9; have hO9 : OwnR w9 w1.heap.size (.slice (some ⟨g9, 0, none⟩) (rs.length + 1) cap9) (rs ++ [(⟨#[68]⟩, ⟨#[100, 97, 100, 98]⟩)]) := (by simpa using hO9x); have hV9 : Below w1.heap.size w1 w9 := grow_below hV7 hgrow9 (by first | omega | (simp; omega) | simp) (own_ge hO7); have hA9 := hA.below hV9; have hC9 : BoxG w9 (w1.heap.size + 1) (.string ⟨#[]⟩) (.slice none 0 0) := grown_keep hO7 hgrow9 hC7 (fun cur h => by simp at h); have hne9 : w0.heap.size ≠ w1.heap.size + 1 := (by omega); have hS9 : w1.heap.size ≤ w1.heap.size + 1 := (by omega); obtain ⟨y0, y1, yf0, yf1⟩ := hC9.cells; clear hO9x)
        | (have _ := tok9; refine step_append_rules rfl _ _ rfl w1.heap.size (.slice (some ⟨g7, 0, none⟩) rs.length cap7) rs [(⟨#[68]⟩, ⟨#[100, 97, 100, 98]⟩)] (w1.heap.size + 2) 0 1 rfl rfl ?_ ?_ ?_ ?_ ?_; (with_reducible exact hO7); (exact rules_blk hP7 h1 h2); (simp; omega); (first | omega | (simp; omega) | simp); intro g9 cap9 w9 hO9x hgrow9; have hO9 : OwnR w9 w1.heap.size (.slice (some ⟨g9, 0, none⟩) (rs.length + 1) cap9) (rs ++ [(⟨#[68]⟩, ⟨#[100, 97, 100, 98]⟩)]) := (by simpa using hO9x); have hV9 : Below w1.heap.size w1 w9 := grow_below hV7 hgrow9 (by first | omega | (simp; omega) | simp) (own_ge hO7); have hA9 := hA.below hV9; have hC9 : BoxG w9 (w1.heap.size) (.string ⟨#[]⟩) (.slice none 0 0) := grown_keep hO7 hgrow9 hC7 (fun cur h => by simp at h); have hne9 : w0.heap.size ≠ w1.heap.size := (by omega); have hS9 : w1.heap.size ≤ w1.heap.size := (by omega); obtain ⟨y0, y1, yf0, yf1⟩ := hC9.cells; clear hO9x)
        | (have _ := tok10; refine step_append_rules rfl _ _ rfl w1.heap.size (.slice (some ⟨g7, 0, none⟩) rs.length cap7) rs [(⟨#[68]⟩, ⟨#[100, 97, 100, 98]⟩)] (w1.heap.size + 1) 0 1 rfl rfl ?_ ?_ ?_ ?_ ?_; (with_reducible exact hO7); (exact rules_blk hP7 h1 h2); (simp; omega); (first | omega | (simp; omega) | simp); intro g9 cap9 w9 hO9x hgrow9; have hO9 : OwnR w9 w1.heap.size (.slice (some ⟨g9, 0, none⟩) (rs.length + 1) cap9) (rs ++ [(⟨#[68]⟩, ⟨#[100, 97, 100, 98]⟩)]) := (by simpa using hO9x); have hV9 : Below w1.heap.size w1 w9 := grow_below hV7 hgrow9 (by first | omega | (simp; omega) | simp) (own_ge hO7); have hA9 := hA.below hV9; have hC9 : BoxG w9 (w1.heap.size) (.string ⟨#[]⟩) (.slice none 0 0) := grown_keep hO7 hgrow9 hC7 (fun cur h => by simp at h); have hne9 : w0.heap.size ≠ w1.heap.size := (by omega); have hS9 : w1.heap.size ≤ w1.heap.size := (by omega); obtain ⟨y0, y1, yf0, yf1⟩ := hC9.cells; clear hO9x)
        | (refine step_append_first rfl _ _ rfl w1.heap.size (.slice (some ⟨w1.heap.size, 0, none⟩) 0 0) rs b off c1 rfl rfl ?_ ?_ ?_ ?_ ?_; (with_reducible exact O0); (exact (hU.alloc _).drew2); (omega); (first | omega | (simp; omega) | simp); intro g7 cap7 w7 hO7 hgrow7; have tok0 := True.intro; have hV7 : Below w1.heap.size w1 w7 := grow_below V0 hgrow7 V0.size (by omega); have hA7 := hA.below hV7; have hZ7 := hV7.size)
        | (refine step_append_first rfl _ _ rfl w1.heap.size (.slice (some ⟨w1.heap.size, 0, none⟩) 0 0) rs b off c1 rfl rfl ?_ ?_ ?_ ?_ ?_; (with_reducible exact O1); (exact ((hU.alloc _).alloc _).drew2); (omega); (first | omega | (simp; omega) | simp); intro g7 cap7 w7 hO7 hgrow7; have tok1 := True.intro; have hV7 : Below w1.heap.size w1 w7 := grow_below V1 hgrow7 V1.size (by omega); have hA7 := hA.below hV7; have hZ7 := hV7.size; have hP7 : Blk w7 (w1.heap.size + 1) (.cells #[.string ⟨#[68]⟩, .string ⟨#[100, 97, 100, 98]⟩] 55) := (Blk.new (w1.alloc (.cells #[] 55)) (.cells #[.string ⟨#[68]⟩, .string ⟨#[100, 97, 100, 98]⟩] 55) (by simp)).drew.grown hgrow7 (by omega))
        | (refine step_append_first rfl _ _ rfl w1.heap.size (.slice (some ⟨w1.heap.size + 1, 0, none⟩) 0 0) rs b off c1 rfl rfl ?_ ?_ ?_ ?_ ?_; (with_reducible exact O2); (exact ((hU.alloc _).alloc _).drew2); (omega); (first | omega | (simp; omega) | simp); intro g7 cap7 w7 hO7 hgrow7; have tok2 := True.intro; have hV7 : Below w1.heap.size w1 w7 := grow_below V2 hgrow7 V2.size (by omega); have hA7 := hA.below hV7; have hZ7 := hV7.size; have hP7 : Blk w7 (w1.heap.size) (.cells #[.string ⟨#[68]⟩, .string ⟨#[100, 97, 100, 98]⟩] 55) := ((Blk.new w1 (.cells #[.string ⟨#[68]⟩, .string ⟨#[100, 97, 100, 98]⟩] 55) rfl).old _).drew.grown hgrow7 (by omega))
        | (refine step_append_first rfl _ _ rfl w1.heap.size (.slice (some ⟨w1.heap.size, 0, none⟩) 0 0) rs b off c1 rfl rfl ?_ ?_ ?_ ?_ ?_; (with_reducible exact O3); (exact ((hU.alloc _).alloc _).drew2); (omega); (first | omega | (simp; omega) | simp); intro g7 cap7 w7 hO7 hgrow7; have tok3 := True.intro; have hV7 : Below w1.heap.size w1 w7 := grow_below V3 hgrow7 V3.size (by omega); have hA7 := hA.below hV7; have hZ7 := hV7.size; have hC7 : BoxG w7 (w1.heap.size + 1) (.string ⟨#[]⟩) (.slice none 0 0) := (Blk.new (w1.alloc (.cells #[] 55)) (.cells #[.string ⟨#[]⟩, .slice none 0 0] 24) (by simp)).drew.grown hgrow7 (by omega))
        | (refine step_append_first rfl _ _ rfl w1.heap.size (.slice (some ⟨w1.heap.size + 1, 0, none⟩) 0 0) rs b off c1 rfl rfl ?_ ?_ ?_ ?_ ?_; (with_reducible exact O4); (exact ((hU.alloc _).alloc _).drew2); (omega); (first | omega | (simp; omega) | simp); intro g7 cap7 w7 hO7 hgrow7; have tok4 := True.intro; have hV7 : Below w1.heap.size w1 w7 := grow_below V4 hgrow7 V4.size (by omega); have hA7 := hA.below hV7; have hZ7 := hV7.size; have hC7 : BoxG w7 (w1.heap.size) (.string ⟨#[]⟩) (.slice none 0 0) := ((Blk.new w1 (.cells #[.string ⟨#[]⟩, .slice none 0 0] 24) rfl).old _).drew.grown hgrow7 (by omega))
        | (refine step_append_first rfl _ _ rfl w1.heap.size (.slice (some ⟨w1.heap.size, 0, none⟩) 0 0) rs b off c1 rfl rfl ?_ ?_ ?_ ?_ ?_; (with_reducible exact O5); (exact (((hU.alloc _).alloc _).alloc _).drew2); (omega); (first | omega | (simp; omega) | simp); intro g7 cap7 w7 hO7 hgrow7; have tok5 := True.intro; have hV7 : Below w1.heap.size w1 w7 := grow_below V5 hgrow7 V5.size (by omega); have hA7 := hA.below hV7; have hZ7 := hV7.size; have hP7 : Blk w7 (w1.heap.size + 1) (.cells #[.string ⟨#[68]⟩, .string ⟨#[100, 97, 100, 98]⟩] 55) := ((Blk.new (w1.alloc (.cells #[] 55)) (.cells #[.string ⟨#[68]⟩, .string ⟨#[100, 97, 100, 98]⟩] 55) (by simp)).old _).drew.grown hgrow7 (by omega); have hC7 : BoxG w7 (w1.heap.size + 2) (.string ⟨#[]⟩) (.slice none 0 0) := (Blk.new ((w1.alloc (.cells #[] 55)).alloc (.cells #[.string ⟨#[68]⟩, .string ⟨#[100, 97, 100, 98]⟩] 55)) (.cells #[.string ⟨#[]⟩, .slice none 0 0] 24) (by simp)).drew.grown hgrow7 (by omega))
        | (refine step_append_first rfl _ _ rfl w1.heap.size (.slice (some ⟨w1.heap.size, 0, none⟩) 0 0) rs b off c1 rfl rfl ?_ ?_ ?_ ?_ ?_; (with_reducible exact O6); (exact (((hU.alloc _).alloc _).alloc _).drew2); (omega); (first | omega | (simp; omega) | simp); intro g7 cap7 w7 hO7 hgrow7; have tok6 := True.intro; have hV7 : Below w1.heap.size w1 w7 := grow_below V6 hgrow7 V6.size (by omega); have hA7 := hA.below hV7; have hZ7 := hV7.size; have hP7 : Blk w7 (w1.heap.size + 2) (.cells #[.string ⟨#[68]⟩, .string ⟨#[100, 97, 100, 98]⟩] 55) := (Blk.new ((w1.alloc (.cells #[] 55)).alloc (.cells #[.string ⟨#[]⟩, .slice none 0 0] 24)) (.cells #[.string ⟨#[68]⟩, .string ⟨#[100, 97, 100, 98]⟩] 55) (by simp)).drew.grown hgrow7 (by omega); have hC7 : BoxG w7 (w1.heap.size + 1) (.string ⟨#[]⟩) (.slice none 0 0) := ((Blk.new (w1.alloc (.cells #[] 55)) (.cells #[.string ⟨#[]⟩, .slice none 0 0] 24) (by simp)).old _).drew.grown hgrow7 (by omega))
        | (refine step_append_first rfl _ _ rfl w1.heap.size (.slice (some ⟨w1.heap.size + 1, 0, none⟩) 0 0) rs b off c1 rfl rfl ?_ ?_ ?_ ?_ ?_; (with_reducible exact O7); (exact (((hU.alloc _).alloc _).alloc _).drew2); (omega); (first | omega | (simp; omega) | simp); intro g7 cap7 w7 hO7 hgrow7; have tok7 := True.intro; have hV7 : Below w1.heap.size w1 w7 := grow_below V7 hgrow7 V7.size (by omega); have hA7 := hA.below hV7; have hZ7 := hV7.size; have hP7 : Blk w7 (w1.heap.size) (.cells #[.string ⟨#[68]⟩, .string ⟨#[100, 97, 100, 98]⟩] 55) := (((Blk.new w1 (.cells #[.string ⟨#[68]⟩, .string ⟨#[100, 97, 100, 98]⟩] 55) rfl).old _).old _).drew.grown hgrow7 (by omega); have hC7 : BoxG w7 (w1.heap.size + 2) (.string ⟨#[]⟩) (.slice none 0 0) := (Blk.new ((w1.alloc (.cells #[.string ⟨#[68]⟩, .string ⟨#[100, 97, 100, 98]⟩] 55)).alloc (.cells #[] 55)) (.cells #[.string ⟨#[]⟩, .slice none 0 0] 24) (by simp)).drew.grown hgrow7 (by omega))
        | (refine step_append_first rfl _ _ rfl w1.heap.size (.slice (some ⟨w1.heap.size + 2, 0, none⟩) 0 0) rs b off c1 rfl rfl ?_ ?_ ?_ ?_ ?_; (with_reducible exact O8); (exact (((hU.alloc _).alloc _).alloc _).drew2); (omega); (first | omega | (simp; omega) | simp); intro g7 cap7 w7 hO7 hgrow7; have tok8 := True.intro; have hV7 : Below w1.heap.size w1 w7 := grow_below V8 hgrow7 V8.size (by omega); have hA7 := hA.below hV7; have hZ7 := hV7.size; have hP7 : Blk w7 (w1.heap.size) (.cells #[.string ⟨#[68]⟩, .string ⟨#[100, 97, 100, 98]⟩] 55) := (((Blk.new w1 (.cells #[.string ⟨#[68]⟩, .string ⟨#[100, 97, 100, 98]⟩] 55) rfl).old _).old _).drew.grown hgrow7 (by omega); have hC7 : BoxG w7 (w1.heap.size + 1) (.string ⟨#[]⟩) (.slice none 0 0) := ((Blk.new (w1.alloc (.cells #[.string ⟨#[68]⟩, .string ⟨#[100, 97, 100, 98]⟩] 55)) (.cells #[.string ⟨#[]⟩, .slice none 0 0] 24) (by simp)).old _).drew.grown hgrow7 (by omega))
        | (refine step_append_first rfl _ _ rfl w1.heap.size (.slice (some ⟨w1.heap.size + 1, 0, none⟩) 0 0) rs b off c1 rfl rfl ?_ ?_ ?_ ?_ ?_; (with_reducible exact O9); (exact (((hU.alloc _).alloc _).alloc _).drew2); (omega); (first | omega | (simp; omega) | simp); intro g7 cap7 w7 hO7 hgrow7; have tok9 := True.intro; have hV7 : Below w1.heap.size w1 w7 := grow_below V9 hgrow7 V9.size (by omega); have hA7 := hA.below hV7; have hZ7 := hV7.size; have hP7 : Blk w7 (w1.heap.size + 2) (.cells #[.string ⟨#[68]⟩, .string ⟨#[100, 97, 100, 98]⟩] 55) := (Blk.new ((w1.alloc (.cells #[.string ⟨#[]⟩, .slice none 0 0] 24)).alloc (.cells #[] 55)) (.cells #[.string ⟨#[68]⟩, .string ⟨#[100, 97, 100, 98]⟩] 55) (by simp)).drew.grown hgrow7 (by omega); have hC7 : BoxG w7 (w1.heap.size) (.string ⟨#[]⟩) (.slice none 0 0) := (((Blk.new w1 (.cells #[.string ⟨#[]⟩, .slice none 0 0] 24) rfl).old _).old _).drew.grown hgrow7 (by omega))
        | (refine step_append_first rfl _ _ rfl w1.heap.size (.slice (some ⟨w1.heap.size + 2, 0, none⟩) 0 0) rs b off c1 rfl rfl ?_ ?_ ?_ ?_ ?_; (with_reducible exact O10); (exact (((hU.alloc _).alloc _).alloc _).drew2); (omega); (first | omega | (simp; omega) | simp); intro g7 cap7 w7 hO7 hgrow7; have tok10 := True.intro; have hV7 : Below w1.heap.size w1 w7 := grow_below V10 hgrow7 V10.size (by omega); have hA7 := hA.below hV7; have hZ7 := hV7.size; have hP7 : Blk w7 (w1.heap.size + 1) (.cells #[.string ⟨#[68]⟩, .string ⟨#[100, 97, 100, 98]⟩] 55) := ((Blk.new (w1.alloc (.cells #[.string ⟨#[]⟩, .slice none 0 0] 24)) (.cells #[.string ⟨#[68]⟩, .string ⟨#[100, 97, 100, 98]⟩] 55) (by simp)).old _).drew.grown hgrow7 (by omega); have hC7 : BoxG w7 (w1.heap.size) (.string ⟨#[]⟩) (.slice none 0 0) := (((Blk.new w1 (.cells #[.string ⟨#[]⟩, .slice none 0 0] 24) rfl).old _).old _).drew.grown hgrow7 (by omega))
        | fail)
    all_goals (go_wp2_with fail; go_meet)
    all_goals (first | exact more_end2 hV9 hO9 (by simp) HSM.out (by simp; omega) hC9 hS9 | exact more_end1 hV9 hO9 (by simp) HSM.out (by simp; omega))
  case rest =>
    obtain ⟨X, g, cx, rfl, hX, hC, hcx, hRx, hV⟩ := hcut
    have hR2 := hU.below hV (Nat.le_refl _)
    have hA2 := hA.below hV
    have hB2 : Below w.heap.size w wc := hBw.trans (hV.mono hBw.size)
    have hul' : (rs ++ [((⟨#[68]⟩ : ByteArray), (⟨#[100, 97, 100, 98]⟩ : ByteArray))]).length = rs.length + 1 := by simp
    have HUL := Lib.hid hul'
    clear hul'
    have hokT := Lib.hid (@text_more st rs)
    have hforT := Lib.hid (@for_more st rs)
    generalize (rs ++ [((⟨#[68]⟩ : ByteArray), (⟨#[100, 97, 100, 98]⟩ : ByteArray))]) = us at *
    have hS5 := Lib.hid hS1
    clear hU hA hBw hV HSM h1 h2 hGl hS1
    obtain ⟨x0, x1, _, _⟩ := hC.cells
    go_wp2_with fail
    with_reducible refine (gramOk_any st (some ⟨g, 0, none⟩) cx us _ hRx hcx).mono ?_
    rintro e w3 ⟨rfl, hb3⟩
    have hC3 := hC.below hb3
    have hA3 := hA2.below hb3
    have hRx3 := hRx.below hb3 (Nat.le_refl _)
    have hR3 := hR2.below hb3 (Nat.le_refl _)
    have hB3 := Below.on hB2 hb3 (Nat.le_refl _)
    clear hC hA2 hRx hR2 hB2 hb3 x0 x1
    obtain ⟨x0, x1, _, _⟩ := hC3.cells
    go_wp2_with fail
    with_reducible refine (sGramOk_any st (some ⟨g, 0, none⟩) cx us _ hRx3 hcx).mono ?_
    rintro e w4 ⟨rfl, hb4⟩
    have hC4 := hC3.below hb4
    have hA4 := hA3.below hb4
    have hRx4 := hRx3.below hb4 (Nat.le_refl _)
    have hR4 := hR3.below hb4 (Nat.le_refl _)
    have hB4 := Below.on hB3 hb4 (Nat.le_refl _)
    clear hC3 hA3 hRx3 hR3 hB3 hb4 x0 x1
    obtain ⟨g0, g1, _, _⟩ := hA4.cells
    have hne : (gramOkB st us != gramOkB st us) = false := by simp
    go_wp2_with fail
    with_reducible refine (sGramOk_any st (some ⟨b, off, none⟩) c1 rs _ hR4 hc1).mono ?_
    rintro e w5 ⟨rfl, hb5⟩
    have hC5 := hC4.below hb5
    have hA5 := hA4.below hb5
    have hRx5 := hRx4.below hb5 (Nat.le_refl _)
    have hR5 := hR4.below hb5 (Nat.le_refl _)
    have hB5 := Below.on hB4 hb5 (Nat.le_refl _)
    clear hC4 hA4 hRx4 hR4 hB4 hb5 g0 g1 hne
    obtain ⟨g0, g1, _, _⟩ := hA5.cells
    obtain ⟨x0, x1, _, _⟩ := hC5.cells
    have heq : (gramOkB st us == gramOkB st us) = true := by simp
    cases hok : gramOkB st rs with
    | false =>
      go_wp2_with fail
      with_reducible refine (sGramOk_any st (some ⟨g, 0, none⟩) cx us _ hRx5 hcx).mono ?_
      rintro e w6 ⟨rfl, hb6⟩
      go_wp2
      go_ret
      exact ⟨by first | rfl | simp, Below.on hB5 hb6 (Nat.le_refl _)⟩
    | true =>
      cases hok2 : gramOkB st us with
      | false =>
        go_wp2_with fail
        with_reducible refine (sGramOk_any st (some ⟨g, 0, none⟩) cx us _ hRx5 hcx).mono ?_
        rintro e w6 ⟨rfl, hb6⟩
        rw [hok2]
        go_wp2
        go_ret
        exact ⟨by first | rfl | simp, Below.on hB5 hb6 (Nat.le_refl _)⟩
      | true =>
        have HT := Lib.hid (hokT.out hok hok2)
        have HF := Lib.hid (hforT.out hok hok2)
        clear hokT hforT hok hok2 heq HUL
        have z1 := hA5.lt
        have z2 := hC5.lt
        have hl9 := gtext_len st rs hl1 hs1 hS5.out
        have hadd := run_add_bytes (P := Try.prog) (gramTextL st rs) (⟨#[68, 62, 100, 97, 100, 98, 10]⟩ : ByteArray) (by rw [show (⟨#[68, 62, 100, 97, 100, 98, 10]⟩ : ByteArray).size = 7 from rfl]; omega)
        have heqT : ((bytesOf (gramTextL st us)).toList == (bytesOf (cat (gramTextL st rs) (⟨#[68, 62, 100, 97, 100, 98, 10]⟩ : ByteArray))).toList) = true := by
          rw [beq_iff_eq, HT.out]; rfl
        have hf8 := forL_len st rs ⟨#[68]⟩
        have hFw : IntKind.i64.wrap (((forL st rs ⟨#[68]⟩).length : Int) + 1) = ((forL st rs ⟨#[68]⟩).length : Int) + 1 := IntWalk.i64_in _ (by omega)
        have hFe : (((forL st us ⟨#[68]⟩).length : Int) == ((forL st rs ⟨#[68]⟩).length : Int) + 1) = true := by
          rw [beq_iff_eq]; have := HF.out; omega
        have hD : (⟨#[68]⟩ : ByteArray).size ≤ maxLen := by decide
        clear HT HF hf8 hl9
        go_wp2_with fail
        go_region_held3 (fun w' => w'.cell? ⟨w0.heap.size, 0, none⟩ = some (.string st) ∧ w'.cell? ⟨w0.heap.size, 1, none⟩ = some (.slice (some ⟨b, off, none⟩) rs.length c1) ∧ w'.cell? ⟨X, 0, none⟩ = some (.string st) ∧ w'.cell? ⟨X, 1, none⟩ = some (.slice (some ⟨g, 0, none⟩) us.length cx))
          (first
            | with_reducible exact keep4 hbd z1 z2 g0 g1 x0 x1
            | with_reducible exact keep4 hbc z1 z2 g0 g1 x0 x1
            | with_reducible exact keep4 hbb z1 z2 g0 g1 x0 x1
            | with_reducible exact keep4 hba z1 z2 g0 g1 x0 x1
            | go_keep)
          (first
            | (have _ := hbc; go_at_call 22; (with_reducible refine (gramFor_any st ⟨#[68]⟩ (some ⟨g, 0, none⟩) cx us _ (hRx5.below hbc (Nat.le_refl _)) hcx hD).mono ?_); rintro e wd ⟨au, cu, rfl, _, hbd'⟩; have hbd : Below w5.heap.size w5 wd := hbc.trans (hbd'.mono hbc.size))
            | (have _ := hbc; go_at_call 22; (with_reducible refine (gramFor_any st ⟨#[68]⟩ (some ⟨b, off, none⟩) c1 rs _ (hR5.below hbc (Nat.le_refl _)) hc1 hD).mono ?_); rintro e wd ⟨au, cu, rfl, _, hbd'⟩; have hbd : Below w5.heap.size w5 wd := hbc.trans (hbd'.mono hbc.size))
            | (have _ := hbb; go_at_call 22; (with_reducible refine (gramFor_any st ⟨#[68]⟩ (some ⟨g, 0, none⟩) cx us _ (hRx5.below hbb (Nat.le_refl _)) hcx hD).mono ?_); rintro e wk ⟨au, cu, rfl, _, hbc'⟩; have hbc : Below w5.heap.size w5 wk := hbb.trans (hbc'.mono hbb.size))
            | (have _ := hbb; go_at_call 22; (with_reducible refine (gramFor_any st ⟨#[68]⟩ (some ⟨b, off, none⟩) c1 rs _ (hR5.below hbb (Nat.le_refl _)) hc1 hD).mono ?_); rintro e wk ⟨au, cu, rfl, _, hbc'⟩; have hbc : Below w5.heap.size w5 wk := hbb.trans (hbc'.mono hbb.size))
            | (have _ := hba; go_at_call 34; (with_reducible refine (gramText_any st (some ⟨g, 0, none⟩) cx us _ (hRx5.below hba (Nat.le_refl _)) hcx).mono ?_); rintro e wb ⟨rfl, hbb'⟩; have hbb : Below w5.heap.size w5 wb := hba.trans (hbb'.mono hba.size))
            | (have _ := hba; go_at_call 34; (with_reducible refine (gramText_any st (some ⟨b, off, none⟩) c1 rs _ (hR5.below hba (Nat.le_refl _)) hc1).mono ?_); rintro e wb ⟨rfl, hbb'⟩; have hbb : Below w5.heap.size w5 wb := hba.trans (hbb'.mono hba.size))
            | (go_at_call 34; (with_reducible refine (gramText_any st (some ⟨g, 0, none⟩) cx us _ hRx5.drew2 hcx).mono ?_); rintro e wa ⟨rfl, hba'⟩; have hba := below_of_drew hba')
            | (go_at_call 34; (with_reducible refine (gramText_any st (some ⟨b, off, none⟩) c1 rs _ hR5.drew2 hc1).mono ?_); rintro e wa ⟨rfl, hba'⟩; have hba := below_of_drew hba')
            | fail)
        all_goals
          go_wp2
          go_ret
          exact ⟨rfl, Below.on hB5 hbd (Nat.le_refl _)⟩
end Go.Proofs.Ytjpkohahabclgaa
