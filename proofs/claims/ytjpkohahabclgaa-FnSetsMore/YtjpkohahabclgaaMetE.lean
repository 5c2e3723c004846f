/- GramMet of the model. -/
import Derived.Test.YtjpkohahabclgaaMetD
namespace Go.Proofs.Ytjpkohahabclgaa
open Go.ChangeShapes Go.WideShapes Go.ChangeAt Go.RowKit
set_option maxRecDepth 100000
theorem text_big {c : UInt8} (h : bigN (c.toNat : Int) = true) : (⟨#[c]⟩ : ByteArray) = bytesOf (textN (bitN c)) := by
  rcases bigN_cases h with rfl | rfl | rfl | rfl | rfl <;> exact bytesOf_ext (by decide)
theorem text_diff {a b : Nat} (ha : a < 1024) (hb : b < 1024) : ((bytesOf (textN a)).toList == (bytesOf (textN b)).toList) = decide (a = b) := by
  by_cases h : a = b
  · subst h; simp
  · rw [decide_eq_false h, beq_eq_false_iff_ne]
    intro e
    have e1 : bytesOf (textN a) = bytesOf (textN b) := by apply bytesOf_ext; rwa [ByteArray.toList_eq, ByteArray.toList_eq] at e
    have e2 : textN a = textN b := by have := congrArg (fun x => x.data.toList) e1; simpa [bytesOf] using this
    exact h (by rw [← set_text ha, ← set_text hb, e2])
def metDone (rs : List RuleT) (m k : Nat) : Prop := ∀ j (h : j < rs.length), j < k → hasN m (leftB rs[j]) = true → ∀ c ∈ rs[j].2.data.toList, bigN (c.toNat : Int) = true → hasN m c = true
theorem sub_grows {a b : Nat} (h : Sub a b) (hn : ¬ b = a) : a < b := by have := h.le; omega
set_option maxHeartbeats 1000000 in
theorem l2Met_any (st : ByteArray) (a : Option Addr) (cap : Nat) (rs : List RuleT) (w : World) (H : RulesAt w a rs) (hok : gramOkB st rs = true) :
    Calls Try.prog 111 #[.agg #[.string st, .slice a rs.length cap]] w fun e w' => e = .returned (.string (bytesOf (textN (metLeast st rs)))) ∧ Below w.heap.size w w' := by
  have hn := (gramOk_facts hok).2.1
  obtain ⟨c0, hst, hbig0⟩ := ok_start1 hok
  have HOK := Lib.hid hok
  clear hok
  have HST : Hid (setN st.data.toList = bitN c0) := by show _ = _; rw [hst]; exact setN_one c0
  rw [text_big hbig0] at hst
  have hG : GBox (w.alloc (.cells #[.string st, .slice a rs.length cap] 24)) w.heap.size st a rs.length cap := blk_new _ _ rfl
  have hbw := (Below.refl w.heap.size w).alloc (Nat.le_refl _) (.cells #[.string st, .slice a rs.length cap] 24)
  have HS0 := Lib.hid hst
  clear hst
  go_enter Try.func111, Try.ntmps111
  go_wp2
  go_loopw [3, 4] (fun o i wr => ∃ k m : Nat, k ≤ rs.length ∧ i = .int .i64 k ∧ o = .string (bytesOf (textN m)) ∧ m < 1024 ∧ Hid (Sub (bitN c0) m ∧ ∀ S, S < 1024 → metClosedB st rs S = true → Sub m S) ∧ Hid (metDone rs m k) ∧ GBox wr w.heap.size st a rs.length cap ∧ Below w.heap.size w wr) (fun o i _ => (1024 - setV o) * 16 + (16 - (intOf i).toNat))
  case atStart => exact ⟨0, bitN c0, Nat.zero_le _, rfl, by rw [HS0.out], bitN_lt _, ⟨Sub.refl _, fun S _ hS => by rw [← HST.out]; exact ((metClosed_iff st rs S).1 hS).1⟩, fun j _ h => absurd h (Nat.not_lt_zero _), hG, hbw⟩
  case round =>
    obtain ⟨k, m, hk, rfl, rfl, hm, HS, HD, hGr, hb⟩ := hrel
    obtain ⟨g0, g1⟩ := hGr.cells
    by_cases hlt : k < rs.length
    · obtain ⟨z1, z2, bb, off, e, hbb, c1, c2⟩ := H.2 k hlt
      obtain ⟨⟨c, hc, hbig⟩, hz4⟩ := ok_rule HOK.out hlt
      have HC : Hid (leftB rs[k] = c) := by show _ = _; rw [leftB, hc]; rfl
      subst e
      have d1 : wr.cell? ⟨bb, off + k * 2, none⟩ = some (.string ⟨#[c]⟩) := by rw [hb.cell (p := ⟨bb, _, none⟩) hbb, c1, hc]
      have d2 : wr.cell? ⟨bb, off + k * 2 + 1, none⟩ = some (.string rs[k].2) := by rw [hb.cell (p := ⟨bb, _, none⟩) hbb, c2]
      have hkl : (k : Int) < (rs.length : Int) := by omega
      clear hc c1 c2
      cases h1 : hasN m c with
      | false =>
        have HH := Lib.hid h1
        go_wp2_with (go_at_call 110; refine (l1In_text m c _).mono ?_; rintro e w' ⟨rfl, rfl⟩)
        go_roundw
        case rel => exact ⟨k + 1, m, by omega, by go_num, rfl, hm, HS, fun j hj h hh => by
                      by_cases e : j = k
                      · subst e; rw [HC.out, HH.out] at hh; cases hh
                      · exact HD.out j hj (by omega) hh, hGr, hb⟩
        case measure => simp [intOf]; omega
      | true =>
        have HH := Lib.hid h1
        have hfl := foldM_lt rs[k].2.data.toList hm
        have hfs := foldM_sub rs[k].2.data.toList m
        have hteq := text_diff hfl hm
        have HV1 := Lib.hid (setV_text hm)
        have HV2 := Lib.hid (setV_text hfl)
        by_cases he : foldM rs[k].2.data.toList m = m
        · rw [decide_eq_true he] at hteq
          have HE := Lib.hid he
          clear he
          go_wp2_with (first | (go_at_call 110; refine (l1In_text m c _).mono ?_; rintro e w' ⟨rfl, rfl⟩) | (go_at_call 130; refine (l2Bigs_any m rs[k].2 _ hm (by omega)).mono ?_; rintro e w2 ⟨rfl, hb2⟩))
          go_roundw
          case rel => exact ⟨k + 1, m, by omega, by go_num, rfl, hm, HS, fun j hj h hh => by
                        by_cases e : j = k
                        · subst e; intro x hx hxb; rw [← HE.out]; exact foldM_has _ _ x hx hxb
                        · exact HD.out j hj (by omega) hh, hGr.below hb2, hb.trans (hb2.mono hb.size)⟩
          case measure => simp [intOf]; omega
        · rw [decide_eq_false he] at hteq
          have hgr := sub_grows hfs he
          clear he
          go_wp2_with (first | (go_at_call 110; refine (l1In_text m c _).mono ?_; rintro e w' ⟨rfl, rfl⟩) | (go_at_call 130; refine (l2Bigs_any m rs[k].2 _ hm (by omega)).mono ?_; rintro e w2 ⟨rfl, hb2⟩))
          go_roundw
          case rel => exact ⟨0, _, Nat.zero_le _, by go_num, rfl, hfl, ⟨HS.out.1.trans hfs, fun S hS hcl => foldM_least _ hS (HS.out.2 S hS hcl) (fun x hx hxb => ((metClosed_iff st rs S).1 hcl).2 rs[k] (List.getElem_mem hlt) (by rw [HC.out]; exact hasN_mono (HS.out.2 S hS hcl) HH.out) x hx hxb)⟩, fun j _ h => absurd h (Nat.not_lt_zero _), hGr.below hb2, hb.trans (hb2.mono hb.size)⟩
          case measure => rw [HV1.out, HV2.out]; simp [intOf]; omega
    · have hkl : ¬ (k : Int) < (rs.length : Int) := by omega
      obtain rfl : k = rs.length := by omega
      go_wp2
      go_ret
      refine ⟨ret_string ?_, hb⟩
      rw [show metLeast st rs = m from leastN_eq ?_ hm HS.out.2]
      rw [metClosed_iff]
      refine ⟨by rw [HST.out]; exact HS.out.1, fun r hr hl x hx hxb => ?_⟩
      obtain ⟨j, hj, rfl⟩ := List.getElem_of_mem hr
      exact HD.out j hj hj hl x hx hxb
end Go.Proofs.Ytjpkohahabclgaa
