/- Contracts of the model's l2Grow, GramNone and GramMade. -/
import Derived.Test.YtjpkohahabclgaaSetG
namespace Go.Proofs.Ytjpkohahabclgaa
open Go.ChangeShapes Go.WideShapes Go.ChangeAt Go.RowKit
set_option maxRecDepth 100000
def setV : Value → Nat
  | .string s => setN s.data.toList
  | _ => 0
theorem setV_text {m : Nat} (h : m < 1024) : setV (.string (bytesOf (textN m))) = m := set_text h
/-- the rules up to k ask nothing more of the set m -/
def doneTo (rs : List RuleT) (g m k : Nat) : Prop := ∀ j (h : j < rs.length), j < k → hasAllN (m ||| g) rs[j].2.data.toList = true → Sub (setN rs[j].1.data.toList) m
theorem or_grows {m : Nat} {c : UInt8} (hc : c ∈ ordL) (h : hasN m c = false) : m < m ||| bitN c := by
  have h1 := (sub_or_left m (bitN c)).le
  by_cases e : m = m ||| bitN c
  · have : hasN (m ||| bitN c) c = true := by rw [hasN_or, hasN_self hc]; simp
    rw [← e, h] at this; cases this
  · omega
set_option maxHeartbeats 1000000 in
theorem l2Grow_any (st : ByteArray) (a : Option Addr) (cap : Nat) (rs : List RuleT) (b : Bool) (w : World) (H : RulesAt w a rs) (hok : gramOkB st rs = true) :
    Calls Try.prog 101 #[.agg #[.string st, .slice a rs.length cap], .bool b] w fun e w' => e = .returned (.string (bytesOf (textN (leftsLeast rs (smallSet b))))) ∧ Below w.heap.size w w' := by
  have hn := (gramOk_facts hok).2.1
  have HOK := Lib.hid hok
  clear hok
  have hG : GBox (w.alloc (.cells #[.string st, .slice a rs.length cap] 24)) w.heap.size st a rs.length cap := blk_new _ _ rfl
  have hbw := (Below.refl w.heap.size w).alloc (Nat.le_refl _) (.cells #[.string st, .slice a rs.length cap] 24)
  go_enter Try.func101, Try.ntmps101
  go_wp2
  go_loopw [5, 6] (fun o i wr => ∃ k m : Nat, k ≤ rs.length ∧ i = .int .i64 k ∧ o = .string (bytesOf (textN m)) ∧ m < 1024 ∧ Hid (∀ S, leftsClosedB rs (smallSet b) S = true → Sub m S) ∧ Hid (doneTo rs (smallSet b) m k) ∧ GBox wr w.heap.size st a rs.length cap ∧ Below w.heap.size w wr) (fun o i _ => (1024 - setV o) * 16 + (16 - (intOf i).toNat))
  case atStart => exact ⟨0, 0, Nat.zero_le _, rfl, rfl, by omega, fun S _ => Sub.zero S, fun j _ h => absurd h (Nat.not_lt_zero _), hG, hbw⟩
  case round =>
    obtain ⟨k, m, hk, rfl, rfl, hm, HS, HD, hGr, hb⟩ := hrel
    obtain ⟨g0, g1⟩ := hGr.cells
    by_cases hlt : k < rs.length
    · obtain ⟨z1, z2, bb, off, e, hbb, c1, c2⟩ := H.2 k hlt
      obtain ⟨c, hc, hbig⟩ := ok_left HOK.out hlt
      have hord := big_ord hbig
      have HC : Hid (setN rs[k].1.data.toList = bitN c) := by show _ = _; rw [hc]; exact setN_one c
      subst e
      have d1 : wr.cell? ⟨bb, off + k * 2, none⟩ = some (.string ⟨#[c]⟩) := by rw [hb.cell (p := ⟨bb, _, none⟩) hbb, c1, hc]
      have d2 : wr.cell? ⟨bb, off + k * 2 + 1, none⟩ = some (.string rs[k].2) := by rw [hb.cell (p := ⟨bb, _, none⟩) hbb, c2]
      have hkl : (k : Int) < (rs.length : Int) := by omega
      have hb2 := hb.alloc hb.size (.cells #[.string ⟨#[c]⟩, .string rs[k].2] 55)
      have hG2 := hGr.below ((Below.refl _ _).alloc (Nat.le_refl _) (.cells #[.string ⟨#[c]⟩, .string rs[k].2] 55))
      clear hc c1 c2
      cases h1 : hasN m c with
      | true =>
        have HH := Lib.hid h1
        go_wp2_with (go_at_call 110; refine (l1In_text m c _).mono ?_; rintro e w' ⟨rfl, rfl⟩)
        go_roundw
        case rel => exact ⟨k + 1, m, by omega, by go_num, rfl, hm, HS, fun j hj h hh => by
                      by_cases e : j = k
                      · subst e; rw [HC.out]; exact sub_bit hm HH.out
                      · exact HD.out j hj (by omega) hh, hG2, hb2⟩
        case measure => simp [intOf]; omega
      | false =>
        cases h2 : hasAllN (m ||| smallSet b) rs[k].2.data.toList with
        | false =>
          have HH := Lib.hid h2
          go_wp2_with (first | (go_at_call 110; refine (l1In_text m c _).mono ?_; rintro e w' ⟨rfl, rfl⟩) | (go_at_call 105; refine (l2All_any rs[k].2 m b _ z2).mono ?_; rintro e w' ⟨rfl, rfl⟩))
          go_roundw
          case rel => exact ⟨k + 1, m, by omega, by go_num, rfl, hm, HS, fun j hj h hh => by
                        by_cases e : j = k
                        · subst e; rw [HH.out] at hh; cases hh
                        · exact HD.out j hj (by omega) hh, hG2, hb2⟩
          case measure => simp [intOf]; omega
        | true =>
          have HH := Lib.hid h2
          have hgr := or_grows hord h1
          have hsz : (bytesOf (textN m)).size ≤ 1048576 := by rw [bytesOf_size]; have := text_len m; omega
          have hins : insL (bytesOf (textN m)).data.toList c = textN (m ||| bitN c) := ins_text hm hord
          have hlt2 := or_lt hm (bitN_lt c)
          have hv1 := setV_text hm
          have hv2 := setV_text hlt2
          go_wp2_with (first | (go_at_call 110; refine (l1In_text m c _).mono ?_; rintro e w' ⟨rfl, rfl⟩) | (go_at_call 105; refine (l2All_any rs[k].2 m b _ z2).mono ?_; rintro e w' ⟨rfl, rfl⟩) | (go_at_call 128; refine (l1Add_any _ c _ hsz).mono ?_; rintro e w' ⟨rfl, hb3⟩; rw [hins]))
          go_roundw
          case rel => exact ⟨0, m ||| bitN c, Nat.zero_le _, by go_num, rfl, hlt2, fun S hS => (HS.out S hS).or (by rw [← HC.out]; exact (leftsClosed_iff rs _ S).1 hS rs[k] (List.getElem_mem hlt) (hasAllN_mono ((HS.out S hS).or_mono (Sub.refl _)) HH.out)), fun j _ h => absurd h (Nat.not_lt_zero _), hG2.below hb3, hb2.trans (hb3.mono (by have := hb.size; simp; omega))⟩
          case measure => rw [hv1, hv2]; simp [intOf]; omega
    · have hkl : ¬ (k : Int) < (rs.length : Int) := by omega
      obtain rfl : k = rs.length := by omega
      go_wp2
      go_ret
      refine ⟨ret_string ?_, hb⟩
      rw [leftsLeast_eq (R := m) ?_ hm HS.out]
      rw [leftsClosed_iff]
      intro r hr hh
      obtain ⟨j, hj, rfl⟩ := List.getElem_of_mem hr
      exact HD.out j hj hj hh
end Go.Proofs.Ytjpkohahabclgaa
