/- Contracts of leftsClosed, nullableSet, productiveSet, GramNone and GramMade of the program. -/
import Derived.Test.YtpbimoodihbliaaLfp
namespace Go.Proofs.Ytpbimoodihbliaa
open Go.ChangeShapes Go.WideShapes Go.ChangeAt Go.RowKit
set_option maxRecDepth 100000
/-- a grammar's box -/
def GBox (w : World) (b : Nat) (st : ByteArray) (a : Option Addr) (n cap : Nat) : Prop := w.heap[b]? = some (.cells #[.string st, .slice a n cap] 34)
theorem GBox.lt {w : World} {b : Nat} {st : ByteArray} {a : Option Addr} {n cap : Nat} (h : GBox w b st a n cap) : b < w.heap.size := (Array.getElem?_eq_some_iff.1 h).1
theorem GBox.below {w w' : World} {b : Nat} {st : ByteArray} {a : Option Addr} {n cap : Nat} (h : GBox w b st a n cap) (hb : Below w.heap.size w w') : GBox w' b st a n cap := (hb.block b h.lt).trans h
theorem GBox.cells {w : World} {b : Nat} {st : ByteArray} {a : Option Addr} {n cap : Nat} (h : GBox w b st a n cap) : w.cell? ⟨b, 0, none⟩ = some (.string st) ∧ w.cell? ⟨b, 1, none⟩ = some (.slice a n cap) := ⟨by rw [cell_of_block h 0]; rfl, by rw [cell_of_block h 1]; rfl⟩
set_option maxHeartbeats 1000000 in
theorem lefts1_any (st : ByteArray) (a : Option Addr) (cap : Nat) (rs : List RuleT) (b1 b2 g x : Nat) (w : World) (H : RulesAt w a rs) (hx : x < 1024) (hg : g < 1024) (hG : GBox w b1 st a rs.length cap) (hV : one1 w b2 (.int .u16 (g : Int)) 68) :
    Calls Try.prog 120 #[.int .u16 (x : Int), .pointer (some ⟨b1, 0, none⟩), .pointer (some ⟨b2, 0, none⟩)] w fun e w' => e = .returned (.int .u16 (leftsTo rs g x rs.length : Nat)) ∧ Below w.heap.size w w' := by
  have hn := H.1
  unfold maxLen at hn
  obtain ⟨g0, g1⟩ := hG.cells
  go_enter Try.func120, Try.ntmps120
  go_wp2
  go_loopw [0, 10] (fun v i wr => ∃ k : Nat, k ≤ rs.length ∧ i = .int .i64 k ∧ v = .int .u16 (leftsTo rs g x k : Nat) ∧ Below w.heap.size w wr) (fun _ i _ => rs.length - (intOf i).toNat)
  case atStart => exact ⟨0, Nat.zero_le _, rfl, rfl, Below.refl _ _⟩
  case round =>
    obtain ⟨k, hk, rfl, rfl, hb⟩ := hrel
    by_cases hlt : k < rs.length
    · obtain ⟨z1, z2, b, off, e, hbb, c1, c2⟩ := H.2 k hlt
      subst e
      have d1 : wr.cell? ⟨b, off + k * 2, none⟩ = some (.string rs[k].1) := by rw [hb.cell (p := ⟨b, _, none⟩) hbb, c1]
      have d2 : wr.cell? ⟨b, off + k * 2 + 1, none⟩ = some (.string rs[k].2) := by rw [hb.cell (p := ⟨b, _, none⟩) hbb, c2]
      have hkl : (k : Int) < (rs.length : Int) := by omega
      have hlm := leftsTo_lt rs g x k hx
      have HS := Lib.hid (leftsTo_succ rs g x k hlt)
      have hor := bits_or (leftsTo rs g x k) g hlm hg
      have hol := or_lt hlm hg
      have hb2 := hb.alloc hb.size (.cells #[.string rs[k].1, .string rs[k].2] 62)
      have hV2 := (((hV.below hb).alloc (.cells #[.string rs[k].1, .string rs[k].2] 62))).cell.1
      have hor2 := bits_or (leftsTo rs g x k) (setN rs[k].1.data.toList) hlm (setN_lt _)
      generalize leftsTo rs g x k = m at *
      go_wp2_with fail
      refine (hasAll_any (m ||| g) rs[k].2 _ hol z2).mono ?_
      rintro e w2 ⟨rfl, rfl⟩
      cases hh : hasAllN (m ||| g) rs[k].2.data.toList with
      | false =>
        go_wp2
        go_roundw
        case rel => exact ⟨k + 1, by omega, by go_num, by rw [HS.out, leftsStep, if_neg (by rw [hh]; simp)], hb2⟩
        case measure => simp [intOf]; omega
      | true =>
        go_wp2_with fail
        refine (setOf_any rs[k].1 _ z1).mono ?_
        rintro e w3 ⟨rfl, rfl⟩
        go_wp2
        go_roundw
        case rel => exact ⟨k + 1, by omega, by go_num, by rw [HS.out, leftsStep, if_pos hh], hb2⟩
        case measure => simp [intOf]; omega
    · have hkl : ¬ (k : Int) < (rs.length : Int) := by omega
      obtain rfl : k = rs.length := by omega
      go_wp2
      go_ret
      exact ⟨rfl, hb⟩
set_option maxHeartbeats 1000000 in
theorem leftsClosed_any (st : ByteArray) (a : Option Addr) (cap : Nat) (rs : List RuleT) (g : Nat) (w : World) (H : RulesAt w a rs) (hg : g < 1024) :
    Calls Try.prog 116 #[.agg #[.string st, .slice a rs.length cap], .int .u16 (g : Int)] w fun e w' => e = .returned (.int .u16 (leftsLeast rs g : Nat)) ∧ Below w.heap.size w w' := by
  have hmf := makeFunc_run
  have hbw := ((Below.refl w.heap.size w).alloc (Nat.le_refl _) (.cells #[.string st, .slice a rs.length cap] 34)).alloc (by simp) (.cells #[.int .u16 (g : Int)] 68)
  have hG : GBox ((w.alloc (.cells #[.string st, .slice a rs.length cap] 34)).alloc (.cells #[.int .u16 (g : Int)] 68)) w.heap.size st a rs.length cap := (blk_old _ _ (by simp)).trans (blk_new _ _ rfl)
  have hV : one1 ((w.alloc (.cells #[.string st, .slice a rs.length cap] 34)).alloc (.cells #[.int .u16 (g : Int)] 68)) (w.heap.size + 1) (.int .u16 (g : Int)) 68 := blk_new _ _ (by simp)
  have H1 := H.below hbw (Nat.le_refl _)
  go_enter Try.func116, Try.ntmps116
  go_wp2_with fail
  refine (lfp_any #[.pointer (some ⟨w.heap.size, 0, none⟩), .pointer (some ⟨w.heap.size + 1, 0, none⟩)] (fun x => leftsTo rs g x rs.length) (fun x => x < 1024 ∧ ∀ S, leftsClosedB rs g S = true → Sub x S) ?_ _ ?_ 0 ⟨by omega, fun S _ => Sub.zero S⟩).mono ?_
  · rintro x ⟨h1, h2⟩
    exact ⟨⟨leftsTo_lt rs g x _ h1, fun S hS => leftsTo_below hS (h2 S hS)⟩, (leftsTo_sub rs g x _).le, leftsTo_lt rs g x _ h1⟩
  · rintro x W ⟨h1, _⟩ hb
    exact lefts1_any st a cap rs _ _ g x W (H1.below hb (Nat.le_refl _)) h1 hg (hG.below hb) (hV.below hb)
  · rintro e w2 ⟨R, rfl, ⟨h1, h2⟩, hfix, hb2⟩
    have hL : leftsLeast rs g = R := leftsLeast_eq (leftsTo_fix hfix) h1 h2
    go_wp2
    go_ret
    exact ⟨ret_u16 (by rw [hL]), hbw.trans (hb2.mono (by simp; omega))⟩
end Go.Proofs.Ytpbimoodihbliaa
