/- The contract of the model's GramFor: the places of the rules of a sign. -/
import Derived.Test.YtpkejcjjbkgomaaDoorOwnZ
namespace Go.Proofs.YtpkejcjjbkgomaaDoor
open Go.ChangeShapes Go.WideShapes Go.ChangeAt Go.RowKit
set_option maxRecDepth 100000
theorem OwnZ.mono {w : World} {B B' : Nat} {v : Value} {zs : List Int} (h : OwnZ w B v zs) (hB : B' ≤ B) : OwnZ w B' v zs := by
  refine ⟨h.1, h.2.1, ?_⟩
  rcases h.2.2 with h0 | ⟨g, cap, cur, hv, hg, hh⟩
  · exact .inl h0
  · exact .inr ⟨g, cap, cur, hv, Nat.le_trans hB hg, hh⟩
/-- of the first k rules the places of those whose left side is this -/
def forTo (rs : List RuleT) (left : ByteArray) : Nat → List Int
  | 0 => []
  | k + 1 => forTo rs left k ++ (match rs[k]? with
    | some r => if (r.1.toList == left.toList) = true then [(k : Int)] else []
    | none => [])
theorem forTo_len (rs : List RuleT) (left : ByteArray) : ∀ k, (forTo rs left k).length ≤ k
  | 0 => Nat.le_refl _
  | k + 1 => by
    have := forTo_len rs left k
    unfold forTo
    cases rs[k]? with
    | none => simp; omega
    | some r => by_cases h : (r.1.toList == left.toList) = true <;> simp only [h, if_true, if_false, Bool.false_eq_true, List.length_append, List.length_cons, List.length_nil] <;> omega
theorem forTo_yes {rs : List RuleT} {left : ByteArray} {k : Nat} (hk : k < rs.length) (h : (rs[k].1.toList == left.toList) = true) : forTo rs left (k + 1) = forTo rs left k ++ [(k : Int)] := by
  rw [forTo, List.getElem?_eq_getElem hk]
  simp only [h, if_true]
theorem forTo_no {rs : List RuleT} {left : ByteArray} {k : Nat} (hk : k < rs.length) (h : (rs[k].1.toList == left.toList) = false) : forTo rs left (k + 1) = forTo rs left k := by
  rw [forTo, List.getElem?_eq_getElem hk]
  simp only [h, Bool.false_eq_true, if_false, List.append_nil]
set_option maxHeartbeats 2000000 in
theorem l1For_any (st left : ByteArray) (a : Option Addr) (cap : Nat) (rs : List RuleT) (w : World) (H : RulesAt w a rs) (hl : rs.length ≤ 100) :
    Calls Tryd.prog 98 #[.agg #[.string st, .slice a rs.length cap], .string left] w fun e w' => ∃ v, e = .returned v ∧ OwnZ w' w.heap.size v (forTo rs left rs.length) ∧ Below w.heap.size w w' := by
  obtain ⟨i0, hi0, hz0, hz1, hz2⟩ := info_parts infoInt
  have hA : BoxG (w.alloc (.cells #[.string st, .slice a rs.length cap] 64)) w.heap.size (.string st) (.slice a rs.length cap) := blk_new _ _ rfl
  have hbA := (Below.refl w.heap.size w).alloc (Nat.le_refl _) (.cells #[.string st, .slice a rs.length cap] 64)
  have hE : OwnZ ((w.alloc (.cells #[.string st, .slice a rs.length cap] 64)).alloc (.cells #[] 3)) (w.heap.size + 1) (.slice (some ⟨w.heap.size + 1, 0, none⟩) 0 0) [] :=
    ⟨⟨_, _, rfl⟩, rfl, .inr ⟨w.heap.size + 1, 0, #[], rfl, Nat.le_refl _, blk_new _ _ (by simp), Nat.le_refl _, Nat.zero_le _, rfl, rfl⟩⟩
  have hbE := hbA.alloc (by simp) (.cells #[] 3)
  have hAE := hA.old (.cells #[] 3)
  go_enter Tryd.func98, Tryd.ntmps98
  go_wp2
  go_loopw [5, 6] (fun v i wr => ∃ k : Nat, k ≤ rs.length ∧ i = .int .i64 k ∧ OwnZ wr (w.heap.size + 1) v (forTo rs left k) ∧ BoxG wr w.heap.size (.string st) (.slice a rs.length cap) ∧ Below w.heap.size w wr) (fun _ i _ => rs.length - (intOf i).toNat)
  case atStart => exact ⟨0, Nat.zero_le _, rfl, hE, hAE, hbE⟩
  case round =>
    obtain ⟨k, hk, rfl, hown, hA, hb⟩ := hrel
    obtain ⟨a0, a1, _, _⟩ := hA.cells
    by_cases hlt : k < rs.length
    · obtain ⟨z1, z2, b, off, e, hbb, c1, c2⟩ := H.2 k hlt
      subst e
      have d1 : wr.cell? ⟨b, off + k * 2, none⟩ = some (.string rs[k].1) := by rw [hb.cell (p := ⟨b, _, none⟩) hbb, c1]
      have hkl : (k : Int) < (rs.length : Int) := by omega
      obtain ⟨g, cp, rfl⟩ := hown.1
      have hlen := forTo_len rs left k
      have hAl := hA.lt
      cases hc : (rs[k].1.toList == left.toList) with
      | false =>
        go_wp2
        go_roundw
        case rel => exact ⟨k + 1, by omega, by go_num, by rw [forTo_no hlt hc]; exact hown, hA, hb⟩
        case measure => simp [intOf]; omega
      | true =>
        have hown5 := hown.keep (w' := wr.alloc (.cells #[.int .i64 (k : Int)] 3)) (fun q hq hq2 => Below.heap_alloc wr _ q hq2)
        have hA5 := hA.old (.cells #[.int .i64 (k : Int)] 3)
        have hb5 := hb.alloc hb.size (.cells #[.int .i64 (k : Int)] 3)
        go_wp2_with (at_builtin; refine wpList_append_own _ rfl _ _ 105 rfl (w.heap.size + 1) 3 i0 (.int .i64 0) 1 8 Tryd.underlying105 hi0 hz0 hz1 hz2 rfl (by decide) (.slice (some ⟨g, 0, none⟩) (forTo rs left k).length cp) (forTo rs left k).length (intCells (forTo rs left k)) rfl hown5.2 ⟨wr.heap.size, 0, none⟩ 1 1 [.int .i64 (k : Int)] rfl rfl ?c1 ?c2 ?c3 ?c4 ?c5 ?_)
        case c1 =>
          intro q u hq
          match q, hq with
          | 0, hq => simp at hq; subst hq; simp [Addr.add]
        case c2 => intro u hu; simp at hu; subst hu; rfl
        case c3 => unfold maxLen; omega
        case c4 => omega
        case c5 => simp; omega
        intro v' w6 h1 h2 h3
        have hbR := (Below.refl (w.heap.size + 1) _).grown h2 (by simp; omega) hown5.row
        have hA7 : BoxG w6 w.heap.size (.string st) (.slice (some ⟨b, off, none⟩) rs.length cap) := (hbR.block w.heap.size (by omega)).trans hA5
        have hb7 : Below w.heap.size w w6 := hb5.trans (hbR.mono (by omega))
        rcases h1.2 with ⟨h0, _⟩ | ⟨g', cp', cur, hv', _⟩
        · exact absurd h0 h3
        subst hv'
        have hO7 : OwnZ w6 (w.heap.size + 1) (.slice (some ⟨g', 0, none⟩) ((forTo rs left k).length + 1) cp') (forTo rs left (k + 1)) := by
          rw [forTo_yes hlt hc]
          exact ⟨⟨g', cp', by simp⟩, by simpa [intCells] using h1⟩
        clear h1 h2 h3 hbR hA5 hb5 hown5 hown hA hb d1 a0 a1
        go_wp2
        go_roundw
        case rel => exact ⟨k + 1, by omega, by go_num, hO7, hA7, hb7⟩
        case measure => simp [intOf]; omega
    · have hkl : ¬ (k : Int) < (rs.length : Int) := by omega
      obtain rfl : k = rs.length := by omega
      obtain ⟨g, cp, rfl⟩ := hown.1
      go_wp2
      go_ret
      exact ⟨_, rfl, hown.mono (by omega), hb⟩
end Go.Proofs.YtpkejcjjbkgomaaDoor
