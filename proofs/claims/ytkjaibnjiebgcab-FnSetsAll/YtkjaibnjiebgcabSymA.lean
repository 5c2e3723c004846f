/- The contract of symbolsBetween, GramBigs and GramSmalls of the program. -/
import Derived.Test.YtkjaibnjiebgcabTextB
import Derived.Laws.IdiomStrings
import Derived.Lib.BufferRead
namespace Go.Proofs.Ytkjaibnjiebgcab
open Go.ChangeShapes Go.WideShapes Go.ChangeAt Go.RowKit
set_option maxRecDepth 100000
theorem infoByte : (Try.prog.info? 5).map (fun i => (i.zero, i.size, i.bytes)) = some (some (.int .u8 0), 1, 1) := by kernel_rfl
/-- the place of a byte in a text, or -1 -/
def placeB (t : List UInt8) (c : Int) : Int := Lib.indexByte t c.toNat.toUInt8
theorem indexByte_mem (t : List UInt8) (c : UInt8) : (0 ≤ Lib.indexByte t c ↔ c ∈ t) ∧ -1 ≤ Lib.indexByte t c := by
  induction t with
  | nil => simp [Lib.indexByte]
  | cons b l ih =>
    unfold Lib.indexByte
    by_cases h : b = c
    · subst h; simp
    · have h' : (b == c) = false := by simpa using h
      rw [h']
      simp only [Bool.false_eq_true, if_false]
      by_cases h2 : Lib.indexByte l c = -1
      · rw [if_pos (by simpa using h2)]
        have : ¬ c ∈ l := fun hm => by have := ih.1.2 hm; omega
        simp [this, Ne.symm h]
      · rw [if_neg (by simpa using h2)]
        have h3 : 0 ≤ Lib.indexByte l c := by have := ih.2; omega
        have := ih.1.1 h3
        simp [this]
        omega
theorem placeB_any (s : ByteArray) (c : Int) (w : World) :
    Calls Try.prog 86 #[.string s, .int .u8 c] w fun e w' => e = .returned (.int .i64 (placeB s.data.toList c)) ∧ w = w' := indexByte_any s c w
def byteN (n : Nat) : UInt8 := UInt8.ofNat n
theorem byteN_toNat {n : Nat} (h : n < 256) : (byteN n).toNat = n := by unfold byteN; simp; omega
/-- of k bytes from lo on those that are in t -/
def symsL (t : List UInt8) (lo k : Nat) : List UInt8 := ((List.range k).map fun i => byteN (lo + i)).filter fun c => t.contains c
theorem symsL_succ (t : List UInt8) (lo k : Nat) : symsL t lo (k + 1) = symsL t lo k ++ (if 0 ≤ placeB t ((lo : Int) + (k : Int)) then [byteN (lo + k)] else []) := by
  have e : ((lo : Int) + (k : Int)).toNat.toUInt8 = byteN (lo + k) := by
    rw [show ((lo : Int) + (k : Int)).toNat = lo + k from by omega]; rfl
  have hm := (indexByte_mem t (byteN (lo + k))).1
  unfold symsL placeB
  rw [List.range_succ, List.map_append, List.filter_append, e]
  by_cases h : byteN (lo + k) ∈ t
  · rw [if_pos (hm.2 h)]; simp [h]
  · rw [if_neg (fun h' => h (hm.1 h'))]; simp [h]
theorem symsL_len (t : List UInt8) (lo k : Nat) : (symsL t lo k).length ≤ k := by
  unfold symsL
  have := List.length_filter_le (fun c => t.contains c) ((List.range k).map fun i => byteN (lo + i))
  simpa using this
theorem convert_own {B : Nat} {v : Value} {l : List UInt8} {w : World} (h : w.ownsRow B 5 1 v l.length (Lib.byteCells l)) : (convert 22 9 v).run Try.prog w = .ok (.string (bytesOf l)) w := by
  rcases h.2 with ⟨rfl, h0⟩ | ⟨g, cap, cur, rfl, _, hg, _, _, _, htk⟩
  · have : l = [] := List.eq_nil_of_length_eq_zero h0
    subst this
    exact Lib.run_convert_nil_bytes w _ _ 5 0 Try.underlying22 Try.underlying5 Try.underlying9
  · exact run_convert_bytes_back w _ _ 5 ⟨g, 0, none⟩ cap l Try.underlying22 Try.underlying5 Try.underlying9 (Lib.bytes_of_row hg (by simpa using htk))

set_option maxHeartbeats 1600000 in
theorem between_any (st : ByteArray) (a : Option Addr) (cap : Nat) (rs : List RuleT) (lo hi : Nat) (w : World) (H : RulesAt w a rs) (hcap : rs.length ≤ cap) (h1 : lo ≤ hi) (h2 : hi ≤ 200) :
    Calls Try.prog 47 #[.agg #[.string st, .slice a rs.length cap], .int .u8 (lo : Int), .int .u8 (hi : Int)] w fun e w' => e = .returned (.string (bytesOf (symsL (gramTextL st rs) lo (hi + 1 - lo)))) ∧ Below w.heap.size w w' := by
  obtain ⟨i0, hi0, hz0, hz1, hz2⟩ := info_parts infoByte
  have hbw := (Below.refl w.heap.size w).alloc (Nat.le_refl _) (.cells #[.string st, .slice a rs.length cap] 25)
  go_enter Try.func47, Try.ntmps47
  go_wp2_with fail
  refine (gramText_any _ _ _ rs _ (H.below hbw (Nat.le_refl _)) hcap).mono ?_
  rintro e w2 ⟨rfl, hb2⟩
  have c2 : Below w.heap.size w w2 := hbw.trans (hb2.mono (by simp))
  clear hb2 hbw
  generalize hT : gramTextL st rs = T
  go_wp2
  go_loopw [8, 9] (fun v b wr => ∃ k : Nat, k ≤ hi + 1 - lo ∧ b = .int .u8 ((lo : Int) + (k : Int)) ∧ wr.ownsRow w2.heap.size 5 1 v (symsL T lo k).length (Lib.byteCells (symsL T lo k)) ∧ Below w2.heap.size w2 wr) (fun _ b _ => hi + 1 - (intOf b).toNat)
  case atStart => exact ⟨0, Nat.zero_le _, by simp, World.ownsRow_nil _ _ _ _, Below.refl _ _⟩
  case round =>
    obtain ⟨k, hk, rfl, hown, hb⟩ := hrel
    by_cases hlt : k < hi + 1 - lo
    · have hle : (lo : Int) + (k : Int) ≤ (hi : Int) := by omega
      have hl := symsL_len T lo k
      have HS := Lib.hid (symsL_succ T lo k)
      go_wp2_with (first
        | (go_at_call 86; refine (placeB_any _ _ _).mono ?_; rintro e w' ⟨rfl, rfl⟩)
        | (at_builtin; refine wpList_append_own _ rfl _ _ 22 rfl w2.heap.size 5 i0 (.int .u8 0) 1 1 Try.underlying22 hi0 hz0 hz1 hz2 rfl (by decide) _ _ _ rfl (hown.alloc _) ⟨wr.heap.size, 0, none⟩ 1 1 [.int .u8 ((lo : Int) + (k : Int))] rfl rfl ?c1 ?c2 ?c3 ?c4 ?c5 ?_))
      case c1 =>
        intro j u hj
        match j, hj with
        | 0, hj => simp at hj; subst hj; simp [Addr.add]
      case c2 => intro u hu; simp at hu; subst hu; rfl
      case c3 => unfold maxLen; omega
      case c4 => omega
      case c5 => have := hb.size; simp; omega
      · intro v' w1 hown' hgrow _
        have hin' : 0 ≤ placeB (bytesOf T).data.toList ((lo : Int) + (k : Int)) := by assumption
        have hin : 0 ≤ placeB T ((lo : Int) + (k : Int)) := hin'
        have e1 : symsL T lo (k + 1) = symsL T lo k ++ [byteN (lo + k)] := by rw [HS.out, if_pos hin]
        have hown2 : w1.ownsRow w2.heap.size 5 1 v' (symsL T lo (k + 1)).length (Lib.byteCells (symsL T lo (k + 1))) := by
          rw [e1, Lib.byteCells_append, List.length_append]
          have e2 : Lib.byteCells [byteN (lo + k)] = [.int .u8 ((lo : Int) + (k : Int))] := by
            simp [Lib.byteCells, byteN_toNat (show lo + k < 256 from by omega)]
          rw [e2]
          exact hown'
        have hb1 : Below w2.heap.size w2 w1 := (hb.alloc hb.size _).grown hgrow (by have := hb.size; simp; omega) (fun j hj => by
          rcases hown.2 with ⟨hv, _⟩ | ⟨g, _, _, hv, hg, _⟩
          · rw [hv] at hj; simp [Value.ownBlock] at hj
          · rw [hv] at hj; simp [Value.ownBlock] at hj; omega)
        clear hown' hgrow e1 hown
        go_wp2
        go_roundw
        case rel => exact ⟨k + 1, by omega, by go_num, hown2, hb1⟩
        case measure => simp [intOf]; omega
      · have hin : placeB (bytesOf T).data.toList ((lo : Int) + (k : Int)) < 0 := by assumption
        have hown2 : wr.ownsRow w2.heap.size 5 1 u8 (symsL T lo (k + 1)).length (Lib.byteCells (symsL T lo (k + 1))) := by
          rw [HS.out, if_neg (by have : placeB T ((lo : Int) + (k : Int)) < 0 := hin; omega), List.append_nil]; exact hown
        go_roundw
        case rel => exact ⟨k + 1, by omega, by go_num, hown2, hb⟩
        case measure => simp [intOf]; omega
    · have hle : ¬ (lo : Int) + (k : Int) ≤ (hi : Int) := by omega
      have hcv := convert_own hown
      go_wp2
      go_ret
      exact ⟨ret_string (by rw [show hi + 1 - lo = k from by omega]), c2.trans (hb.mono c2.size)⟩

theorem gramBigs_any (st : ByteArray) (a : Option Addr) (cap : Nat) (rs : List RuleT) (w : World) (H : RulesAt w a rs) (hcap : rs.length ≤ cap) :
    Calls Try.prog 18 #[.agg #[.string st, .slice a rs.length cap]] w fun e w' => e = .returned (.string (bytesOf (symsL (gramTextL st rs) 65 5))) ∧ Below w.heap.size w w' := by
  have hbw := (Below.refl w.heap.size w).alloc (Nat.le_refl _) (.cells #[.string st, .slice a rs.length cap] 25)
  go_enter Try.func18, Try.ntmps18
  go_wp2_with fail
  refine (between_any _ _ _ rs 65 69 _ (H.below hbw (Nat.le_refl _)) hcap (by omega) (by omega)).mono ?_
  rintro e w2 ⟨rfl, hb2⟩
  go_wp2
  go_ret
  exact ⟨rfl, hbw.trans (hb2.mono (by simp))⟩
end Go.Proofs.Ytkjaibnjiebgcab
