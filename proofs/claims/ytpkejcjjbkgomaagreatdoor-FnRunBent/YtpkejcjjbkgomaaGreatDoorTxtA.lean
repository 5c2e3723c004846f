/- The contract of symbolsBetween, GramBigs and GramSmalls of the program. -/
import Derived.Test.YtpkejcjjbkgomaaGreatDoorYldB
import Derived.Laws.IdiomStrings
import Derived.Lib.BufferRead
import Derived.BigRegion
import Derived.Test.YtpkejcjjbkgomaaGreatDoorSeq
import Derived.Test.YtpkejcjjbkgomaaGreatDoorOne
namespace Go.Proofs.YtpkejcjjbkgomaaGreatDoor
open Go.ChangeShapes Go.WideShapes Go.ChangeAt Go.RowKit
set_option maxRecDepth 100000
theorem infoByte : (Tryz.prog.info? 5).map (fun i => (i.zero, i.size, i.bytes)) = some (some (.int .u8 0), 1, 1) := by kernel_rfl
/-- the place of a byte in a text, or -1 -/
def placeB (t : List UInt8) (c : Int) : Int := Lib.indexByte t c.toNat.toUInt8
theorem indexByte_mem (t : List UInt8) (c : UInt8) : (0 ≤ Lib.indexByte t c ↔ c ∈ t) ∧ -1 ≤ Lib.indexByte t c := by
  induction t with
  | nil => simp [Lib.indexByte]
  | cons b l ih =>
    unfold Lib.indexByte
    by_cases h : b = c
    · subst h; simp
    · have h' : (b == c) = false := by simpa using h
      rw [h']
      simp only [Bool.false_eq_true, if_false]
      by_cases h2 : Lib.indexByte l c = -1
      · rw [if_pos (by simpa using h2)]
        have : ¬ c ∈ l := fun hm => by have := ih.1.2 hm; omega
        simp [this, Ne.symm h]
      · rw [if_neg (by simpa using h2)]
        have h3 : 0 ≤ Lib.indexByte l c := by have := ih.2; omega
        have := ih.1.1 h3
        simp [this]
        omega
theorem placeB_any (s : ByteArray) (c : Int) (w : World) :
    Calls Tryz.prog 102 #[.string s, .int .u8 c] w fun e w' => e = .returned (.int .i64 (placeB s.data.toList c)) ∧ w = w' := indexByte_any s c w
def byteN (n : Nat) : UInt8 := UInt8.ofNat n
theorem byteN_toNat {n : Nat} (h : n < 256) : (byteN n).toNat = n := by unfold byteN; simp; omega
/-- of k bytes from lo on those that are in t -/
def symsL (t : List UInt8) (lo k : Nat) : List UInt8 := ((List.range k).map fun i => byteN (lo + i)).filter fun c => t.contains c
theorem symsL_succ (t : List UInt8) (lo k : Nat) : symsL t lo (k + 1) = symsL t lo k ++ (if 0 ≤ placeB t ((lo : Int) + (k : Int)) then [byteN (lo + k)] else []) := by
  have e : ((lo : Int) + (k : Int)).toNat.toUInt8 = byteN (lo + k) := by
    rw [show ((lo : Int) + (k : Int)).toNat = lo + k from by omega]; rfl
  have hm := (indexByte_mem t (byteN (lo + k))).1
  unfold symsL placeB
  rw [List.range_succ, List.map_append, List.filter_append, e]
  by_cases h : byteN (lo + k) ∈ t
  · rw [if_pos (hm.2 h)]; simp [h]
  · rw [if_neg (fun h' => h (hm.1 h'))]; simp [h]
theorem symsL_len (t : List UInt8) (lo k : Nat) : (symsL t lo k).length ≤ k := by
  unfold symsL
  have := List.length_filter_le (fun c => t.contains c) ((List.range k).map fun i => byteN (lo + i))
  simpa using this
theorem convert_own {B : Nat} {v : Value} {l : List UInt8} {w : World} (h : w.ownsRow B 5 1 v l.length (Lib.byteCells l)) : (convert 22 9 v).run Tryz.prog w = .ok (.string (bytesOf l)) w := by
  rcases h.2 with ⟨rfl, h0⟩ | ⟨g, cap, cur, rfl, _, hg, _, _, _, htk⟩
  · have : l = [] := List.eq_nil_of_length_eq_zero h0
    subst this
    exact Lib.run_convert_nil_bytes w _ _ 5 0 Tryz.underlying22 Tryz.underlying5 Tryz.underlying9
  · exact run_convert_bytes_back w _ _ 5 ⟨g, 0, none⟩ cap l Tryz.underlying22 Tryz.underlying5 Tryz.underlying9 (Lib.bytes_of_row hg (by simpa using htk))

set_option maxHeartbeats 1600000 in
theorem between_any (st : ByteArray) (a : Option Addr) (cap : Nat) (rs : List RuleT) (lo hi : Nat) (w : World) (H : RulesAt w a rs) (hcap : rs.length ≤ cap) (h1 : lo ≤ hi) (h2 : hi ≤ 200) :
    Calls Tryz.prog 82 #[.agg #[.string st, .slice a rs.length cap], .int .u8 (lo : Int), .int .u8 (hi : Int)] w fun e w' => e = .returned (.string (bytesOf (symsL (gramTextL st rs) lo (hi + 1 - lo)))) ∧ Below w.heap.size w w' := by
  obtain ⟨i0, hi0, hz0, hz1, hz2⟩ := info_parts infoByte
  have hbw := (Below.refl w.heap.size w).alloc (Nat.le_refl _) (.cells #[.string st, .slice a rs.length cap] 25)
  go_enter Tryz.func82, Tryz.ntmps82
  go_wp2_with fail
  refine (gramText_any _ _ _ rs _ (H.below hbw (Nat.le_refl _)) hcap).mono ?_
  rintro e w2 ⟨rfl, hb2⟩
  have c2 : Below w.heap.size w w2 := hbw.trans (hb2.mono (by simp))
  clear hb2 hbw
  generalize hT : gramTextL st rs = T
  go_wp2
  go_loopw [8, 9] (fun v b wr => ∃ k : Nat, k ≤ hi + 1 - lo ∧ b = .int .u8 ((lo : Int) + (k : Int)) ∧ wr.ownsRow w2.heap.size 5 1 v (symsL T lo k).length (Lib.byteCells (symsL T lo k)) ∧ Below w2.heap.size w2 wr) (fun _ b _ => hi + 1 - (intOf b).toNat)
  case atStart => exact ⟨0, Nat.zero_le _, by simp, World.ownsRow_nil _ _ _ _, Below.refl _ _⟩
  case round =>
    obtain ⟨k, hk, rfl, hown, hb⟩ := hrel
    by_cases hlt : k < hi + 1 - lo
    · have hle : (lo : Int) + (k : Int) ≤ (hi : Int) := by omega
      have hl := symsL_len T lo k
      have HS := Lib.hid (symsL_succ T lo k)
      go_wp2_with (first
        | (go_at_call 102; refine (placeB_any _ _ _).mono ?_; rintro e w' ⟨rfl, rfl⟩)
        | (at_builtin; refine wpList_append_own _ rfl _ _ 22 rfl w2.heap.size 5 i0 (.int .u8 0) 1 1 Tryz.underlying22 hi0 hz0 hz1 hz2 rfl (by decide) _ _ _ rfl (hown.alloc _) ⟨wr.heap.size, 0, none⟩ 1 1 [.int .u8 ((lo : Int) + (k : Int))] rfl rfl ?c1 ?c2 ?c3 ?c4 ?c5 ?_))
      case c1 =>
        intro j u hj
        match j, hj with
        | 0, hj => simp at hj; subst hj; simp [Addr.add]
      case c2 => intro u hu; simp at hu; subst hu; rfl
      case c3 => unfold maxLen; omega
      case c4 => omega
      case c5 => have := hb.size; simp; omega
      · intro v' w1 hown' hgrow _
        have hin' : 0 ≤ placeB (bytesOf T).data.toList ((lo : Int) + (k : Int)) := by assumption
        have hin : 0 ≤ placeB T ((lo : Int) + (k : Int)) := hin'
        have e1 : symsL T lo (k + 1) = symsL T lo k ++ [byteN (lo + k)] := by rw [HS.out, if_pos hin]
        have hown2 : w1.ownsRow w2.heap.size 5 1 v' (symsL T lo (k + 1)).length (Lib.byteCells (symsL T lo (k + 1))) := by
          rw [e1, Lib.byteCells_append, List.length_append]
          have e2 : Lib.byteCells [byteN (lo + k)] = [.int .u8 ((lo : Int) + (k : Int))] := by
            simp [Lib.byteCells, byteN_toNat (show lo + k < 256 from by omega)]
          rw [e2]
          exact hown'
        have hb1 : Below w2.heap.size w2 w1 := (hb.alloc hb.size _).grown hgrow (by have := hb.size; simp; omega) (fun j hj => by
          rcases hown.2 with ⟨hv, _⟩ | ⟨g, _, _, hv, hg, _⟩
          · rw [hv] at hj; simp [Value.ownBlock] at hj
          · rw [hv] at hj; simp [Value.ownBlock] at hj; omega)
        clear hown' hgrow e1 hown
        go_wp2
        go_roundw
        case rel => exact ⟨k + 1, by omega, by go_num, hown2, hb1⟩
        case measure => simp [intOf]; omega
      · have hin : placeB (bytesOf T).data.toList ((lo : Int) + (k : Int)) < 0 := by assumption
        have hown2 : wr.ownsRow w2.heap.size 5 1 u8 (symsL T lo (k + 1)).length (Lib.byteCells (symsL T lo (k + 1))) := by
          rw [HS.out, if_neg (by have : placeB T ((lo : Int) + (k : Int)) < 0 := hin; omega), List.append_nil]; exact hown
        go_roundw
        case rel => exact ⟨k + 1, by omega, by go_num, hown2, hb⟩
        case measure => simp [intOf]; omega
    · have hle : ¬ (lo : Int) + (k : Int) ≤ (hi : Int) := by omega
      have hcv := convert_own hown
      go_wp2
      go_ret
      exact ⟨ret_string (by rw [show hi + 1 - lo = k from by omega]), c2.trans (hb.mono c2.size)⟩

theorem gramBigs_any (st : ByteArray) (a : Option Addr) (cap : Nat) (rs : List RuleT) (w : World) (H : RulesAt w a rs) (hcap : rs.length ≤ cap) :
    Calls Tryz.prog 128 #[.agg #[.string st, .slice a rs.length cap]] w fun e w' => e = .returned (.string (bytesOf (symsL (gramTextL st rs) 65 5))) ∧ Below w.heap.size w w' := by
  have hbw := (Below.refl w.heap.size w).alloc (Nat.le_refl _) (.cells #[.string st, .slice a rs.length cap] 25)
  go_enter Tryz.func128, Tryz.ntmps128
  go_wp2_with fail
  refine (between_any _ _ _ rs 65 69 _ (H.below hbw (Nat.le_refl _)) hcap (by omega) (by omega)).mono ?_
  rintro e w2 ⟨rfl, hb2⟩
  go_wp2
  go_ret
  exact ⟨rfl, hbw.trans (hb2.mono (by simp))⟩
theorem gramSmalls_any (st : ByteArray) (a : Option Addr) (cap : Nat) (rs : List RuleT) (w : World) (H : RulesAt w a rs) (hcap : rs.length ≤ cap) :
    Calls Tryz.prog 51 #[.agg #[.string st, .slice a rs.length cap]] w fun e w' => e = .returned (.string (bytesOf (symsL (gramTextL st rs) 97 4))) ∧ Below w.heap.size w w' := by
  have hbw := (Below.refl w.heap.size w).alloc (Nat.le_refl _) (.cells #[.string st, .slice a rs.length cap] 25)
  go_enter Tryz.func51, Tryz.ntmps51
  go_wp2_with fail
  refine (between_any _ _ _ rs 97 100 _ (H.below hbw (Nat.le_refl _)) hcap (by omega) (by omega)).mono ?_
  rintro e w2 ⟨rfl, hb2⟩
  go_wp2
  go_ret
  exact ⟨rfl, hbw.trans (hb2.mono (by simp))⟩
end Go.Proofs.YtpkejcjjbkgomaaGreatDoor
namespace Go.Proofs.YtpkejcjjbkgomaaGreatDoor
open Go.ChangeShapes Go.WideShapes Go.ChangeAt Go.RowKit
set_option maxRecDepth 100000
/-- a byte put into bytes in order, once -/
def insL : List UInt8 → UInt8 → List UInt8
  | [], c => [c]
  | d :: r, c => if d.toNat < c.toNat then d :: insL r c else if d = c then d :: r else c :: d :: r
theorem insL_take : ∀ (l : List UInt8) (c : UInt8) (k : Nat), (∀ j (h : j < l.length), j < k → l[j].toNat < c.toNat) → insL l c = l.take k ++ insL (l.drop k) c
  | [], c, k, _ => by simp
  | d :: r, c, 0, _ => by simp
  | d :: r, c, k + 1, h => by
    have h0 := h 0 (by simp) (by omega)
    simp only [List.getElem_cons_zero] at h0
    rw [insL, if_pos h0, insL_take r c k (fun j hj hk => by have := h (j + 1) (by simpa using hj) (by omega); simpa using this)]
    simp
theorem insL_len : ∀ (l : List UInt8) (c : UInt8), (insL l c).length ≤ l.length + 1
  | [], c => by simp [insL]
  | d :: r, c => by
    have := insL_len r c
    unfold insL
    split
    · simp; omega
    · split <;> simp

theorem insL_at (l : List UInt8) (c : UInt8) (k : Nat) (h : ∀ j (h : j < l.length), j < k → l[j].toNat < c.toNat) (hk : ∀ hk : k < l.length, ¬ l[k].toNat < c.toNat ∧ l[k] ≠ c) : insL l c = l.take k ++ (c :: l.drop k) := by
  rw [insL_take l c k h]
  by_cases hl : k < l.length
  · rw [List.drop_eq_getElem_cons hl, insL, if_neg (hk hl).1, if_neg (hk hl).2]
  · rw [List.drop_eq_nil_of_le (by omega)]; rfl
theorem insL_same (l : List UInt8) (c : UInt8) (k : Nat) (h : ∀ j (h : j < l.length), j < k → l[j].toNat < c.toNat) (hk : k < l.length) (he : l[k] = c) : insL l c = l := by
  rw [insL_take l c k h, List.drop_eq_getElem_cons hk, insL, if_neg (by rw [he]; omega), if_pos he, ← List.drop_eq_getElem_cons hk, List.take_append_drop]
theorem take_cut (s : ByteArray) (k : Nat) : (s.extract 0 k).data.toList = s.data.toList.take k := by rw [Lib.extract_data]; simp
theorem add_cut (s : ByteArray) (c : UInt8) (k : Nat) (hs : s.size ≤ 1048576) (w : World) : (Op.stringOp .add (s.extract 0 k) (⟨#[c]⟩ : ByteArray)).run Tryz.prog w = .ok (.string (bytesOf (cat (s.data.toList.take k) (⟨#[c]⟩ : ByteArray)))) w := by
  have h : (s.data.toList.take k).length ≤ s.size := by simp; omega
  have := run_add_bytes (P := Tryz.prog) (s.data.toList.take k) (⟨#[c]⟩ : ByteArray) (by rw [one_size]; omega) w
  rwa [← take_cut, bytesOf_self, take_cut] at this
theorem add_cut2 (s : ByteArray) (c : UInt8) (k : Nat) (hs : s.size ≤ 1048576) (w : World) : (Op.stringOp .add (bytesOf (cat (s.data.toList.take k) (⟨#[c]⟩ : ByteArray))) (s.extract k s.size)).run Tryz.prog w = .ok (.string (bytesOf (cat (cat (s.data.toList.take k) (⟨#[c]⟩ : ByteArray)) (s.extract k s.size)))) w := by
  have h : (s.data.toList.take k).length ≤ s.size := by simp; omega
  have h2 : (s.extract k s.size).size ≤ s.size := by simp
  exact run_add_bytes (P := Tryz.prog) _ _ (by rw [cat_len, one_size]; omega) w
theorem cut_join (s : ByteArray) (c : UInt8) (k : Nat) : cat (cat (s.data.toList.take k) (⟨#[c]⟩ : ByteArray)) (s.extract k s.size) = s.data.toList.take k ++ (c :: s.data.toList.drop k) := by
  unfold cat
  rw [Lib.extract_data]
  simp
  rw [List.take_of_length_le (by simp)]
theorem convert_one (c : UInt8) (w : World) : (convert 22 9 (.slice (some ⟨w.heap.size, 0, none⟩) 1 1)).run Tryz.prog (w.alloc (.cells #[.int .u8 (c.toNat : Int)] 5)).drew = .ok (.string ⟨#[c]⟩) (w.alloc (.cells #[.int .u8 (c.toNat : Int)] 5)).drew :=
  run_convert_bytes_back _ _ _ 5 ⟨w.heap.size, 0, none⟩ 1 [c] Tryz.underlying22 Tryz.underlying5 Tryz.underlying9 (fun j hj => by
    match j, hj with
    | 0, _ => simp [Addr.add])

def allTo (st : ByteArray) (rs : List RuleT) (k : Nat) : List UInt8 := st.data.toList ++ (rs.take k).flatMap fun r => r.1.data.toList ++ r.2.data.toList
theorem allTo_zero (st : ByteArray) (rs : List RuleT) : bytesOf (allTo st rs 0) = st := by simp [allTo, bytesOf_self]
theorem allTo_succ (st : ByteArray) (rs : List RuleT) (k : Nat) (h : k < rs.length) : cat (cat (allTo st rs k) rs[k].1) rs[k].2 = allTo st rs (k + 1) := by
  unfold allTo cat
  rw [List.take_succ_eq_append_getElem h, List.flatMap_append]
  simp
theorem allTo_size {st : ByteArray} {rs : List RuleT} (h : gramOkB st rs = true) : ∀ k, k ≤ rs.length → (allTo st rs k).length ≤ 1 + 5 * k := by
  obtain ⟨h1, h2, h3⟩ := gramOk_facts h
  intro k
  induction k with
  | zero => intro _; simp [allTo]; omega
  | succ k ih =>
    intro hk
    have := ih (by omega)
    have h4 := h3 k (by omega)
    rw [← allTo_succ st rs k (by omega), cat_len, cat_len]
    omega
def signsOf (big : Bool) (l : List UInt8) : List UInt8 := l.foldl (fun o c => if bigN (c.toNat : Int) = big then insL o c else o) []
theorem signsOf_snoc (big : Bool) (l : List UInt8) (c : UInt8) : signsOf big (l ++ [c]) = if bigN (c.toNat : Int) = big then insL (signsOf big l) c else signsOf big l := by simp [signsOf]
theorem signsOf_len (big : Bool) (l : List UInt8) : (signsOf big l).length ≤ l.length := by
  generalize hn : l.length = n
  induction n generalizing l with
  | zero => obtain rfl : l = [] := List.eq_nil_of_length_eq_zero hn; simp [signsOf]
  | succ n ih =>
    obtain ⟨m, c, rfl⟩ : ∃ m c, l = m ++ [c] := ⟨l.dropLast, l.getLast (by intro h; rw [h] at hn; cases hn), (List.dropLast_concat_getLast _).symm⟩
    have := ih m (by simpa using hn)
    rw [signsOf_snoc]
    split
    · have := insL_len (signsOf big m) c; omega
    · omega

end Go.Proofs.YtpkejcjjbkgomaaGreatDoor
namespace Go.Proofs.YtpkejcjjbkgomaaGreatDoor
open Go.ChangeShapes Go.WideShapes Go.ChangeAt Go.RowKit
set_option maxRecDepth 100000
def pick5 (a b c d e : Bool) : List UInt8 := (if a then [65] else []) ++ ((if b then [66] else []) ++ ((if c then [67] else []) ++ ((if d then [68] else []) ++ (if e then [69] else []))))
def pick4 (a b c d : Bool) : List UInt8 := (if a then [97] else []) ++ ((if b then [98] else []) ++ ((if c then [99] else []) ++ (if d then [100] else [])))
theorem symsL_five (t : List UInt8) : symsL t 65 5 = pick5 (t.contains 65) (t.contains 66) (t.contains 67) (t.contains 68) (t.contains 69) := by
  have e : (List.range 5).map (fun i => byteN (65 + i)) = [65, 66, 67, 68, 69] := by decide
  unfold symsL pick5
  rw [e]
  simp only [List.filter]
  cases t.contains 65 <;> cases t.contains 66 <;> cases t.contains 67 <;> cases t.contains 68 <;> cases t.contains 69 <;> rfl
theorem symsL_four (t : List UInt8) : symsL t 97 4 = pick4 (t.contains 97) (t.contains 98) (t.contains 99) (t.contains 100) := by
  have e : (List.range 4).map (fun i => byteN (97 + i)) = [97, 98, 99, 100] := by decide
  unfold symsL pick4
  rw [e]
  simp only [List.filter]
  cases t.contains 97 <;> cases t.contains 98 <;> cases t.contains 99 <;> cases t.contains 100 <;> rfl
theorem ins5 (a b c d e : Bool) : insL (pick5 a b c d e) 65 = pick5 true b c d e ∧ insL (pick5 a b c d e) 66 = pick5 a true c d e ∧ insL (pick5 a b c d e) 67 = pick5 a b true d e ∧ insL (pick5 a b c d e) 68 = pick5 a b c true e ∧ insL (pick5 a b c d e) 69 = pick5 a b c d true := by
  cases a <;> cases b <;> cases c <;> cases d <;> cases e <;> decide
theorem ins4 (a b c d : Bool) : insL (pick4 a b c d) 97 = pick4 true b c d ∧ insL (pick4 a b c d) 98 = pick4 a true c d ∧ insL (pick4 a b c d) 99 = pick4 a b true d ∧ insL (pick4 a b c d) 100 = pick4 a b c true := by
  cases a <;> cases b <;> cases c <;> cases d <;> decide
theorem contains_snoc (l : List UInt8) (c x : UInt8) : (l ++ [c]).contains x = (l.contains x || c == x) := by
  rw [Bool.eq_iff_iff]
  simp only [List.contains_iff_mem, List.mem_append, List.mem_singleton, Bool.or_eq_true, beq_iff_eq]
  constructor
  · rintro (h | h)
    · exact .inl h
    · exact .inr h.symm
  · rintro (h | h)
    · exact .inl h
    · exact .inr h.symm
theorem bigN_cases {c : UInt8} (h : bigN (c.toNat : Int) = true) : c = 65 ∨ c = 66 ∨ c = 67 ∨ c = 68 ∨ c = 69 := by
  simp [bigN] at h
  have : c.toNat = 65 ∨ c.toNat = 66 ∨ c.toNat = 67 ∨ c.toNat = 68 ∨ c.toNat = 69 := by omega
  rcases this with h | h | h | h | h
  · exact .inl (UInt8.toNat_inj.1 h)
  · exact .inr (.inl (UInt8.toNat_inj.1 h))
  · exact .inr (.inr (.inl (UInt8.toNat_inj.1 h)))
  · exact .inr (.inr (.inr (.inl (UInt8.toNat_inj.1 h))))
  · exact .inr (.inr (.inr (.inr (UInt8.toNat_inj.1 h))))
theorem smallN_cases {c : UInt8} (h : smallN (c.toNat : Int) = true) : c = 97 ∨ c = 98 ∨ c = 99 ∨ c = 100 := by
  simp [smallN] at h
  have : c.toNat = 97 ∨ c.toNat = 98 ∨ c.toNat = 99 ∨ c.toNat = 100 := by omega
  rcases this with h | h | h | h
  · exact .inl (UInt8.toNat_inj.1 h)
  · exact .inr (.inl (UInt8.toNat_inj.1 h))
  · exact .inr (.inr (.inl (UInt8.toNat_inj.1 h)))
  · exact .inr (.inr (.inr (UInt8.toNat_inj.1 h)))
theorem snoc_ind {P : List UInt8 → Prop} (h0 : P []) (h1 : ∀ l c, P l → P (l ++ [c])) (l : List UInt8) : P l := by
  generalize hn : l.length = n
  induction n generalizing l with
  | zero => obtain rfl : l = [] := List.eq_nil_of_length_eq_zero hn; exact h0
  | succ n ih =>
    obtain ⟨m, c, rfl⟩ : ∃ m c, l = m ++ [c] := ⟨l.dropLast, l.getLast (by intro h; rw [h] at hn; cases hn), (List.dropLast_concat_getLast _).symm⟩
    exact h1 m c (ih m (by simpa using hn))
theorem signs_big (l : List UInt8) (h : ∀ c ∈ l, symN (c.toNat : Int) = true) : signsOf true l = symsL l 65 5 := by
  revert h
  refine snoc_ind (P := fun l => (∀ c ∈ l, symN (c.toNat : Int) = true) → signsOf true l = symsL l 65 5) ?_ ?_ l
  · intro _; rfl
  · intro l c ih h
    have ih' := ih (fun x hx => h x (by simp [hx]))
    have hc := h c (by simp)
    rw [signsOf_snoc, ih', symsL_five, symsL_five]
    simp only [contains_snoc]
    by_cases hb : bigN (c.toNat : Int) = true
    · rw [if_pos hb]
      obtain ⟨i1, i2, i3, i4, i5⟩ := ins5 (l.contains 65) (l.contains 66) (l.contains 67) (l.contains 68) (l.contains 69)
      rcases bigN_cases hb with rfl | rfl | rfl | rfl | rfl
      · rw [i1]; simp
      · rw [i2]; simp
      · rw [i3]; simp
      · rw [i4]; simp
      · rw [i5]; simp
    · rw [if_neg hb]
      have hs : smallN (c.toNat : Int) = true := by simp [symN] at hc; rcases hc with hc | hc
                                                    · exact absurd hc hb
                                                    · exact hc
      rcases smallN_cases hs with rfl | rfl | rfl | rfl <;> simp
theorem signs_small (l : List UInt8) (h : ∀ c ∈ l, symN (c.toNat : Int) = true) : signsOf false l = symsL l 97 4 := by
  revert h
  refine snoc_ind (P := fun l => (∀ c ∈ l, symN (c.toNat : Int) = true) → signsOf false l = symsL l 97 4) ?_ ?_ l
  · intro _; rfl
  · intro l c ih h
    have ih' := ih (fun x hx => h x (by simp [hx]))
    have hc := h c (by simp)
    rw [signsOf_snoc, ih', symsL_four, symsL_four]
    simp only [contains_snoc]
    by_cases hb : bigN (c.toNat : Int) = true
    · rw [if_neg (by rw [hb]; simp)]
      rcases bigN_cases hb with rfl | rfl | rfl | rfl | rfl <;> simp
    · rw [if_pos (by simpa using hb)]
      have hs : smallN (c.toNat : Int) = true := by simp [symN] at hc; rcases hc with hc | hc
                                                    · exact absurd hc hb
                                                    · exact hc
      obtain ⟨i1, i2, i3, i4⟩ := ins4 (l.contains 97) (l.contains 98) (l.contains 99) (l.contains 100)
      rcases smallN_cases hs with rfl | rfl | rfl | rfl
      · rw [i1]; simp
      · rw [i2]; simp
      · rw [i3]; simp
      · rw [i4]; simp
theorem text_mem (st : ByteArray) (rs : List RuleT) (k : Nat) (c : UInt8) (h1 : c ≠ 10) (h2 : c ≠ 62) : c ∈ textTo st rs k ↔ c ∈ allTo st rs k := by
  unfold textTo allTo ruleTextL
  simp [h1, h2]
theorem text_contains (st : ByteArray) (rs : List RuleT) (k : Nat) (c : UInt8) (h1 : c ≠ 10) (h2 : c ≠ 62) : (textTo st rs k).contains c = (allTo st rs k).contains c := by
  rw [Bool.eq_iff_iff]; simpa using text_mem st rs k c h1 h2
theorem isBigS_mem {s : ByteArray} (h : isBigS s = true) : ∀ c ∈ s.data.toList, symN (c.toNat : Int) = true := by
  simp only [isBigS, Bool.and_eq_true, decide_eq_true_eq, byteAt] at h
  obtain ⟨h1, h2⟩ := h
  have hl : s.data.toList.length = 1 := by simpa using h1
  match hs : s.data.toList, hl with
  | [x], _ =>
    rw [hs] at h2
    intro c hc
    obtain rfl : c = x := by simpa using hc
    have : bigN (c.toNat : Int) = true := by simpa using h2
    simp [symN, this]
theorem allTo_syms {st : ByteArray} {rs : List RuleT} (h : gramOkB st rs = true) : ∀ c ∈ allTo st rs rs.length, symN (c.toNat : Int) = true := by
  unfold gramOkB at h
  simp only [Bool.and_eq_true, decide_eq_true_eq, List.all_eq_true, List.mem_range] at h
  obtain ⟨h1, _, h3⟩ := h
  intro c hc
  unfold allTo at hc
  rw [List.take_of_length_le (Nat.le_refl _)] at hc
  rcases List.mem_append.1 hc with hc | hc
  · exact isBigS_mem h1 c hc
  · obtain ⟨r, hr, hc⟩ := List.mem_flatMap.1 hc
    obtain ⟨i, hi, rfl⟩ := List.getElem_of_mem hr
    have h4 := h3 i hi
    rw [goodB_at hi] at h4
    simp only [ruleOkB, Bool.and_eq_true, decide_eq_true_eq] at h4
    rcases List.mem_append.1 hc with hc | hc
    · exact isBigS_mem h4.1.1 c hc
    · have h5 := h4.1.2.2
      unfold allSym symsTo at h5
      rw [List.take_of_length_le (by simp), List.all_eq_true] at h5
      exact h5 c hc
theorem syms_bad (lo k : Nat) : symsL [] lo k = [] := by unfold symsL; simp
theorem bigs_eq {st : ByteArray} {rs : List RuleT} (h : gramOkB st rs = true) : signsOf true (allTo st rs rs.length) = symsL (gramTextL st rs) 65 5 := by
  rw [signs_big _ (allTo_syms h), symsL_five, symsL_five]
  unfold gramTextL
  rw [if_pos h]
  simp only [text_contains st rs rs.length 65 (by decide) (by decide), text_contains st rs rs.length 66 (by decide) (by decide), text_contains st rs rs.length 67 (by decide) (by decide), text_contains st rs rs.length 68 (by decide) (by decide), text_contains st rs rs.length 69 (by decide) (by decide)]
theorem smalls_eq {st : ByteArray} {rs : List RuleT} (h : gramOkB st rs = true) : signsOf false (allTo st rs rs.length) = symsL (gramTextL st rs) 97 4 := by
  rw [signs_small _ (allTo_syms h), symsL_four, symsL_four]
  unfold gramTextL
  rw [if_pos h]
  simp only [text_contains st rs rs.length 97 (by decide) (by decide), text_contains st rs rs.length 98 (by decide) (by decide), text_contains st rs rs.length 99 (by decide) (by decide), text_contains st rs rs.length 100 (by decide) (by decide)]

end Go.Proofs.YtpkejcjjbkgomaaGreatDoor
namespace Go.Proofs.YtpkejcjjbkgomaaGreatDoor
open Go.ChangeShapes Go.WideShapes Go.ChangeAt Go.RowKit
set_option maxRecDepth 100000
def ordL : List UInt8 := [36, 65, 66, 67, 68, 69, 97, 98, 99, 100]
def bitN (c : UInt8) : Nat := if c = 36 then 1 else if c = 65 then 2 else if c = 66 then 4 else if c = 67 then 8 else if c = 68 then 16 else if c = 69 then 32 else if c = 97 then 64 else if c = 98 then 128 else if c = 99 then 256 else if c = 100 then 512 else 0
def setN (l : List UInt8) : Nat := l.foldl (fun m c => m ||| bitN c) 0
def hasN (m : Nat) (c : UInt8) : Bool := (m &&& bitN c) != 0
def hasAllN (m : Nat) (l : List UInt8) : Bool := l.all (hasN m)
def textN (m : Nat) : List UInt8 := ordL.filter (hasN m)
theorem bitN_lt (c : UInt8) : bitN c < 1024 := by unfold bitN; repeat' (first | omega | split)
theorem or_lt {a b : Nat} (ha : a < 1024) (hb : b < 1024) : a ||| b < 1024 := Nat.or_lt_two_pow (n := 10) ha hb
theorem foldSet_lt (l : List UInt8) : ∀ m, m < 1024 → l.foldl (fun m c => m ||| bitN c) m < 1024 := by
  induction l with
  | nil => intro m h; exact h
  | cons c l ih => intro m h; exact ih _ (or_lt h (bitN_lt c))
theorem setN_lt (l : List UInt8) : setN l < 1024 := foldSet_lt l 0 (by omega)
theorem setN_snoc (l : List UInt8) (c : UInt8) : setN (l ++ [c]) = setN l ||| bitN c := by simp [setN]
theorem setN_one (c : UInt8) : setN [c] = bitN c := by simp [setN]
theorem hasAllN_snoc (m : Nat) (l : List UInt8) (c : UInt8) : hasAllN m (l ++ [c]) = (hasAllN m l && hasN m c) := by simp [hasAllN]
/-- a is within b -/
def Sub (a b : Nat) : Prop := a ||| b = b
theorem Sub.refl (a : Nat) : Sub a a := Nat.or_self a
theorem Sub.trans {a b c : Nat} (h : Sub a b) (k : Sub b c) : Sub a c := by
  unfold Sub at *; rw [← k, ← Nat.or_assoc, h]
theorem Sub.antisymm {a b : Nat} (h : Sub a b) (k : Sub b a) : a = b := by
  unfold Sub at *; rw [← k, Nat.or_comm]; exact h
theorem Sub.le {a b : Nat} (h : Sub a b) : a ≤ b := by
  unfold Sub at h; rw [← h]; exact Nat.left_le_or
theorem sub_or_left (a b : Nat) : Sub a (a ||| b) := by unfold Sub; rw [← Nat.or_assoc, Nat.or_self]
theorem sub_or_right (a b : Nat) : Sub b (a ||| b) := by rw [Nat.or_comm]; exact sub_or_left b a
theorem Sub.or {a b c : Nat} (h : Sub a c) (k : Sub b c) : Sub (a ||| b) c := by
  unfold Sub at *; rw [Nat.or_assoc, k, h]
theorem Sub.zero (a : Nat) : Sub 0 a := Nat.zero_or a
theorem Sub.or_mono {a b c d : Nat} (h : Sub a c) (k : Sub b d) : Sub (a ||| b) (c ||| d) := (h.trans (sub_or_left _ _)).or (k.trans (sub_or_right _ _))
theorem hasN_or (a b : Nat) (c : UInt8) : hasN (a ||| b) c = (hasN a c || hasN b c) := by
  unfold hasN
  rw [Nat.and_or_distrib_right, Bool.eq_iff_iff]
  simp only [bne_iff_ne, ne_eq, Bool.or_eq_true]
  constructor
  · intro h
    by_cases h1 : a &&& bitN c = 0
    · right; intro h2; exact h (by rw [h1, h2]; rfl)
    · exact .inl h1
  · rintro (h | h) e
    · have := Nat.left_le_or (n := a &&& bitN c) (m := b &&& bitN c); omega
    · have := Nat.right_le_or (n := a &&& bitN c) (m := b &&& bitN c); omega
theorem hasN_mono {a b : Nat} (h : Sub a b) {c : UInt8} (hc : hasN a c = true) : hasN b c = true := by
  unfold Sub at h; rw [← h, hasN_or, hc]; rfl
theorem hasAllN_mono {a b : Nat} (h : Sub a b) {l : List UInt8} (hl : hasAllN a l = true) : hasAllN b l = true := by
  unfold hasAllN at *
  rw [List.all_eq_true] at *
  exact fun c hc => hasN_mono h (hl c hc)
theorem hasN_ord : ∀ n : Fin 256, ∀ m : Fin 11, hasN (if m.val = 10 then 1023 else 2 ^ m.val) (UInt8.ofNat n.val) = true → (UInt8.ofNat n.val) ∈ ordL := by decide +kernel
theorem bitN_ord : ∀ n : Fin 256, bitN (UInt8.ofNat n.val) ≠ 0 → (UInt8.ofNat n.val) ∈ ordL := by decide +kernel
theorem hasN_mem {m : Nat} {c : UInt8} (h : hasN m c = true) : c ∈ ordL := by
  have h1 := bitN_ord ⟨c.toNat, c.toNat_lt⟩
  simp only [UInt8.ofNat_toNat] at h1
  refine h1 fun e => ?_
  unfold hasN at h
  rw [e] at h
  simp at h
theorem text_has (m : Nat) (c : UInt8) : (textN m).contains c = hasN m c := by
  rw [Bool.eq_iff_iff, List.contains_iff_mem, textN, List.mem_filter]
  exact ⟨fun h => h.2, fun h => ⟨hasN_mem h, h⟩⟩
theorem ins_text_all : ∀ m : Fin 1024, ordL.all (fun c => insL (textN m.val) c == textN (m.val ||| bitN c)) = true := by decide +kernel
theorem ins_text {m : Nat} (hm : m < 1024) {c : UInt8} (hc : c ∈ ordL) : insL (textN m) c = textN (m ||| bitN c) := by
  have := ins_text_all ⟨m, hm⟩
  rw [List.all_eq_true] at this
  simpa using this c hc
theorem set_text_all : ∀ m : Fin 1024, setN (textN m.val) = m.val := by decide +kernel
theorem set_text {m : Nat} (hm : m < 1024) : setN (textN m) = m := set_text_all ⟨m, hm⟩
theorem text_len (m : Nat) : (textN m).length ≤ 10 := List.length_filter_le _ _
theorem hasN_bit_all : ordL.all (fun c => ordL.all fun d => hasN (bitN c) d == (c == d)) = true := by decide +kernel
theorem hasN_self {c : UInt8} (h : c ∈ ordL) : hasN (bitN c) c = true := by
  have := List.all_eq_true.1 (List.all_eq_true.1 hasN_bit_all c h) c h
  simpa using this
/-- what holds c holds c's bit -/
theorem sub_bit_all : ∀ m : Fin 1024, ordL.all (fun c => !hasN m.val c || (bitN c ||| m.val == m.val)) = true := by decide +kernel
theorem sub_bit {m : Nat} (hm : m < 1024) {c : UInt8} (h : hasN m c = true) : Sub (bitN c) m := by
  have := List.all_eq_true.1 (sub_bit_all ⟨m, hm⟩) c (hasN_mem h)
  simp only [h, Bool.not_true, Bool.false_or, beq_iff_eq] at this
  exact this
theorem hasN_of_sub {m : Nat} {c : UInt8} (hc : c ∈ ordL) (h : Sub (bitN c) m) : hasN m c = true := hasN_mono h (hasN_self hc)
/-- the least closed set -/
def leastN (closedB : Nat → Bool) : Nat := (List.range 1024).foldl (fun acc S => if closedB S then acc &&& S else acc) 1023
theorem sub_and {a b : Nat} (h : Sub a b) : a &&& b = a := by
  unfold Sub at h
  rw [← h]
  apply Nat.eq_of_testBit_eq
  intro i
  simp only [Nat.testBit_and, Nat.testBit_or]
  cases a.testBit i <;> simp
theorem leastN_eq {closedB : Nat → Bool} {R : Nat} (h1 : closedB R = true) (h2 : R < 1024) (h3 : ∀ S, S < 1024 → closedB S = true → Sub R S) : leastN closedB = R := by
  have hlow : ∀ (l : List Nat) (acc : Nat), (∀ S ∈ l, S < 1024) → R &&& acc = R → R &&& l.foldl (fun acc S => if closedB S then acc &&& S else acc) acc = R := by
    intro l
    induction l with
    | nil => intro acc _ h; exact h
    | cons S l ih =>
      intro acc hl h
      refine ih _ (fun T hT => hl T (List.mem_cons_of_mem _ hT)) ?_
      show R &&& (if closedB S then acc &&& S else acc) = R
      by_cases hc : closedB S = true
      · rw [if_pos hc, ← Nat.and_assoc, h]
        exact sub_and (h3 S (hl S (List.mem_cons_self ..)) hc)
      · rw [if_neg hc]; exact h
  have hup : ∀ (l : List Nat) (acc : Nat), (R ∈ l ∨ acc &&& R = acc) → (l.foldl (fun acc S => if closedB S then acc &&& S else acc) acc) &&& R = l.foldl (fun acc S => if closedB S then acc &&& S else acc) acc := by
    intro l
    induction l with
    | nil => intro acc h; rcases h with h | h; (cases h); exact h
    | cons S l ih =>
      intro acc h
      refine ih _ ?_
      rcases h with h | h
      · rcases List.mem_cons.1 h with rfl | h
        · right
          show (if closedB R then acc &&& R else acc) &&& R = (if closedB R then acc &&& R else acc)
          rw [if_pos h1, Nat.and_assoc, Nat.and_self]
        · exact .inl h
      · right
        show (if closedB S then acc &&& S else acc) &&& R = (if closedB S then acc &&& S else acc)
        by_cases hc : closedB S = true
        · rw [if_pos hc, Nat.and_assoc, Nat.and_comm S R, ← Nat.and_assoc, h]
        · rw [if_neg hc]; exact h
  have h1023 : ∀ m : Fin 1024, m.val &&& 1023 = m.val := by decide +kernel
  have a := hlow (List.range 1024) 1023 (fun S hS => List.mem_range.1 hS) (h1023 ⟨R, h2⟩)
  have b := hup (List.range 1024) 1023 (.inl (List.mem_range.2 h2))
  unfold leastN
  rw [← b, Nat.and_comm]; exact a
end Go.Proofs.YtpkejcjjbkgomaaGreatDoor
namespace Go.Proofs.YtpkejcjjbkgomaaGreatDoor
open Go.ChangeShapes Go.WideShapes Go.ChangeAt Go.RowKit
set_option maxRecDepth 100000
def leftsStep (g : Nat) (k : Nat) (r : RuleT) : Nat := if hasAllN (k ||| g) r.2.data.toList = true then k ||| setN r.1.data.toList else k
def leftsTo (rs : List RuleT) (g m k : Nat) : Nat := (rs.take k).foldl (leftsStep g) m
def leftsClosedB (rs : List RuleT) (g S : Nat) : Bool := rs.all fun r => !hasAllN (S ||| g) r.2.data.toList || (setN r.1.data.toList ||| S == S)
def leftsLeast (rs : List RuleT) (g : Nat) : Nat := leastN (leftsClosedB rs g)
theorem leftsClosed_iff (rs : List RuleT) (g S : Nat) : leftsClosedB rs g S = true ↔ ∀ r ∈ rs, hasAllN (S ||| g) r.2.data.toList = true → Sub (setN r.1.data.toList) S := by
  unfold leftsClosedB
  rw [List.all_eq_true]
  constructor
  · intro h r hr hh
    have := h r hr
    rw [hh] at this
    simpa [Sub] using this
  · intro h r hr
    cases hh : hasAllN (S ||| g) r.2.data.toList with
    | false => rfl
    | true => simpa [Sub] using h r hr hh
theorem leftsStep_lt (g k : Nat) (r : RuleT) (h : k < 1024) : leftsStep g k r < 1024 := by
  unfold leftsStep; split
  · exact or_lt h (setN_lt _)
  · exact h
theorem leftsTo_zero (rs : List RuleT) (g m : Nat) : leftsTo rs g m 0 = m := rfl
theorem leftsTo_succ (rs : List RuleT) (g m k : Nat) (h : k < rs.length) : leftsTo rs g m (k + 1) = leftsStep g (leftsTo rs g m k) rs[k] := by
  unfold leftsTo; rw [List.take_succ_eq_append_getElem h, List.foldl_append]; rfl
theorem leftsFold_lt (g : Nat) : ∀ (l : List RuleT) (m : Nat), m < 1024 → l.foldl (leftsStep g) m < 1024
  | [], _, h => h
  | r :: l, m, h => leftsFold_lt g l _ (leftsStep_lt g m r h)
theorem leftsTo_lt (rs : List RuleT) (g m k : Nat) (h : m < 1024) : leftsTo rs g m k < 1024 := leftsFold_lt g _ m h
theorem leftsStep_sub (g k : Nat) (r : RuleT) : Sub k (leftsStep g k r) := by
  unfold leftsStep; split
  · exact sub_or_left _ _
  · exact Sub.refl _
theorem leftsFold_sub (g : Nat) : ∀ (l : List RuleT) (m : Nat), Sub m (l.foldl (leftsStep g) m)
  | [], m => Sub.refl m
  | r :: l, m => (leftsStep_sub g m r).trans (leftsFold_sub g l _)
theorem leftsFold_fix (g : Nat) : ∀ (l : List RuleT) (m : Nat), l.foldl (leftsStep g) m = m → ∀ r ∈ l, leftsStep g m r = m
  | [], _, _ => fun r hr => by cases hr
  | r :: l, m, h => by
    have h1 : leftsStep g m r = m := ((leftsStep_sub g m r).antisymm (by have := leftsFold_sub g l (leftsStep g m r); rw [List.foldl_cons] at h; rwa [h] at this)).symm
    intro x hx
    rcases List.mem_cons.1 hx with rfl | hx
    · exact h1
    · exact leftsFold_fix g l m (by rw [List.foldl_cons, h1] at h; exact h) x hx
theorem leftsTo_fix {rs : List RuleT} {g m : Nat} (h : leftsTo rs g m rs.length = m) : leftsClosedB rs g m = true := by
  rw [leftsClosed_iff]
  unfold leftsTo at h
  rw [List.take_of_length_le (Nat.le_refl _)] at h
  intro r hr hh
  have := leftsFold_fix g rs m h r hr
  unfold leftsStep at this
  rw [if_pos hh] at this
  unfold Sub; rw [Nat.or_comm]; exact this
theorem leftsFold_below {g S : Nat} : ∀ (l : List RuleT) (m : Nat), (∀ r ∈ l, hasAllN (S ||| g) r.2.data.toList = true → Sub (setN r.1.data.toList) S) → Sub m S → Sub (l.foldl (leftsStep g) m) S
  | [], _, _, h => h
  | r :: l, m, hc, h => by
    refine leftsFold_below l _ (fun x hx => hc x (List.mem_cons_of_mem _ hx)) ?_
    unfold leftsStep
    split
    · rename_i hh
      exact h.or (hc r (List.mem_cons_self ..) (hasAllN_mono (h.or_mono (Sub.refl g)) hh))
    · exact h
theorem leftsTo_below {rs : List RuleT} {g m k S : Nat} (hc : leftsClosedB rs g S = true) (h : Sub m S) : Sub (leftsTo rs g m k) S :=
  leftsFold_below _ m (fun r hr => (leftsClosed_iff rs g S).1 hc r (List.mem_of_mem_take hr)) h
theorem leftsTo_sub (rs : List RuleT) (g m k : Nat) : Sub m (leftsTo rs g m k) := leftsFold_sub g _ m
theorem leftsLeast_eq {rs : List RuleT} {g R : Nat} (h1 : leftsClosedB rs g R = true) (h2 : R < 1024) (h3 : ∀ S, leftsClosedB rs g S = true → Sub R S) : leftsLeast rs g = R :=
  leastN_eq h1 h2 fun S _ hS => h3 S hS
end Go.Proofs.YtpkejcjjbkgomaaGreatDoor
namespace Go.Proofs.YtpkejcjjbkgomaaGreatDoor
open Go.ChangeShapes Go.WideShapes Go.ChangeAt Go.RowKit
set_option maxRecDepth 100000
theorem bits_or (a b : Nat) (ha : a < 1024) (hb : b < 1024) : bits .or .u16 (a : Int) (b : Int) = ((a ||| b : Nat) : Int) := by
  have hx : a ||| b < 1024 := or_lt ha hb
  have h1 : (BitVec.ofInt 16 (a : Int)).toNat = a := by
    rw [BitVec.ofInt_natCast, BitVec.toNat_ofNat]; exact Nat.mod_eq_of_lt (by omega)
  have h2 : (BitVec.ofInt 16 (b : Int)).toNat = b := by
    rw [BitVec.ofInt_natCast, BitVec.toNat_ofNat]; exact Nat.mod_eq_of_lt (by omega)
  have h3 : bits .or .u16 (a : Int) (b : Int) = IntKind.u16.wrap ((BitVec.ofInt 16 (a : Int) ||| BitVec.ofInt 16 (b : Int)).toNat : Int) := rfl
  rw [h3, BitVec.toNat_or, h1, h2]
  show ((a ||| b : Nat) : Int) % 65536 = _
  omega
theorem bits_and (a b : Nat) (ha : a < 1024) (hb : b < 1024) : bits .and .u16 (a : Int) (b : Int) = ((a &&& b : Nat) : Int) := by
  have hx : a &&& b < 1024 := Nat.lt_of_le_of_lt Nat.and_le_left ha
  have h1 : (BitVec.ofInt 16 (a : Int)).toNat = a := by
    rw [BitVec.ofInt_natCast, BitVec.toNat_ofNat]; exact Nat.mod_eq_of_lt (by omega)
  have h2 : (BitVec.ofInt 16 (b : Int)).toNat = b := by
    rw [BitVec.ofInt_natCast, BitVec.toNat_ofNat]; exact Nat.mod_eq_of_lt (by omega)
  have h3 : bits .and .u16 (a : Int) (b : Int) = IntKind.u16.wrap ((BitVec.ofInt 16 (a : Int) &&& BitVec.ofInt 16 (b : Int)).toNat : Int) := rfl
  rw [h3, BitVec.toNat_and, h1, h2]
  show ((a &&& b : Nat) : Int) % 65536 = _
  omega
def ordB : ByteArray := { data := #[36, 65, 66, 67, 68, 69, 97, 98, 99, 100] }
/-- the place of a byte in the order, and its bit -/
theorem place_all : ∀ n : Fin 256, (placeB ordL ((UInt8.ofNat n.val).toNat : Int) < 0 ∧ bitN (UInt8.ofNat n.val) = 0) ∨ ∃ k : Fin 10, placeB ordL ((UInt8.ofNat n.val).toNat : Int) = (k.val : Int) ∧ bitN (UInt8.ofNat n.val) = 2 ^ k.val := by decide +kernel
theorem place_cases (c : UInt8) : (placeB ordL (c.toNat : Int) < 0 ∧ bitN c = 0) ∨ ∃ k : Nat, k < 10 ∧ placeB ordL (c.toNat : Int) = (k : Int) ∧ bitN c = 2 ^ k := by
  have h := place_all ⟨c.toNat, c.toNat_lt⟩
  simp only [UInt8.ofNat_toNat] at h
  rcases h with h | ⟨k, h⟩
  · exact .inl h
  · exact .inr ⟨k.val, k.isLt, h⟩
theorem ret_u16 {a b : Int} (h : a = b) : Ending.returned (.int .u16 a) = .returned (.int .u16 b) := by rw [h]
theorem bitOf_any (c : UInt8) (w : World) :
    Calls Tryz.prog 77 #[.int .u8 (c.toNat : Int)] w fun e w' => e = .returned (.int .u16 (bitN c : Nat)) ∧ w = w' := by
  have hpl : placeB ordB.data.toList (c.toNat : Int) = placeB ordL (c.toNat : Int) := rfl
  go_enter Tryz.func77, Tryz.ntmps77
  go_wp2_with fail
  refine (placeB_any ordB (c.toNat : Int) w).mono ?_
  rintro e w2 ⟨rfl, rfl⟩
  rw [hpl]
  rcases place_cases c with ⟨h1, h2⟩ | ⟨k, hk, h1, h2⟩
  · generalize placeB ordL (c.toNat : Int) = p at *
    go_wp2
    go_ret
    exact ⟨ret_u16 (by rw [h2]; rfl), rfl⟩
  · rw [h1]
    have H2 := Lib.hid h2
    clear h1 h2 hpl
    have hk' : k = 0 ∨ k = 1 ∨ k = 2 ∨ k = 3 ∨ k = 4 ∨ k = 5 ∨ k = 6 ∨ k = 7 ∨ k = 8 ∨ k = 9 := by omega
    clear hk
    rcases hk' with rfl | rfl | rfl | rfl | rfl | rfl | rfl | rfl | rfl | rfl
    all_goals
      go_wp2
      go_ret
      exact ⟨ret_u16 (by rw [H2.out]; rfl), rfl⟩

set_option maxHeartbeats 400000 in
theorem setOf_any (s : ByteArray) (w : World) (hs : s.size ≤ maxLen) :
    Calls Tryz.prog 44 #[.string s] w fun e w' => e = .returned (.int .u16 (setN s.data.toList : Nat)) ∧ w = w' := by
  unfold maxLen at hs
  go_enter Tryz.func44, Tryz.ntmps44
  go_wp2
  go_loop [3, 7] (fun v i => ∃ k : Nat, k ≤ s.size ∧ i = .int .i64 k ∧ v = .int .u16 (setN (s.data.toList.take k) : Nat)) (fun _ i => s.size - (intOf i).toNat)
  case atStart => exact ⟨0, Nat.zero_le _, rfl, rfl⟩
  case round =>
    obtain ⟨k, hk, rfl, rfl⟩ := hrel
    by_cases hlt : k < s.size
    · have HT : Hid (setN (s.data.toList.take (k + 1)) = setN (s.data.toList.take k) ||| bitN s[k]) := by
        show _ = _; rw [take_snoc s k hlt, setN_snoc]
      have hor := bits_or (setN (s.data.toList.take k)) (bitN s[k]) (setN_lt _) (bitN_lt _)
      generalize setN (s.data.toList.take k) = m at *
      go_wp2_with (go_at_call 77; refine (bitOf_any s[k] _).mono ?_; rintro e w' ⟨rfl, rfl⟩)
      go_round
      case rel => exact ⟨k + 1, by omega, by go_num, by rw [HT.out]⟩
      case measure => simp [intOf]; omega
    · go_wp2
      go_ret
      exact ⟨ret_u16 (by rw [List.take_of_length_le (by simp; omega)]), rfl⟩
set_option maxHeartbeats 400000 in
theorem hasAll_any (m : Nat) (s : ByteArray) (w : World) (hm : m < 1024) (hs : s.size ≤ maxLen) :
    Calls Tryz.prog 45 #[.int .u16 (m : Nat), .string s] w fun e w' => e = .returned (.bool (hasAllN m s.data.toList)) ∧ w = w' := by
  unfold maxLen at hs
  go_enter Tryz.func45, Tryz.ntmps45
  go_wp2
  go_loop [8] (fun i => ∃ k : Nat, k ≤ s.size ∧ i = .int .i64 k ∧ Hid (hasAllN m (s.data.toList.take k) = true)) (fun i => s.size - (intOf i).toNat)
  case atStart => exact ⟨0, Nat.zero_le _, rfl, by simp [hasAllN, Hid]⟩
  case round =>
    obtain ⟨k, hk, rfl, H⟩ := hrel
    by_cases hlt : k < s.size
    · have HT : Hid (hasAllN m (s.data.toList.take (k + 1)) = (hasAllN m (s.data.toList.take k) && hasN m s[k])) := by
        show _ = _; rw [take_snoc s k hlt, hasAllN_snoc]
      have hand := bits_and m (bitN s[k]) hm (bitN_lt _)
      by_cases hb : m &&& bitN s[k] = 0
      · have hb' : (((m &&& bitN s[k] : Nat) : Int) == 0) = true := by rw [hb]; rfl
        have HB := Lib.hid hb
        clear hb
        go_wp2_with (go_at_call 77; refine (bitOf_any s[k] _).mono ?_; rintro e w' ⟨rfl, rfl⟩)
        go_ret
        refine ⟨ret_bool ?_, rfl⟩
        cases hh : hasAllN m s.data.toList with
        | false => rfl
        | true =>
          unfold hasAllN at hh
          rw [List.all_eq_true] at hh
          have := hh s[k] (by have : s[k] = s.data.toList[k]'(by simpa using hlt) := rfl
                              rw [this]; exact List.getElem_mem _)
          unfold hasN at this
          rw [HB.out] at this
          simp at this
      · have hb' : (((m &&& bitN s[k] : Nat) : Int) == 0) = false := by rw [beq_eq_false_iff_ne]; omega
        have HB := Lib.hid hb
        clear hb
        go_wp2_with (go_at_call 77; refine (bitOf_any s[k] _).mono ?_; rintro e w' ⟨rfl, rfl⟩)
        go_round
        case rel => exact ⟨k + 1, by omega, by go_num, by show _ = _; rw [HT.out, H.out]; simpa [hasN] using HB.out⟩
        case measure => simp [intOf]; omega
    · go_wp2
      go_ret
      exact ⟨ret_bool (by have := H.out; rw [List.take_of_length_le (by simp; omega)] at this; exact this.symm), rfl⟩
end Go.Proofs.YtpkejcjjbkgomaaGreatDoor
namespace Go.Proofs.YtpkejcjjbkgomaaGreatDoor
open Go.ChangeShapes Go.WideShapes Go.ChangeAt Go.RowKit
set_option maxRecDepth 100000
def textK (m k : Nat) : List UInt8 := (ordL.take k).filter (hasN m)
theorem textK_yes {m k : Nat} (hk : k < 10) (h : hasN m (ordL[k]'hk) = true) : textK m (k + 1) = textK m k ++ [ordL[k]'hk] := by
  unfold textK; rw [List.take_succ_eq_append_getElem hk, List.filter_append]; simp [h]
theorem textK_no {m k : Nat} (hk : k < 10) (h : hasN m (ordL[k]'hk) = false) : textK m (k + 1) = textK m k := by
  unfold textK; rw [List.take_succ_eq_append_getElem hk, List.filter_append]; simp [h]
theorem textK_len (m k : Nat) : (textK m k).length ≤ 10 := Nat.le_trans (List.length_filter_le _ _) (by simp [ordL]; omega)
theorem cut_ord : ∀ k : Fin 10, ordB.extract k.val (k.val + 1) = bytesOf [ordL[k.val]'k.isLt] := by decide +kernel
set_option maxHeartbeats 800000 in
theorem setText_any (m : Nat) (w : World) (hm : m < 1024) :
    Calls Tryz.prog 53 #[.int .u16 (m : Nat)] w fun e w' => e = .returned (.string (bytesOf (textN m))) ∧ Below w.heap.size w w' := by
  have hB0 : Builds w.heap.size w.heap.size [] (w.alloc (.cells #[.pointer none, .slice none 0 0] 70)) := Lib.fresh_isBuilder _ _ _
  go_enter Tryz.func53, Tryz.ntmps53
  go_wp2
  go_loopw [6] (fun i wr => ∃ k : Nat, k ≤ 10 ∧ i = .int .i64 k ∧ Builds w.heap.size w.heap.size (textK m k) wr ∧ Below w.heap.size w wr) (fun i _ => 10 - (intOf i).toNat)
  case atStart => exact ⟨0, by omega, rfl, hB0, (Below.refl _ _).alloc (Nat.le_refl _) _⟩
  case round =>
    obtain ⟨k, hk, rfl, hB, hb⟩ := hrel
    have hlen := textK_len m k
    by_cases hlt : k < 10
    · have hkl : (k : Int) < 10 := by omega
      have hx : ordB.extract k (k + 1) = bytesOf [ordL[k]'hlt] := cut_ord ⟨k, hlt⟩
      have hx' : (({ data := #[36, 65, 66, 67, 68, 69, 97, 98, 99, 100] } : ByteArray)).extract k (k + 1) = bytesOf [ordL[k]'hlt] := hx
      have hx1 : hasAllN m (bytesOf [ordL[k]'hlt]).data.toList = hasN m (ordL[k]'hlt) := by simp [hasAllN, bytesOf]
      have HY := Lib.hid (textK_yes (m := m) hlt)
      have HN := Lib.hid (textK_no (m := m) hlt)
      have hsz : (bytesOf [ordL[k]'hlt]).size ≤ maxLen := by rw [bytesOf_size]; simp [maxLen]
      go_wp2_with fail

      generalize ordL[k]'hlt = c at *
      clear hx hx'
      refine (hasAll_any m _ wr hm hsz).mono ?_
      rintro e w2 ⟨rfl, rfl⟩
      rw [hx1]
      cases hh : hasN m c with
      | false =>
        go_wp2
        go_roundw
        case rel => exact ⟨k + 1, by omega, by go_num, by rw [HN.out hh]; exact hB, hb⟩
        case measure => simp [intOf]; omega
      | true =>
        go_wp2_with fail
        refine (write_any _ _ _ _ _ hB (by simp; omega) hb.size).mono ?_
        rintro e w' ⟨rfl, hB', hb'⟩
        have hfin : Below w.heap.size w w' := hb.trans hb'
        rw [← HY.out hh] at hB'
        go_wp2
        go_roundw
        case rel => exact ⟨k + 1, by omega, by go_num, hB', hfin⟩
        case measure => simp [intOf]; omega
    · have hkl : ¬ (k : Int) < 10 := by omega
      go_wp2_with fail
      refine (builderString_any _ _ _ _ hB hb.size).mono ?_
      rintro e w' ⟨rfl, hb'⟩
      have hfin : Below w.heap.size w w' := hb.trans hb'
      go_wp2
      go_ret
      refine ⟨ret_string ?_, hfin⟩
      obtain rfl : k = 10 := by omega
      rfl
end Go.Proofs.YtpkejcjjbkgomaaGreatDoor
namespace Go.Proofs.YtpkejcjjbkgomaaGreatDoor
open Go.ChangeShapes Go.WideShapes Go.ChangeAt Go.RowKit
attribute [local go_sem] Oper.semAt_some
set_option maxRecDepth 100000
def GF : Nat := 194
theorem growing_any (x : Int) (gf : Nat) (caps : Array Value) (w : World) :
    Calls Tryz.prog 197 #[.int .u16 x, .func (.func gf) #[] caps] w fun e w' => e = .returned (.func (.func 198) #[] #[.pointer (some ⟨w.heap.size, 0, none⟩), .pointer (some ⟨w.heap.size + 1, 0, none⟩)]) ∧ w' = (w.alloc (.cells #[.int .u16 x] 81)).alloc (.cells #[.func (.func gf) #[] caps] 314) := by
  have hmf := makeFunc_run
  go_enter Tryz.func197, Tryz.ntmps197
  go_wp2
  go_ret
  exact ⟨rfl, rfl⟩
def cellN (w : World) (b : Nat) : Nat := match w.cell? ⟨b, 0, none⟩ with
  | some (.int _ v) => v.toNat
  | _ => 0
theorem one1.cellN {w : World} {b : Nat} {x : Nat} {k : IntKind} {T : TypeId} (h : one1 w b (.int k (x : Int)) T) : cellN w b = x := by
  unfold Go.Proofs.YtpkejcjjbkgomaaGreatDoor.cellN; rw [h.cell.1]; simp
set_option maxHeartbeats 1000000 in
theorem growing1_in (n : Nat) (l Bv Bg : Nat) (caps : Array Value) (f : Nat → Nat) (Inv : Nat → Prop) (J : Nat → World → Prop)
    (hInv : ∀ x, Inv x → Inv (f x) ∧ x ≤ f x ∧ f x < 1024)
    (hJc : ∀ y W u, J y W → J y (W.setCell ⟨Bv, 0, none⟩ u)) (hJb : ∀ y W W', J y W → Below W.heap.size W W' → J y W')
    (hJg : ∀ y W, J y W → one1 W Bg (.func (.func 194) #[] caps) 314)
    (hY : ∀ (x y : Nat) W, Inv x → one1 W Bv (.int .u16 (x : Int)) 81 → J y W → YieldAt Fence.wide (n - 1) Tryz.prog l #[.int .u16 (x : Int)] W (fun e W' => e = .returned (.bool true) ∧ J x W' ∧ one1 W' Bv (.int .u16 (x : Int)) 81))
    (hG : ∀ (x y : Nat) W, Inv x → J y W → Calls Tryz.prog 194 (#[.int .u16 (x : Int)] ++ caps) W (fun e W' => e = .returned (.int .u16 (f x : Nat)) ∧ Below W.heap.size W W'))
    (x0 y0 : Nat) (W : World) (hx0 : Inv x0) (hv0 : one1 W Bv (.int .u16 (x0 : Int)) 81) (hJ0 : J y0 W) :
    CallsIn Fence.wide n Tryz.prog 198 #[.func (.yield l) #[] #[], .pointer (some ⟨Bv, 0, none⟩), .pointer (some ⟨Bg, 0, none⟩)] W fun e W' => (∃ v, e = .returned v) ∧ ∃ R, Inv R ∧ f R = R ∧ J R W' := by
  refine callsIn_of_wp Tryz.func198 rfl trivial ?_ rfl
  simp only [Tryz.ntmps198, List.size_toArray, List.length_cons, List.length_nil, Nat.reduceAdd, Nat.reduceSub, Array.replicate_succ, Array.replicate_zero, List.push_toArray, List.append_toArray, List.nil_append, List.cons_append]
  gi_wp2
  gi_loopw [4] (fun _ wr => ∃ x y : Nat, Inv x ∧ one1 wr Bv (.int .u16 (x : Int)) 81 ∧ J y wr) (fun _ wr => 1024 - cellN wr Bv)
  case atStart => exact ⟨x0, y0, hx0, hv0, hJ0⟩
  case round =>
    obtain ⟨x, y, hx, hv, hJ⟩ := hrel
    obtain ⟨fn, tmps, assign, body, hy, hR⟩ := hY x y wr hx hv hJ
    have hc := hv.cell.1
    gi_wp2
    refine ⟨fun h => (by cases h), hR.mono ?_⟩
    rintro e W3 ⟨rfl, hJ3, hv3⟩
    clear hy hR hc
    have hc := hv3.cell.1
    have hg := (hJg _ _ hJ3).cell.1
    have eg : ∀ args w, (callFunc 194 args).run Tryz.prog w = .ok (.enter 194 args) w := enters_of Tryz.func194 (by kernel_rfl) rfl
    gi_wp2
    refine ⟨trivial, fun h => (by cases h), (callsIn_wide.2 (hG x x W3 hx hJ3)).mono ?_⟩
    rintro e W4 ⟨rfl, hb4⟩
    obtain ⟨i1, i2, i3⟩ := hInv x hx
    have hv4 := hv3.below hb4
    have hJ4 := hJb _ _ _ hJ3 hb4
    have HI1 := Lib.hid i1
    clear i1 hc hg eg
    have hc := hv4.cell.1
    have hf := hv4.cell.2
    have hmx := hv4.cellN
    by_cases he : f x = x
    · have he' : (((f x : Nat) : Int) == (x : Int)) = true := by rw [he]; simp
      have HE := Lib.hid he
      clear he hmx
      gi_wp2
      refine bodyPost_ret (results_none rfl _ _ _) rfl ?_
      exact ⟨⟨_, rfl⟩, x, hx, HE.out, hJ4⟩
    · have he' : (((f x : Nat) : Int) == (x : Int)) = false := by rw [beq_eq_false_iff_ne]; omega
      have hlt : x < f x := by omega
      have hv5 := hv4.set (.int .u16 (f x : Nat))
      have hJ5 := hJc _ _ (.int .u16 (f x : Nat)) hJ4
      have hm5 := hv5.cellN
      clear he
      generalize f x = y at *
      gi_wp2
      exact ⟨⟨y, x, HI1.out, hv5, hJ5⟩, by rw [hm5, hv.cellN]; omega⟩

/-- the world of leastFixedPoint: all but the cell of the value -/
def LfpJ (w0 W : World) (B : Nat) (rec : Loop) (fv : Value) (y : Nat) : Prop :=
  one1 W B (.int .u16 (y : Int)) 81 ∧ one1 W (B + 2) fv 314 ∧ W.heap[B + 4]? = some (.loop rec) ∧ W.heap[B + 3]? = some (.deferred (some [])) ∧ Below B w0 W
set_option maxHeartbeats 1000000 in
theorem lfp_any (caps : Array Value) (f : Nat → Nat) (Inv : Nat → Prop) (hInv : ∀ x, Inv x → Inv (f x) ∧ x ≤ f x ∧ f x < 1024) (w : World)
    (hG : ∀ (x : Nat) W, Inv x → Below w.heap.size w W → Calls Tryz.prog 194 (#[.int .u16 (x : Int)] ++ caps) W (fun e W' => e = .returned (.int .u16 (f x : Nat)) ∧ Below W.heap.size W W'))
    (x0 : Nat) (hx0 : Inv x0) :
    Calls Tryz.prog 193 #[.int .u16 (x0 : Int), .func (.func 194) #[] caps] w fun e w' => ∃ R, e = .returned (.int .u16 (R : Nat)) ∧ Inv R ∧ f R = R ∧ Below w.heap.size w w' := by
  refine (callsIn_wide (n := 3)).1 ?_
  refine callsIn_of_wp_marks Tryz.func193 rfl trivial ?_ rfl
  simp only [Tryz.ntmps193, List.size_toArray, List.length_cons, List.length_nil, Nat.reduceAdd, Nat.reduceSub, Array.replicate_succ, Array.replicate_zero, List.push_toArray, List.append_toArray, List.nil_append, List.cons_append]
  gi_wp2
  refine ⟨trivial, (callsIn_wide.2 (growing_any x0 _ caps _)).mono ?_⟩
  rintro e w2 ⟨rfl, rfl⟩
  gi_wp2
  refine wpIn_rangeFunc_open rfl (by omega) rfl trivial (enters_of Tryz.func198 (by kernel_rfl) rfl) ?_
  intro fn hfn
  simp only [World.size_alloc, Nat.add_assoc, Nat.reduceAdd]
  generalize hrec : recOf fn _ _ _ _ _ = rec
  refine (growing1_in 2 (w.heap.size + 4) (w.heap.size + 1) (w.heap.size + 2) caps f Inv (fun y W => LfpJ w W w.heap.size (rec .ready none) (.func (.func 194) #[] caps) y) hInv ?l1 ?l2 ?l3 ?l4 ?l5 x0 x0 _ hx0 ?l6 ?l7).mono ?_
  case l1 =>
    rintro y W u ⟨j1, j2, j3, j4, j5⟩
    exact ⟨j1.other (by omega) u, j2.other (by omega) u, (Below.heap_setCell W _ u _ (by show w.heap.size + 4 ≠ w.heap.size + 1; omega)).trans j3, (Below.heap_setCell W _ u _ (by show w.heap.size + 3 ≠ w.heap.size + 1; omega)).trans j4, j5.setCell (p := ⟨w.heap.size + 1, 0, none⟩) (by show w.heap.size ≤ w.heap.size + 1; omega) u⟩
  case l2 =>
    rintro y W W' ⟨j1, j2, j3, j4, j5⟩ hb
    exact ⟨j1.below hb, j2.below hb, (hb.block _ (Array.getElem?_eq_some_iff.1 j3).1).trans j3, (hb.block _ (Array.getElem?_eq_some_iff.1 j4).1).trans j4, j5.trans (hb.mono j5.size)⟩
  case l3 => exact fun y W h => h.2.1
  case l5 =>
    rintro x y W hx ⟨j1, j2, j3, j4, j5⟩
    exact hG x W hx j5
  case l6 => exact (((one1.alloc (show one1 _ (w.heap.size + 1) _ _ from blk_new _ _ (by simp)) _).alloc _).alloc _)
  case l7 =>
    refine ⟨((((one1.alloc (show one1 _ w.heap.size _ _ from blk_new _ _ rfl) _).alloc _).alloc _).alloc _), ((one1.alloc (show one1 _ (w.heap.size + 2) _ _ from blk_new _ _ (by simp)) _).alloc _), blk_new _ _ (by simp), (blk_old _ _ (by simp)).trans (blk_new _ _ (by simp)), ?_⟩
    exact (((((Below.refl _ _).alloc (Nat.le_refl _) _).alloc (by simp) _).alloc (by simp; omega) _).alloc (by simp; omega) _).alloc (by simp; omega) _
  case l4 =>
    rintro x y W hx hv ⟨j1, j2, j3, j4, j5⟩
    rw [← hrec] at j3
    obtain ⟨c1, c2⟩ := (j1.put (c := w.heap.size + 4) (by omega) (.loop (rec .busy none))).cell
    have k1 := ((j1.put (c := w.heap.size + 4) (by omega) (.loop (rec .busy none))).set (.int .u16 (x : Int))).put (c := w.heap.size + 4) (by omega) (.loop (rec .ready none))
    refine YieldAt.mono (R := fun e W' => ∃ j, e = .returned (.bool j.isNone) ∧ (j = none ∧ LfpJ w W' w.heap.size (rec .ready none) (.func (.func 194) #[] caps) x ∧ one1 W' (w.heap.size + 1) (.int .u16 (x : Int)) 81)) (yieldAt_open hfn j3 rfl ?_) ?_
    · rw [hrec] at j3 ⊢
      have hl := (Array.getElem?_eq_some_iff.1 j3).1
      gi_wp2
      refine ⟨j3, ?_⟩
      gi_wp2
      have p1 : ((W.putObj (w.heap.size + 4) (.loop (rec .busy none))).setCell ⟨w.heap.size, 0, none⟩ (.int .u16 (x : Int))).heap[w.heap.size + 4]? = some (.loop (rec .busy none)) := (Below.heap_setCell _ _ _ _ (by show w.heap.size + 4 ≠ w.heap.size; omega)).trans (World.putObj_heap_same hl)
      refine ⟨p1, rfl, ⟨k1, ?_, ?_, ?_, ?_⟩, ?_⟩
      · exact ((j2.put (by omega) _).other (by omega) _).put (by omega) _
      · exact World.putObj_heap_same (Array.getElem?_eq_some_iff.1 p1).1
      · exact (World.putObj_heap_other (by omega)).trans ((Below.heap_setCell _ _ _ _ (by show w.heap.size + 3 ≠ w.heap.size; omega)).trans ((World.putObj_heap_other (by omega)).trans j4))
      · exact Below.putObj ((Below.putObj j5 (by omega) _).setCell (p := ⟨w.heap.size, 0, none⟩) (Nat.le_refl _) _) (by omega) _
      · exact ((hv.put (by omega) _).other (by omega) _).put (by omega) _
    · rintro e W' ⟨j, rfl, rfl, h1, h2⟩
      exact ⟨rfl, h1, h2⟩
  rintro e W ⟨⟨v, rfl⟩, R, hR, hfix, j1, j2, j3, j4, j5⟩
  have q1 := j1.put (c := w.heap.size + 4) (by omega) (.loop (rec .exhausted none))
  have q4 : (W.putObj (w.heap.size + 4) (.loop (rec .exhausted none))).heap[w.heap.size + 3]? = some (.deferred (some [])) := (World.putObj_heap_other (by omega)).trans j4
  have q5 := Below.putObj j5 (r := w.heap.size + 4) (by omega) (.loop (rec .exhausted none))
  obtain ⟨c1, c2⟩ := q1.cell
  refine ⟨v, .ready, none, rfl, by simp, j3, ?_⟩
  unfold afterSeq
  generalize W.putObj (w.heap.size + 4) (.loop (rec .exhausted none)) = W5 at *
  gi_wp2
  refine ⟨by simp, .inl ⟨_, _, rfl, run_takeDeferred q4, ?_⟩⟩
  exact ⟨_, results_tmp rfl _ _ _, R, rfl, hR, hfix, Below.putObj q5 (by omega) _⟩
end Go.Proofs.YtpkejcjjbkgomaaGreatDoor
namespace Go.Proofs.YtpkejcjjbkgomaaGreatDoor
open Go.ChangeShapes Go.WideShapes Go.ChangeAt Go.RowKit
set_option maxRecDepth 100000
/-- a grammar's box -/
def GBox (w : World) (b : Nat) (st : ByteArray) (a : Option Addr) (n cap : Nat) : Prop := w.heap[b]? = some (.cells #[.string st, .slice a n cap] 25)
theorem GBox.lt {w : World} {b : Nat} {st : ByteArray} {a : Option Addr} {n cap : Nat} (h : GBox w b st a n cap) : b < w.heap.size := (Array.getElem?_eq_some_iff.1 h).1
theorem GBox.below {w w' : World} {b : Nat} {st : ByteArray} {a : Option Addr} {n cap : Nat} (h : GBox w b st a n cap) (hb : Below w.heap.size w w') : GBox w' b st a n cap := (hb.block b h.lt).trans h
theorem GBox.cells {w : World} {b : Nat} {st : ByteArray} {a : Option Addr} {n cap : Nat} (h : GBox w b st a n cap) : w.cell? ⟨b, 0, none⟩ = some (.string st) ∧ w.cell? ⟨b, 1, none⟩ = some (.slice a n cap) := ⟨by rw [cell_of_block h 0]; rfl, by rw [cell_of_block h 1]; rfl⟩
set_option maxHeartbeats 1000000 in
theorem lefts1_any (st : ByteArray) (a : Option Addr) (cap : Nat) (rs : List RuleT) (b1 b2 g x : Nat) (w : World) (H : RulesAt w a rs) (hx : x < 1024) (hg : g < 1024) (hG : GBox w b1 st a rs.length cap) (hV : one1 w b2 (.int .u16 (g : Int)) 81) :
    Calls Tryz.prog 194 #[.int .u16 (x : Int), .pointer (some ⟨b1, 0, none⟩), .pointer (some ⟨b2, 0, none⟩)] w fun e w' => e = .returned (.int .u16 (leftsTo rs g x rs.length : Nat)) ∧ Below w.heap.size w w' := by
  have hn := H.1
  unfold maxLen at hn
  obtain ⟨g0, g1⟩ := hG.cells
  go_enter Tryz.func194, Tryz.ntmps194
  go_wp2
  go_loopw [0, 10] (fun v i wr => ∃ k : Nat, k ≤ rs.length ∧ i = .int .i64 k ∧ v = .int .u16 (leftsTo rs g x k : Nat) ∧ Below w.heap.size w wr) (fun _ i _ => rs.length - (intOf i).toNat)
  case atStart => exact ⟨0, Nat.zero_le _, rfl, rfl, Below.refl _ _⟩
  case round =>
    obtain ⟨k, hk, rfl, rfl, hb⟩ := hrel
    by_cases hlt : k < rs.length
    · obtain ⟨z1, z2, b, off, e, hbb, c1, c2⟩ := H.2 k hlt
      subst e
      have d1 : wr.cell? ⟨b, off + k * 2, none⟩ = some (.string rs[k].1) := by rw [hb.cell (p := ⟨b, _, none⟩) hbb, c1]
      have d2 : wr.cell? ⟨b, off + k * 2 + 1, none⟩ = some (.string rs[k].2) := by rw [hb.cell (p := ⟨b, _, none⟩) hbb, c2]
      have hkl : (k : Int) < (rs.length : Int) := by omega
      have hlm := leftsTo_lt rs g x k hx
      have HS := Lib.hid (leftsTo_succ rs g x k hlt)
      have hor := bits_or (leftsTo rs g x k) g hlm hg
      have hol := or_lt hlm hg
      have hb2 := hb.alloc hb.size (.cells #[.string rs[k].1, .string rs[k].2] 59)
      have hV2 := (((hV.below hb).alloc (.cells #[.string rs[k].1, .string rs[k].2] 59))).cell.1
      have hor2 := bits_or (leftsTo rs g x k) (setN rs[k].1.data.toList) hlm (setN_lt _)
      generalize leftsTo rs g x k = m at *
      go_wp2_with fail
      refine (hasAll_any (m ||| g) rs[k].2 _ hol z2).mono ?_
      rintro e w2 ⟨rfl, rfl⟩
      cases hh : hasAllN (m ||| g) rs[k].2.data.toList with
      | false =>
        go_wp2
        go_roundw
        case rel => exact ⟨k + 1, by omega, by go_num, by rw [HS.out, leftsStep, if_neg (by rw [hh]; simp)], hb2⟩
        case measure => simp [intOf]; omega
      | true =>
        go_wp2_with fail
        refine (setOf_any rs[k].1 _ z1).mono ?_
        rintro e w3 ⟨rfl, rfl⟩
        go_wp2
        go_roundw
        case rel => exact ⟨k + 1, by omega, by go_num, by rw [HS.out, leftsStep, if_pos hh], hb2⟩
        case measure => simp [intOf]; omega
    · have hkl : ¬ (k : Int) < (rs.length : Int) := by omega
      obtain rfl : k = rs.length := by omega
      go_wp2
      go_ret
      exact ⟨rfl, hb⟩
set_option maxHeartbeats 1000000 in
theorem leftsClosed_any (st : ByteArray) (a : Option Addr) (cap : Nat) (rs : List RuleT) (g : Nat) (w : World) (H : RulesAt w a rs) (hg : g < 1024) :
    Calls Tryz.prog 186 #[.agg #[.string st, .slice a rs.length cap], .int .u16 (g : Int)] w fun e w' => e = .returned (.int .u16 (leftsLeast rs g : Nat)) ∧ Below w.heap.size w w' := by
  have hmf := makeFunc_run
  have hbw := ((Below.refl w.heap.size w).alloc (Nat.le_refl _) (.cells #[.string st, .slice a rs.length cap] 25)).alloc (by simp) (.cells #[.int .u16 (g : Int)] 81)
  have hG : GBox ((w.alloc (.cells #[.string st, .slice a rs.length cap] 25)).alloc (.cells #[.int .u16 (g : Int)] 81)) w.heap.size st a rs.length cap := (blk_old _ _ (by simp)).trans (blk_new _ _ rfl)
  have hV : one1 ((w.alloc (.cells #[.string st, .slice a rs.length cap] 25)).alloc (.cells #[.int .u16 (g : Int)] 81)) (w.heap.size + 1) (.int .u16 (g : Int)) 81 := blk_new _ _ (by simp)
  have H1 := H.below hbw (Nat.le_refl _)
  go_enter Tryz.func186, Tryz.ntmps186
  go_wp2_with fail
  refine (lfp_any #[.pointer (some ⟨w.heap.size, 0, none⟩), .pointer (some ⟨w.heap.size + 1, 0, none⟩)] (fun x => leftsTo rs g x rs.length) (fun x => x < 1024 ∧ ∀ S, leftsClosedB rs g S = true → Sub x S) ?_ _ ?_ 0 ⟨by omega, fun S _ => Sub.zero S⟩).mono ?_
  · rintro x ⟨h1, h2⟩
    exact ⟨⟨leftsTo_lt rs g x _ h1, fun S hS => leftsTo_below hS (h2 S hS)⟩, (leftsTo_sub rs g x _).le, leftsTo_lt rs g x _ h1⟩
  · rintro x W ⟨h1, _⟩ hb
    exact lefts1_any st a cap rs _ _ g x W (H1.below hb (Nat.le_refl _)) h1 hg (hG.below hb) (hV.below hb)
  · rintro e w2 ⟨R, rfl, ⟨h1, h2⟩, hfix, hb2⟩
    have hL : leftsLeast rs g = R := leftsLeast_eq (leftsTo_fix hfix) h1 h2
    go_wp2
    go_ret
    exact ⟨ret_u16 (by rw [hL]), hbw.trans (hb2.mono (by simp; omega))⟩
end Go.Proofs.YtpkejcjjbkgomaaGreatDoor
namespace Go.Proofs.YtpkejcjjbkgomaaGreatDoor
open Go.ChangeShapes Go.WideShapes Go.ChangeAt Go.RowKit
set_option maxRecDepth 100000
theorem leftsLeast_lt (rs : List RuleT) (g : Nat) : leftsLeast rs g < 1024 := by
  unfold leftsLeast leastN
  have : ∀ (l : List Nat) (acc : Nat), acc < 1024 → l.foldl (fun acc S => if leftsClosedB rs g S then acc &&& S else acc) acc < 1024 := by
    intro l
    induction l with
    | nil => intro acc h; exact h
    | cons S l ih =>
      intro acc h
      refine ih _ ?_
      show (if leftsClosedB rs g S = true then acc &&& S else acc) < 1024
      split
      · exact Nat.lt_of_le_of_lt Nat.and_le_left h
      · exact h
  exact this _ _ (by omega)
def noneL (st : ByteArray) (rs : List RuleT) : List UInt8 := if gramOkB st rs = true then textN (leftsLeast rs 0) else []
def madeL (st : ByteArray) (rs : List RuleT) : List UInt8 := if gramOkB st rs = true then textN (leftsLeast rs 960) else []
theorem nullableSet_any (st : ByteArray) (a : Option Addr) (cap : Nat) (rs : List RuleT) (w : World) (H : RulesAt w a rs) :
    Calls Tryz.prog 176 #[.agg #[.string st, .slice a rs.length cap]] w fun e w' => e = .returned (.int .u16 (leftsLeast rs 0 : Nat)) ∧ Below w.heap.size w w' := by
  have hbw := (Below.refl w.heap.size w).alloc (Nat.le_refl _) (.cells #[.string st, .slice a rs.length cap] 25)
  go_enter Tryz.func176, Tryz.ntmps176
  go_wp2_with fail
  refine (leftsClosed_any st a cap rs 0 _ (H.below hbw (Nat.le_refl _)) (by omega)).mono ?_
  rintro e w2 ⟨rfl, hb2⟩
  go_wp2
  go_ret
  exact ⟨rfl, hbw.trans (hb2.mono (by simp))⟩
end Go.Proofs.YtpkejcjjbkgomaaGreatDoor
namespace Go.Proofs.YtpkejcjjbkgomaaGreatDoor
open Go.ChangeShapes Go.WideShapes Go.ChangeAt Go.RowKit
set_option maxRecDepth 100000
def inL (l : List UInt8) (c : UInt8) : Bool := l.contains c
theorem contains_at {s : ByteArray} {c : UInt8} {k : Nat} (h : k < s.size) (e : s[k] = c) : inL s.data.toList c = true := by
  rw [inL, List.contains_iff_mem, ← e]; show s.data[k] ∈ _; simp
theorem contains_not {s : ByteArray} {c : UInt8} (h : ∀ k (hk : k < s.size), ¬ s[k] = c) : inL s.data.toList c = false := by
  cases hh : inL s.data.toList c with
  | false => rfl
  | true =>
    rw [inL, List.contains_iff_mem] at hh
    obtain ⟨k, hk, e⟩ := List.getElem_of_mem hh
    exact absurd e (h k (by simpa using hk))
theorem u8_eq (a b : UInt8) : (((a.toNat : Nat) : Int) == ((b.toNat : Nat) : Int)) = decide (a = b) := by
  by_cases h : a = b
  · subst h; simp
  · have : ¬ a.toNat = b.toNat := fun e => h (UInt8.toNat_inj.1 e)
    rw [decide_eq_false h, beq_eq_false_iff_ne]; omega
theorem small_all : ∀ n : Fin 256, hasN 960 (UInt8.ofNat n.val) = smallN ((UInt8.ofNat n.val).toNat : Int) := by decide +kernel
theorem has_small (c : UInt8) : hasN 960 c = smallN (c.toNat : Int) := by
  have h := small_all ⟨c.toNat, c.toNat_lt⟩
  simpa only [UInt8.ofNat_toNat] using h
theorem hasN_zero (c : UInt8) : hasN 0 c = false := by simp [hasN]
def smallSet (b : Bool) : Nat := if b then 960 else 0
theorem smallSet_lt (b : Bool) : smallSet b < 1024 := by cases b <;> simp [smallSet]
theorem has_smallSet (m : Nat) (b : Bool) (c : UInt8) : hasN (m ||| smallSet b) c = (hasN m c || (b && smallN (c.toNat : Int))) := by
  rw [hasN_or]
  cases b
  · simp [smallSet, hasN_zero]
  · simp [smallSet, has_small]
theorem hasAll_bad {m : Nat} {s : ByteArray} {k : Nat} (h : k < s.size) (hb : hasN m s[k] = false) : hasAllN m s.data.toList = false := by
  cases hh : hasAllN m s.data.toList with
  | false => rfl
  | true =>
    unfold hasAllN at hh
    rw [List.all_eq_true] at hh
    have := hh s[k] (by show s.data[k] ∈ _; simp)
    rw [hb] at this; cases this
theorem ok_left {st : ByteArray} {rs : List RuleT} (h : gramOkB st rs = true) {k : Nat} (hk : k < rs.length) : ∃ c : UInt8, rs[k].1 = ⟨#[c]⟩ ∧ bigN (c.toNat : Int) = true := by
  unfold gramOkB at h
  simp only [Bool.and_eq_true, decide_eq_true_eq, List.all_eq_true, List.mem_range] at h
  have h4 := h.2.2 k hk
  rw [goodB_at hk] at h4
  simp only [ruleOkB, Bool.and_eq_true] at h4
  have h5 := h4.1.1
  simp only [isBigS, Bool.and_eq_true, decide_eq_true_eq, byteAt] at h5
  obtain ⟨h6, h7⟩ := h5
  have hl : rs[k].1.data.toList.length = 1 := by simpa using h6
  match hs : rs[k].1.data.toList, hl with
  | [x], _ =>
    rw [hs] at h7
    exact ⟨x, bytesOf_ext (by rw [hs]), by simpa using h7⟩
theorem big_ord {c : UInt8} (h : bigN (c.toNat : Int) = true) : c ∈ ordL := by
  rcases bigN_cases h with rfl | rfl | rfl | rfl | rfl <;> decide
end Go.Proofs.YtpkejcjjbkgomaaGreatDoor
namespace Go.Proofs.YtpkejcjjbkgomaaGreatDoor
open Go.ChangeShapes Go.WideShapes Go.ChangeAt Go.RowKit
set_option maxRecDepth 100000
/-- a text of small signs, eight at most -/
def textB (s : ByteArray) : Bool := hasAllN 960 s.data.toList && decide ((s.size : Int) ≤ 8)
theorem smalls_set (w : World) : Calls Tryz.prog 44 #[.string ({ data := #[97, 98, 99, 100] } : ByteArray)] w fun e w' => e = .returned (.int .u16 ((960 : Nat) : Int)) ∧ w = w' := by
  have hset : setN (({ data := #[97, 98, 99, 100] } : ByteArray)).data.toList = 960 := by decide
  refine (setOf_any ({ data := #[97, 98, 99, 100] } : ByteArray) w (by simp [maxLen, ByteArray.size])).mono ?_
  rintro e w1 ⟨rfl, rfl⟩
  rw [hset]
  exact ⟨rfl, rfl⟩
set_option maxHeartbeats 1000000 in
theorem textOk_any (s : ByteArray) (w : World) (hs : s.size ≤ maxLen) :
    Calls Tryz.prog 15 #[.string s] w fun e w' => e = .returned (.bool (textB s)) ∧ w = w' := by
  by_cases h8 : (s.size : Int) ≤ 8
  · have hd : textB s = hasAllN 960 s.data.toList := by unfold textB; simp [h8]
    have HD := Lib.hid hd
    clear hd
    go_enter Tryz.func15, Tryz.ntmps15
    go_wp2_with fail
    refine (smalls_set _).mono ?_
    rintro e w' ⟨rfl, rfl⟩
    go_wp2_with fail
    refine (hasAll_any 960 s _ (by omega) hs).mono ?_
    rintro e w' ⟨rfl, rfl⟩
    generalize hasAllN 960 s.data.toList = b at *
    go_wp2_with fail
    go_ret
    exact ⟨ret_bool (by rw [HD.out]), rfl⟩
  · have hd : textB s = false := by unfold textB; simp [h8]
    go_enter Tryz.func15, Tryz.ntmps15
    go_wp2_with fail
    go_ret
    exact ⟨rfl, rfl⟩
set_option maxHeartbeats 1000000 in
theorem sTextOk_any (s : ByteArray) (w : World) (hs : s.size ≤ maxLen) :
    Calls Tryz.prog 16 #[.string s] w fun e w' => e = .returned (.bool (textB s)) ∧ w = w' := by
  unfold maxLen at hs
  go_enter Tryz.func16, Tryz.ntmps16
  go_wp2_with fail
  go_loop [3] (fun i => ∃ k : Nat, k ≤ s.size ∧ i = .int .i64 k ∧ Hid (hasAllN 960 (s.data.toList.take k) = true)) (fun i => s.size - (intOf i).toNat)
  case atStart => exact ⟨0, Nat.zero_le _, rfl, by simp [hasAllN, Hid]⟩
  case round =>
    obtain ⟨k, hk, rfl, H⟩ := hrel
    by_cases hlt : k < s.size
    · have HT : Hid (hasAllN 960 (s.data.toList.take (k + 1)) = (hasAllN 960 (s.data.toList.take k) && hasN 960 s[k])) := by
        show _ = _; rw [take_snoc s k hlt, hasAllN_snoc]
      have hsm := has_small s[k]
      cases hb : smallN (s[k].toNat : Int) with
      | false =>
        have HN : Hid (hasAllN 960 s.data.toList = false) := hasAll_bad hlt (by rw [hsm, hb])
        clear hsm
        go_wp2_with (go_at_call 46; refine (l1Small_any _ _).mono ?_; rintro e w' ⟨rfl, rfl⟩; rw [hb])
        go_ret
        exact ⟨ret_bool (by unfold textB; rw [HN.out]; rfl), rfl⟩
      | true =>
        rw [hb] at hsm
        have HS := Lib.hid hsm
        clear hsm
        go_wp2_with (go_at_call 46; refine (l1Small_any _ _).mono ?_; rintro e w' ⟨rfl, rfl⟩; rw [hb])
        go_round
        case rel => exact ⟨k + 1, by omega, by go_num, by show _ = _; rw [HT.out, H.out, HS.out]; rfl⟩
        case measure => simp [intOf]; omega
    · have HA : Hid (hasAllN 960 s.data.toList = true) := by
        have := H.out
        rw [List.take_of_length_le (by simp; omega)] at this
        exact this
      go_wp2_with fail
      go_ret
      exact ⟨ret_bool (by unfold textB; rw [HA.out]; simp), rfl⟩
end Go.Proofs.YtpkejcjjbkgomaaGreatDoor
