/- GramMet: the program's and the model's. -/
import Derived.Test.YtjpkohahabclgaaMetC
import Derived.Test.YtjpkohahabclgaaSetH
namespace Go.Proofs.Ytjpkohahabclgaa
open Go.ChangeShapes Go.WideShapes Go.ChangeAt Go.RowKit
set_option maxRecDepth 100000
theorem metLeast_lt (st : ByteArray) (rs : List RuleT) : metLeast st rs < 1024 := by
  unfold metLeast leastN
  have : ∀ (l : List Nat) (acc : Nat), acc < 1024 → l.foldl (fun acc S => if metClosedB st rs S then acc &&& S else acc) acc < 1024 := by
    intro l
    induction l with
    | nil => intro acc h; exact h
    | cons S l ih =>
      intro acc h
      refine ih _ ?_
      show (if metClosedB st rs S = true then acc &&& S else acc) < 1024
      split
      · exact Nat.lt_of_le_of_lt Nat.and_le_left h
      · exact h
  exact this _ _ (by omega)
def metL (st : ByteArray) (rs : List RuleT) : List UInt8 := if gramOkB st rs = true then textN (metLeast st rs) else []
theorem gramMet_any (st : ByteArray) (a : Option Addr) (cap : Nat) (rs : List RuleT) (w : World) (H : RulesAt w a rs) (hcap : rs.length ≤ cap) :
    Calls Try.prog 49 #[.agg #[.string st, .slice a rs.length cap]] w fun e w' => e = .returned (.string (bytesOf (metL st rs))) ∧ Below w.heap.size w w' := by
  have hG : GBox (w.alloc (.cells #[.string st, .slice a rs.length cap] 24)) w.heap.size st a rs.length cap := blk_new _ _ rfl
  have hbw := (Below.refl w.heap.size w).alloc (Nat.le_refl _) (.cells #[.string st, .slice a rs.length cap] 24)
  go_enter Try.func49, Try.ntmps49
  go_wp2_with fail
  refine (gramOk_any _ _ _ rs _ (H.below hbw (Nat.le_refl _)) hcap).mono ?_
  rintro e w2 ⟨rfl, hb2⟩
  have c2 : Below w.heap.size w w2 := hbw.trans (hb2.mono (by simp))
  obtain ⟨g0, g1⟩ := (hG.below hb2).cells
  cases hok : gramOkB st rs with
  | false =>
    go_wp2
    go_ret
    exact ⟨ret_string (by simp [metL, hok, bytesOf]), c2⟩
  | true =>
    go_wp2_with fail
    refine (reachableSet_any st a cap rs _ (H.below c2 (Nat.le_refl _)) hok).mono ?_
    rintro e w3 ⟨rfl, hb3⟩
    go_wp2_with fail
    refine (setText_any _ _ (metLeast_lt st rs)).mono ?_
    rintro e w4 ⟨rfl, hb4⟩
    go_wp2
    go_ret
    exact ⟨ret_string (by simp [metL, hok]), c2.trans ((hb3.trans (hb4.mono hb3.size)).mono c2.size)⟩
theorem sub_eq {a b : Nat} (h : Sub a b) : b ||| a = b := by rw [Nat.or_comm]; exact h
theorem meetM_big {m : Nat} {c : UInt8} (hm : m < 1024) (hb : bigN (c.toNat : Int) = true) : meetM m c = m ||| bitN c := by
  unfold meetM meets
  cases h : hasN m c with
  | false => rw [hb]; simp
  | true => simp; exact (sub_eq (sub_bit hm h)).symm
theorem meetM_not {m : Nat} {c : UInt8} (hb : bigN (c.toNat : Int) = false) : meetM m c = m := by
  unfold meetM meets; rw [hb]; simp
theorem meetM_lt {m : Nat} (c : UInt8) (hm : m < 1024) : meetM m c < 1024 := by
  unfold meetM; split
  · exact or_lt hm (bitN_lt c)
  · exact hm
theorem foldM_lt : ∀ (s : List UInt8) {m : Nat}, m < 1024 → foldM s m < 1024
  | [], _, h => h
  | c :: s, _, h => foldM_lt s (meetM_lt c h)
set_option maxHeartbeats 1000000 in
theorem l2Bigs_any (m : Nat) (s : ByteArray) (w : World) (hm : m < 1024) (hs : s.size ≤ 1000) :
    Calls Try.prog 130 #[.string (bytesOf (textN m)), .string s] w fun e w' => e = .returned (.string (bytesOf (textN (foldM s.data.toList m)))) ∧ Below w.heap.size w w' := by
  go_enter Try.func130, Try.ntmps130
  go_wp2
  go_loopw [0, 5] (fun o i wr => ∃ k m' : Nat, k ≤ s.size ∧ i = .int .i64 k ∧ o = .string (bytesOf (textN m')) ∧ m' < 1024 ∧ Hid (foldM (s.data.toList.drop k) m' = foldM s.data.toList m) ∧ Below w.heap.size w wr) (fun _ i _ => s.size - (intOf i).toNat)
  case atStart => exact ⟨0, m, Nat.zero_le _, rfl, rfl, hm, rfl, Below.refl _ _⟩
  case round =>
    obtain ⟨k, m', hk, rfl, rfl, hm', HF, hb⟩ := hrel
    by_cases hlt : k < s.size
    · have HD : Hid (foldM (s.data.toList.drop k) m' = foldM (s.data.toList.drop (k + 1)) (meetM m' s[k])) := by show _ = _; rw [List.drop_eq_getElem_cons (by simpa using hlt)]; rfl
      cases hbig : bigN ((s[k].toNat : Nat) : Int) with
      | false =>
        have HB := Lib.hid hbig
        go_wp2_with (go_at_call 100; refine (l1Big_any _ _).mono ?_; rintro e w2 ⟨rfl, rfl⟩)
        go_roundw
        case rel => exact ⟨k + 1, m', by omega, by go_num, rfl, hm', by show _ = _; rw [← HF.out, HD.out, meetM_not HB.out], hb⟩
        case measure => simp [intOf]; omega
      | true =>
        have HB := Lib.hid hbig
        have hord := bigs_ord hbig
        have hsz : (bytesOf (textN m')).size ≤ 1048576 := by rw [bytesOf_size]; have := text_len m'; omega
        have hins : insL (bytesOf (textN m')).data.toList s[k] = textN (m' ||| bitN s[k]) := ins_text hm' hord
        go_wp2_with (first | (go_at_call 100; refine (l1Big_any _ _).mono ?_; rintro e w2 ⟨rfl, rfl⟩) | (go_at_call 128; refine (l1Add_any _ s[k] _ hsz).mono ?_; rintro e w2 ⟨rfl, hb2⟩; rw [hins]))
        go_roundw
        case rel => exact ⟨k + 1, m' ||| bitN s[k], by omega, by go_num, rfl, or_lt hm' (bitN_lt _), by show _ = _; rw [← HF.out, HD.out, meetM_big hm' HB.out], hb.trans (hb2.mono hb.size)⟩
        case measure => simp [intOf]; omega
    · go_wp2
      go_ret
      refine ⟨ret_string ?_, hb⟩
      have h := HF.out
      rw [List.drop_eq_nil_of_le (by simp; omega)] at h
      rw [← h]; rfl
end Go.Proofs.Ytjpkohahabclgaa
