/- FIRST of a string of symbols: the contract of the program's firstSets.of. -/
import Derived.Test.YtjpkohahabclgaaFirA
namespace Go.Proofs.Ytjpkohahabclgaa
open Go.ChangeShapes Go.WideShapes Go.ChangeAt Go.RowKit
set_option maxRecDepth 100000
/-- FIRST of signs on top of a set, by the nullable ones and the sets of the nonterminals; and whether all are nullable -/
def firstA (n : Nat) (F : V5) : Nat → List UInt8 → Nat × Bool
  | acc, [] => (acc, true)
  | acc, c :: r => if smallN (c.toNat : Int) = true then (acc ||| bitN c, false) else if hasN n c = true then firstA n F (acc ||| F.get c) r else (acc ||| F.get c, false)
theorem firstA_lt {n : Nat} {F : V5} (hF : F.ok) : ∀ (l : List UInt8) (acc : Nat), acc < 1024 → (firstA n F acc l).1 < 1024
  | [], _, h => h
  | c :: r, acc, h => by
    unfold firstA
    split
    · exact or_lt h (bitN_lt c)
    split
    · exact firstA_lt hF r _ (or_lt h (hF.get c))
    · exact or_lt h (hF.get c)
theorem cut_one (s : ByteArray) (k : Nat) (h : k < s.size) : s.extract k (k + 1) = ⟨#[s[k]]⟩ := by
  apply bytesOf_ext
  rw [Lib.extract_data]
  have hl : k < s.data.toList.length := by simpa using h
  have h2 : s[k] = s.data.toList[k] := rfl
  rw [h2]
  simp only [Nat.add_sub_cancel_left]
  rw [List.drop_eq_getElem_cons hl]
  simp
theorem small_one (c : UInt8) : isSmallS ⟨#[c]⟩ = smallN (c.toNat : Int) := by
  simp [isSmallS, byteAt, ByteArray.size]
theorem big_one (c : UInt8) : isBigS ⟨#[c]⟩ = bigN (c.toNat : Int) := by
  simp [isBigS, byteAt, ByteArray.size]
theorem sym_at {s : ByteArray} (h : allSym s = true) {k : Nat} (hk : k < s.size) : symN (s[k].toNat : Int) = true := by
  unfold allSym symsTo at h
  rw [List.take_of_length_le (by simp), List.all_eq_true] at h
  exact h s[k] (by show s.data[k] ∈ _; simp)
def firstCells (n : Nat) (F : V5) : Array Value := #[.int .u16 (n : Nat), .int .u16 (F.a : Nat), .int .u16 (F.b : Nat), .int .u16 (F.c : Nat), .int .u16 (F.d : Nat), .int .u16 (F.e : Nat)]
theorem drop_at (s : ByteArray) (k : Nat) (h : k < s.size) : s.data.toList.drop k = s[k] :: s.data.toList.drop (k + 1) := by
  rw [List.drop_eq_getElem_cons (by simpa using h)]; rfl
def FBox (w : World) (b n : Nat) (F : V5) : Prop := w.heap[b]? = some (.cells (firstCells n F) 104)
theorem FBox.lt {w : World} {b n : Nat} {F : V5} (h : FBox w b n F) : b < w.heap.size := (Array.getElem?_eq_some_iff.1 h).1
theorem FBox.below {w w' : World} {b n : Nat} {F : V5} (h : FBox w b n F) (hb : Below w.heap.size w w') : FBox w' b n F := (hb.block b h.lt).trans h
theorem FBox.cells {w : World} {b n : Nat} {F : V5} (h : FBox w b n F) : w.cell? ⟨b, 0, none⟩ = some (.int .u16 (n : Nat)) ∧ w.cell? ⟨b, 1, none⟩ = some (.int .u16 (F.a : Nat)) ∧ w.cell? ⟨b, 2, none⟩ = some (.int .u16 (F.b : Nat)) ∧ w.cell? ⟨b, 3, none⟩ = some (.int .u16 (F.c : Nat)) ∧ w.cell? ⟨b, 4, none⟩ = some (.int .u16 (F.d : Nat)) ∧ w.cell? ⟨b, 5, none⟩ = some (.int .u16 (F.e : Nat)) :=
  ⟨by rw [cell_of_block h 0]; rfl, by rw [cell_of_block h 1]; rfl, by rw [cell_of_block h 2]; rfl, by rw [cell_of_block h 3]; rfl, by rw [cell_of_block h 4]; rfl, by rw [cell_of_block h 5]; rfl⟩
set_option maxHeartbeats 2000000 in
theorem ofFirst_any (n : Nat) (F : V5) (s : ByteArray) (w : World) (hn : n < 1024) (hF : F.ok) (hs : s.size ≤ 1000) (hsym : allSym s = true) :
    Calls Try.prog 91 #[.agg (firstCells n F), .string s] w fun e w' => e = .returned (.tuple #[.int .u16 ((firstA n F 0 s.data.toList).1 : Nat), .bool (firstA n F 0 s.data.toList).2]) ∧ Below w.heap.size w w' := by
  have hB0 : FBox (w.alloc (.cells (firstCells n F) 104)) w.heap.size n F := blk_new _ _ rfl
  have hb0 := (Below.refl w.heap.size w).alloc (Nat.le_refl _) (.cells (firstCells n F) 104)
  have HSY := Lib.hid hsym
  clear hsym
  unfold firstCells at *
  go_enter Try.func91, Try.ntmps91
  go_wp2
  go_loopw [6, 11] (fun v i wr => ∃ k m : Nat, k ≤ s.size ∧ i = .int .i64 k ∧ v = .int .u16 (m : Nat) ∧ m < 1024 ∧ Hid (firstA n F m (s.data.toList.drop k) = firstA n F 0 s.data.toList) ∧ FBox wr w.heap.size n F ∧ Below w.heap.size w wr) (fun _ i _ => s.size - (intOf i).toNat)
  case atStart => exact ⟨0, 0, Nat.zero_le _, rfl, rfl, by omega, rfl, hB0, hb0⟩
  case round =>
    obtain ⟨k, m, hk, rfl, rfl, hm, HA, hB, hb⟩ := hrel
    obtain ⟨c0, c1, c2, c3, c4, c5⟩ := hB.cells
    by_cases hlt : k < s.size
    · have hcut := cut_one s k hlt
      have hsy := sym_at HSY.out hlt
      have HD : Hid (firstA n F m (s.data.toList.drop k) = if smallN (s[k].toNat : Int) = true then (m ||| bitN s[k], false) else if hasN n s[k] = true then firstA n F (m ||| F.get s[k]) (s.data.toList.drop (k + 1)) else (m ||| F.get s[k], false)) := by
        show _ = _; rw [drop_at s k hlt]; rfl
      generalize s[k] = c at *
      have hor1 := bits_or m (bitN c) hm (bitN_lt c)
      have hor2 := bits_or m (F.get c) hm (hF.get c)
      have h1 : hasAllN n (⟨#[c]⟩ : ByteArray).data.toList = hasN n c := by simp [hasAllN]
      have h2 : setN (⟨#[c]⟩ : ByteArray).data.toList = bitN c := setN_one c
      have hsz : (⟨#[c]⟩ : ByteArray).size ≤ maxLen := by simp [ByteArray.size, maxLen]
      cases hsm : smallN (c.toNat : Int) with
      | true =>
        go_wp2_with fail
        refine (signSmall_any ⟨#[c]⟩ _).mono ?_
        rintro e w2 ⟨rfl, rfl⟩
        rw [small_one, hsm]
        go_wp2_with fail
        refine (setOf_any ⟨#[c]⟩ _ hsz).mono ?_
        rintro e w2 ⟨rfl, rfl⟩
        rw [h2]
        go_wp2
        refine bodyPost_ret (v := .tuple #[.int .u16 ((m ||| bitN c : Nat) : Int), .bool false]) (by simp [results, Try.results91, go_sem]) rfl ?_
        refine ⟨?_, hb⟩
        rw [← HA.out, HD.out, if_pos hsm]
      | false =>
        have hbig : bigN (c.toNat : Int) = true := by
          unfold symN at hsy; rw [hsm] at hsy; simpa using hsy
        go_wp2_with fail
        refine (signSmall_any ⟨#[c]⟩ _).mono ?_
        rintro e w2 ⟨rfl, rfl⟩
        rw [small_one, hsm]
        go_wp2_with fail
        refine (of5_any F c _ hbig).mono ?_
        rintro e w2 ⟨rfl, hb2⟩
        have hB2 := hB.below hb2
        have hbb := hb.trans (hb2.mono hb.size)
        clear c0 c1 c2 c3 c4 c5
        obtain ⟨c0, _⟩ := hB2.cells
        go_wp2_with fail
        refine (hasAll_any n ⟨#[c]⟩ _ hn hsz).mono ?_
        rintro e w3 ⟨rfl, rfl⟩
        rw [h1]
        cases hh : hasN n c with
        | false =>
          go_wp2
          refine bodyPost_ret (v := .tuple #[.int .u16 ((m ||| F.get c : Nat) : Int), .bool false]) (by simp [results, Try.results91, go_sem]) rfl ?_
          refine ⟨?_, hbb⟩
          rw [← HA.out, HD.out, if_neg (by rw [hsm]; simp), if_neg (by rw [hh]; simp)]
        | true =>
          go_wp2
          go_roundw
          case rel => exact ⟨k + 1, m ||| F.get c, by omega, by go_num, rfl, or_lt hm (hF.get c), by show _ = _; rw [← HA.out, HD.out, if_neg (by rw [hsm]; simp), if_pos hh], hB2, hbb⟩
          case measure => simp [intOf]; omega
    · go_wp2
      refine bodyPost_ret (v := .tuple #[.int .u16 (m : Int), .bool true]) (by simp [results, Try.results91, go_sem]) rfl ?_
      refine ⟨?_, hb⟩
      rw [← HA.out, List.drop_eq_nil_of_le (by simp; omega)]
      rfl
end Go.Proofs.Ytjpkohahabclgaa
