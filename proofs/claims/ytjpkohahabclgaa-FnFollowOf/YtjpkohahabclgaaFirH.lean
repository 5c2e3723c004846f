/- Contracts of the model's l2Join and l2First. -/
import Derived.Test.YtjpkohahabclgaaFirG
namespace Go.Proofs.Ytjpkohahabclgaa
open Go.ChangeShapes Go.WideShapes Go.ChangeAt Go.RowKit
set_option maxRecDepth 100000
theorem text_ord {m : Nat} {c : UInt8} (h : c ∈ textN m) : c ∈ ordL := (List.mem_filter.1 h).1
theorem textB_size (m : Nat) : (bytesOf (textN m)).size ≤ 10 := by rw [bytesOf_size]; exact text_len m
set_option maxHeartbeats 400000 in
theorem l2Join_raw (m : Nat) (S : ByteArray) (w : World) (hm : m < 1024) (hsz : S.size ≤ 10) (hord : ∀ k (h : k < S.size), S[k] ∈ ordL) :
    Calls Try.prog 103 #[.string (bytesOf (textN m)), .string S] w fun e w' => e = .returned (.string (bytesOf (textN (m ||| setN S.data.toList)))) ∧ Below w.heap.size w w' := by
  have HORD := Lib.hid hord
  clear hord
  go_enter Try.func103, Try.ntmps103
  go_wp2
  go_loopw [0, 5] (fun o i wr => ∃ k q : Nat, k ≤ S.size ∧ i = .int .i64 k ∧ o = .string (bytesOf (textN q)) ∧ q < 1024 ∧ Hid (q = m ||| setN (S.data.toList.take k)) ∧ Below w.heap.size w wr) (fun _ i _ => S.size - (intOf i).toNat)
  case atStart => exact ⟨0, m, Nat.zero_le _, rfl, rfl, hm, by simp [Hid, setN], Below.refl _ _⟩
  case round =>
    obtain ⟨k, q, hk, rfl, rfl, hq, HQ, hb⟩ := hrel
    by_cases hlt : k < S.size
    · have HT := Lib.hid (take_snoc S k hlt)
      have hsq : (bytesOf (textN q)).size ≤ 1048576 := by have := textB_size q; omega
      have hins : insL (bytesOf (textN q)).data.toList S[k] = textN (q ||| bitN S[k]) := ins_text hq (HORD.out k hlt)
      go_wp2_with fail
      refine (l1Add_any _ S[k] _ hsq).mono ?_
      rintro e w2 ⟨rfl, hb2⟩
      rw [hins]
      go_wp2
      go_roundw
      case rel => exact ⟨k + 1, q ||| bitN S[k], by omega, by go_num, rfl, or_lt hq (bitN_lt _), by show _ = _; rw [HT.out, setN_snoc, HQ.out, Nat.or_assoc], hb.trans (hb2.mono hb.size)⟩
      case measure => simp [intOf]; omega
    · go_wp2
      go_ret
      refine ⟨ret_string ?_, hb⟩
      rw [HQ.out, List.take_of_length_le (by simp; omega)]
theorem l2Join_any (m p : Nat) (w : World) (hm : m < 1024) (hp : p < 1024) :
    Calls Try.prog 103 #[.string (bytesOf (textN m)), .string (bytesOf (textN p))] w fun e w' => e = .returned (.string (bytesOf (textN (m ||| p)))) ∧ Below w.heap.size w w' := by
  have h := l2Join_raw m (bytesOf (textN p)) w hm (textB_size p) (fun k h => by
    have h' : k < (textN p).length := by rwa [bytesOf_size] at h
    have e : (bytesOf (textN p))[k]'h = (textN p)[k] := rfl
    exact e ▸ text_ord (List.getElem_mem h'))
  rwa [show (bytesOf (textN p)).data.toList = textN p from rfl, set_text hp] at h
/-- block b holds five strings, the texts of five sets -/
def strCells5 (F : V5) : Array Value := #[.string (bytesOf (textN F.a)), .string (bytesOf (textN F.b)), .string (bytesOf (textN F.c)), .string (bytesOf (textN F.d)), .string (bytesOf (textN F.e))]
def Str5 (w : World) (b : Nat) (F : V5) : Prop := w.heap[b]? = some (.cells (strCells5 F) 9)
theorem Str5.lt {w : World} {b : Nat} {F : V5} (h : Str5 w b F) : b < w.heap.size := (Array.getElem?_eq_some_iff.1 h).1
theorem Str5.below {w w' : World} {b : Nat} {F : V5} (h : Str5 w b F) (hb : Below w.heap.size w w') : Str5 w' b F := (hb.block b h.lt).trans h
theorem Str5.alloc {w : World} {b : Nat} {F : V5} (h : Str5 w b F) (o : Obj) : Str5 (w.alloc o) b F := (blk_old _ _ h.lt).trans h
theorem Str5.cell {w : World} {b : Nat} {F : V5} (h : Str5 w b F) {c : UInt8} (hc : bigN (c.toNat : Int) = true) : w.cell? ⟨b, c.toNat - 65, none⟩ = some (.string (bytesOf (textN (F.get c)))) := by
  rw [cell_of_block h]
  rcases bigN_cases hc with rfl | rfl | rfl | rfl | rfl <;> rfl
theorem Str5.frozen {w : World} {b : Nat} {F : V5} (h : Str5 w b F) (i : Nat) : w.frozen? ⟨b, i, none⟩ = false := frozen_of_block h i
theorem Str5.upd {w : World} {b : Nat} {F : V5} (h : Str5 w b F) {c : UInt8} (hc : bigN (c.toNat : Int) = true) (m : Nat) : Str5 (w.setCell ⟨b, c.toNat - 65, none⟩ (.string (bytesOf (textN m)))) b (F.upd c m) := by
  unfold Str5 at *
  rcases bigN_cases hc with rfl | rfl | rfl | rfl | rfl <;> simp [World.setCell, Array.getElem?_modify, h, strCells5, V5.upd]
/-- the place of a nonterminal's set -/
theorem idx_big {c : UInt8} (hc : bigN (c.toNat : Int) = true) : ∃ j : Nat, c.toNat - 65 = j ∧ j < 5 ∧ IntKind.u8.wrap ((c.toNat : Int) - 65) = (j : Int) := by
  rcases bigN_cases hc with rfl | rfl | rfl | rfl | rfl
  · exact ⟨0, rfl, by omega, rfl⟩
  · exact ⟨1, rfl, by omega, rfl⟩
  · exact ⟨2, rfl, by omega, rfl⟩
  · exact ⟨3, rfl, by omega, rfl⟩
  · exact ⟨4, rfl, by omega, rfl⟩
set_option maxHeartbeats 1000000 in
theorem l2First_any (b n : Nat) (F : V5) (s : ByteArray) (w : World) (hF : F.ok) (hs : s.size ≤ 1000) (hsym : allSym s = true) (hS : Str5 w b F) :
    Calls Try.prog 104 #[.slice (some ⟨b, 0, none⟩) 5 5, .string (bytesOf (textN n)), .string s] w fun e w' => e = .returned (.string (bytesOf (textN (firstA n F 0 s.data.toList).1))) ∧ Below w.heap.size w w' := by
  have HSY := Lib.hid hsym
  clear hsym
  go_enter Try.func104, Try.ntmps104
  go_wp2
  go_loopw [7, 8] (fun o i wr => ∃ k m : Nat, k ≤ s.size ∧ i = .int .i64 k ∧ o = .string (bytesOf (textN m)) ∧ m < 1024 ∧ Hid (firstA n F m (s.data.toList.drop k) = firstA n F 0 s.data.toList) ∧ Below w.heap.size w wr) (fun _ i _ => s.size - (intOf i).toNat)
  case atStart => exact ⟨0, 0, Nat.zero_le _, rfl, rfl, by omega, rfl, Below.refl _ _⟩
  case round =>
    obtain ⟨k, m, hk, rfl, rfl, hm, HA, hb⟩ := hrel
    have hSr := hS.below hb
    by_cases hlt : k < s.size
    · have hsy := sym_at HSY.out hlt
      have HD : Hid (firstA n F m (s.data.toList.drop k) = if smallN (s[k].toNat : Int) = true then (m ||| bitN s[k], false) else if hasN n s[k] = true then firstA n F (m ||| F.get s[k]) (s.data.toList.drop (k + 1)) else (m ||| F.get s[k], false)) := by
        show _ = _; rw [drop_at s k hlt]; rfl
      obtain ⟨c, hcc⟩ : ∃ c, s[k] = c := ⟨_, rfl⟩
      rw [hcc] at hsy HD
      have hsq : (bytesOf (textN m)).size ≤ 1048576 := by have := textB_size m; omega
      cases hsm : smallN (c.toNat : Int) with
      | true =>
        have hord : c ∈ ordL := by rcases smallN_cases hsm with rfl | rfl | rfl | rfl <;> decide
        have hins : insL (bytesOf (textN m)).data.toList c = textN (m ||| bitN c) := ins_text hm hord
        have HSM := Lib.hid hsm
        go_wp2_with (first | (go_at_call 118; refine (l1Small_any _ _).mono ?_; rintro e w2 ⟨rfl, rfl⟩) | (go_at_call 128; refine (l1Add_any _ c _ hsq).mono ?_; rintro e w2 ⟨rfl, hb2⟩; rw [hins]))
        go_ret
        refine ⟨ret_string ?_, hb.trans (hb2.mono hb.size)⟩
        rw [← HA.out, HD.out, if_pos HSM.out]
      | false =>
        have hbig : bigN (c.toNat : Int) = true := by
          unfold symN at hsy; rw [hsm] at hsy; simpa using hsy
        have hcell := hSr.cell hbig
        obtain ⟨j, hj1, hj2, hj3⟩ := idx_big hbig
        rw [hj1] at hcell
        have hj4 : (j : Int) < 5 := by omega
        have HSM := Lib.hid hsm
        clear hj1
        go_wp2_with (first | (go_at_call 118; refine (l1Small_any _ _).mono ?_; rintro e w2 ⟨rfl, rfl⟩))
        refine (l2Join_any m (F.get c) _ hm (hF.get c)).mono ?_
        rintro e w2 ⟨rfl, hb2⟩
        have hbb := hb.trans (hb2.mono hb.size)
        have hml := or_lt hm (hF.get c)
        go_wp2_with fail
        refine (l1In_text n c _).mono ?_
        rintro e w3 ⟨rfl, rfl⟩
        cases hh : hasN n c with
        | false =>
          have HH := Lib.hid hh
          go_wp2
          go_ret
          refine ⟨ret_string ?_, hbb⟩
          rw [← HA.out, HD.out, if_neg (by rw [HSM.out]; simp), if_neg (by rw [HH.out]; simp)]
        | true =>
          have HH := Lib.hid hh
          go_wp2
          go_roundw
          case rel => exact ⟨k + 1, m ||| F.get c, by omega, by go_num, rfl, hml, by show _ = _; rw [← HA.out, HD.out, if_neg (by rw [HSM.out]; simp), if_pos HH.out], hbb⟩
          case measure => simp [intOf]; omega
    · go_wp2
      go_ret
      refine ⟨ret_string ?_, hb⟩
      rw [← HA.out, List.drop_eq_nil_of_le (by simp; omega)]
      rfl
end Go.Proofs.Ytjpkohahabclgaa
