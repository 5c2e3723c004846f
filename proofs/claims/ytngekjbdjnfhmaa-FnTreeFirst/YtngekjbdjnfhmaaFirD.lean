/- Five sets, one for each nonterminal: contracts of their look-up and of their growth. -/
import Derived.Test.YtngekjbdjnfhmaaSetH
namespace Go.Proofs.Ytngekjbdjnfhmaa
open Go.ChangeShapes Go.WideShapes Go.ChangeAt Go.RowKit
set_option maxRecDepth 100000
/-- a set for each of A to E -/
structure V5 where
  a : Nat
  b : Nat
  c : Nat
  d : Nat
  e : Nat
def V5.get (v : V5) (c : UInt8) : Nat := if c = 65 then v.a else if c = 66 then v.b else if c = 67 then v.c else if c = 68 then v.d else v.e
def V5.upd (v : V5) (c : UInt8) (m : Nat) : V5 := if c = 65 then { v with a := m } else if c = 66 then { v with b := m } else if c = 67 then { v with c := m } else if c = 68 then { v with d := m } else { v with e := m }
def V5.cells (v : V5) : List Value := [.int .u16 (v.a : Nat), .int .u16 (v.b : Nat), .int .u16 (v.c : Nat), .int .u16 (v.d : Nat), .int .u16 (v.e : Nat)]
def V5.ok (v : V5) : Prop := v.a < 1024 ∧ v.b < 1024 ∧ v.c < 1024 ∧ v.d < 1024 ∧ v.e < 1024
def V5.sum (v : V5) : Nat := v.a + v.b + v.c + v.d + v.e
def Sub5 (v u : V5) : Prop := Sub v.a u.a ∧ Sub v.b u.b ∧ Sub v.c u.c ∧ Sub v.d u.d ∧ Sub v.e u.e
theorem Sub5.refl (v : V5) : Sub5 v v := ⟨Sub.refl _, Sub.refl _, Sub.refl _, Sub.refl _, Sub.refl _⟩
theorem Sub5.trans {v u t : V5} (h : Sub5 v u) (k : Sub5 u t) : Sub5 v t := ⟨h.1.trans k.1, h.2.1.trans k.2.1, h.2.2.1.trans k.2.2.1, h.2.2.2.1.trans k.2.2.2.1, h.2.2.2.2.trans k.2.2.2.2⟩
theorem V5.ext {v u : V5} (h1 : v.a = u.a) (h2 : v.b = u.b) (h3 : v.c = u.c) (h4 : v.d = u.d) (h5 : v.e = u.e) : v = u := by
  cases v; cases u; simp_all
theorem Sub5.antisymm {v u : V5} (h : Sub5 v u) (k : Sub5 u v) : v = u := V5.ext (h.1.antisymm k.1) (h.2.1.antisymm k.2.1) (h.2.2.1.antisymm k.2.2.1) (h.2.2.2.1.antisymm k.2.2.2.1) (h.2.2.2.2.antisymm k.2.2.2.2)
theorem Sub5.get {v u : V5} (h : Sub5 v u) (c : UInt8) : Sub (v.get c) (u.get c) := by
  unfold V5.get
  split
  · exact h.1
  split
  · exact h.2.1
  split
  · exact h.2.2.1
  split
  · exact h.2.2.2.1
  · exact h.2.2.2.2
theorem V5.ok.get {v : V5} (h : v.ok) (c : UInt8) : v.get c < 1024 := by
  unfold V5.get
  split
  · exact h.1
  split
  · exact h.2.1
  split
  · exact h.2.2.1
  split
  · exact h.2.2.2.1
  · exact h.2.2.2.2
theorem V5.ok.upd {v : V5} (h : v.ok) (c : UInt8) {m : Nat} (hm : m < 1024) : (v.upd c m).ok := by
  obtain ⟨h1, h2, h3, h4, h5⟩ := h
  unfold V5.upd
  split
  · exact ⟨hm, h2, h3, h4, h5⟩
  split
  · exact ⟨h1, hm, h3, h4, h5⟩
  split
  · exact ⟨h1, h2, hm, h4, h5⟩
  split
  · exact ⟨h1, h2, h3, hm, h5⟩
  · exact ⟨h1, h2, h3, h4, hm⟩
/-- growing in one place -/
theorem Sub5.upd {v u : V5} (h : Sub5 v u) (c : UInt8) {m : Nat} (hm : Sub m (u.get c)) : Sub5 (v.upd c m) u := by
  obtain ⟨h1, h2, h3, h4, h5⟩ := h
  unfold V5.upd
  unfold V5.get at hm
  split
  · rename_i e; rw [if_pos e] at hm; exact ⟨hm, h2, h3, h4, h5⟩
  rename_i e1; rw [if_neg e1] at hm
  split
  · rename_i e; rw [if_pos e] at hm; exact ⟨h1, hm, h3, h4, h5⟩
  rename_i e2; rw [if_neg e2] at hm
  split
  · rename_i e; rw [if_pos e] at hm; exact ⟨h1, h2, hm, h4, h5⟩
  rename_i e3; rw [if_neg e3] at hm
  split
  · rename_i e; rw [if_pos e] at hm; exact ⟨h1, h2, h3, hm, h5⟩
  · rename_i e; rw [if_neg e] at hm; exact ⟨h1, h2, h3, h4, hm⟩
theorem sub5_upd (v : V5) (c : UInt8) {m : Nat} (hm : Sub (v.get c) m) : Sub5 v (v.upd c m) := by
  have r := fun x => Sub.refl x
  unfold V5.upd
  unfold V5.get at hm
  split
  · rename_i e; rw [if_pos e] at hm; exact ⟨hm, r _, r _, r _, r _⟩
  rename_i e1; rw [if_neg e1] at hm
  split
  · rename_i e; rw [if_pos e] at hm; exact ⟨r _, hm, r _, r _, r _⟩
  rename_i e2; rw [if_neg e2] at hm
  split
  · rename_i e; rw [if_pos e] at hm; exact ⟨r _, r _, hm, r _, r _⟩
  rename_i e3; rw [if_neg e3] at hm
  split
  · rename_i e; rw [if_pos e] at hm; exact ⟨r _, r _, r _, hm, r _⟩
  · rename_i e; rw [if_neg e] at hm; exact ⟨r _, r _, r _, r _, hm⟩
theorem V5.upd_get (v : V5) (c : UInt8) (m : Nat) : (v.upd c m).get c = m := by
  unfold V5.upd V5.get
  by_cases h1 : c = 65
  · subst h1; simp
  by_cases h2 : c = 66
  · subst h2; simp
  by_cases h3 : c = 67
  · subst h3; simp
  by_cases h4 : c = 68
  · subst h4; simp
  · simp [h1, h2, h3, h4]
theorem V5.upd_self (v : V5) (c : UInt8) : v.upd c (v.get c) = v := by
  unfold V5.upd V5.get
  by_cases h1 : c = 65
  · subst h1; simp
  by_cases h2 : c = 66
  · subst h2; simp
  by_cases h3 : c = 67
  · subst h3; simp
  by_cases h4 : c = 68
  · subst h4; simp
  · simp [h1, h2, h3, h4]
theorem Sub5.sum {v u : V5} (h : Sub5 v u) : v.sum ≤ u.sum := by
  obtain ⟨h1, h2, h3, h4, h5⟩ := h
  have := h1.le; have := h2.le; have := h3.le; have := h4.le; have := h5.le
  unfold V5.sum; omega
theorem Sub5.grows {v u : V5} (h : Sub5 v u) (hne : v ≠ u) : v.sum < u.sum := by
  have h0 := h
  obtain ⟨h1, h2, h3, h4, h5⟩ := h
  have := h1.le; have := h2.le; have := h3.le; have := h4.le; have := h5.le
  by_cases e : v.sum = u.sum
  · exfalso
    unfold V5.sum at e
    exact hne (V5.ext (by omega) (by omega) (by omega) (by omega) (by omega))
  · have := h0.sum; omega
theorem V5.ok.sum {v : V5} (h : v.ok) : v.sum < 5120 := by
  obtain ⟨h1, h2, h3, h4, h5⟩ := h
  unfold V5.sum; omega
theorem byte0 (c : UInt8) (h : 0 < (⟨#[c]⟩ : ByteArray).size) : (⟨#[c]⟩ : ByteArray)[0]'h = c := rfl
theorem of5_any (v : V5) (c : UInt8) (w : World) (hc : bigN (c.toNat : Int) = true) :
    Calls Try.prog 49 #[.agg v.cells.toArray, .string ⟨#[c]⟩] w fun e w' => e = .returned (.int .u16 (v.get c : Nat)) ∧ Below w.heap.size w w' := by
  have hx := byte0
  obtain ⟨a, b, d, e, f⟩ := v
  rcases bigN_cases hc with rfl | rfl | rfl | rfl | rfl
  all_goals
    clear hc
    simp only [V5.cells]
    go_enter Try.func49, Try.ntmps49
    go_wp2
    go_ret
    exact ⟨rfl, (Below.refl _ _).alloc (Nat.le_refl _) _⟩
/-- block b holds, from cell o on, the five sets -/
def At5 (w : World) (b o : Nat) (v : V5) : Prop := ∀ i (h : i < 5), w.cell? ⟨b, o + i, none⟩ = some (v.cells[i]'h) ∧ w.frozen? ⟨b, o + i, none⟩ = false
theorem add5_any (v : V5) (c : UInt8) (b o m : Nat) (w : World) (hc : bigN (c.toNat : Int) = true) (hv : v.ok) (hm : m < 1024) (H : At5 w b o v) :
    Calls Try.prog 47 #[.pointer (some ⟨b, o, none⟩), .string ⟨#[c]⟩, .int .u16 (m : Int)] w fun e w' => (∃ u, e = .returned u) ∧ w' = (w.setCell ⟨b, o + (c.toNat - 65), none⟩ (.int .u16 (v.get c ||| m : Nat))).drew := by
  have hx := byte0
  have hor := bits_or (v.get c) m (hv.get c) hm
  obtain ⟨x0, y0⟩ := H 0 (by omega)
  obtain ⟨x1, y1⟩ := H 1 (by omega)
  obtain ⟨x2, y2⟩ := H 2 (by omega)
  obtain ⟨x3, y3⟩ := H 3 (by omega)
  obtain ⟨x4, y4⟩ := H 4 (by omega)
  clear H
  obtain ⟨p, q, r, s, t⟩ := v
  simp only [V5.cells, List.getElem_cons_zero, List.getElem_cons_succ, Nat.add_zero] at x0 x1 x2 x3 x4 y0
  rcases bigN_cases hc with rfl | rfl | rfl | rfl | rfl
  all_goals
    clear hc
    simp [V5.get] at hor
    go_enter Try.func47, Try.ntmps47
    go_wp2
    go_region
    go_end0
    exact ⟨⟨_, rfl⟩, rfl⟩
end Go.Proofs.Ytngekjbdjnfhmaa
namespace Go.Proofs.Ytngekjbdjnfhmaa
open Go.ChangeShapes Go.WideShapes Go.ChangeAt Go.RowKit
set_option maxRecDepth 100000
/-- FIRST of signs on top of a set, by the nullable ones and the sets of the nonterminals; and whether all are nullable -/
def firstA (n : Nat) (F : V5) : Nat → List UInt8 → Nat × Bool
  | acc, [] => (acc, true)
  | acc, c :: r => if smallN (c.toNat : Int) = true then (acc ||| bitN c, false) else if hasN n c = true then firstA n F (acc ||| F.get c) r else (acc ||| F.get c, false)
theorem firstA_lt {n : Nat} {F : V5} (hF : F.ok) : ∀ (l : List UInt8) (acc : Nat), acc < 1024 → (firstA n F acc l).1 < 1024
  | [], _, h => h
  | c :: r, acc, h => by
    unfold firstA
    split
    · exact or_lt h (bitN_lt c)
    split
    · exact firstA_lt hF r _ (or_lt h (hF.get c))
    · exact or_lt h (hF.get c)
theorem cut_one (s : ByteArray) (k : Nat) (h : k < s.size) : s.extract k (k + 1) = ⟨#[s[k]]⟩ := by
  apply bytesOf_ext
  rw [Lib.extract_data]
  have hl : k < s.data.toList.length := by simpa using h
  have h2 : s[k] = s.data.toList[k] := rfl
  rw [h2]
  simp only [Nat.add_sub_cancel_left]
  rw [List.drop_eq_getElem_cons hl]
  simp
theorem small_one (c : UInt8) : isSmallS ⟨#[c]⟩ = smallN (c.toNat : Int) := by
  simp [isSmallS, byteAt, ByteArray.size]
theorem big_one (c : UInt8) : isBigS ⟨#[c]⟩ = bigN (c.toNat : Int) := by
  simp [isBigS, byteAt, ByteArray.size]
theorem sym_at {s : ByteArray} (h : allSym s = true) {k : Nat} (hk : k < s.size) : symN (s[k].toNat : Int) = true := by
  unfold allSym symsTo at h
  rw [List.take_of_length_le (by simp), List.all_eq_true] at h
  exact h s[k] (by show s.data[k] ∈ _; simp)
def firstCells (n : Nat) (F : V5) : Array Value := #[.int .u16 (n : Nat), .int .u16 (F.a : Nat), .int .u16 (F.b : Nat), .int .u16 (F.c : Nat), .int .u16 (F.d : Nat), .int .u16 (F.e : Nat)]
theorem drop_at (s : ByteArray) (k : Nat) (h : k < s.size) : s.data.toList.drop k = s[k] :: s.data.toList.drop (k + 1) := by
  rw [List.drop_eq_getElem_cons (by simpa using h)]; rfl
def FBox (w : World) (b n : Nat) (F : V5) : Prop := w.heap[b]? = some (.cells (firstCells n F) 64)
theorem FBox.lt {w : World} {b n : Nat} {F : V5} (h : FBox w b n F) : b < w.heap.size := (Array.getElem?_eq_some_iff.1 h).1
theorem FBox.below {w w' : World} {b n : Nat} {F : V5} (h : FBox w b n F) (hb : Below w.heap.size w w') : FBox w' b n F := (hb.block b h.lt).trans h
theorem FBox.cells {w : World} {b n : Nat} {F : V5} (h : FBox w b n F) : w.cell? ⟨b, 0, none⟩ = some (.int .u16 (n : Nat)) ∧ w.cell? ⟨b, 1, none⟩ = some (.int .u16 (F.a : Nat)) ∧ w.cell? ⟨b, 2, none⟩ = some (.int .u16 (F.b : Nat)) ∧ w.cell? ⟨b, 3, none⟩ = some (.int .u16 (F.c : Nat)) ∧ w.cell? ⟨b, 4, none⟩ = some (.int .u16 (F.d : Nat)) ∧ w.cell? ⟨b, 5, none⟩ = some (.int .u16 (F.e : Nat)) :=
  ⟨by rw [cell_of_block h 0]; rfl, by rw [cell_of_block h 1]; rfl, by rw [cell_of_block h 2]; rfl, by rw [cell_of_block h 3]; rfl, by rw [cell_of_block h 4]; rfl, by rw [cell_of_block h 5]; rfl⟩
set_option maxHeartbeats 2000000 in
theorem ofFirst_any (n : Nat) (F : V5) (s : ByteArray) (w : World) (hn : n < 1024) (hF : F.ok) (hs : s.size ≤ 1000) (hsym : allSym s = true) :
    Calls Try.prog 24 #[.agg (firstCells n F), .string s] w fun e w' => e = .returned (.tuple #[.int .u16 ((firstA n F 0 s.data.toList).1 : Nat), .bool (firstA n F 0 s.data.toList).2]) ∧ Below w.heap.size w w' := by
  have hB0 : FBox (w.alloc (.cells (firstCells n F) 64)) w.heap.size n F := blk_new _ _ rfl
  have hb0 := (Below.refl w.heap.size w).alloc (Nat.le_refl _) (.cells (firstCells n F) 64)
  have HSY := Lib.hid hsym
  clear hsym
  unfold firstCells at *
  go_enter Try.func24, Try.ntmps24
  go_wp2
  go_loopw [6, 11] (fun v i wr => ∃ k m : Nat, k ≤ s.size ∧ i = .int .i64 k ∧ v = .int .u16 (m : Nat) ∧ m < 1024 ∧ Hid (firstA n F m (s.data.toList.drop k) = firstA n F 0 s.data.toList) ∧ FBox wr w.heap.size n F ∧ Below w.heap.size w wr) (fun _ i _ => s.size - (intOf i).toNat)
  case atStart => exact ⟨0, 0, Nat.zero_le _, rfl, rfl, by omega, rfl, hB0, hb0⟩
  case round =>
    obtain ⟨k, m, hk, rfl, rfl, hm, HA, hB, hb⟩ := hrel
    obtain ⟨c0, c1, c2, c3, c4, c5⟩ := hB.cells
    by_cases hlt : k < s.size
    · have hcut := cut_one s k hlt
      have hsy := sym_at HSY.out hlt
      have HD : Hid (firstA n F m (s.data.toList.drop k) = if smallN (s[k].toNat : Int) = true then (m ||| bitN s[k], false) else if hasN n s[k] = true then firstA n F (m ||| F.get s[k]) (s.data.toList.drop (k + 1)) else (m ||| F.get s[k], false)) := by
        show _ = _; rw [drop_at s k hlt]; rfl
      generalize s[k] = c at *
      have hor1 := bits_or m (bitN c) hm (bitN_lt c)
      have hor2 := bits_or m (F.get c) hm (hF.get c)
      have h1 : hasAllN n (⟨#[c]⟩ : ByteArray).data.toList = hasN n c := by simp [hasAllN]
      have h2 : setN (⟨#[c]⟩ : ByteArray).data.toList = bitN c := setN_one c
      have hsz : (⟨#[c]⟩ : ByteArray).size ≤ maxLen := by simp [ByteArray.size, maxLen]
      cases hsm : smallN (c.toNat : Int) with
      | true =>
        go_wp2_with fail
        refine (signSmall_any ⟨#[c]⟩ _).mono ?_
        rintro e w2 ⟨rfl, rfl⟩
        rw [small_one, hsm]
        go_wp2_with fail
        refine (setOf_any ⟨#[c]⟩ _ hsz).mono ?_
        rintro e w2 ⟨rfl, rfl⟩
        rw [h2]
        go_wp2
        refine bodyPost_ret (v := .tuple #[.int .u16 ((m ||| bitN c : Nat) : Int), .bool false]) (by simp [results, Try.results24, go_sem]) rfl ?_
        refine ⟨?_, hb⟩
        rw [← HA.out, HD.out, if_pos hsm]
      | false =>
        have hbig : bigN (c.toNat : Int) = true := by
          unfold symN at hsy; rw [hsm] at hsy; simpa using hsy
        go_wp2_with fail
        refine (signSmall_any ⟨#[c]⟩ _).mono ?_
        rintro e w2 ⟨rfl, rfl⟩
        rw [small_one, hsm]
        go_wp2_with fail
        refine (of5_any F c _ hbig).mono ?_
        rintro e w2 ⟨rfl, hb2⟩
        have hB2 := hB.below hb2
        have hbb := hb.trans (hb2.mono hb.size)
        clear c0 c1 c2 c3 c4 c5
        obtain ⟨c0, _⟩ := hB2.cells
        go_wp2_with fail
        refine (hasAll_any n ⟨#[c]⟩ _ hn hsz).mono ?_
        rintro e w3 ⟨rfl, rfl⟩
        rw [h1]
        cases hh : hasN n c with
        | false =>
          go_wp2
          refine bodyPost_ret (v := .tuple #[.int .u16 ((m ||| F.get c : Nat) : Int), .bool false]) (by simp [results, Try.results24, go_sem]) rfl ?_
          refine ⟨?_, hbb⟩
          rw [← HA.out, HD.out, if_neg (by rw [hsm]; simp), if_neg (by rw [hh]; simp)]
        | true =>
          go_wp2
          go_roundw
          case rel => exact ⟨k + 1, m ||| F.get c, by omega, by go_num, rfl, or_lt hm (hF.get c), by show _ = _; rw [← HA.out, HD.out, if_neg (by rw [hsm]; simp), if_pos hh], hB2, hbb⟩
          case measure => simp [intOf]; omega
    · go_wp2
      refine bodyPost_ret (v := .tuple #[.int .u16 (m : Int), .bool true]) (by simp [results, Try.results24, go_sem]) rfl ?_
      refine ⟨?_, hb⟩
      rw [← HA.out, List.drop_eq_nil_of_le (by simp; omega)]
      rfl
end Go.Proofs.Ytngekjbdjnfhmaa
namespace Go.Proofs.Ytngekjbdjnfhmaa
open Go.ChangeShapes Go.WideShapes Go.ChangeAt Go.RowKit
set_option maxRecDepth 100000
def eq5 (v u : V5) : Bool := ((v.a : Int) == (u.a : Int)) && (((v.b : Int) == (u.b : Int)) && (((v.c : Int) == (u.c : Int)) && (((v.d : Int) == (u.d : Int)) && ((v.e : Int) == (u.e : Int)))))
theorem eq5_iff (v u : V5) : eq5 v u = true ↔ v = u := by
  unfold eq5
  simp only [Bool.and_eq_true, beq_iff_eq]
  constructor
  · rintro ⟨h1, h2, h3, h4, h5⟩
    exact V5.ext (by omega) (by omega) (by omega) (by omega) (by omega)
  · rintro rfl; simp
theorem equalIn_five (d : Nat) (v u : V5) (w : World) : (Op.equalIn (d + 2) 62 (.agg v.cells.toArray) (.agg u.cells.toArray)).run Try.prog w = .ok (eq5 v u) w := by
  obtain ⟨a1, a2, a3, a4, a5⟩ := v
  obtain ⟨b1, b2, b3, b4, b5⟩ := u
  have u1 := Try.underlying62
  have u2 := Try.underlying59
  have z3 := Try.sizeOf59
  have ag := Try.isAgg59
  rw [show d + 2 = (d + 1) + 1 from rfl, Op.equalIn]
  simp only [Sem.run_bind, run_underlying u1, Result.andThen_ok, V5.cells]
  simp only [z3, Result.andThen_ok, Std.Legacy.Range.forIn_eq_forIn_range', Std.Legacy.Range.size, Nat.sub_zero, Nat.div_one, List.range'_succ, List.range'_zero, List.forIn_cons, List.forIn_nil, Nat.mul_one, Nat.reduceAdd]
  go_simp
  by_cases h1 : (a1 : Int) = b1 <;> by_cases h2 : (a2 : Int) = b2 <;> by_cases h3 : (a3 : Int) = b3 <;> by_cases h4 : (a4 : Int) = b4 <;> by_cases h5 : (a5 : Int) = b5 <;> simp [eq5, h1, h2, h3, h4, h5]
theorem run_eql_five (v u : V5) (w : World) : Sem.run Try.prog (binOp .eql 62 (.agg v.cells.toArray) (.agg u.cells.toArray)) w = .ok (.bool (eq5 v u)) w := by
  rw [run_eql_struct, show (10000 : Nat) = 9998 + 2 from rfl, equalIn_five]; rfl
theorem eqGuard_five (op : BinOp) (x y : Operand) (xs ys : Array Value) (w : World) : (eqGuard op 62 x y (.agg xs) (.agg ys)).run Try.prog w = .ok () w :=
  run_eqGuard_agg w op 62 x y xs ys (by kernel_rfl)
theorem run_eql_first (n : Nat) (v u : V5) (w : World) : Sem.run Try.prog (binOp .eql 64 (.agg (firstCells n v)) (.agg (firstCells n u))) w = .ok (.bool (eq5 v u)) w := by
  have u1 := Try.underlying59
  have a1 := Try.isAgg59
  have z1 := Try.sizeOf59
  have a2 := Try.isAgg62
  have z2 := Try.sizeOf62
  have hS : Try.prog.underlying 64 = some (.struct (Try.prog.fieldsOf 64)) := by kernel_rfl
  have hp : Try.prog.stoodInHeld 64 = false := by kernel_rfl
  have h5 := equalIn_five 9997 v u
  obtain ⟨v1, v2, v3, v4, v5⟩ := v
  obtain ⟨t1, t2, t3, t4, t5⟩ := u
  simp only [V5.cells] at h5
  rw [run_eql_struct, show (10000 : Nat) = 9999 + 1 from rfl, run_equalIn_agg w 9999 64 _ _ hS hp]
  simp only [Program.fieldsOf, Try.underlying64, firstCells]
  go_simp
  cases eq5 ⟨v1, v2, v3, v4, v5⟩ ⟨t1, t2, t3, t4, t5⟩ <;> simp
theorem eqGuard_first (op : BinOp) (x y : Operand) (xs ys : Array Value) (w : World) : (eqGuard op 64 x y (.agg xs) (.agg ys)).run Try.prog w = .ok () w :=
  run_eqGuard_agg w op 64 x y xs ys (by kernel_rfl)
end Go.Proofs.Ytngekjbdjnfhmaa
namespace Go.Proofs.Ytngekjbdjnfhmaa
open Go.ChangeShapes Go.WideShapes Go.ChangeAt Go.RowKit
attribute [local go_sem] Oper.semAt_some
set_option maxRecDepth 100000
def store6 (w : World) (b n : Nat) (F : V5) : World :=
  (((((w.setCell ⟨b, 0, none⟩ (.int .u16 (n : Nat))).setCell ⟨b, 1, none⟩ (.int .u16 (F.a : Nat))).setCell ⟨b, 2, none⟩ (.int .u16 (F.b : Nat))).setCell ⟨b, 3, none⟩ (.int .u16 (F.c : Nat))).setCell ⟨b, 4, none⟩ (.int .u16 (F.d : Nat))).setCell ⟨b, 5, none⟩ (.int .u16 (F.e : Nat))
theorem blk_set {w : World} {k : Nat} {o : Obj} (h : w.heap[k]? = some o) {p : Addr} (hp : k ≠ p.block) (u : Value) : (w.setCell p u).heap[k]? = some o := (Below.heap_setCell w p u k hp).trans h
theorem store6_other {w : World} {b n : Nat} {F : V5} {k : Nat} {o : Obj} (h : w.heap[k]? = some o) (hk : k ≠ b) : (store6 w b n F).heap[k]? = some o :=
  blk_set (blk_set (blk_set (blk_set (blk_set (blk_set h hk _) hk _) hk _) hk _) hk _) hk _
theorem store6_below {B : Nat} {a w : World} (h : Below B a w) {b : Nat} (hb : B ≤ b) (n : Nat) (F : V5) : Below B a (store6 w b n F) :=
  (((((h.setCell (p := ⟨b, 0, none⟩) hb _).setCell (p := ⟨b, 1, none⟩) hb _).setCell (p := ⟨b, 2, none⟩) hb _).setCell (p := ⟨b, 3, none⟩) hb _).setCell (p := ⟨b, 4, none⟩) hb _).setCell (p := ⟨b, 5, none⟩) hb _
theorem store6_same {w : World} {b n n' : Nat} {F G : V5} (h : FBox w b n' G) : FBox (store6 w b n F) b n F := by
  unfold FBox at *; unfold store6; simp [World.setCell, Array.getElem?_modify, h, firstCells]
theorem FBox.alloc {w : World} {b n : Nat} {F : V5} (h : FBox w b n F) (o : Obj) : FBox (w.alloc o) b n F := (blk_old _ _ h.lt).trans h
theorem FBox.frozen {w : World} {b n : Nat} {F : V5} (h : FBox w b n F) (i : Nat) : w.frozen? ⟨b, i, none⟩ = false := frozen_of_block h i
theorem growingF_any (n : Nat) (F : V5) (gf : Nat) (caps : Array Value) (w : World) :
    Calls Try.prog 59 #[.agg (firstCells n F), .func (.func gf) #[] caps] w fun e w' => e = .returned (.func (.func 63) #[] #[.pointer (some ⟨w.heap.size, 0, none⟩), .pointer (some ⟨w.heap.size + 1, 0, none⟩)]) ∧ w' = (w.alloc (.cells (firstCells n F) 64)).alloc (.cells #[.func (.func gf) #[] caps] 96) := by
  have hmf := makeFunc_run
  unfold firstCells
  go_enter Try.func59, Try.ntmps59
  go_wp2
  go_ret
  exact ⟨rfl, rfl⟩
def cellAt (w : World) (b i : Nat) : Nat := match w.cell? ⟨b, i, none⟩ with
  | some (.int _ v) => v.toNat
  | _ => 0
def cellF (w : World) (b : Nat) : Nat := cellAt w b 1 + cellAt w b 2 + cellAt w b 3 + cellAt w b 4 + cellAt w b 5
theorem cellAt_of {w : World} {b i x : Nat} {k : IntKind} (h : w.cell? ⟨b, i, none⟩ = some (.int k (x : Nat))) : cellAt w b i = x := by
  unfold cellAt; rw [h]; simp
theorem FBox.cellF {w : World} {b n : Nat} {F : V5} (h : FBox w b n F) : cellF w b = F.sum := by
  obtain ⟨_, h1, h2, h3, h4, h5⟩ := h.cells
  unfold Go.Proofs.Ytngekjbdjnfhmaa.cellF
  rw [cellAt_of h1, cellAt_of h2, cellAt_of h3, cellAt_of h4, cellAt_of h5]; rfl
set_option maxHeartbeats 2000000 in
theorem growingF1_in (d : Nat) (l Bv Bg n : Nat) (caps : Array Value) (f : V5 → V5) (Inv : V5 → Prop) (J : V5 → World → Prop)
    (hInv : ∀ x, Inv x → Inv (f x) ∧ Sub5 x (f x) ∧ (f x).ok)
    (hJc : ∀ y W F, J y W → J y (store6 W Bv n F)) (hJb : ∀ y W W', J y W → Below W.heap.size W W' → J y W')
    (hJg : ∀ y W, J y W → one1 W Bg (.func (.func 46) #[] caps) 96)
    (hY : ∀ (x y : V5) W, Inv x → FBox W Bv n x → J y W → YieldAt Fence.wide (d - 1) Try.prog l #[.agg (firstCells n x)] W (fun e W' => e = .returned (.bool true) ∧ J x W' ∧ FBox W' Bv n x))
    (hG : ∀ (x y : V5) W, Inv x → J y W → Calls Try.prog 46 (#[.agg (firstCells n x)] ++ caps) W (fun e W' => e = .returned (.agg (firstCells n (f x))) ∧ Below W.heap.size W W'))
    (x0 y0 : V5) (W : World) (hx0 : Inv x0) (hv0 : FBox W Bv n x0) (hJ0 : J y0 W) :
    CallsIn Fence.wide d Try.prog 63 #[.func (.yield l) #[] #[], .pointer (some ⟨Bv, 0, none⟩), .pointer (some ⟨Bg, 0, none⟩)] W fun e W' => (∃ v, e = .returned v) ∧ ∃ R, Inv R ∧ f R = R ∧ J R W' := by
  have heq := run_eql_first
  have hgd := eqGuard_first
  unfold firstCells at hY hG heq
  refine callsIn_of_wp Try.func63 rfl trivial ?_ rfl
  simp only [Try.ntmps63, List.size_toArray, List.length_cons, List.length_nil, Nat.reduceAdd, Nat.reduceSub, Array.replicate_succ, Array.replicate_zero, List.push_toArray, List.append_toArray, List.nil_append, List.cons_append]
  gi_wp2
  gi_loopw [4] (fun _ wr => ∃ x y : V5, Inv x ∧ FBox wr Bv n x ∧ J y wr) (fun _ wr => 5120 - cellF wr Bv)
  case atStart => exact ⟨x0, y0, hx0, hv0, hJ0⟩
  case round =>
    obtain ⟨x, y, hx, hv, hJ⟩ := hrel
    obtain ⟨fn, tmps, assign, body, hy, hR⟩ := hY x y wr hx hv hJ
    obtain ⟨c0, c1, c2, c3, c4, c5⟩ := hv.cells
    gi_wp2
    refine ⟨fun h => (by cases h), hR.mono ?_⟩
    rintro e W3 ⟨rfl, hJ3, hv3⟩
    clear hy hR c0 c1 c2 c3 c4 c5
    obtain ⟨c0, c1, c2, c3, c4, c5⟩ := hv3.cells
    have hg := (hJg _ _ hJ3).cell.1
    have eg : ∀ args w, (callFunc 46 args).run Try.prog w = .ok (.enter 46 args) w := enters_of Try.func46 (by kernel_rfl) rfl
    gi_wp2
    refine ⟨trivial, fun h => (by cases h), (callsIn_wide.2 (hG x x W3 hx hJ3)).mono ?_⟩
    rintro e W4 ⟨rfl, hb4⟩
    obtain ⟨i1, i2, i3⟩ := hInv x hx
    have hv4 := (hv3.below hb4).alloc (.cells (firstCells n (f x)) 64)
    have hJw := hJb _ _ _ hJ3 hb4
    have hJ4 := hJb _ _ _ hJw ((Below.refl _ _).alloc (Nat.le_refl _) (.cells (firstCells n (f x)) 64))
    have hvw := hv3.below hb4
    have hlt4 := hvw.lt
    have hn4 : ¬ Bv = W4.heap.size := by omega
    have HI1 := Lib.hid i1
    clear i1 hg eg c0 c1 c2 c3 c4 c5 hv0 hJ0 hx0 hv3 hJ3
    have hv4' := hv4
    unfold firstCells at hv4'
    obtain ⟨c0, c1, c2, c3, c4, c5⟩ := hvw.cells
    obtain ⟨e0, e1, e2, e3, e4, e5⟩ := hv4'.cells
    have g0 := hvw.frozen 0
    have g1 := hvw.frozen 1
    have g2 := hvw.frozen 2
    have g3 := hvw.frozen 3
    have g4 := hvw.frozen 4
    have g5 := hvw.frozen 5
    have f0 := hv4.frozen 0
    have f1 := hv4.frozen 1
    have f2 := hv4.frozen 2
    have f3 := hv4.frozen 3
    have f4 := hv4.frozen 4
    have f5 := hv4.frozen 5
    unfold firstCells at f0 f1 f2 f3 f4 f5
    cases he : eq5 (f x) x with
    | true =>
      have HE := Lib.hid ((eq5_iff _ _).1 he)
      gi_wp2
      refine bodyPost_ret (results_none rfl _ _ _) rfl ?_
      exact ⟨⟨_, rfl⟩, x, hx, HE.out, hJ4⟩
    | false =>
      have hgrow := i2.grows (fun e => by rw [← e] at he; rw [(eq5_iff x x).2 rfl] at he; cases he)
      have hs := i3.sum
      have hv5 := (store6_same (n := n) (F := f x) hvw).alloc (.cells (firstCells n (f x)) 64)
      have hJ5 := hJb _ _ _ (hJc _ _ (f x) hJw) ((Below.refl _ _).alloc (Nat.le_refl _) (.cells (firstCells n (f x)) 64))
      have hm5 := hv5.cellF
      have hm0 := hv.cellF
      have HV := Lib.hid hv5
      have HJ := Lib.hid hJ5
      have HM := Lib.hid hm5
      have HM0 := Lib.hid hm0
      clear hJ hv hv4 hv4' hvw hJ4 hv5 hJ5 hm5 hm0 hInv hJc hJb hJg hY hG i2 hb4
      unfold store6 firstCells at HV HJ HM
      gi_wp2
      refine ⟨⟨f x, x, HI1.out, HV.out, HJ.out⟩, ?_⟩
      rw [HM0.out, HM.out]; omega
end Go.Proofs.Ytngekjbdjnfhmaa
