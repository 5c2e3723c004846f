/- The walks of FnEditsFar and FnEditsDo. -/
import Derived.Test.YtiejfbodcjckeaaEdJ
import Derived.Test.YtiejfbodcjckeaaEdM
import Derived.Test.YtiejfbodcjckeaaFaB
namespace Go.Proofs.Ytiejfbodcjckeaa
open Go.ChangeShapes Go.WideShapes Go.ChangeAt Go.RowKit
set_option maxRecDepth 100000
set_option maxHeartbeats 1000000 in
theorem editsFarF_law (p : Option Addr) (n cap : Nat) (q : Option Addr) (m cup : Nat) (w : World) (H : BytesAt w p n cap) (K : BytesAt w q m cup) :
    Calls Try.prog 9 #[.slice p n cap, .slice q m cup] w fun e w' => e = .returned (.bool true) ∧ Below w.heap.size w w' := by
  by_cases h1 : (1048576 : Int) < (n : Int)
  · go_enter Try.func9, Try.ntmps9
    go_wp2
    go_ret
    exact ⟨rfl, Below.refl _ _⟩
  by_cases h2 : (1048576 : Int) < (m : Int)
  · go_enter Try.func9, Try.ntmps9
    go_wp2
    go_ret
    exact ⟨rfl, Below.refl _ _⟩
  go_enter Try.func9, Try.ntmps9
  go_wp2_with fail
  refine (drawEditsFar_any p n cap _ H).mono ?_
  rintro e w2 ⟨a, b, rfl, ha, hb, B2⟩
  have K2 := K.below B2
  go_wp2_with fail
  refine (drawEditsFar_any q m cup _ K2).mono ?_
  rintro e w3 ⟨c, d, rfl, hc, hd, hb3⟩
  have B3 := below_on B2 hb3 (Nat.le_refl _)
  clear B2 hb3 K2 hd
  have C1 := fun w' => editsFar_any a b w' (by omega) (by omega)
  have C2 := fun w' => sEditsFar_any a b w' (by omega) (by omega)
  have C3 := fun w' => editsFar_any b a w' (by omega) (by omega)
  have C4 := fun w' => editsFar_any a c w' (by omega) (by omega)
  have C5 := fun w' => editsFar_any c b w' (by omega) (by omega)
  rw [farS_comm b a] at C3
  have htri := farS_tri a c b
  have hmax := farS_max a b
  have hm4 := farS_max a c
  have hm5 := farS_max c b
  have hz := farS_zero a b
  have HZ := Lib.hid hz
  clear hz
  generalize farS a b = m1 at *
  generalize farS a c = m4 at *
  generalize farS c b = m5 at *
  have hs4 : m4 ≤ 100 := by omega
  have hs5 : m5 ≤ 100 := by omega
  have hs1 : m1 ≤ 100 := by omega
  clear hm4 hm5
  have hor : (m1 : Int) ≤ a.size ∨ (m1 : Int) ≤ b.size := by omega
  clear hmax
  have HO := Lib.hid hor
  clear hor
  have htri' : (m1 : Int) ≤ (m4 : Int) + (m5 : Int) := by omega
  go_wp2_with fail
  refine (C1 _).mono ?_
  rintro e w4 ⟨rfl, hb4⟩
  have B4 := below_on B3 hb4 (Nat.le_refl _)
  clear B3 hb4
  go_wp2_with fail
  refine (C2 _).mono ?_
  rintro e w5 ⟨rfl, hb5⟩
  have B5 := below_on B4 hb5 (Nat.le_refl _)
  clear B4 hb5
  go_wp2_with fail
  refine (C3 _).mono ?_
  rintro e w6 ⟨rfl, hb6⟩
  have B6 := below_on B5 hb6 (Nat.le_refl _)
  clear B5 hb6
  have hdec : ((m1 : Int) == 0) = (a.toList == b.toList) := by
    by_cases e : a = b
    · have := HZ.out.2 e
      subst this; subst e; simp
    · have h0 : ¬ m1 = 0 := fun h => e (HZ.out.1 h)
      have e1 : ((m1 : Int) == 0) = false := by simpa using h0
      have e2 : (a.toList == b.toList) = false := by
        rw [beq_eq_false_iff_ne]
        intro h
        rw [ByteArray.toList_eq, ByteArray.toList_eq] at h
        exact e (bytesOf_ext h)
      rw [e1, e2]
  have HDC := Lib.hid hdec
  clear hdec HZ
  cases hq : (a.toList == b.toList) with
  | true =>
    have hq1 : ((m1 : Int) == 0) = true := by rw [HDC.out, hq]
    clear HDC
    by_cases hlt : (a.size : Int) < (b.size : Int)
    · have hle : (m1 : Int) ≤ (b.size : Int) := by have := HO.out; omega
      go_wp2_with fail
      refine (C4 _).mono ?_
      rintro e w7 ⟨rfl, hb7⟩
      have B7 := below_on B6 hb7 (Nat.le_refl _)
      clear B6 hb7
      go_wp2_with fail
      refine (C5 _).mono ?_
      rintro e w8 ⟨rfl, hb8⟩
      have B8 := below_on B7 hb8 (Nat.le_refl _)
      clear B7 hb8
      go_wp2
      go_ret
      exact ⟨rfl, B8⟩
    · have hle : (m1 : Int) ≤ (a.size : Int) := by have := HO.out; omega
      go_wp2_with fail
      refine (C4 _).mono ?_
      rintro e w7 ⟨rfl, hb7⟩
      have B7 := below_on B6 hb7 (Nat.le_refl _)
      clear B6 hb7
      go_wp2_with fail
      refine (C5 _).mono ?_
      rintro e w8 ⟨rfl, hb8⟩
      have B8 := below_on B7 hb8 (Nat.le_refl _)
      clear B7 hb8
      go_wp2
      go_ret
      exact ⟨rfl, B8⟩
  | false =>
    have hq1 : ((m1 : Int) == 0) = false := by rw [HDC.out, hq]
    clear HDC
    by_cases hlt : (a.size : Int) < (b.size : Int)
    · have hle : (m1 : Int) ≤ (b.size : Int) := by have := HO.out; omega
      go_wp2_with fail
      refine (C4 _).mono ?_
      rintro e w7 ⟨rfl, hb7⟩
      have B7 := below_on B6 hb7 (Nat.le_refl _)
      clear B6 hb7
      go_wp2_with fail
      refine (C5 _).mono ?_
      rintro e w8 ⟨rfl, hb8⟩
      have B8 := below_on B7 hb8 (Nat.le_refl _)
      clear B7 hb8
      go_wp2
      go_ret
      exact ⟨rfl, B8⟩
    · have hle : (m1 : Int) ≤ (a.size : Int) := by have := HO.out; omega
      go_wp2_with fail
      refine (C4 _).mono ?_
      rintro e w7 ⟨rfl, hb7⟩
      have B7 := below_on B6 hb7 (Nat.le_refl _)
      clear B6 hb7
      go_wp2_with fail
      refine (C5 _).mono ?_
      rintro e w8 ⟨rfl, hb8⟩
      have B8 := below_on B7 hb8 (Nat.le_refl _)
      clear B7 hb8
      go_wp2
      go_ret
      exact ⟨rfl, B8⟩
theorem editsAt_none (w : World) : EditsAt w none [] := ⟨by simp [maxLen], fun i h => absurd h (Nat.not_lt_zero i)⟩
theorem manyE_run {s t : ByteArray} {xs : List EditT} (h : manyE s xs = some t) : longB s = true ∧ runE s xs = some t ∧ xs.length ≤ 12 := by
  unfold manyE at h
  split at h
  · rename_i hc
    exact ⟨hc.1, h, hc.2⟩
  · cases h
set_option maxHeartbeats 1000000 in
theorem editsDoF_law (p : Option Addr) (n cap : Nat) (w : World) (H : BytesAt w p n cap) :
    Calls Try.prog 8 #[.slice p n cap] w fun e w' => e = .returned (.bool true) ∧ Below w.heap.size w w' := by
  by_cases h1 : (1048576 : Int) < (n : Int)
  · go_enter Try.func8, Try.ntmps8
    go_wp2
    go_ret
    exact ⟨rfl, Below.refl _ _⟩
  go_enter Try.func8, Try.ntmps8
  go_wp2_with fail
  refine (drawEditsDo_any p n cap _ H).mono ?_
  rintro e w2 ⟨s, g, cp, xs, rfl, hs, hat, hl, B2⟩
  go_wp2_with fail
  refine (editsDo_any s _ _ xs _ (by unfold maxLen; omega) hat).mono ?_
  rintro e w3 ⟨rfl, hb3⟩
  have B3 := below_on B2 hb3 (Nat.le_refl _)
  have hat3 := hat.below hb3 (Nat.le_refl _)
  clear B2 hb3 hat
  go_wp2_with fail
  refine (sEditsDo_any s _ _ xs _ (by unfold maxLen; omega) hat3).mono ?_
  rintro e w4 ⟨rfl, hb4⟩
  have B4 := below_on B3 hb4 (Nat.le_refl _)
  have hat4 := hat3.below hb4 (Nat.le_refl _)
  clear B3 hb4 hat3
  cases hq : manyE s xs with
  | none =>
    clear hq
    go_wp2
    go_ret
    exact ⟨rfl, B4⟩
  | some x =>
    obtain ⟨hlong, hrun, h12⟩ := manyE_run hq
    have hfar := manyE_far hq
    have hx := manyE_size s xs x hq
    have hnil : manyE s [] = some s := by unfold manyE; rw [if_pos ⟨hlong, Nat.zero_le _⟩]; rfl
    have CN : ∀ w', Calls Try.prog 21 #[.string s, .slice none 0 0] w' fun e w'' => e = .returned (.tuple #[.string s, .bool true]) ∧ Below w'.heap.size w' w'' := fun w' => (editsDo_any s none 0 [] w' (by unfold maxLen; omega) (editsAt_none w')).mono fun e w'' h => ⟨by rw [h.1, hnil]; rfl, h.2⟩
    have CF := fun w' => editsFar_any s x w' (by omega) (by omega)
    have hfar' : (farS s x : Int) ≤ (xs.length : Int) := by omega
    clear hnil hfar hq
    have hne : (x.toList != x.toList) = false := by simp
    have HR := Lib.hid hrun
    clear hrun
    simp only [Option.getD_some, Option.isSome_some]
    generalize farS s x = fm at *
    go_wp2_with fail
    refine (CN _).mono ?_
    rintro e w5 ⟨rfl, hb5⟩
    have B5 := below_on B4 hb5 (Nat.le_refl _)
    have hat5 := hat4.below hb5 (Nat.le_refl _)
    clear B4 hb5 hat4 CN
    have h0 : Hid (runE s (xs.drop 0) = some x) := HR
    clear HR
    go_wp2
    go_loopw [9, 10, 11] (fun tv ok i wr => ∃ (k : Nat) (t : ByteArray) (b : Bool), k ≤ xs.length ∧ i = .int .i64 k ∧ tv = .string t ∧ ok = .bool b ∧ t.size ≤ 1000 ∧ Hid (runE t (xs.drop k) = some x) ∧ Below w5.heap.size w5 wr) (fun _ _ i _ => xs.length - (intOf i).toNat)
    case atStart => exact ⟨0, s, true, Nat.zero_le _, rfl, rfl, rfl, by omega, h0, Below.refl _ _⟩
    case round =>
      clear h0
      obtain ⟨k, t, b, hk, rfl, rfl, rfl, ht, HR, hb⟩ := hrel
      by_cases hlt : k < xs.length
      · obtain ⟨hz, bb, off, e, hbb, c0, c1, c2⟩ := (hat5.below hb (Nat.le_refl _)).2 k hlt
        simp only [Option.some.injEq, Addr.mk.injEq] at e
        obtain ⟨rfl, rfl, _⟩ := e
        rw [Nat.zero_add] at c0 c1 c2
        have HS := Lib.hid (runE_step t xs k hlt)
        have hyes : doB t xs[k].1 xs[k].2.1 xs[k].2.2 = true ∧ runE (doS t xs[k].1 xs[k].2.1 xs[k].2.2) (xs.drop (k + 1)) = some x := by
          have := HR.out
          rw [HS.out] at this
          split at this
          · exact ⟨by assumption, this⟩
          · cases this
        have HY := Lib.hid hyes
        clear hyes HS HR
        generalize xs[k] = y at *
        obtain ⟨zk, za, zg⟩ := y
        simp only [] at c0 c1 c2
        go_wp2_with fail
        refine (editDo_any zk za zg t _ (by unfold maxLen; omega)).mono ?_
        rintro e w6 ⟨rfl, hb6⟩
        have hdo := HY.out.1
        have HN : Hid (runE (doS t zk za zg) (xs.drop (k + 1)) = some x) := HY.out.2
        have hd := doS_size t zk za zg
        have hbk := below_on hb hb6 (Nat.le_refl _)
        rw [hdo]
        clear HY hdo hb hb6 c0 c1 c2
        generalize doS t zk za zg = t' at *
        go_wp2
        go_roundw
        case rel => exact ⟨k + 1, t', true, by omega, by go_num, rfl, rfl, by omega, HN, hbk⟩
        case measure => simp [intOf]; omega
      · have htx : t = x := by
          have := HR.out
          rw [List.drop_eq_nil_of_le (by omega)] at this
          simpa [runE] using this
        subst htx
        have B6 := below_on B5 hb (Nat.le_refl _)
        clear HR hb B5
        go_wp2_with fail
        refine (CF _).mono ?_
        rintro e w7 ⟨rfl, hb7⟩
        have B7 := below_on B6 hb7 (Nat.le_refl _)
        clear B6 hb7
        go_wp2
        go_ret
        exact ⟨rfl, B7⟩
end Go.Proofs.Ytiejfbodcjckeaa
