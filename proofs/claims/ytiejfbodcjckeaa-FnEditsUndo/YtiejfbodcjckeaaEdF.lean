/- The contracts of EditsDo, the program's and the model's; the walk of FnExactEditsDo. -/
import Derived.Test.YtiejfbodcjckeaaEdE
namespace Go.Proofs.Ytiejfbodcjckeaa
open Go.ChangeShapes Go.WideShapes Go.ChangeAt Go.RowKit
set_option maxRecDepth 100000
/-- edits, one behind the other -/
def runE : ByteArray → List EditT → Option ByteArray
  | s, [] => some s
  | s, x :: xs => if doB s x.1 x.2.1 x.2.2 = true then runE (doS s x.1 x.2.1 x.2.2) xs else none
def manyE (s : ByteArray) (xs : List EditT) : Option ByteArray := if longB s = true ∧ xs.length ≤ 12 then runE s xs else none
def DosSays (s : ByteArray) (xs : List EditT) (w : World) (e : Ending) (w' : World) : Prop :=
  e = .returned (.tuple #[.string ((manyE s xs).getD ⟨#[]⟩), .bool (manyE s xs).isSome]) ∧ Below w.heap.size w w'
theorem dos_not {s : ByteArray} {xs : List EditT} {w w' : World} (h : manyE s xs = none) (hb : Below w.heap.size w w') : DosSays s xs w (.returned (.tuple #[.string ⟨#[]⟩, .bool false])) w' := by
  refine ⟨?_, hb⟩
  rw [h]; rfl
theorem dos_yes {s t : ByteArray} {xs : List EditT} {w w' : World} (h : manyE s xs = some t) (hb : Below w.heap.size w w') : DosSays s xs w (.returned (.tuple #[.string t, .bool true])) w' := by
  refine ⟨?_, hb⟩
  rw [h]; rfl
theorem runE_step (s : ByteArray) (xs : List EditT) (k : Nat) (h : k < xs.length) : runE s (xs.drop k) = if doB s xs[k].1 xs[k].2.1 xs[k].2.2 = true then runE (doS s xs[k].1 xs[k].2.1 xs[k].2.2) (xs.drop (k + 1)) else none := by
  rw [List.drop_eq_getElem_cons h]; rfl
set_option maxHeartbeats 1000000 in
theorem editsDo_any (s : ByteArray) (a : Option Addr) (cap : Nat) (xs : List EditT) (w : World) (hs : s.size ≤ maxLen) (H : EditsAt w a xs) :
    Calls Try.prog 21 #[.string s, .slice a xs.length cap] w (DosSays s xs w) := by
  have hn := H.1
  unfold maxLen at hn
  go_enter Try.func21, Try.ntmps21
  go_wp2_with fail
  refine (longOk_any s _ hs).mono ?_
  rintro e w2 ⟨rfl, rfl⟩
  cases hl : longB s with
  | false =>
    have HN : Hid (manyE s xs = none) := by show _ = _; unfold manyE; rw [if_neg (by simp [hl])]
    clear hl
    go_wp2
    exact bodyPost_ret (v := .tuple #[.string ⟨#[]⟩, .bool false]) (by simp [results, Try.results21, go_sem]) rfl (dos_not HN.out (Below.refl _ _))
  | true =>
    by_cases h12 : (12 : Int) < (xs.length : Int)
    · have HN : Hid (manyE s xs = none) := by show _ = _; unfold manyE; rw [if_neg (by omega)]
      clear hl
      go_wp2
      exact bodyPost_ret (v := .tuple #[.string ⟨#[]⟩, .bool false]) (by simp [results, Try.results21, go_sem]) rfl (dos_not HN.out (Below.refl _ _))
    have HM : Hid (manyE s xs = runE s xs) := by show _ = _; unfold manyE; rw [if_pos ⟨hl, by omega⟩]
    have hsz := longB_size hl
    clear hl
    go_wp2
    go_loopw [0, 20] (fun tv i wr => ∃ (k : Nat) (t : ByteArray), k ≤ xs.length ∧ i = .int .i64 k ∧ tv = .string t ∧ t.size ≤ 20 ∧ Hid (runE t (xs.drop k) = runE s xs) ∧ Below w.heap.size w wr) (fun _ i _ => xs.length - (intOf i).toNat)
    case atStart => exact ⟨0, s, Nat.zero_le _, rfl, rfl, hsz, rfl, Below.refl _ _⟩
    case round =>
      obtain ⟨k, t, hk, rfl, rfl, ht, HR, hb⟩ := hrel
      by_cases hlt : k < xs.length
      · obtain ⟨hz, b, off, e, hbb, c0, c1, c2⟩ := (H.below hb (Nat.le_refl _)).2 k hlt
        subst e
        have HS := Lib.hid (runE_step t xs k hlt)
        have B1 := below_on hb ((Below.refl wr.heap.size wr).alloc (Nat.le_refl _) (.cells #[.int .i64 xs[k].1, .int .i64 xs[k].2.1, .string xs[k].2.2] 27)) (Nat.le_refl _)
        generalize xs[k] = x at *
        obtain ⟨zk, za, zg⟩ := x
        simp only [] at c0 c1 c2
        go_wp2_with fail
        refine (editDo_any zk za zg t _ (by unfold maxLen; omega)).mono ?_
        rintro e w2 ⟨rfl, hb2⟩
        have B2 := below_on B1 hb2 (Nat.le_refl _)
        have hd := doS_size t zk za zg
        clear B1 hb2 c0 c1 c2
        cases hdo : doB t zk za zg with
        | false =>
          have HN : Hid (manyE s xs = none) := by show _ = _; rw [HM.out, ← HR.out, HS.out, if_neg (by simp [hdo])]
          clear hdo
          generalize doS t zk za zg = t' at *
          go_wp2
          exact bodyPost_ret (v := .tuple #[.string ⟨#[]⟩, .bool false]) (by simp [results, Try.results21, go_sem]) rfl (dos_not HN.out B2)
        | true =>
          have HN : Hid (runE (doS t zk za zg) (xs.drop (k + 1)) = runE s xs) := by show _ = _; rw [← HR.out, HS.out, if_pos hdo]
          clear hdo HS HR
          generalize doS t zk za zg = t' at *
          go_wp2
          go_roundw
          case rel => exact ⟨k + 1, t', by omega, by go_num, rfl, hd, HN, B2⟩
          case measure => simp [intOf]; omega
      · have HN : Hid (manyE s xs = some t) := by
          show _ = _; rw [HM.out, ← HR.out, List.drop_eq_nil_of_le (by omega)]; rfl
        go_wp2
        exact bodyPost_ret (v := .tuple #[.string t, .bool true]) (by simp [results, Try.results21, go_sem]) rfl (dos_yes HN.out hb)
set_option maxHeartbeats 1000000 in
theorem sEditsDo_any (s : ByteArray) (a : Option Addr) (cap : Nat) (xs : List EditT) (w : World) (hs : s.size ≤ maxLen) (H : EditsAt w a xs) :
    Calls Try.prog 19 #[.string s, .slice a xs.length cap] w (DosSays s xs w) := by
  have hn := H.1
  unfold maxLen at hn
  go_enter Try.func19, Try.ntmps19
  go_wp2_with fail
  refine (l8Long_any s _ hs).mono ?_
  rintro e w2 ⟨rfl, rfl⟩
  cases hl : longB s with
  | false =>
    have HN : Hid (manyE s xs = none) := by show _ = _; unfold manyE; rw [if_neg (by simp [hl])]
    clear hl
    go_wp2
    exact bodyPost_ret (v := .tuple #[.string ⟨#[]⟩, .bool false]) (by simp [results, Try.results19, go_sem]) rfl (dos_not HN.out (Below.refl _ _))
  | true =>
    by_cases h12 : (12 : Int) < (xs.length : Int)
    · have HN : Hid (manyE s xs = none) := by show _ = _; unfold manyE; rw [if_neg (by omega)]
      clear hl
      go_wp2
      exact bodyPost_ret (v := .tuple #[.string ⟨#[]⟩, .bool false]) (by simp [results, Try.results19, go_sem]) rfl (dos_not HN.out (Below.refl _ _))
    have HM : Hid (manyE s xs = runE s xs) := by show _ = _; unfold manyE; rw [if_pos ⟨hl, by omega⟩]
    have hsz := longB_size hl
    clear hl
    go_wp2
    go_loopw [0, 6] (fun tv i wr => ∃ (k : Nat) (t : ByteArray), k ≤ xs.length ∧ i = .int .i64 k ∧ tv = .string t ∧ t.size ≤ 20 ∧ Hid (runE t (xs.drop k) = runE s xs) ∧ Below w.heap.size w wr) (fun _ i _ => xs.length - (intOf i).toNat)
    case atStart => exact ⟨0, s, Nat.zero_le _, rfl, rfl, hsz, rfl, Below.refl _ _⟩
    case round =>
      obtain ⟨k, t, hk, rfl, rfl, ht, HR, hb⟩ := hrel
      by_cases hlt : k < xs.length
      · obtain ⟨hz, b, off, e, hbb, c0, c1, c2⟩ := (H.below hb (Nat.le_refl _)).2 k hlt
        subst e
        have HS := Lib.hid (runE_step t xs k hlt)
        generalize xs[k] = x at *
        obtain ⟨zk, za, zg⟩ := x
        simp only [] at c0 c1 c2
        go_wp2_with fail
        refine (sEditDo_any zk za zg t _ (by unfold maxLen; omega)).mono ?_
        rintro e w2 ⟨rfl, hb2⟩
        have B2 := below_on hb hb2 (Nat.le_refl _)
        have hd := doS_size t zk za zg
        clear hb2 c0 c1 c2
        cases hdo : doB t zk za zg with
        | false =>
          have HN : Hid (manyE s xs = none) := by show _ = _; rw [HM.out, ← HR.out, HS.out, if_neg (by simp [hdo])]
          clear hdo
          generalize doS t zk za zg = t' at *
          go_wp2
          exact bodyPost_ret (v := .tuple #[.string ⟨#[]⟩, .bool false]) (by simp [results, Try.results19, go_sem]) rfl (dos_not HN.out B2)
        | true =>
          have HN : Hid (runE (doS t zk za zg) (xs.drop (k + 1)) = runE s xs) := by show _ = _; rw [← HR.out, HS.out, if_pos hdo]
          clear hdo HS HR
          generalize doS t zk za zg = t' at *
          go_wp2
          go_roundw
          case rel => exact ⟨k + 1, t', by omega, by go_num, rfl, hd, HN, B2⟩
          case measure => simp [intOf]; omega
      · have HN : Hid (manyE s xs = some t) := by
          show _ = _; rw [HM.out, ← HR.out, List.drop_eq_nil_of_le (by omega)]; rfl
        go_wp2
        exact bodyPost_ret (v := .tuple #[.string t, .bool true]) (by simp [results, Try.results19, go_sem]) rfl (dos_yes HN.out hb)
end Go.Proofs.Ytiejfbodcjckeaa
