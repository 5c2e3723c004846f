/- The mathematics of edits: an edit has an inverse, changes the text by a distance of one, and many by no more than their number. -/
import Derived.Test.YtiejfbodcjckeaaEdF
import Derived.Test.YtiejfbodcjckeaaFaM
namespace Go.Proofs.Ytiejfbodcjckeaa
open Go.ChangeShapes Go.WideShapes Go.ChangeAt Go.RowKit
theorem join2_list (a b : ByteArray) : (join2 a b).data.toList = a.data.toList ++ b.data.toList := by simp [join2]
theorem head_list (s : ByteArray) (k : Nat) : (s.extract 0 k).data.toList = s.data.toList.take k := by
  rw [Lib.extract_data]; simp
theorem tail_list (s : ByteArray) (k : Nat) : (s.extract k s.size).data.toList = s.data.toList.drop k := by
  rw [Lib.extract_data]
  exact List.take_of_length_le (by simp)
theorem cut_list (s : ByteArray) (k : Nat) : (s.extract k (k + 1)).data.toList = (s.data.toList.drop k).take 1 := by
  rw [Lib.extract_data, Nat.add_sub_cancel_left]
theorem toI_list (s : ByteArray) (a : Int) (g : ByteArray) : (toI s a g).data.toList = s.data.toList.take a.toNat ++ g.data.toList ++ s.data.toList.drop a.toNat := by
  unfold toI; rw [join2_list, join2_list, head_list, tail_list]
theorem toO_list (s : ByteArray) (a : Int) : (toO s a).data.toList = s.data.toList.take a.toNat ++ s.data.toList.drop (a.toNat + 1) := by
  unfold toO; rw [join2_list, head_list, tail_list]
theorem toT_list (s : ByteArray) (a : Int) (g : ByteArray) : (toT s a g).data.toList = s.data.toList.take a.toNat ++ g.data.toList ++ s.data.toList.drop (a.toNat + 1) := by
  unfold toT; rw [join2_list, join2_list, head_list, tail_list]
theorem cutE_list (s : ByteArray) (a : Int) : (cutE s a).data.toList = (s.data.toList.drop a.toNat).take 1 := cut_list s a.toNat
theorem one_list {g : ByteArray} (h : g.size = 1) : ∃ c, g.data.toList = [c] := by
  rcases g with ⟨⟨l⟩⟩
  match l, h with
  | [c], _ => exact ⟨c, rfl⟩
theorem drop_at (l : List UInt8) (k : Nat) (h : k < l.length) : l.drop k = l[k] :: l.drop (k + 1) := List.drop_eq_getElem_cons h
theorem cutE_size (s : ByteArray) (a : Int) (h0 : 0 ≤ a) (h1 : a < (s.size : Int)) : (cutE s a).size = 1 := by
  unfold cutE; simp; omega
/-- the reversed text, around a place -/
theorem rev_cut (l : List UInt8) (k : Nat) (h : k < l.length) : l.reverse = (l.drop (k + 1)).reverse ++ l[k] :: (l.take k).reverse := by
  conv => lhs; rw [← List.take_append_drop k l, drop_at l k h]
  simp
theorem rev_two (l : List UInt8) (k : Nat) : l.reverse = (l.drop k).reverse ++ (l.take k).reverse := by
  conv => lhs; rw [← List.take_append_drop k l]
  simp
theorem far_le_one {s : ByteArray} {k a : Int} {g : ByteArray} (h : fitE s k a g = true) : farS s (toE s k a g) ≤ 1 := by
  unfold farS
  rcases fitE_facts h with ⟨rfl, h0, h1, h2⟩ | ⟨rfl, h0, h1, h2⟩ | ⟨rfl, h0, h1, h2⟩
  · show lev _ (toI s a g).data.toList.reverse ≤ 1
    obtain ⟨c, hc⟩ := one_list h2
    rw [toI_list, hc, rev_two s.data.toList a.toNat]
    simp only [List.reverse_append, List.reverse_cons, List.reverse_nil, List.nil_append, List.singleton_append]
    exact lev_le (ed_front (.put c (Ed.refl _)) _)
  · show lev _ (toO s a).data.toList.reverse ≤ 1
    have hk : a.toNat < s.data.toList.length := by simp; omega
    rw [toO_list, rev_cut s.data.toList a.toNat hk]
    simp only [List.reverse_append]
    exact lev_le (ed_front (.out _ (Ed.refl _)) _)
  · show lev _ (toT s a g).data.toList.reverse ≤ 1
    obtain ⟨c, hc⟩ := one_list h2
    have hk : a.toNat < s.data.toList.length := by simp; omega
    rw [toT_list, hc, rev_cut s.data.toList a.toNat hk]
    simp only [List.reverse_append, List.reverse_cons, List.reverse_nil, List.nil_append, List.singleton_append]
    exact lev_le (ed_front (.turn _ c (Ed.refl _)) _)
theorem fitT_ne {s : ByteArray} {a : Int} {g : ByteArray} (h : fitT s a g = true) : g ≠ cutE s a := by
  unfold fitT at h
  simp only [Bool.and_eq_true] at h
  have := h.2.2.2
  rintro rfl
  unfold cutE at this
  simp at this
theorem toE_ne {s : ByteArray} {k a : Int} {g : ByteArray} (h : fitE s k a g = true) : toE s k a g ≠ s := by
  intro he
  rcases fitE_facts h with ⟨rfl, h0, h1, h2⟩ | ⟨rfl, h0, h1, h2⟩ | ⟨rfl, h0, h1, h2⟩
  · have := toI_size s a g h0 h1
    have e := congrArg ByteArray.size (show toI s a g = s from he)
    omega
  · have := toO_size s a h0 h1
    have e := congrArg ByteArray.size (show toO s a = s from he)
    omega
  · have h3 : fitT s a g = true := h
    have hT : (toT s a g) = s := he
    obtain ⟨c, hc⟩ := one_list h2
    have hk : a.toNat < s.data.toList.length := by simp; omega
    have hl := congrArg (fun x : ByteArray => x.data.toList) hT
    simp only [toT_list, hc] at hl
    have hs : s.data.toList = s.data.toList.take a.toNat ++ [s.data.toList[a.toNat]] ++ s.data.toList.drop (a.toNat + 1) := by
      conv => lhs; rw [← List.take_append_drop a.toNat s.data.toList, drop_at _ _ hk]
      simp
    have hx : [c] = [s.data.toList[a.toNat]] := by
      have h5 := hl.trans hs
      rw [List.append_assoc, List.append_assoc] at h5
      exact List.append_cancel_right (List.append_cancel_left h5)
    refine fitT_ne h3 (bytesOf_ext ?_)
    rw [hc, hx, cutE_list, drop_at _ _ hk]
    rfl
theorem far_one {s : ByteArray} {k a : Int} {g : ByteArray} (h : fitE s k a g = true) : farS s (toE s k a g) = 1 := by
  have h1 := far_le_one h
  have h2 : ¬ farS s (toE s k a g) = 0 := fun e => toE_ne h ((farS_zero _ _).1 e).symm
  omega
theorem small_of_long {s : ByteArray} (h : longB s = true) (i : Nat) (hi : i < s.data.toList.length) : smallN (s.data.toList[i].toNat : Int) = true := by
  unfold longB at h
  simp only [Bool.and_eq_true] at h
  have h1 := List.all_eq_true.1 h.1 _ (List.getElem_mem hi)
  rw [← has_small]
  exact h1
theorem isSmall_cut {s : ByteArray} {a : Int} (h : longB s = true) (h0 : 0 ≤ a) (h1 : a < (s.size : Int)) : isSmallS (cutE s a) = true := by
  have hk : a.toNat < s.data.toList.length := by simp; omega
  unfold isSmallS byteAt
  rw [cutE_size s a h0 h1, cutE_list, drop_at _ _ hk]
  simp only [decide_true, Bool.true_and]
  exact small_of_long h _ hk
theorem empty_list : (⟨#[]⟩ : ByteArray).data.toList = [] := rfl
theorem back_undoes {s : ByteArray} {k a : Int} {g : ByteArray} (h : doB s k a g = true) :
    doB (doS s k a g) (backK s k a g) (backA s k a g) (backG s k a g) = true ∧ doS (doS s k a g) (backK s k a g) (backA s k a g) (backG s k a g) = s := by
  have hf := doB_fit h
  have hl : longB s = true := by unfold doB at h; simp only [Bool.and_eq_true] at h; exact h.1
  have hl2 : longB (toE s k a g) = true := by unfold doB at h; simp only [Bool.and_eq_true] at h; exact h.2.2
  have hS : doS s k a g = toE s k a g := by unfold doS; rw [if_pos h]
  have hA : backA s k a g = a := by unfold backA; rw [if_pos h]
  rw [hS, hA]
  unfold backK backG
  rw [if_pos h, if_pos h]
  rcases fitE_facts hf with ⟨rfl, h0, h1, h2⟩ | ⟨rfl, h0, h1, h2⟩ | ⟨rfl, h0, h1, h2⟩
  · have hl3 : longB (toI s a g) = true := hl2
    show doB (toI s a g) 2 a ⟨#[]⟩ = true ∧ doS (toI s a g) 2 a ⟨#[]⟩ = s
    have hsz := toI_size s a g h0 h1
    obtain ⟨c, hc⟩ := one_list h2
    have hb : toO (toI s a g) a = s := by
      refine bytesOf_ext ?_
      have hlen : (s.data.toList.take a.toNat).length = a.toNat := by simp; omega
      rw [toO_list, toI_list, hc, List.append_assoc]
      rw [List.take_append_of_le_length (by omega), List.take_of_length_le (by omega)]
      rw [List.drop_append, hlen, List.drop_eq_nil_of_le (by omega), Nat.add_sub_cancel_left]
      simp
    have hfit : fitO (toI s a g) a ⟨#[]⟩ = true := by
      unfold fitO
      simp only [Bool.and_eq_true, decide_eq_true_eq]
      exact ⟨h0, by omega, by rw [ByteArray.toList_eq]; rfl⟩
    have hd : doB (toI s a g) 2 a ⟨#[]⟩ = true := by
      show (longB (toI s a g) && (fitO (toI s a g) a ⟨#[]⟩ && longB (toO (toI s a g) a))) = true
      rw [hl3, hfit, hb, hl]; rfl
    refine ⟨hd, ?_⟩
    unfold doS
    rw [if_pos hd]
    exact hb
  · have hl3 : longB (toO s a) = true := hl2
    show doB (toO s a) 1 a (cutE s a) = true ∧ doS (toO s a) 1 a (cutE s a) = s
    have hsz := toO_size s a h0 h1
    have hk : a.toNat < s.data.toList.length := by simp; omega
    have hb : toI (toO s a) a (cutE s a) = s := by
      refine bytesOf_ext ?_
      have hlen : (s.data.toList.take a.toNat).length = a.toNat := by simp; omega
      have hcons : s.data.toList.take a.toNat ++ s.data.toList[a.toNat] :: s.data.toList.drop (a.toNat + 1) = s.data.toList := by rw [← drop_at _ _ hk, List.take_append_drop]
      rw [toI_list, toO_list, cutE_list, drop_at s.data.toList a.toNat hk]
      rw [List.take_append_of_le_length (by omega), List.take_of_length_le (by omega), List.drop_append, hlen, show (s.data.toList.take a.toNat).drop a.toNat = [] from List.drop_eq_nil_of_le (by omega), Nat.sub_self]
      simpa using hcons
    have hfit : fitI (toO s a) a (cutE s a) = true := by
      unfold fitI
      simp only [Bool.and_eq_true, decide_eq_true_eq]
      exact ⟨h0, by omega, isSmall_cut hl h0 h1⟩
    have hd : doB (toO s a) 1 a (cutE s a) = true := by
      show (longB (toO s a) && (fitI (toO s a) a (cutE s a) && longB (toI (toO s a) a (cutE s a)))) = true
      rw [hl3, hfit, hb, hl]; rfl
    refine ⟨hd, ?_⟩
    unfold doS
    rw [if_pos hd]
    exact hb
  · have hl3 : longB (toT s a g) = true := hl2
    show doB (toT s a g) 3 a (cutE s a) = true ∧ doS (toT s a g) 3 a (cutE s a) = s
    have hsz := toT_size s a g h0 h1 h2
    have hk : a.toNat < s.data.toList.length := by simp; omega
    have hne := fitT_ne (show fitT s a g = true from hf)
    obtain ⟨c, hc⟩ := one_list h2
    have hlen : (s.data.toList.take a.toNat).length = a.toNat := by simp; omega
    have hb : toT (toT s a g) a (cutE s a) = s := by
      refine bytesOf_ext ?_
      rw [toT_list, toT_list, cutE_list, hc, List.append_assoc (s.data.toList.take a.toNat)]
      have hcons : s.data.toList.take a.toNat ++ s.data.toList[a.toNat] :: s.data.toList.drop (a.toNat + 1) = s.data.toList := by rw [← drop_at _ _ hk, List.take_append_drop]
      rw [drop_at s.data.toList a.toNat hk]
      rw [List.take_append_of_le_length (by omega), List.take_of_length_le (by omega), List.drop_append, hlen, show (s.data.toList.take a.toNat).drop (a.toNat + 1) = [] from List.drop_eq_nil_of_le (by omega), Nat.add_sub_cancel_left]
      simpa using hcons
    have hcut : cutE (toT s a g) a = g := by
      refine bytesOf_ext ?_
      rw [cutE_list, toT_list, hc, List.append_assoc, List.drop_append, hlen, List.drop_eq_nil_of_le (by omega), Nat.sub_self]
      simp
    have hfit : fitT (toT s a g) a (cutE s a) = true := by
      unfold fitT
      simp only [Bool.and_eq_true, decide_eq_true_eq]
      refine ⟨h0, by omega, isSmall_cut hl h0 h1, ?_⟩
      rw [show (toT s a g).extract a.toNat (a.toNat + 1) = g from hcut, ne_comm]
      rw [bne_iff_ne]
      intro e
      rw [ByteArray.toList_eq, ByteArray.toList_eq] at e
      exact hne (bytesOf_ext e)
    have hd : doB (toT s a g) 3 a (cutE s a) = true := by
      show (longB (toT s a g) && (fitT (toT s a g) a (cutE s a) && longB (toT (toT s a g) a (cutE s a)))) = true
      rw [hl3, hfit, hb, hl]; rfl
    refine ⟨hd, ?_⟩
    unfold doS
    rw [if_pos hd]
    exact hb
/-- the edit that takes an edit back -/
def backT (s : ByteArray) (x : EditT) : EditT := (backK s x.1 x.2.1 x.2.2, backA s x.1 x.2.1 x.2.2, backG s x.1 x.2.1 x.2.2)
theorem runE_far (xs : List EditT) : ∀ s t, runE s xs = some t → farS s t ≤ xs.length := by
  induction xs with
  | nil =>
    intro s t h
    simp only [runE, Option.some.injEq] at h
    subst h
    rw [(farS_zero s s).2 rfl]; exact Nat.zero_le _
  | cons x xs ih =>
    intro s t h
    rw [runE] at h
    split at h
    · rename_i hd
      have h1 := ih _ _ h
      have h2 := far_one (doB_fit hd)
      have h3 := farS_tri s (doS s x.1 x.2.1 x.2.2) t
      have hS : doS s x.1 x.2.1 x.2.2 = toE s x.1 x.2.1 x.2.2 := by unfold doS; rw [if_pos hd]
      rw [hS] at h1 h3
      simp only [List.length_cons]; omega
    · cases h
theorem manyE_far {s t : ByteArray} {xs : List EditT} (h : manyE s xs = some t) : farS s t ≤ xs.length := by
  unfold manyE at h
  split at h
  · exact runE_far xs s t h
  · cases h
/-- the edits that take edits back, the last one first -/
def backsE : ByteArray → List EditT → List EditT → List EditT
  | _, [], acc => acc
  | s, x :: xs, acc => backsE (doS s x.1 x.2.1 x.2.2) xs (backT s x :: acc)
theorem runE_append (xs ys : List EditT) : ∀ s, runE s (xs ++ ys) = (runE s xs).bind fun t => runE t ys := by
  induction xs with
  | nil => intro s; rfl
  | cons x xs ih =>
    intro s
    rw [List.cons_append, runE, runE]
    split
    · exact ih _
    · rfl
theorem backs_run (xs : List EditT) : ∀ (s t s0 : ByteArray) (acc : List EditT), runE s xs = some t → runE s acc = some s0 → runE t (backsE s xs acc) = some s0 := by
  induction xs with
  | nil =>
    intro s t s0 acc h h2
    simp only [runE, Option.some.injEq] at h
    subst h
    exact h2
  | cons x xs ih =>
    intro s t s0 acc h h2
    rw [runE] at h
    split at h
    · rename_i hd
      refine ih _ _ _ _ h ?_
      obtain ⟨b1, b2⟩ := back_undoes hd
      show runE _ (backT s x :: acc) = some s0
      rw [runE]
      rw [show (backT s x).1 = backK s x.1 x.2.1 x.2.2 from rfl, show (backT s x).2.1 = backA s x.1 x.2.1 x.2.2 from rfl, show (backT s x).2.2 = backG s x.1 x.2.1 x.2.2 from rfl]
      rw [if_pos b1, b2, h2]
    · cases h
theorem backsE_length (xs : List EditT) : ∀ (s : ByteArray) (acc : List EditT), (backsE s xs acc).length = xs.length + acc.length := by
  induction xs with
  | nil => intro s acc; simp [backsE]
  | cons x xs ih => intro s acc; rw [backsE, ih]; simp; omega
end Go.Proofs.Ytiejfbodcjckeaa
