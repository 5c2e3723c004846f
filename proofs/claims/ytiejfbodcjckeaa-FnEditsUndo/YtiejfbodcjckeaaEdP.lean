/- The walk of FnEditsUndo. -/
import Derived.Test.YtiejfbodcjckeaaEdN
namespace Go.Proofs.Ytiejfbodcjckeaa
open Go.ChangeShapes Go.WideShapes Go.ChangeAt Go.RowKit
set_option maxRecDepth 100000
theorem OwnEd.lit1 (w : World) (B : Nat) (k a : Int) (g : ByteArray) (hB : B ≤ w.heap.size) : OwnEd (w.alloc (.cells #[.int .i64 k, .int .i64 a, .string g] 27)) B w.heap.size [(k, a, g)] 1 :=
  World.ownsRow_lit w #[.int .i64 k, .int .i64 a, .string g] 1 hB (by decide) rfl
theorem back_wf (s : ByteArray) (x : EditT) (hx : EditWf x) : EditWf (backT s x) := by
  have hg : (backG s x.1 x.2.1 x.2.2).size ≤ 1000 := by
    unfold backG
    split
    · split
      · exact Nat.zero_le _
      · unfold cutE; simp; omega
    · exact Nat.zero_le _
  refine ⟨?_, ?_, by show (backG s x.1 x.2.1 x.2.2).size ≤ maxLen; unfold maxLen; omega⟩
  · show (Lit.int .i64 (backK s x.1 x.2.1 x.2.2)).wf = true
    unfold backK
    split
    · split
      · decide
      · split <;> decide
    · decide
  · show (Lit.int .i64 (backA s x.1 x.2.1 x.2.2)).wf = true
    unfold backA
    split
    · exact hx.2.1
    · decide
theorem list_append_edits {ops : Array Oper} {rest : List Oper} {o : Oper} {a : Act} {w : World} {Q : Exit → Act → World → Prop} (hgd : o.guard = none) (s x : Operand)
    (ho : o.op = .call { callee := .builtin .append, args := #[s, x], argTypes := #[36, 36] })
    (B g cap b off c : Nat) (xs ys : List EditT) (hs : a.eval s = .slice (some ⟨g, 0, none⟩) xs.length cap) (hx : a.eval x = .slice (some ⟨b, off, none⟩) ys.length c) (hown : OwnEd w B g xs cap)
    (hc : ∀ j u, (flatE ys)[j]? = some u → w.cell? ⟨b, off + j, none⟩ = some u) (hlen : xs.length + ys.length ≤ 1000000) (hB : B ≤ w.heap.size)
    (h : ∀ g' cap' w', OwnEd w' B g' (xs ++ ys) cap' → w.grownBy w' (some g) → wpList Try.prog ops Q rest (a.put o.dst (.slice (some ⟨g', 0, none⟩) (xs.length + ys.length) cap')) w') :
    wpList Try.prog ops Q (o :: rest) a w := by
  obtain ⟨i0, hi0, hz0, hz1, hz2⟩ := info_parts infoEdit
  refine wpList_append_own w hgd s x 36 ho B 27 i0 (.agg #[.int .i64 0, .int .i64 0, .string ByteArray.empty]) 3 32 Try.underlying36 hi0 hz0 hz1 hz2 rfl (by decide) (.slice (some ⟨g, 0, none⟩) xs.length cap) xs.length (flatE xs) hs hown ⟨b, off, none⟩ ys.length c (flatE ys) hx (flatE_len ys)
    (fun j u hj => by
      have e : (⟨b, off, none⟩ : Addr).add j = ⟨b, off + j, none⟩ := by cases j <;> simp [Addr.add]
      rw [e]; exact hc j u hj) (fun u hu => by
      unfold flatE at hu
      obtain ⟨y, _, hy⟩ := List.mem_flatMap.1 hu
      simp only [List.mem_cons, List.not_mem_nil, or_false] at hy
      rcases hy with rfl | rfl | rfl <;> rfl) (by unfold maxLen; omega) (by omega) hB ?_
  intro v' w' h1 h2 h3
  rcases h1.2 with ⟨hn, _⟩ | ⟨g', cap', cur', hv', _⟩
  · have := (h3.1 hn).1; cases this
  · subst hv'
    refine h g' cap' w' ?_ h2
    unfold OwnEd
    rw [flatE_append, List.length_append]
    exact h1
theorem OwnEd.flat {w : World} {B g : Nat} {xs : List EditT} {cap : Nat} (h : OwnEd w B g xs cap) : ∀ j u, (flatE xs)[j]? = some u → w.cell? ⟨g, 0 + j, none⟩ = some u := by
  intro j u hj
  have hlt := (List.getElem?_eq_some_iff.1 hj).1
  rw [flatE_len] at hlt
  rw [Nat.zero_add, World.ownsRow.cellAt h j hlt]
  exact hj
/-- the edits that take the first ones back, the last one first -/
def BackRow (w0 wr : World) (v : Value) (acc : List EditT) : Prop := ∃ g cap, v = .slice (some ⟨g, 0, none⟩) acc.length cap ∧ OwnEd wr w0.heap.size g acc cap ∧ SmallE acc
theorem backsE_go (s : ByteArray) (x : EditT) (xs acc : List EditT) : backsE s (x :: xs) acc = backsE (doS s x.1 x.2.1 x.2.2) xs (backT s x :: acc) := rfl
set_option maxHeartbeats 4000000 in
theorem editsUndoF_law (p : Option Addr) (n cap : Nat) (w : World) (H : BytesAt w p n cap) :
    Calls Try.prog 10 #[.slice p n cap] w fun e w' => e = .returned (.bool true) ∧ Below w.heap.size w w' := by
  by_cases h1 : (1048576 : Int) < (n : Int)
  · go_enter Try.func10, Try.ntmps10
    go_wp2
    go_ret
    exact ⟨rfl, Below.refl _ _⟩
  go_enter Try.func10, Try.ntmps10
  go_wp2_with fail
  refine (drawEditsDo_any p n cap _ H).mono ?_
  rintro e w2 ⟨s, g, cp, xs, rfl, hs, hat, hl, B2⟩
  go_wp2_with fail
  refine (editsDo_any s _ _ xs _ (by unfold maxLen; omega) hat).mono ?_
  rintro e w3 ⟨rfl, hb3⟩
  have B3 := below_on B2 hb3 (Nat.le_refl _)
  have hat3 := hat.below hb3 (Nat.le_refl _)
  clear B2 hb3 hat
  go_wp2_with fail
  refine (sEditsDo_any s _ _ xs _ (by unfold maxLen; omega) hat3).mono ?_
  rintro e w4 ⟨rfl, hb4⟩
  have B4 := below_on B3 hb4 (Nat.le_refl _)
  have hat4 := hat3.below hb4 (Nat.le_refl _)
  clear B3 hb4 hat3
  cases hq : manyE s xs with
  | none =>
    clear hq
    go_wp2
    go_ret
    exact ⟨rfl, B4⟩
  | some x =>
    obtain ⟨hlong, hrun, h12⟩ := manyE_run hq
    have hx := manyE_size s xs x hq
    clear hq
    simp only [Option.getD_some, Option.isSome_some]
    have hlx : longB x = true := by
      have : ∀ (xs : List EditT) (s x : ByteArray), longB s = true → runE s xs = some x → longB x = true := by
        intro xs
        induction xs with
        | nil => intro s x h1 h2; simp only [runE, Option.some.injEq] at h2; subst h2; exact h1
        | cons y ys ih =>
          intro s x h1 h2
          rw [runE] at h2
          split at h2
          · rename_i hd
            refine ih _ _ ?_ h2
            unfold doS
            rw [if_pos hd]
            unfold doB at hd
            simp only [Bool.and_eq_true] at hd
            exact hd.2.2
          · cases h2
      exact this xs s x hlong hrun
    have hback : manyE x (backsE s xs []) = some s := by
      unfold manyE
      rw [if_pos ⟨hlx, by rw [backsE_length]; simp; omega⟩]
      exact backs_run xs s x s [] hrun rfl
    have HB := Lib.hid hback
    have HRUN := Lib.hid hrun
    clear hback hrun hlx hlong
    have hO := OwnEd.lit0 w4 w4.heap.size (Nat.le_refl _)
    have hbO := (Below.refl w4.heap.size w4).alloc (Nat.le_refl _) (.cells #[] 27)
    go_wp2
    go_loopw [9, 10, 11] (fun bv tv i wr => ∃ (k : Nat) (t : ByteArray) (acc : List EditT), k ≤ xs.length ∧ i = .int .i64 k ∧ tv = .string t ∧ t.size ≤ 1000 ∧ acc.length = k ∧ BackRow w4 wr bv acc ∧ Hid (runE t (xs.drop k) = some x ∧ backsE t (xs.drop k) acc = backsE s xs []) ∧ Below w4.heap.size w4 wr) (fun _ _ i _ => xs.length - (intOf i).toNat)
    case atStart => exact ⟨0, s, [], Nat.zero_le _, rfl, rfl, by omega, rfl, ⟨w4.heap.size, 0, rfl, hO, fun y hy => (by cases hy)⟩, ⟨HRUN.out, rfl⟩, hbO⟩
    case round =>
      clear hO hbO
      obtain ⟨k, t, acc, hk, rfl, rfl, ht, hacc, ⟨gb, cb, rfl, hown, hsm⟩, HR, hb⟩ := hrel
      by_cases hlt : k < xs.length
      · have hatr := hat4.below hb (Nat.le_refl _)
        have hyes : doB t xs[k].1 xs[k].2.1 xs[k].2.2 = true ∧ runE (doS t xs[k].1 xs[k].2.1 xs[k].2.2) (xs.drop (k + 1)) = some x ∧ backsE (doS t xs[k].1 xs[k].2.1 xs[k].2.2) (xs.drop (k + 1)) (backT t xs[k] :: acc) = backsE s xs [] := by
          have h1 := HR.out.1
          have h2 := HR.out.2
          rw [runE_step t xs k hlt] at h1
          rw [List.drop_eq_getElem_cons hlt, backsE_go] at h2
          split at h1
          · exact ⟨by assumption, h1, h2⟩
          · cases h1
        have hwf := (hatr.2 k hlt).1
        have HY := Lib.hid hyes
        have hew := back_wf t xs[k] hwf
        clear hyes HR
        have HACC := Lib.hid hacc
        clear hacc
        obtain ⟨_, b1, off1, e1, hbb1, c0, c1, c2⟩ := hatr.2 k hlt
        simp only [Option.some.injEq, Addr.mk.injEq] at e1
        obtain ⟨rfl, rfl, _⟩ := e1
        rw [Nat.zero_add] at c0 c1 c2
        have hgen : ∀ w', Below wr.heap.size wr w' → w'.cell? ⟨g, k * 3, none⟩ = some (.int .i64 xs[k].1) ∧ w'.cell? ⟨g, k * 3 + 1, none⟩ = some (.int .i64 xs[k].2.1) ∧ w'.cell? ⟨g, k * 3 + 2, none⟩ = some (.string xs[k].2.2) := fun w' hw =>
          ⟨(hw.cell (p := ⟨g, _, none⟩) hbb1).trans c0, (hw.cell (p := ⟨g, _, none⟩) hbb1).trans c1, (hw.cell (p := ⟨g, _, none⟩) hbb1).trans c2⟩
        have HG := Lib.hid hgen
        clear hgen hatr hwf
        unfold backT at hew
        have hd := doS_size t xs[k].1 xs[k].2.1 xs[k].2.2
        obtain ⟨hdo, HN1, HN2⟩ := HY.out
        have HN : Hid (runE (doS t xs[k].1 xs[k].2.1 xs[k].2.2) (xs.drop (k + 1)) = some x ∧ backsE (doS t xs[k].1 xs[k].2.1 xs[k].2.2) (xs.drop (k + 1)) ((backK t xs[k].1 xs[k].2.1 xs[k].2.2, backA t xs[k].1 xs[k].2.1 xs[k].2.2, backG t xs[k].1 xs[k].2.1 xs[k].2.2) :: acc) = backsE s xs []) := ⟨HN1, HN2⟩
        clear HN1 HN2 HY
        have hbE := fun w' => editBack_any xs[k].1 xs[k].2.1 xs[k].2.2 t w' (by unfold maxLen; omega)
        have hdE := fun w' => editDo_any xs[k].1 xs[k].2.1 xs[k].2.2 t w' (by unfold maxLen; omega)
        unfold BackSays at hbE
        unfold DoSays at hdE
        rw [hdo] at hbE hdE
        clear hdo
        generalize doS t xs[k].1 xs[k].2.1 xs[k].2.2 = t' at *
        generalize backK t xs[k].1 xs[k].2.1 xs[k].2.2 = k' at *
        generalize backA t xs[k].1 xs[k].2.1 xs[k].2.2 = a' at *
        generalize backG t xs[k].1 xs[k].2.1 xs[k].2.2 = g' at *
        generalize xs[k] = y at *
        obtain ⟨zk, za, zg⟩ := y
        simp only [] at c0 c1 c2 hbE hdE HG
        go_wp2_with fail
        refine (hbE _).mono ?_
        rintro e w6 ⟨rfl, hb6⟩
        have hO6 := hown.keep hb6 (Nat.le_refl _)
        have hb6' := below_on hb hb6 (Nat.le_refl _)
        have hs6 := hb6.size
        have hs4 := hb.size
        clear hown hb c0 c1 c2 hbE
        have hO7 := (hO6.alloc (.cells #[.int .i64 k', .int .i64 a', .string g'] 27)).alloc (.cells #[.int .i64 k', .int .i64 a', .string g'] 27)
        have hL7 := OwnEd.lit1 (w6.alloc (.cells #[.int .i64 k', .int .i64 a', .string g'] 27)) w4.heap.size k' a' g' (by simp; omega)
        have hb7 := (hb6'.alloc hb6'.size (.cells #[.int .i64 k', .int .i64 a', .string g'] 27)).alloc (by simp; omega) (.cells #[.int .i64 k', .int .i64 a', .string g'] 27)
        have hr7 := (hb6.alloc hb6.size (.cells #[.int .i64 k', .int .i64 a', .string g'] 27)).alloc (by simp; omega) (.cells #[.int .i64 k', .int .i64 a', .string g'] 27)
        have hz7 : (w6.alloc (.cells #[.int .i64 k', .int .i64 a', .string g'] 27)).heap.size = w6.heap.size + 1 := by simp
        rw [hz7] at hL7
        have hz8 : ((w6.alloc (.cells #[.int .i64 k', .int .i64 a', .string g'] 27)).alloc (.cells #[.int .i64 k', .int .i64 a', .string g'] 27)).heap.size = w6.heap.size + 2 := by simp
        have HZ8 := Lib.hid hz8
        clear hz7 hz8 hO6 hb6 hb6'
        have hal := HACC.out
        have hlim : acc.length ≤ 13 := by omega
        clear hal
        go_wp2_with (at_builtin; refine list_append_edits rfl _ _ rfl w4.heap.size (w6.heap.size + 1) 1 gb 0 cb [(k', a', g')] acc rfl rfl hL7 hO7.flat (by simp; omega) (by rw [HZ8.out]; omega) ?_)
        intro g9 cap9 w9 hO9 hG9
        have hb9 := hb7.grown hG9 hb7.size (by intro q hq; simp at hq; omega)
        have hr9 := hr7.grown hG9 hr7.size (by intro q hq; simp at hq; omega)
        have hs9 := hr9.size
        obtain ⟨c0, c1, c2⟩ := HG.out w9 hr9
        clear hO7 hL7 hb7 hr7 hG9 HZ8
        have hgl : g < w9.heap.size := by omega
        go_wp2_with fail
        refine (hdE _).mono ?_
        rintro e w10 ⟨rfl, hb10⟩
        have hO10 := hO9.keep hb10 (Nat.le_refl _)
        have hb10' := below_on hb9 hb10 (Nat.le_refl _)
        clear hO9 hb9 hr9 hb10 hdE c0 c1 c2 hs9 hgl
        have hrow : BackRow w4 w10 (.slice (some ⟨g9, 0, none⟩) (1 + acc.length) cap9) ((k', a', g') :: acc) := ⟨g9, cap9, by simp [Nat.add_comm], hO10, fun y hy => by
          rcases List.mem_cons.1 hy with hy | hy
          · subst hy; exact hew
          · exact hsm y hy⟩
        have hlen : ((k', a', g') :: acc).length = k + 1 := by simp [HACC.out]
        have HLN := Lib.hid hlen
        clear hlen hO10
        go_wp2
        go_roundw
        case rel => exact ⟨k + 1, t', (k', a', g') :: acc, by omega, by go_num, rfl, by omega, HLN.out, hrow, HN, hb10'⟩
        case measure => simp [intOf]; omega
      · have hend := HR.out
        rw [List.drop_eq_nil_of_le (by omega)] at hend
        have hacc2 : acc = backsE s xs [] := hend.2
        have HE := Lib.hid hacc2
        clear hend hacc2 HR
        have hatb := hown.at (by omega) hsm
        have HACC := Lib.hid hacc
        clear hacc
        go_wp2_with fail
        refine (editsDo_any x _ _ acc _ (by unfold maxLen; omega) hatb).mono ?_
        rintro e w6 ⟨rfl, hb6⟩
        have B6 := below_on B4 (below_on hb hb6 (Nat.le_refl _)) (Nat.le_refl _)
        rw [HE.out, HB.out]
        clear hb hb6 hatb hown HE HB
        simp only [Option.getD_some, Option.isSome_some]
        have hne2 : (s.toList == s.toList) = true := by simp
        go_wp2
        go_ret
        exact ⟨rfl, B6⟩
end Go.Proofs.Ytiejfbodcjckeaa
