/- A tree made of a row of kids; an append of a kid to the kids. -/
import Derived.Test.YtpkejcjjbkgomaaDoorEndA
import Derived.Test.YtpkejcjjbkgomaaDoorDrawF
import Derived.Maps.AppendAt
namespace Go.Proofs.YtpkejcjjbkgomaaDoor
open Go.ChangeShapes Go.WideShapes Go.ChangeAt Go.RowKit Go.Deep
set_option maxRecDepth 100000
/-- a kid as it lies in three cells -/
abbrev Kid := ByteArray × Int × Value
def kidVal (u : Kid) : Value := .agg #[.string u.1, .int .i64 u.2.1, u.2.2]
def flatK (us : List Kid) : List Value := us.flatMap fun u => [.string u.1, .int .i64 u.2.1, u.2.2]
theorem flatK_len (us : List Kid) : (flatK us).length = us.length * 3 := by
  unfold flatK
  induction us with
  | nil => rfl
  | cons x l ih => rw [List.flatMap_cons, List.length_append, ih, List.length_cons]; simp; omega
theorem flatK_at : ∀ (us : List Kid) (j : Nat) (h : j < us.length), (flatK us)[j * 3]? = some (.string us[j].1) ∧ (flatK us)[j * 3 + 1]? = some (.int .i64 us[j].2.1) ∧ (flatK us)[j * 3 + 2]? = some us[j].2.2
  | [], j, h => absurd h (Nat.not_lt_zero _)
  | x :: us, 0, h => ⟨rfl, rfl, rfl⟩
  | x :: us, j + 1, h => by
    have h' : j < us.length := by simpa using h
    have := flatK_at us j h'
    have e : flatK (x :: us) = [.string x.1, .int .i64 x.2.1, x.2.2] ++ flatK us := rfl
    rw [e, List.getElem?_append_right (by simp; omega), List.getElem?_append_right (by simp; omega), List.getElem?_append_right (by simp; omega)]
    simp only [List.length_cons, List.length_nil, Nat.reduceAdd, List.getElem_cons_succ]
    rw [show (j + 1) * 3 - 3 = j * 3 from by omega, show (j + 1) * 3 + 1 - 3 = j * 3 + 1 from by omega, show (j + 1) * 3 + 2 - 3 = j * 3 + 2 from by omega]
    exact this
/-- the kids lie in a row of the call's own, each with its tree in blocks of A -/
structure KidsQ (w : World) (B : Nat) (A : Nat → Prop) (v : Value) (us : List Kid) (ks : List Tr) : Prop where
  row : w.ownsRow B 29 3 v us.length (flatK us)
  len : us.length = ks.length
  kid : ∀ j (h : j < us.length), TrQ w A (kidVal us[j]) (ks[j]'(by rw [← len]; exact h))
theorem TrQ.make {w : World} {B : Nat} {A : Nat → Prop} {s : ByteArray} {r : Int} {v : Value} {us : List Kid} {ks : List Tr} (hs : s.size ≤ maxLen) (hr : (Lit.int .i64 r).wf = true) (H : KidsQ w B A v us ks) (hA : ∀ k, B ≤ k → A k) : TrQ w A (.agg #[.string s, .int .i64 r, v]) (.node s r ks) := by
  rcases H.row.2 with ⟨rfl, h0⟩ | ⟨g, cap, cur, rfl, hB, hh, hl, hm, hsz, ht⟩
  · have hu : us = [] := List.eq_nil_of_length_eq_zero h0
    have hk : ks = [] := List.eq_nil_of_length_eq_zero (by rw [← H.len]; exact h0)
    subst hk
    exact ⟨s, r, [], none, 0, fun _ => False, rfl, rfl, hs, hr, Nat.zero_le _, Nat.le_refl _, fun i hi => absurd hi (Nat.not_lt_zero _), fun i hi => absurd hi (Nat.not_lt_zero _), fun k hk => hk.elim⟩
  · have hcell : ∀ j (h : j < us.length), w.cell? ⟨g, j * 3, none⟩ = some (.string us[j].1) ∧ w.cell? ⟨g, j * 3 + 1, none⟩ = some (.int .i64 us[j].2.1) ∧ w.cell? ⟨g, j * 3 + 2, none⟩ = some us[j].2.2 := by
      intro j h
      obtain ⟨e0, e1, e2⟩ := flatK_at us j h
      have cv : ∀ q x, q < us.length * 3 → (flatK us)[q]? = some x → w.cell? ⟨g, q, none⟩ = some x := by
        intro q x hq hx
        rw [← ht, List.getElem?_take, if_pos hq] at hx
        rw [cell_of_block hh]
        simpa using hx
      exact ⟨cv _ _ (by omega) e0, cv _ _ (by omega) e1, cv _ _ (by omega) e2⟩
    have each : ∀ j : Nat, ∃ q : PT × (Nat → Prop), ∀ h : j < us.length, q.1.b = g ∧ q.1.o = j * 3 ∧ q.1.tr = ks[j]'(by rw [← H.len]; exact h) ∧ PtIn w (fun k => q.2 k ∨ k = g) q.1 ∧ ∀ k, q.2 k → A k ∧ PlainB w k := by
      intro j
      by_cases h : j < us.length
      · obtain ⟨s', r', ps, a', cap', M, e1, e2, h1, h2, h3, h4, h5, h6, h7⟩ := H.kid j h
        unfold kidVal at e1
        simp only [Value.agg.injEq, Array.mk.injEq, List.cons.injEq, Value.string.injEq, Value.int.injEq, true_and, and_true] at e1
        obtain ⟨c0, c1, c2⟩ := hcell j h
        rw [e1.1] at c0
        rw [e1.2.1] at c1
        rw [e1.2.2] at c2
        exact ⟨(.node g (j * 3) s' r' ps, M), fun _ => ⟨rfl, rfl, by rw [PT.tr, e2], .node g (j * 3) s' r' ps a' cap' (.inr rfl) c0 c1 c2 h1 h2 h3 h4 h5 (fun i hi => (h6 i hi).stay (fun _ _ => rfl) (fun _ h => .inl h)), h7⟩⟩
      · exact ⟨(.node 0 0 ByteArray.empty 0 [], fun _ => False), fun h' => absurd h' h⟩
    obtain ⟨q, hq⟩ := Classical.axiomOfChoice each
    refine ⟨s, r, (List.range us.length).map fun j => (q j).1, some ⟨g, 0, none⟩, cap, fun k => (∃ j, j < us.length ∧ (q j).2 k) ∨ k = g, by simp, ?_, hs, hr, by simp; omega, by simpa using hl, fun i hi => ?_, fun i hi => ?_, fun k hk => ?_⟩
    · congr 1
      apply List.ext_getElem (by simp [H.len])
      intro i h1 h2
      have hi : i < us.length := by rw [H.len]; exact h1
      simpa using (hq i hi).2.2.1.symm
    · have hi' : i < us.length := by simpa using hi
      exact ⟨g, 0, rfl, by simpa using (hq i hi').1, by simpa using (hq i hi').2.1⟩
    · have hi' : i < us.length := by simpa using hi
      have := (hq i hi').2.2.2.1
      simp only [List.getElem_map, List.getElem_range]
      exact this.stay (fun _ _ => rfl) (fun k hk => by rcases hk with h | h; exact .inl ⟨i, hi', h⟩; exact .inr h)
    · rcases hk with ⟨j, hj, hk⟩ | rfl
      · exact (hq j hj).2.2.2.2 k hk
      · exact ⟨hA _ hB, ⟨cur, _, hh⟩⟩
theorem infoTree3 : (Tryd.prog.info? 29).map (fun i => (i.zero, i.size, i.bytes)) = some (some (.agg #[.string ByteArray.empty, .int .i64 0, .slice none 0 0]), 3, 48) := by kernel_rfl
theorem flatK_snoc (us : List Kid) (u : Kid) : flatK (us ++ [u]) = flatK us ++ [.string u.1, .int .i64 u.2.1, u.2.2] := by simp [flatK]
/-- a kid more: where the row lies now, and that the elder kids stand -/
theorem KidsQ.grown {w w' : World} {B : Nat} {v v' : Value} {us : List Kid} {ks : List Tr} {u : Kid} {T : Tr} {L : Nat} (H : KidsQ w B (fun k => B ≤ k ∧ v.ownBlock ≠ some k) v us ks) (hu : TrQ w (fun k => B ≤ k ∧ v.ownBlock ≠ some k) (kidVal u) T)
    (hrow : w'.ownsRow B 29 3 v' (us.length + 1) (flatK (us ++ [u]))) (hg : w.grownBy w' v.ownBlock) (hat : v'.ownBlock = v.ownBlock ∨ v'.ownBlock = some L) (hL : w.heap.size ≤ L) : KidsQ w' B (fun k => B ≤ k ∧ v'.ownBlock ≠ some k) v' (us ++ [u]) (ks ++ [T]) := by
  have hmove : ∀ x X, TrQ w (fun k => B ≤ k ∧ v.ownBlock ≠ some k) x X → TrQ w' (fun k => B ≤ k ∧ v'.ownBlock ≠ some k) x X := fun x X h => by
    have h1 := h.mono (A' := fun k => (B ≤ k ∧ v.ownBlock ≠ some k) ∧ v'.ownBlock ≠ some k) (fun k hk hlt => ⟨hk, fun e => by
      rcases hat with h | h
      · exact hk.2 (h ▸ e)
      · rw [h] at e; simp at e; omega⟩)
    exact (h1.stay (fun k hk hlt => hg.block k hlt (fun e => hk.1.2 e.symm))).mono (fun k hk _ => ⟨hk.1.1, hk.2⟩)
  refine ⟨by rw [List.length_append]; exact hrow, by simp [H.len], fun j hj => ?_⟩
  by_cases h : j < us.length
  · have hk : j < ks.length := by rw [← H.len]; exact h
    rw [List.getElem_append_left h, List.getElem_append_left hk]
    exact hmove _ _ (H.kid j h)
  · have e : j = us.length := by simp at hj; omega
    subst e
    have e2 := H.len
    simp only [List.getElem_concat_length, e2]
    exact hmove _ _ hu
theorem step_append_kid {ops : Array Oper} {o : Oper} {a : Act} {w : World} {K : Act → World → Prop} {Q : Exit → Act → World → Prop} {E : Prop} (hgd : o.guard = none) (s x : Operand)
    (ho : o.op = .call { callee := .builtin .append, args := #[s, x], argTypes := #[27, 27] })
    (B : Nat) (v : Value) (us : List Kid) (u : Kid) (nb : Nat) (hs : a.eval s = v) (hx : a.eval x = .slice (some ⟨nb, 0, none⟩) 1 1) (hown : w.ownsRow B 29 3 v us.length (flatK us)) (hnb : w.heap[nb]? = some (.cells #[.string u.1, .int .i64 u.2.1, u.2.2] 29))
    (hone : u.2.2.oneCell' = true) (hlen : us.length ≤ 1000) (hB : B ≤ w.heap.size)
    (h : ∀ g cap w', w'.ownsRow B 29 3 (.slice (some ⟨g, 0, none⟩) (us.length + 1) cap) (us.length + 1) (flatK (us ++ [u])) → w.grownBy w' v.ownBlock → ((Value.slice (some ⟨g, 0, none⟩) (us.length + 1) cap).ownBlock = v.ownBlock ∨ (Value.slice (some ⟨g, 0, none⟩) (us.length + 1) cap).ownBlock = some w.heap.size) → K (a.put o.dst (.slice (some ⟨g, 0, none⟩) (us.length + 1) cap)) w') :
    if Region.wanted o (yielded ops a.tmps) = true then Oper.wp Tryd.prog o a w K Q else E := by
  obtain ⟨i0, hi0, hzz⟩ := Option.map_eq_some_iff.1 infoTree3
  simp only [Prod.mk.injEq] at hzz
  obtain ⟨hz0, hz1, hz2⟩ := hzz
  have hw : Region.wanted o (yielded ops a.tmps) = true := by simp [Region.wanted, hgd]
  rw [if_pos hw]
  obtain ⟨v', w', hr, h1, h2, h3, h4⟩ := run_append_own_at (P := Tryd.prog) w B 27 o.type 29 i0 _ 3 48 Tryd.underlying27 hi0 hz0 hz1 hz2 rfl (by decide) v us.length (flatK us) hown ⟨nb, 0, none⟩ 1 1 [.string u.1, .int .i64 u.2.1, u.2.2] rfl (fun j y hj => by
      rw [WideShapes.add_plain]
      match j, hj with
      | 0, hj => rw [cell_of_block hnb]; simpa using hj
      | 1, hj => rw [cell_of_block hnb]; simpa using hj
      | 2, hj => rw [cell_of_block hnb]; simpa using hj) (fun y hy => by
      simp only [List.mem_cons, List.not_mem_nil, or_false] at hy
      rcases hy with rfl | rfl | rfl
      · rfl
      · rfl
      · exact hone) (by unfold maxLen; omega) (by omega) hB
  unfold Oper.wp execOp
  simp only [ho, resolve, invoke, builtin, Sem.run_bind, Sem.run_pure, Result.andThen_ok, List.map_toArray, List.map_cons, List.map_nil, hs, hx, hr]
  rw [← flatK_snoc] at h1
  rcases h1.2 with ⟨_, h0⟩ | ⟨g, cap, cur, rfl, hrest⟩
  · omega
  · exact h g cap w' h1 h2 h4
end Go.Proofs.YtpkejcjjbkgomaaDoor
