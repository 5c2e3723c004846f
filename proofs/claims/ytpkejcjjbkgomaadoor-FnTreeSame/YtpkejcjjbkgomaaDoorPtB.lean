/- What the program's TreeOk counts over the events of a walk is what the model says of the tree. -/
import Derived.Test.YtpkejcjjbkgomaaDoorPtA
import Derived.Test.YtpkejcjjbkgomaaDoorTreF
namespace Go.Proofs.YtpkejcjjbkgomaaDoor
open Go.ChangeShapes Go.WideShapes Go.ChangeAt Go.RowKit Go.Deep
set_option maxRecDepth 100000
/-- a node looked at alone, with the signs of its kids -/
def nodeB (rs : List RuleT) : Tr → Bool
  | .node s r ks => if isSmallS s = true then r == -1 && ks.length == 0 else match ruleAt rs r s ks.length with
    | some rt => kidsTo (fun _ => true) rt ks ks.length
    | none => false
theorem kidsTo_split (f : Tr → Bool) (rt : ByteArray) (ks : List Tr) : ∀ i, i ≤ ks.length → kidsTo f rt ks i = (kidsTo (fun _ => true) rt ks i && (ks.take i).all f)
  | 0, _ => by simp [kidsTo]
  | i + 1, h => by
    rw [kidsTo_succ (by omega), kidsTo_succ (by omega), kidsTo_split f rt ks i (by omega), List.take_succ_eq_append_getElem (by omega : i < ks.length), List.all_append]
    unfold kidB
    simp only [List.all_cons, List.all_nil, Bool.and_true]
    cases kidsTo (fun _ => true) rt ks i <;> cases (ks.take i).all f <;> cases (ks[i].sign.toList == (rt.extract i (i + 1)).toList) <;> rfl
theorem nodeB_eq (rs : List RuleT) (s : ByteArray) (r : Int) (ks : List Tr) : nodeB rs (.node s r ks) = if isSmallS s = true then r == -1 && ks.length == 0 else match ruleAt rs r s ks.length with
    | some rt => kidsTo (fun _ => true) rt ks ks.length
    | none => false := rfl
theorem shape_split (rs : List RuleT) (d : Nat) (s : ByteArray) (r : Int) (ks : List Tr) : shapeB rs (d + 1) (.node s r ks) = (nodeB rs (.node s r ks) && ks.all (shapeB rs d)) := by
  rw [shapeB, nodeB_eq]
  by_cases h : isSmallS s = true
  · rw [if_pos h, if_pos h]
    cases ks with
    | nil => simp
    | cons k ks => simp
  · rw [if_neg h, if_neg h]
    cases ruleAt rs r s ks.length with
    | none => rfl
    | some rt =>
      show kidsTo (shapeB rs d) rt ks ks.length = _
      rw [kidsTo_split _ _ _ _ (Nat.le_refl _), List.take_length]
theorem many_shape (rs : List RuleT) : ∀ (d : Nat) (T : Tr), shapeB rs d T = true → manyD d T = T.sz
  | 0, T, h => by simp [shapeB] at h
  | d + 1, .node s r ks, h => by
    rw [shape_split, Bool.and_eq_true, List.all_eq_true] at h
    rw [Tr.sz]
    show 1 + (ks.map (manyD d)).sum = _
    rw [List.map_congr_left (fun k hk => many_shape rs d k (h.2 k hk))]
/-- what TreeOk does with the events that are left: n nodes counted, d of them open -/
def okRun (rs : List RuleT) : Nat → Nat → List (PT × Bool) → Bool
  | _, _, [] => true
  | n, d, (_, false) :: es => okRun rs n (d - 1) es
  | n, d, (t, true) :: es => if 60 < n + 1 ∨ 20 < d + 1 ∨ nodeB rs t.tr = false then false else okRun rs (n + 1) (d + 1) es
def szs (l : List PT) : Nat := (l.map PT.sz).sum
theorem okRun_kids (rs : List RuleT) (d : Nat) : ∀ (l : List PT), (∀ t ∈ l, ∀ n rest, okRun rs n d (t.evs ++ rest) = if shapeB rs (20 - d) t.tr = true ∧ n + t.sz ≤ 60 then okRun rs (n + t.sz) d rest else false) →
    ∀ n rest, n ≤ 60 → okRun rs n d (l.flatMap PT.evs ++ rest) = if (l.map PT.tr).all (shapeB rs (20 - d)) = true ∧ n + szs l ≤ 60 then okRun rs (n + szs l) d rest else false
  | [], _, n, rest, hn => by simp [szs, hn]
  | t :: l, h, n, rest, hn => by
    have h1 := h t (List.mem_cons_self ..)
    have h2 := okRun_kids rs d l (fun x hx => h x (List.mem_cons_of_mem _ hx))
    rw [List.flatMap_cons, List.append_assoc, h1]
    have e1 : szs (t :: l) = t.sz + szs l := by simp [szs]
    have e2 : ((t :: l).map PT.tr).all (shapeB rs (20 - d)) = (shapeB rs (20 - d) t.tr && (l.map PT.tr).all (shapeB rs (20 - d))) := by simp
    rw [e1, e2]
    by_cases hs : shapeB rs (20 - d) t.tr = true
    · by_cases hz : n + t.sz ≤ 60
      · rw [if_pos ⟨hs, hz⟩, h2 _ _ hz, hs, Bool.true_and, show n + t.sz + szs l = n + (t.sz + szs l) from by omega]
      · rw [if_neg (fun h => hz h.2), if_neg (fun h => by omega)]
    · rw [if_neg (fun h => hs h.1), if_neg (fun h => by rw [Bool.and_eq_true] at h; exact hs h.1.1)]
theorem okRun_evs (rs : List RuleT) (m : Nat) : ∀ (t : PT), t.sz ≤ m → ∀ n d rest, okRun rs n d (t.evs ++ rest) = if shapeB rs (20 - d) t.tr = true ∧ n + t.sz ≤ 60 then okRun rs (n + t.sz) d rest else false := by
  induction m with
  | zero => intro t h; have := t.sz_pos; omega
  | succ m ih =>
    intro t ht n d rest
    have hkid := okRun_kids rs (d + 1) t.ks (fun k hk n rest => ih k (by have := PT.sz_kid hk; omega) n (d + 1) rest)
    have hsz : t.sz = 1 + szs t.ks := by
      show t.tr.sz = _
      rw [t.tr_eq, Tr.sz, List.map_map]; rfl
    rw [t.evs_eq, List.cons_append, okRun]
    by_cases h60 : 60 < n + 1
    · rw [if_pos (.inl h60), if_neg (fun h => by omega)]
    · by_cases h20 : 20 < d + 1
      · rw [if_pos (.inr (.inl h20)), if_neg]
        rintro ⟨h, _⟩
        rw [show 20 - d = 0 from by omega] at h
        simp [shapeB] at h
      · have h21 : 20 - d = (20 - (d + 1)) + 1 := by omega
        have hsp : shapeB rs (20 - d) t.tr = (nodeB rs t.tr && (t.ks.map PT.tr).all (shapeB rs (20 - (d + 1)))) := by rw [h21, t.tr_eq, shape_split]
        rw [hsp]
        cases hnb : nodeB rs t.tr with
        | false => rw [if_pos (.inr (.inr rfl)), if_neg (fun h => by simp at h)]
        | true =>
          rw [if_neg (by rintro (h | h | h) <;> first | omega | cases h), List.append_assoc, hkid _ _ (by omega), hsz, Bool.true_and]
          by_cases hc : (t.ks.map PT.tr).all (shapeB rs (20 - (d + 1))) = true ∧ n + 1 + szs t.ks ≤ 60
          · rw [if_pos hc, if_pos ⟨hc.1, by omega⟩, List.cons_append, List.nil_append, okRun, show n + 1 + szs t.ks = n + (1 + szs t.ks) from by omega, show d + 1 - 1 = d from by omega]
          · rw [if_neg hc, if_neg (fun h => hc ⟨h.1, by omega⟩)]
theorem okRun_all (rs : List RuleT) (t : PT) : okRun rs 0 0 t.evs = (shapeB rs 20 t.tr && decide ((manyD 20 t.tr : Int) ≤ 60)) := by
  have h := okRun_evs rs t.sz t (Nat.le_refl _) 0 0 []
  rw [List.append_nil] at h
  rw [h]
  cases hs : shapeB rs 20 t.tr with
  | false => rw [if_neg (fun h => by simp at h)]; rfl
  | true =>
    rw [many_shape rs 20 _ hs, Bool.true_and]
    show _ = decide ((t.sz : Int) ≤ 60)
    by_cases hz : t.sz ≤ 60
    · rw [if_pos ⟨rfl, by omega⟩, okRun]; simp; omega
    · rw [if_neg (fun h => by omega)]; simp; omega
end Go.Proofs.YtpkejcjjbkgomaaDoor
