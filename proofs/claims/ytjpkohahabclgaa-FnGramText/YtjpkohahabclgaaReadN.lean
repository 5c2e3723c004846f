/- The model's cutting of a text; it reads the text of a grammar back too. -/
import Derived.Test.YtjpkohahabclgaaReadM
namespace Go.Proofs.Ytjpkohahabclgaa
open Go.ChangeShapes Go.WideShapes Go.ChangeAt Go.RowKit
set_option maxRecDepth 100000
def stepS (c : UInt8) (p : List (List UInt8) × List UInt8) (b : UInt8) : List (List UInt8) × List UInt8 := if b = c then (p.1 ++ [p.2], []) else (p.1, p.2 ++ [b])
def scanS (c : UInt8) (l : List UInt8) : List (List UInt8) × List UInt8 := l.foldl (stepS c) ([], [])
/-- the pieces of a text between bytes c -/
def pieces (c : UInt8) (l : List UInt8) : List (List UInt8) := (scanS c l).1 ++ [(scanS c l).2]
theorem scan_snoc (c : UInt8) (l : List UInt8) (b : UInt8) : scanS c (l ++ [b]) = stepS c (scanS c l) b := by unfold scanS; rw [List.foldl_append]; rfl
theorem fold_acc (c : UInt8) : ∀ (l : List UInt8) (d : List (List UInt8)) (cur : List UInt8), l.foldl (stepS c) (d, cur) = (d ++ (l.foldl (stepS c) ([], cur)).1, (l.foldl (stepS c) ([], cur)).2)
  | [], d, cur => by simp
  | b :: l, d, cur => by
    rw [List.foldl_cons, List.foldl_cons]
    by_cases h : b = c
    · rw [show stepS c (d, cur) b = (d ++ [cur], []) from by simp [stepS, h], show stepS c ([], cur) b = ([cur], []) from by simp [stepS, h], fold_acc c l (d ++ [cur]) [], fold_acc c l [cur] []]
      simp
    · rw [show stepS c (d, cur) b = (d, cur ++ [b]) from by simp [stepS, h], show stepS c ([], cur) b = ([], cur ++ [b]) from by simp [stepS, h]]
      exact fold_acc c l d (cur ++ [b])
theorem fold_app {c : UInt8} : ∀ {x : List UInt8} (_ : c ∉ x) (y : List UInt8) (d : List (List UInt8)) (cur : List UInt8), (x ++ c :: y).foldl (stepS c) (d, cur) = y.foldl (stepS c) (d ++ [cur ++ x], [])
  | [], _, y, d, cur => by simp [stepS]
  | b :: x, h, y, d, cur => by
    rw [List.cons_append, List.foldl_cons]
    have hb : ¬ b = c := fun e => h (by simp [e])
    rw [show stepS c (d, cur) b = (d, cur ++ [b]) from by simp [stepS, hb], fold_app (fun hm => h (List.mem_cons_of_mem _ hm)) y d (cur ++ [b])]
    simp
theorem fold_not {c : UInt8} : ∀ {x : List UInt8} (_ : c ∉ x) (d : List (List UInt8)) (cur : List UInt8), x.foldl (stepS c) (d, cur) = (d, cur ++ x)
  | [], _, d, cur => by simp
  | b :: x, h, d, cur => by
    have hb : ¬ b = c := fun e => h (by simp [e])
    rw [List.foldl_cons, show stepS c (d, cur) b = (d, cur ++ [b]) from by simp [stepS, hb], fold_not (fun hm => h (List.mem_cons_of_mem _ hm)) d (cur ++ [b])]
    simp
theorem pieces_app {c : UInt8} {x : List UInt8} (h : c ∉ x) (y : List UInt8) : pieces c (x ++ c :: y) = x :: pieces c y := by
  unfold pieces scanS
  rw [fold_app h, fold_acc]
  simp
theorem pieces_not {c : UInt8} {x : List UInt8} (h : c ∉ x) : pieces c x = [x] := by
  unfold pieces scanS
  rw [fold_not h]
  simp
theorem pieces_pos (c : UInt8) (l : List UInt8) : 0 < (pieces c l).length := by unfold pieces; simp
def ruleOfP (x : List UInt8) : RuleT := (bytesOf ((pieces 62 x).getD 0 []), bytesOf ((pieces 62 x).getD 1 []))
def lineOf (r : RuleT) : List UInt8 := r.1.data.toList ++ 62 :: r.2.data.toList
theorem sym_not2 {s : ByteArray} (h : allSym s = true) : (62 : UInt8) ∉ s.data.toList := by
  intro hm
  unfold allSym symsTo at h
  rw [List.all_eq_true] at h
  have := h 62 (by rw [List.take_of_length_le (by simp)]; exact hm)
  revert this; decide
theorem ruleOfP_line {r : RuleT} (h : ruleOkB r = true) : ruleOfP (lineOf r) = r := by
  simp only [ruleOkB, Bool.and_eq_true] at h
  unfold ruleOfP lineOf
  rw [pieces_app (big_not h.1 (.inr rfl)), pieces_not (sym_not2 h.2.2)]
  simp [bytesOf_self]
theorem pieces_lines : ∀ (rs : List RuleT), (∀ r ∈ rs, ruleOkB r = true) → pieces 10 (rs.flatMap ruleTextL) = rs.map lineOf ++ [[]]
  | [], _ => by simp [pieces, scanS]
  | r :: rs, hr => by
    have h1 := hr r (by simp)
    simp only [ruleOkB, Bool.and_eq_true] at h1
    have e : (r :: rs).flatMap ruleTextL = lineOf r ++ 10 :: rs.flatMap ruleTextL := by simp [ruleTextL, lineOf]
    have hn : (10 : UInt8) ∉ lineOf r := by
      unfold lineOf
      rw [List.mem_append, List.mem_cons]
      rintro (h | h | h)
      · exact big_not h1.1 (.inl rfl) h
      · revert h; decide
      · exact sym_not h1.2.2 h
    rw [e, pieces_app hn, pieces_lines rs (fun x hx => hr x (List.mem_cons_of_mem _ hx))]
    simp
/-- the rules that the model has made of the first pieces, before piece k -/
def rulesTo (p : List (List UInt8)) (k : Nat) : List RuleT := ((p.drop 1).take (k - 1)).map ruleOfP
theorem rulesTo_succ {p : List (List UInt8)} {k : Nat} (h1 : 1 ≤ k) (h : k < p.length) : rulesTo p (k + 1) = rulesTo p k ++ [ruleOfP p[k]] := by
  unfold rulesTo
  obtain ⟨j, rfl⟩ : ∃ j, k = j + 1 := ⟨k - 1, by omega⟩
  rw [show j + 1 + 1 - 1 = j + 1 from by omega, show j + 1 - 1 = j from by omega, List.take_succ_eq_append_getElem (by rw [List.length_drop]; omega), List.map_append]
  simp
theorem rulesTo_len (p : List (List UInt8)) (k : Nat) : (rulesTo p k).length ≤ k - 1 := by unfold rulesTo; simp; omega
/-- where the model's loop ends -/
def lastP (p : List (List UInt8)) : Nat := if p.length < 2 then 1 else if p.length ≤ 11 then p.length - 1 else 10
theorem model_text {st : ByteArray} {rs : List RuleT} (h : gramOkB st rs = true) : bytesOf ((pieces 10 (gramTextL st rs)).getD 0 []) = st ∧ rulesTo (pieces 10 (gramTextL st rs)) (lastP (pieces 10 (gramTextL st rs))) = rs := by
  obtain ⟨h1, h2, h3, _⟩ := (ok_iff st rs).1 h
  have e : gramTextL st rs = st.data.toList ++ 10 :: rs.flatMap ruleTextL := by
    unfold gramTextL textTo
    rw [if_pos h, List.take_length]
  rw [e, pieces_app (big_not h1 (.inl rfl)), pieces_lines rs h3]
  refine ⟨by simp [bytesOf_self], ?_⟩
  have hl : (st.data.toList :: (rs.map lineOf ++ [[]])).length = rs.length + 2 := by simp
  have hp : lastP (st.data.toList :: (rs.map lineOf ++ [[]])) = rs.length + 1 := by
    unfold lastP
    rw [hl, if_neg (by omega), if_pos (by omega)]; omega
  rw [hp]
  unfold rulesTo
  rw [show rs.length + 1 - 1 = rs.length from by omega, List.drop_one, List.tail_cons, List.take_append_of_le_length (by simp), List.take_of_length_le (by simp), List.map_map]
  conv => rhs; rw [← List.map_id rs]
  exact List.map_congr_left fun r hr => ruleOfP_line (h3 r hr)
/-- the model's answer is the program's -/
theorem model_says {t : List UInt8} : (t ≠ [] ∧ gramTextL (bytesOf ((pieces 10 t).getD 0 [])) (rulesTo (pieces 10 t) (lastP (pieces 10 t))) = t → goodT t = true ∧ rdS t = bytesOf ((pieces 10 t).getD 0 []) ∧ rdR t = rulesTo (pieces 10 t) (lastP (pieces 10 t))) ∧
    (¬ (t ≠ [] ∧ gramTextL (bytesOf ((pieces 10 t).getD 0 [])) (rulesTo (pieces 10 t) (lastP (pieces 10 t))) = t) → goodT t = false) := by
  refine ⟨fun ⟨h1, h2⟩ => good_of h1 h2, fun hn => ?_⟩
  cases hg : goodT t with
  | false => rfl
  | true =>
    exfalso
    apply hn
    unfold goodT at hg
    simp only [Bool.and_eq_true, beq_iff_eq] at hg
    obtain ⟨e1, e2⟩ := model_text hg.1
    rw [hg.2] at e1 e2
    rw [e1, e2]
    exact ⟨by rw [← hg.2]; exact text_ne hg.1, hg.2⟩
end Go.Proofs.Ytjpkohahabclgaa
