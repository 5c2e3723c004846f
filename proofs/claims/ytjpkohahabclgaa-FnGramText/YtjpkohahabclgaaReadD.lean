/- The contract of the model's GramRead. -/
import Derived.Test.YtjpkohahabclgaaReadC
namespace Go.Proofs.Ytjpkohahabclgaa
open Go.ChangeShapes Go.WideShapes Go.ChangeAt Go.RowKit
set_option maxRecDepth 100000
theorem list_append_read {ops : Array Oper} {rest : List Oper} {o : Oper} {a : Act} {w : World} {Q : Exit → Act → World → Prop} (hgd : o.guard = none) (s x : Operand)
    (ho : o.op = .call { callee := .builtin .append, args := #[s, x], argTypes := #[22, 22] })
    (B : Nat) (v : Value) (rs us : List RuleT) (b off c : Nat) (hs : a.eval s = v) (hx : a.eval x = .slice (some ⟨b, off, none⟩) us.length c) (hown : OwnR w B v rs) (hU : RulesAt w (some ⟨b, off, none⟩) us)
    (hlen : rs.length + us.length ≤ 1000) (hB : B ≤ w.heap.size)
    (h : ∀ g cap w', OwnR w' B (.slice (some ⟨g, 0, none⟩) (rs.length + us.length) cap) (rs ++ us) → w.grownBy w' v.ownBlock → wpList Try.prog ops Q rest (a.put o.dst (.slice (some ⟨g, 0, none⟩) (rs.length + us.length) cap)) w') :
    wpList Try.prog ops Q (o :: rest) a w := by
  obtain ⟨i0, hi0, hz0, hz1, hz2⟩ := info_parts infoRule
  refine wpList_append_own w hgd s x 22 ho B 55 i0 (.agg #[.string ByteArray.empty, .string ByteArray.empty]) 2 32 Try.underlying22 hi0 hz0 hz1 hz2 rfl (by decide) v rs.length (flatR rs) hs hown.2 ⟨b, off, none⟩ us.length c (flatR us) hx (flatR_len us) (rules_cells hU) (flatR_one us) (by unfold maxLen; omega) (by omega) hB ?_
  intro v' w' h1 h2 h3
  obtain ⟨g, cap, cur, hv, _⟩ := hown.block
  have hne : ¬ v' = .slice none 0 0 := fun e => by have := (h3.1 e).1; rw [hv] at this; cases this
  rcases h1.2 with ⟨h0, _⟩ | ⟨g', cap', cur', hv', hB', hh', hl', hm', hs', ht'⟩
  · exact absurd h0 hne
  · subst hv'
    refine h g' cap' w' ⟨⟨g', cap', by simp, hB', by simpa using hl'⟩, ?_⟩ h2
    rw [flatR_append, List.length_append]
    exact h1
theorem fold_le (c : UInt8) : ∀ (l : List UInt8) (d : List (List UInt8)) (cur : List UInt8) (n : Nat), (∀ x ∈ d, x.length ≤ n) → cur.length ≤ n → ∀ x ∈ (l.foldl (stepS c) (d, cur)).1 ++ [(l.foldl (stepS c) (d, cur)).2], x.length ≤ n + l.length
  | [], d, cur, n, h1, h2, x, hx => by
    rcases List.mem_append.1 hx with hx | hx
    · have := h1 x hx; omega
    · obtain rfl : x = cur := by simpa using hx
      omega
  | b :: l, d, cur, n, h1, h2, x, hx => by
    rw [List.foldl_cons] at hx
    by_cases h : b = c
    · rw [show stepS c (d, cur) b = (d ++ [cur], []) from by simp [stepS, h]] at hx
      have := fold_le c l (d ++ [cur]) [] n (fun y hy => by
        rcases List.mem_append.1 hy with hy | hy
        · exact h1 y hy
        · obtain rfl : y = cur := by simpa using hy
          exact h2) (Nat.zero_le _) x hx
      simp only [List.length_cons]; omega
    · rw [show stepS c (d, cur) b = (d, cur ++ [b]) from by simp [stepS, h]] at hx
      have := fold_le c l d (cur ++ [b]) (n + 1) (fun y hy => by have := h1 y hy; omega) (by simp; omega) x hx
      simp only [List.length_cons]; omega
theorem pieces_le (c : UInt8) (l : List UInt8) : ∀ x ∈ pieces c l, x.length ≤ l.length := fun x hx => by
  have := fold_le c l [] [] 0 (fun y hy => by cases hy) (Nat.le_refl _) x hx
  omega
theorem ruleOfP_size (x : List UInt8) : (ruleOfP x).1.size ≤ x.length ∧ (ruleOfP x).2.size ≤ x.length := by
  have h : ∀ i, ((pieces 62 x).getD i []).length ≤ x.length := fun i => by
    by_cases hi : i < (pieces 62 x).length
    · rw [List.getD_eq_getElem?_getD, List.getElem?_eq_getElem hi]
      exact pieces_le 62 x _ (List.getElem_mem hi)
    · rw [List.getD_eq_getElem?_getD, List.getElem?_eq_none (by omega)]
      simp
  unfold ruleOfP
  simp only [bytesOf_size]
  exact ⟨h 0, h 1⟩
theorem OwnR.fits {w : World} {B g n cap : Nat} {rs : List RuleT} (h : OwnR w B (.slice (some ⟨g, 0, none⟩) n cap) rs) (hf : Fits rs) : n = rs.length ∧ rs.length ≤ cap ∧ RulesAt w (some ⟨g, 0, none⟩) rs := by
  obtain ⟨⟨g', cap', e, _, hc⟩, h2⟩ := h
  simp only [Value.slice.injEq, Option.some.injEq, Addr.mk.injEq] at e
  obtain ⟨⟨rfl, _⟩, rfl, rfl⟩ := e
  obtain ⟨a, c', e2, _, hR⟩ := OwnN.fits (w := w) (B := B) (v := .slice (some ⟨g, 0, none⟩) rs.length cap) (rs := rs) h2 hf
  simp only [Value.slice.injEq] at e2
  rw [← e2.1] at hR
  exact ⟨rfl, hc, hR⟩
def SReadRel (st : ByteArray) (p : List (List UInt8)) (N : Nat) (w2 : World) (k : Nat) (wr : World) : Prop := ∃ g cap, BoxG wr (w2.heap.size + 1) (.string st) (.slice (some ⟨g, 0, none⟩) (rulesTo p k).length cap) ∧ OwnR wr w2.heap.size (.slice (some ⟨g, 0, none⟩) (rulesTo p k).length cap) (rulesTo p k) ∧ (∀ x ∈ rulesTo p k, x.1.size ≤ N ∧ x.2.size ≤ N) ∧ Below w2.heap.size w2 wr
def SReadSays (t : List UInt8) (w : World) (e : Ending) (w' : World) : Prop := ∃ au cu, e = .returned (.tuple #[.agg #[.string (rdS t), .slice au (rdR t).length cu], .bool (goodT t)]) ∧ (rdR t).length ≤ cu ∧ RulesAt w' au (rdR t) ∧ Below w.heap.size w w'
theorem sread_bad {t : List UInt8} {w w' : World} (h : goodT t = false) (hb : Below w.heap.size w w') : SReadSays t w (.returned (.tuple #[.agg #[.string ⟨#[]⟩, .slice none 0 0], .bool false])) w' := by
  have e1 : rdS t = ⟨#[]⟩ := by unfold rdS; rw [h]; rfl
  have e2 : rdR t = [] := by unfold rdR; rw [h]; rfl
  unfold SReadSays
  rw [e1, e2, h]
  exact ⟨none, 0, rfl, Nat.le_refl _, ⟨by simp [maxLen], fun i h => absurd h (Nat.not_lt_zero i)⟩, hb⟩
theorem sread_good {t : List UInt8} {w w' : World} {a : Option Addr} {cap : Nat} {st : ByteArray} {us : List RuleT} (h : goodT t = true ∧ rdS t = st ∧ rdR t = us) (hc : us.length ≤ cap) (hR : RulesAt w' a us) (hb : Below w.heap.size w w') : SReadSays t w (.returned (.tuple #[.agg #[.string st, .slice a us.length cap], .bool true])) w' := by
  unfold SReadSays
  rw [h.1, h.2.1, h.2.2]
  exact ⟨a, cap, rfl, hc, hR, hb⟩
theorem grow_below' {w1 w w' : World} {g n c B : Nat} {rs : List RuleT} (h : Below B w1 w) (hg : w.grownBy w' (Value.slice (some ⟨g, 0, none⟩) n c).ownBlock) (hO : OwnR w B (.slice (some ⟨g, 0, none⟩) n c) rs) (hs : B ≤ w1.heap.size := by exact Nat.le_refl _) : Below B w1 w' := by
  have hge : B ≤ g := by
    obtain ⟨⟨g', cap', e, hB, _⟩, _⟩ := hO
    simp only [Value.slice.injEq, Option.some.injEq, Addr.mk.injEq] at e
    rw [e.1.1]; exact hB
  exact h.grown hg (Nat.le_trans hs h.size) (by intro k hk; simp [Value.ownBlock] at hk; omega)
theorem empty_list : (bytesOf []).toList = [] := by
  rw [Go.ByteArray.toList_eq]; rfl
theorem lastP_at {p : List (List UInt8)} {k : Nat} (h1 : 1 ≤ k) (h : k ≤ lastP p) : (k = lastP p ∧ ¬ (k + 1 < p.length ∧ k ≤ 9)) ∨ (k < lastP p ∧ k + 1 < p.length ∧ k ≤ 9) := by
  by_cases a : p.length < 2 <;> by_cases b : p.length ≤ 11 <;> simp only [lastP, a, b, if_true, if_false] at h ⊢ <;> omega
theorem lastP_pos (p : List (List UInt8)) : 1 ≤ lastP p := by
  unfold lastP
  split <;> (try split) <;> omega
set_option maxHeartbeats 8000000 in
theorem sGramRead_any (t : List UInt8) (w : World) (ht : t.length ≤ 100000000) :
    Calls Try.prog 14 #[.string (bytesOf t)] w (SReadSays t w) := by
  have hZ0 : BoxG (w.alloc (.cells #[.string ⟨#[]⟩, .slice none 0 0] 24)) w.heap.size (.string ⟨#[]⟩) (.slice none 0 0) := blk_new _ _ rfl
  have hbZ := (Below.refl w.heap.size w).alloc (Nat.le_refl _) (.cells #[.string ⟨#[]⟩, .slice none 0 0] 24)
  have hMS := Lib.hid (@model_says t)
  have hpp := pieces_pos 10 t
  have HPL := Lib.hid (pieces_le 10 t)
  go_enter Try.func14, Try.ntmps14
  go_wp2_with fail
  refine (l17Cut_any t 10 _ ht).mono ?_
  rintro e w2 ⟨a, cl, rfl, hS, hb2⟩
  have hZ2 := hZ0.below hb2
  have hB2 : Below w.heap.size w w2 := hbZ.trans (hb2.mono (by simp))
  have hz2 := hZ2.lt
  clear hZ0 hbZ hb2
  generalize pieces 10 t = p at *
  obtain ⟨gl, rfl, hgl, c0⟩ := hS 0 hpp
  have hst : p.getD 0 [] = p[0] := by rw [List.getD_eq_getElem?_getD, List.getElem?_eq_getElem hpp]; rfl
  have HST := Lib.hid hst
  clear hst
  have hpp' : (0 : Int) < (p.length : Int) := by omega
  have hG0 : BoxG ((w2.alloc (.cells #[] 55)).alloc (.cells #[.string (bytesOf p[0]), .slice (some ⟨w2.heap.size, 0, none⟩) 0 0] 24)) (w2.heap.size + 1) (.string (bytesOf p[0])) (.slice (some ⟨w2.heap.size, 0, none⟩) 0 0) := blk_new _ _ (by simp)
  have hRR : SReadRel (bytesOf p[0]) p t.length w2 1 ((w2.alloc (.cells #[] 55)).alloc (.cells #[.string (bytesOf p[0]), .slice (some ⟨w2.heap.size, 0, none⟩) 0 0] 24)) :=
    ⟨w2.heap.size, 0, by simpa [rulesTo] using hG0, by simpa [rulesTo] using (own_new w2 w2.heap.size (Nat.le_refl _)).alloc _, (by intro x hx; simp [rulesTo] at hx), ((Below.refl _ _).alloc (Nat.le_refl _) _).alloc (by simp) _⟩
  clear hG0
  have hlp := lastP_pos p
  go_wp2_with fail
  go_loopg [6] (lastP p - 1) (fun gk iv wr => ∃ k : Nat, 1 ≤ k ∧ k ≤ lastP p ∧ gk = lastP p - k ∧ iv = .int .i64 (k : Int) ∧ SReadRel (bytesOf p[0]) p t.length w2 k wr)
  case atStart => exact ⟨1, Nat.le_refl _, hlp, rfl, rfl, hRR⟩
  case round =>
    clear hRR
    obtain ⟨k, hk1, hkl, hgk, rfl, g, cp, hG, hO, hsz, hBr⟩ := hrel
    have HSZ := Lib.hid hsz
    have HGK := Lib.hid hgk
    clear hsz hgk
    have hrl := rulesTo_len p k
    have hBs := hBr.size
    rcases lastP_at hk1 hkl with ⟨hke, hcond⟩ | ⟨hklt, hkp1, hk9⟩
    · have hl10 : lastP p ≤ 10 := by unfold lastP; split <;> (try split) <;> omega
      have hfit : Fits (rulesTo p k) := sizes_fits HSZ.out (by omega) (by omega)
      obtain ⟨hn, hcp, HR⟩ := hO.fits hfit
      have hZr := hZ2.below hBr
      have hBw := hB2.trans (hBr.mono hB2.size)
      obtain ⟨x0, x1, xf0, xf1⟩ := hG.cells
      obtain ⟨z0, z1, zf0, zf1⟩ := hZr.cells
      have HKE := Lib.hid hke
      have hk10 : (k : Int) ≤ 10 := by omega
      have hst := HST.out
      have hgood : t ≠ [] → gramTextL (bytesOf p[0]) (rulesTo p k) = t → goodT t = true ∧ rdS t = bytesOf p[0] ∧ rdR t = rulesTo p k := fun a b => by
        have h1 := hMS.out.1
        rw [hst, ← hke] at h1
        exact h1 ⟨a, b⟩
      have hbad : ¬ (t ≠ [] ∧ gramTextL (bytesOf p[0]) (rulesTo p k) = t) → goodT t = false := fun a => by
        have h1 := hMS.out.2
        rw [hst, ← hke] at h1
        exact h1 a
      have HGOOD := Lib.hid hgood
      have HBAD := Lib.hid hbad
      clear hn hke hkl hlp hl10 hst hgood hbad
      have hAB : (¬ (k : Int) + 1 < (p.length : Int)) ∨ ((k : Int) + 1 < (p.length : Int) ∧ ¬ (k : Int) ≤ 9) := by omega
      clear hcond
      by_cases ht0 : t = []
      · have h0 : (bytesOf t).toList = [] := by rw [ht0]; exact empty_list
        have h0b : (bytesOf t).toList.isEmpty = true := by rw [h0]; rfl
        have HGD := Lib.hid (HBAD.out (fun h => h.1 ht0))
        clear ht0
        rcases hAB with hA | ⟨hA, hA9⟩
        all_goals
          go_wp2
          exact bodyPost_ret (v := .tuple #[.agg #[.string ⟨#[]⟩, .slice none 0 0], .bool false]) (by simp [results, Try.results14, go_sem, z0, z1]) rfl (sread_bad HGD.out ((hBw.setCell (p := ⟨w.heap.size, 0, none⟩) (Nat.le_refl _) _).setCell (p := ⟨w.heap.size, 1, none⟩) (Nat.le_refl _) _))
      · have h0 : ¬ (bytesOf t).toList = [] := fun e => ht0 (bytes_eq (y := []) (by rw [e]; exact empty_list.symm))
        have h0b : (bytesOf t).toList.isEmpty = false := by
          cases hh : (bytesOf t).toList with
          | nil => exact absurd hh h0
          | cons _ _ => rfl
        have HT0 := Lib.hid ht0
        clear ht0
        rcases hAB with hA | ⟨hA, hA9⟩
        all_goals
          go_wp2_with fail
          with_reducible refine (sGramText_any (bytesOf p[0]) (some ⟨g, 0, none⟩) cp (rulesTo p k) _ HR hcp).mono ?_
          rintro e w7 ⟨rfl, hb7⟩
          have hG7 := hG.below hb7
          have hZ7 := hZr.below hb7
          have hO7 := hO.below hb7
          have hB7 := Below.on hBw hb7 (Nat.le_refl _)
          clear x0 x1 xf0 xf1 z0 z1 zf0 zf1
          obtain ⟨x0, x1, xf0, xf1⟩ := hG7.cells
          obtain ⟨z0, z1, zf0, zf1⟩ := hZ7.cells
          cases htx : (gramTextL (bytesOf p[0]) (rulesTo p k) == t) with
          | false =>
            have HGD := Lib.hid (HBAD.out (fun h => absurd htx (by rw [h.2]; simp)))
            have heq : ((bytesOf (gramTextL (bytesOf p[0]) (rulesTo p k))).toList == (bytesOf t).toList) = false := by
              rw [beq_eq_false_iff_ne]; intro e; exact absurd htx (by rw [bytes_eq e]; simp)
            have hne : ((bytesOf (gramTextL (bytesOf p[0]) (rulesTo p k))).toList != (bytesOf t).toList) = true := by unfold bne; rw [heq]; rfl
            clear htx
            go_wp2
            exact bodyPost_ret (v := .tuple #[.agg #[.string ⟨#[]⟩, .slice none 0 0], .bool false]) (by simp [results, Try.results14, go_sem, z0, z1]) rfl (sread_bad HGD.out ((hB7.setCell (p := ⟨w.heap.size, 0, none⟩) (Nat.le_refl _) _).setCell (p := ⟨w.heap.size, 1, none⟩) (Nat.le_refl _) _))
          | true =>
            have HGD := Lib.hid (HGOOD.out HT0.out (by simpa using htx))
            have heq : ((bytesOf (gramTextL (bytesOf p[0]) (rulesTo p k))).toList == (bytesOf t).toList) = true := by
              rw [beq_iff_eq] at htx; rw [htx]; simp
            have hne : ((bytesOf (gramTextL (bytesOf p[0]) (rulesTo p k))).toList != (bytesOf t).toList) = false := by unfold bne; rw [heq]; rfl
            have hO8 := (hO7.store (p := ⟨w.heap.size, 0, none⟩) hZ7 (by decide) (.string (bytesOf p[0]))).store (p := ⟨w.heap.size, 1, none⟩) (hZ7.set0 _) (by decide) (.slice (some ⟨g, 0, none⟩) (rulesTo p k).length cp)
            have hB8 := ((hB7.setCell (p := ⟨w.heap.size, 0, none⟩) (Nat.le_refl _) (.string (bytesOf p[0]))).setCell (p := ⟨w.heap.size, 1, none⟩) (Nat.le_refl _) (.slice (some ⟨g, 0, none⟩) (rulesTo p k).length cp))
            clear htx
            go_wp2
            exact bodyPost_ret (v := .tuple #[.agg #[.string (bytesOf p[0]), .slice (some ⟨g, 0, none⟩) (rulesTo p k).length cp], .bool true]) (by simp [results, Try.results14, go_sem, z0, z1]) rfl (sread_good HGD.out hcp (hO8.fits hfit).2.2 hB8)
    · have hkp : k < p.length := by omega
      have hc1 : (k : Int) + 1 < (p.length : Int) := by omega
      have hc2 : (k : Int) ≤ 9 := by omega
      have hc3 : (k : Int) < (p.length : Int) := by omega
      obtain ⟨gl', e, hgl', c1⟩ := hS k hkp
      simp only [Option.some.injEq, Addr.mk.injEq] at e
      obtain ⟨rfl, _⟩ := e
      have d1 : wr.cell? ⟨gl, k, none⟩ = some (.string (bytesOf p[k])) := by rw [hBr.cell (p := ⟨gl, k, none⟩) hgl', c1]
      have hpk := HPL.out p[k] (List.getElem_mem hkp)
      go_wp2_with fail
      refine (l17Cut_any p[k] 62 _ (by omega)).mono ?_
      rintro e w3 ⟨a3, cl3, rfl, hS3, hb3⟩
      have hG3 := hG.below hb3
      have hO3 := hO.below hb3
      have hB3 := Below.on hBr hb3 (Nat.le_refl _)
      have hq0 := pieces_pos 62 p[k]
      have hRU0 : ruleOfP p[k] = (bytesOf ((pieces 62 p[k]).getD 0 []), bytesOf ((pieces 62 p[k]).getD 1 [])) := rfl
      have HPS := Lib.hid (pieces_le 62 p[k])
      generalize pieces 62 p[k] = ps at *
      obtain ⟨g3, rfl, hg3, e0⟩ := hS3 0 hq0
      have hq0' : (0 : Int) < (ps.length : Int) := by omega
      have hps0 : ps.getD 0 [] = ps[0] := by rw [List.getD_eq_getElem?_getD, List.getElem?_eq_getElem hq0]; rfl
      rw [hps0] at hRU0
      have hz0 := HPS.out ps[0] (List.getElem_mem hq0)
      have hsx0 : (bytesOf ps[0]).size ≤ maxLen := by rw [bytesOf_size]; unfold maxLen; omega
      have hs3 := hB3.size
      clear hG hO hBr d1 c1 hps0
      by_cases hq1 : 1 < ps.length
      · have hq1' : (1 : Int) < (ps.length : Int) := by omega
        obtain ⟨g3', e, hg3', e1⟩ := hS3 1 hq1
        simp only [Option.some.injEq, Addr.mk.injEq] at e
        obtain ⟨rfl, _⟩ := e
        have hps1 : ps.getD 1 [] = ps[1] := by rw [List.getD_eq_getElem?_getD, List.getElem?_eq_getElem hq1]; rfl
        rw [hps1] at hRU0
        have HRU := Lib.hid hRU0
        have hz1 := HPS.out ps[1] (List.getElem_mem hq1)
        have hsx1 : (bytesOf ps[1]).size ≤ maxLen := by rw [bytesOf_size]; unfold maxLen; omega
        clear hps1 hRU0 hS3
        have hOL := (hO3.alloc (.cells #[.string (bytesOf ps[0]), .string (bytesOf ps[1])] 55)).alloc (.cells #[.string (bytesOf ps[0]), .string (bytesOf ps[1])] 55)
        have hGL := (hG3.old (.cells #[.string (bytesOf ps[0]), .string (bytesOf ps[1])] 55)).old (.cells #[.string (bytesOf ps[0]), .string (bytesOf ps[1])] 55)
        have hLL := rules_lit (w3.alloc (.cells #[.string (bytesOf ps[0]), .string (bytesOf ps[1])] 55)) (bytesOf ps[0]) (bytesOf ps[1]) hsx0 hsx1
        rw [Deep.nblk_alloc] at hLL
        have hBL := (hB3.alloc hs3 (.cells #[.string (bytesOf ps[0]), .string (bytesOf ps[1])] 55)).alloc (by simp; omega) (.cells #[.string (bytesOf ps[0]), .string (bytesOf ps[1])] 55)
        have hG4 := hG3.old (.cells #[.string (bytesOf ps[0]), .string (bytesOf ps[1])] 55)
        obtain ⟨x0, x1, xf0, xf1⟩ := hG4.cells
        clear hG3 hO3 hB3 hG4
        go_wp2_with (at_builtin; refine list_append_read rfl _ _ rfl w2.heap.size (.slice (some ⟨g, 0, none⟩) (rulesTo p k).length cp) (rulesTo p k) [(bytesOf ps[0], bytesOf ps[1])] (w3.heap.size + 1) 0 1 rfl rfl ?c1 ?c2 ?c3 ?c4 ?_)
        case c1 => exact hOL
        case c2 => exact hLL
        case c3 => simp; omega
        case c4 => simp; omega
        intro g6 cp6 w6 hO6' hgrow
        have hru : ruleOfP p[k] = (bytesOf ps[0], bytesOf ps[1]) := HRU.out
        have hO6 : OwnR w6 w2.heap.size (.slice (some ⟨g6, 0, none⟩) ((rulesTo p k).length + 1) cp6) (rulesTo p k ++ [ruleOfP p[k]]) := by rw [hru]; simpa using hO6'
        have hG6 : BoxG w6 (w2.heap.size + 1) (.string (bytesOf p[0])) (.slice (some ⟨g, 0, none⟩) (rulesTo p k).length cp) := grown_keep hOL hgrow hGL (fun cur h => by simp at h)
        have hB6 : Below w2.heap.size w2 w6 := grow_below' hBL hgrow hOL
        obtain ⟨y0, y1, yf0, yf1⟩ := hG6.cells
        have hRN : SReadRel (bytesOf p[0]) p t.length w2 (k + 1) (w6.setCell ⟨w2.heap.size + 1, 1, none⟩ (.slice (some ⟨g6, 0, none⟩) ((rulesTo p k).length + 1) cp6)) := by
          have hl1 : (rulesTo p (k + 1)).length = (rulesTo p k).length + 1 := by rw [rulesTo_succ hk1 hkp]; simp
          refine ⟨g6, cp6, ?_, ?_, ?_, hB6.setCell (p := ⟨w2.heap.size + 1, 1, none⟩) (Nat.le_succ _) _⟩
          · rw [hl1]; exact hG6.set1 _
          · rw [hl1, rulesTo_succ hk1 hkp]; exact hO6.store (p := ⟨w2.heap.size + 1, 1, none⟩) hG6 (by decide) _
          · intro x hx
            rw [rulesTo_succ hk1 hkp] at hx
            rcases List.mem_append.1 hx with hx | hx
            · exact HSZ.out x hx
            · obtain rfl : x = ruleOfP p[k] := by simpa using hx
              have h1 := ruleOfP_size p[k]
              have h2 := HPL.out p[k] (List.getElem_mem hkp)
              omega
        clear hru hO6 hO6' hgrow hG6 hB6 hOL hLL hGL hBL
        go_wp2
        go_roundg (lastP p - (k + 1))
        case measure => have := HGK.out; omega
        case rel => exact ⟨k + 1, by omega, by omega, rfl, by go_num, hRN⟩
      · have hq1' : ¬ (1 : Int) < (ps.length : Int) := by omega
        have hps1 : ps.getD 1 [] = [] := by rw [List.getD_eq_getElem?_getD, List.getElem?_eq_none (by omega)]; rfl
        rw [hps1] at hRU0
        have HRU : Hid (ruleOfP p[k] = (bytesOf ps[0], (⟨#[]⟩ : ByteArray))) := hRU0
        clear hps1 hRU0 hS3
        have hsx1 : (⟨#[]⟩ : ByteArray).size ≤ maxLen := by decide
        have hOL := (hO3.alloc (.cells #[.string (bytesOf ps[0]), .string ⟨#[]⟩] 55)).alloc (.cells #[.string (bytesOf ps[0]), .string ⟨#[]⟩] 55)
        have hGL := (hG3.old (.cells #[.string (bytesOf ps[0]), .string ⟨#[]⟩] 55)).old (.cells #[.string (bytesOf ps[0]), .string ⟨#[]⟩] 55)
        have hLL := rules_lit (w3.alloc (.cells #[.string (bytesOf ps[0]), .string ⟨#[]⟩] 55)) (bytesOf ps[0]) ⟨#[]⟩ hsx0 hsx1
        rw [Deep.nblk_alloc] at hLL
        have hBL := (hB3.alloc hs3 (.cells #[.string (bytesOf ps[0]), .string ⟨#[]⟩] 55)).alloc (by simp; omega) (.cells #[.string (bytesOf ps[0]), .string ⟨#[]⟩] 55)
        have hG4 := hG3.old (.cells #[.string (bytesOf ps[0]), .string ⟨#[]⟩] 55)
        obtain ⟨x0, x1, xf0, xf1⟩ := hG4.cells
        clear hG3 hO3 hB3 hG4
        go_wp2_with (at_builtin; refine list_append_read rfl _ _ rfl w2.heap.size (.slice (some ⟨g, 0, none⟩) (rulesTo p k).length cp) (rulesTo p k) [(bytesOf ps[0], ⟨#[]⟩)] (w3.heap.size + 1) 0 1 rfl rfl ?c1 ?c2 ?c3 ?c4 ?_)
        case c1 => exact hOL
        case c2 => exact hLL
        case c3 => simp; omega
        case c4 => simp; omega
        intro g6 cp6 w6 hO6' hgrow
        have hru : ruleOfP p[k] = (bytesOf ps[0], ⟨#[]⟩) := HRU.out
        have hO6 : OwnR w6 w2.heap.size (.slice (some ⟨g6, 0, none⟩) ((rulesTo p k).length + 1) cp6) (rulesTo p k ++ [ruleOfP p[k]]) := by rw [hru]; simpa using hO6'
        have hG6 : BoxG w6 (w2.heap.size + 1) (.string (bytesOf p[0])) (.slice (some ⟨g, 0, none⟩) (rulesTo p k).length cp) := grown_keep hOL hgrow hGL (fun cur h => by simp at h)
        have hB6 : Below w2.heap.size w2 w6 := grow_below' hBL hgrow hOL
        obtain ⟨y0, y1, yf0, yf1⟩ := hG6.cells
        have hRN : SReadRel (bytesOf p[0]) p t.length w2 (k + 1) (w6.setCell ⟨w2.heap.size + 1, 1, none⟩ (.slice (some ⟨g6, 0, none⟩) ((rulesTo p k).length + 1) cp6)) := by
          have hl1 : (rulesTo p (k + 1)).length = (rulesTo p k).length + 1 := by rw [rulesTo_succ hk1 hkp]; simp
          refine ⟨g6, cp6, ?_, ?_, ?_, hB6.setCell (p := ⟨w2.heap.size + 1, 1, none⟩) (Nat.le_succ _) _⟩
          · rw [hl1]; exact hG6.set1 _
          · rw [hl1, rulesTo_succ hk1 hkp]; exact hO6.store (p := ⟨w2.heap.size + 1, 1, none⟩) hG6 (by decide) _
          · intro x hx
            rw [rulesTo_succ hk1 hkp] at hx
            rcases List.mem_append.1 hx with hx | hx
            · exact HSZ.out x hx
            · obtain rfl : x = ruleOfP p[k] := by simpa using hx
              have h1 := ruleOfP_size p[k]
              have h2 := HPL.out p[k] (List.getElem_mem hkp)
              omega
        clear hru hO6 hO6' hgrow hG6 hB6 hOL hLL hGL hBL
        go_wp2
        go_roundg (lastP p - (k + 1))
        case measure => have := HGK.out; omega
        case rel => exact ⟨k + 1, by omega, by omega, rfl, by go_num, hRN⟩
end Go.Proofs.Ytjpkohahabclgaa
