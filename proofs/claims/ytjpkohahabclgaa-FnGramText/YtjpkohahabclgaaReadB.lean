/- The contract of GramRead of the program. -/
import Derived.Test.YtjpkohahabclgaaReadA
import Derived.Test.YtjpkohahabclgaaOnlyA
namespace Go.Proofs.Ytjpkohahabclgaa
open Go.ChangeShapes Go.WideShapes Go.ChangeAt Go.RowKit
set_option maxRecDepth 100000
theorem OwnN.fits {w : World} {B : Nat} {v : Value} {rs : List RuleT} (h : OwnN w B v rs) (hf : Fits rs) : ∃ a cap, v = .slice a rs.length cap ∧ rs.length ≤ cap ∧ RulesAt w a rs := by
  rcases h.2 with ⟨rfl, h0⟩ | ⟨g, cap, cur, rfl, hg, hh, hlc, hm, hsz, ht⟩
  · obtain rfl : rs = [] := List.eq_nil_of_length_eq_zero h0
    exact ⟨none, 0, rfl, Nat.le_refl _, Nat.zero_le _, fun i hi => absurd hi (Nat.not_lt_zero _)⟩
  · have hlt : g < w.heap.size := (Array.getElem?_eq_some_iff.1 hh).1
    refine ⟨_, cap, rfl, hlc, hf.1, fun i hi => ?_⟩
    have hc : ∀ j, j < rs.length * 2 → w.cell? ⟨g, j, none⟩ = some (ruleCells rs j) := fun j hj => by
      rw [cell_of_block hh j, ← flatR_at rs j hj, ← ht, List.getElem?_take, if_pos hj]; simp
    exact ⟨(hf.2 i hi).1, (hf.2 i hi).2, g, 0, rfl, hlt, by rw [Nat.zero_add, hc _ (by omega), ruleCells_even rs i hi], by rw [Nat.zero_add, hc _ (by omega), ruleCells_odd rs i hi]⟩
theorem rules_lit (w : World) (l r : ByteArray) (h1 : l.size ≤ maxLen) (h2 : r.size ≤ maxLen) : RulesAt (w.alloc (.cells #[.string l, .string r] 55)) (some ⟨w.heap.size, 0, none⟩) [(l, r)] :=
  rulesAt_of_row (row_flat w [(l, r)] 55 rfl) ⟨by unfold maxLen; simp, fun i hi => by
    match i, hi with
    | 0, _ => exact ⟨h1, h2⟩⟩
/-- a line's two parts -/
def CutRule (x : List UInt8) (e : Ending) : Prop := ∃ l q bb, e = .returned (.tuple #[.string (bytesOf l), .string (bytesOf q), .bool bb]) ∧ ruleOfL x = (bytesOf l, bytesOf q) ∧ l.length ≤ x.length ∧ q.length ≤ x.length
theorem cutRule_any (x : List UInt8) (hl : x.length ≤ 9000000000) (w : World) :
    Calls Try.prog 53 #[.string (bytesOf x), .string ⟨#[62]⟩] w fun e w' => CutRule x e ∧ Below w.heap.size w w' := by
  refine (cut_any x ⟨#[62]⟩ 62 rfl hl w).mono ?_
  rintro e w' ⟨⟨h1, rfl⟩ | ⟨p, q, h1, h2, rfl⟩, hb⟩
  · exact ⟨⟨x, [], false, rfl, by unfold ruleOfL; rw [h1], Nat.le_refl _, Nat.zero_le _⟩, hb⟩
  · exact ⟨⟨p, q, true, rfl, by unfold ruleOfL; rw [h1], by rw [h2]; simp, by rw [h2]; simp; omega⟩, hb⟩
theorem lineScanner_any (s : ByteArray) (w : World) :
    Calls Try.prog 52 #[.string s] w fun e w' => e = .returned (.func (.func 93) #[] #[.pointer (some ⟨w.heap.size, 0, none⟩)]) ∧ w' = w.alloc (.cells #[.string s] 9) := by
  go_enter Try.func52, Try.ntmps52
  go_wp2
  go_ret
  exact ⟨rfl, rfl⟩
theorem OwnN.only1 {R : Nat} {w w' : World} {B : Nat} {v : Value} {rs : List RuleT} (h : OwnN w B v rs) (hb : Only R w w') (hR : R < B) : OwnN w' B v rs := by
  refine ⟨h.1, ?_⟩
  rcases h.2 with h0 | ⟨g, cap, cur, hv, hg, hh, hl, hm, hs, ht⟩
  · exact .inl h0
  · have hlt := (Array.getElem?_eq_some_iff.1 hh).1
    exact .inr ⟨g, cap, cur, hv, hg, by rw [hb.block g hlt (by omega)]; exact hh, hl, hm, hs, ht⟩
theorem BoxS.other {w : World} {R : Nat} {r : List UInt8} (h : BoxS w R r) {p : Addr} (hp : R ≠ p.block) (u : Value) : BoxS (w.setCell p u) R r := (Below.heap_setCell _ _ _ _ hp).trans h
def ReadRel (st : ByteArray) (r0 : List UInt8) (N Z R G : Nat) (w : World) (gk : Nat) (wr : World) : Prop := ∃ us r v, linesR 9 r0 = us ++ linesR gk r ∧ us.length + gk = 9 ∧ r.length ≤ N ∧ (∀ x ∈ us, x.1.size ≤ N ∧ x.2.size ≤ N) ∧ BoxG wr G (.string st) v ∧ OwnN wr (G + 1) v us ∧ BoxS wr R r ∧ BoxG wr Z (.string ⟨#[]⟩) (.slice none 0 0) ∧ Below w.heap.size w wr
def ReadSays (t : List UInt8) (w : World) (e : Ending) (w' : World) : Prop := ∃ au cu, e = .returned (.tuple #[.agg #[.string (rdS t), .slice au (rdR t).length cu], .bool (goodT t)]) ∧ (rdR t).length ≤ cu ∧ RulesAt w' au (rdR t) ∧ OwnN w' w.heap.size (.slice au (rdR t).length cu) (rdR t) ∧ Below w.heap.size w w'
theorem read_bad {t : List UInt8} {w w' : World} (h : goodT t = false) (hb : Below w.heap.size w w') : ReadSays t w (.returned (.tuple #[.agg #[.string ⟨#[]⟩, .slice none 0 0], .bool false])) w' := by
  have e1 : rdS t = ⟨#[]⟩ := by unfold rdS; rw [h]; rfl
  have e2 : rdR t = [] := by unfold rdR; rw [h]; rfl
  unfold ReadSays
  rw [e1, e2, h]
  exact ⟨none, 0, rfl, Nat.le_refl _, ⟨by simp [maxLen], fun i h => absurd h (Nat.not_lt_zero i)⟩, ⟨rfl, .inl ⟨rfl, rfl⟩⟩, hb⟩
theorem read_good {t : List UInt8} {w w' : World} {a : Option Addr} {cap : Nat} (h : goodT t = true) (hc : (parseR t).length ≤ cap) (hR : RulesAt w' a (parseR t)) (hO : OwnN w' w.heap.size (.slice a (parseR t).length cap) (parseR t)) (hb : Below w.heap.size w w') : ReadSays t w (.returned (.tuple #[.agg #[.string (parseS t), .slice a (parseR t).length cap], .bool true])) w' := by
  have e1 : rdS t = parseS t := by unfold rdS; rw [if_pos h]
  have e2 : rdR t = parseR t := by unfold rdR; rw [if_pos h]
  unfold ReadSays
  rw [e1, e2, h]
  exact ⟨a, cap, rfl, hc, hR, hO, hb⟩
theorem sizes_fits {us : List RuleT} {N : Nat} (h : ∀ x ∈ us, x.1.size ≤ N ∧ x.2.size ≤ N) (hN : N ≤ 9000000000) (hl : us.length ≤ 9) : Fits us :=
  ⟨by unfold maxLen; omega, fun i hi => by have := h us[i] (List.getElem_mem hi); unfold maxLen; omega⟩
theorem box_grown {w w' : World} {B : Nat} {v : Value} {us : List RuleT} (h : OwnN w B v us) (hg : w.grownBy w' v.ownBlock) {k : Nat} {o : Obj} (hk : k < B) (hb : w.heap[k]? = some o) : w'.heap[k]? = some o := by
  have hrow := h.row
  obtain ⟨_, _, _, _, hblk⟩ := hg
  exact (hblk k (Array.getElem?_eq_some_iff.1 hb).1 (fun e => by have := hrow k e.symm; omega)).trans hb
theorem bytes_eq {x y : List UInt8} (h : (bytesOf x).toList = (bytesOf y).toList) : x = y := by
  have := congrArg (fun s : ByteArray => s.data.toList) (tl_inj h)
  simpa [bytesOf] using this
set_option maxHeartbeats 8000000 in
theorem gramRead_any (t : List UInt8) (w : World) (ht : t.length ≤ 100000000) :
    Calls Try.prog 15 #[.string (bytesOf t)] w (ReadSays t w) := by
  obtain ⟨i0, hi0, hz0, hz1, hz2⟩ := info_parts infoRule
  go_enter Try.func15, Try.ntmps15
  go_wp2_with fail
  refine (lineScanner_any (bytesOf t) _).mono ?_
  rintro e w1 ⟨rfl, hw1⟩
  have hZ : BoxG w1 w.heap.size (.string ⟨#[]⟩) (.slice none 0 0) := by rw [hw1]; exact BoxG.old (blk_new _ _ rfl) _
  have hR : BoxS w1 (w.heap.size + 1) t := by rw [hw1]; exact blk_new _ _ (by simp)
  have hB : Below w.heap.size w w1 := by rw [hw1]; exact ((Below.refl _ _).alloc (Nat.le_refl _) _).alloc (by simp) _
  have hs1 : w.heap.size + 2 ≤ w1.heap.size := by rw [hw1]; simp
  rw [show (w.alloc (.cells #[.string ⟨#[]⟩, .slice none 0 0] 24)).heap.size = w.heap.size + 1 from by simp]
  clear hw1
  go_wp2_with fail
  refine (next_any (w.heap.size + 1) t w1 hR (by omega)).mono ?_
  rintro e w2 hN
  obtain ⟨bs, he, hS, hR2, hl2, hZ2, hB2, hs2⟩ : ∃ bs : Bool, e = .returned (.tuple #[.string (parseS t), .bool bs]) ∧ Hid (parseS t = parseS t) ∧ BoxS w2 (w.heap.size + 1) (startL t).2 ∧ (startL t).2.length ≤ t.length ∧ BoxG w2 w.heap.size (.string ⟨#[]⟩) (.slice none 0 0) ∧ Below w.heap.size w w2 ∧ w.heap.size + 2 ≤ w2.heap.size := by
    rcases hN with ⟨h1, rfl, hb⟩ | ⟨x, y, h1, h2, rfl, hb, ho⟩
    · refine ⟨false, by unfold parseS startL; rw [h1]; rfl, rfl, ?_, by unfold startL; rw [h1]; exact Nat.le_refl _, hZ.below hb, Below.on hB hb (Nat.le_refl _), Nat.le_trans hs1 hb.size⟩
      unfold startL; rw [h1]; exact hR.below hb
    · refine ⟨true, by unfold parseS startL; rw [h1], rfl, ?_, ?_, hZ.only ho (by omega), hB.trans (ho.below _ (by omega) (by omega)), Nat.le_trans hs1 ho.size⟩
      · unfold startL; rw [h1]; exact hb
      · unfold startL; rw [h1, h2]; simp; omega
  subst he
  clear hN hS hZ hR hB hs1
  have hPR : Hid (parseR t = linesR 9 (startL t).2) := rfl
  generalize (startL t).2 = r0 at *
  have hG0 : BoxG (w2.alloc (.cells #[.string (parseS t), .slice none 0 0] 24)) w2.heap.size (.string (parseS t)) (.slice none 0 0) := blk_new _ _ rfl
  have hRR : ReadRel (parseS t) r0 t.length w.heap.size (w.heap.size + 1) w2.heap.size w 9 (w2.alloc (.cells #[.string (parseS t), .slice none 0 0] 24)) :=
    ⟨[], r0, .slice none 0 0, rfl, rfl, hl2, (fun x hx => by cases hx), hG0, World.ownsRow_nil _ _ _ _, hR2.below ((Below.refl _ _).alloc (Nat.le_refl _) _), hZ2.old _, hB2.alloc hB2.size _⟩
  clear hG0 hR2 hl2 hZ2 hB2
  go_wp2_with fail
  go_loopg [8] 9 (fun gk _ wr => ReadRel (parseS t) r0 t.length w.heap.size (w.heap.size + 1) w2.heap.size w gk wr)
  case atStart => exact hRR
  case round =>
    clear hRR
    obtain ⟨us, r, v, hL', hk, hr, hsz', hG, hown, hR, hZ, hB⟩ := hrel
    have HL := Lib.hid hL'
    have HSZ := Lib.hid hsz'
    have HK := Lib.hid hk
    clear hL' hsz' hk
    have hul : us.length ≤ 9 := by have := HK.out; omega
    have hfit0 : Fits us := sizes_fits HSZ.out (by omega) hul
    by_cases hg0 : gk = 0
    · have e9 : us = parseR t := by rw [hPR.out, HL.out, hg0]; simp [linesR]
      subst e9
      have hlen : ¬ ((parseR t).length : Int) ≤ 8 := by have := HK.out; omega
      have hfit := hfit0
      clear HL HSZ HK hg0 hfit0 hR
      obtain ⟨av, cp, rfl, hcp, HR⟩ := hown.fits hfit
      obtain ⟨x0, x1, xf0, xf1⟩ := hG.cells
      obtain ⟨z0, z1, zf0, zf1⟩ := hZ.cells
      go_wp2_with fail
      with_reducible refine (gramOk_any (parseS t) av cp (parseR t) _ HR hcp).mono ?_
      rintro e w6 ⟨rfl, hb6⟩
      have hG6 := hG.below hb6
      have hZ6 := hZ.below hb6
      have hO6 := hown.below hb6
      have HR6 := HR.below hb6 (Nat.le_refl _)
      have hB6 := Below.on hB hb6 (Nat.le_refl _)
      clear hG hZ hown HR hB hb6 x0 x1 xf0 xf1 z0 z1 zf0 zf1
      obtain ⟨x0, x1, xf0, xf1⟩ := hG6.cells
      obtain ⟨z0, z1, zf0, zf1⟩ := hZ6.cells
      cases hok : gramOkB (parseS t) (parseR t) with
      | false =>
        have HGD : Hid (goodT t = false) := by show _ = _; unfold goodT; rw [hok]; rfl
        go_wp2
        exact bodyPost_ret (v := .tuple #[.agg #[.string ⟨#[]⟩, .slice none 0 0], .bool false]) (by simp [results, Try.results15, go_sem, z0, z1]) rfl (read_bad HGD.out ((hB6.setCell (p := ⟨w.heap.size, 0, none⟩) (Nat.le_refl _) _).setCell (p := ⟨w.heap.size, 1, none⟩) (Nat.le_refl _) _))
      | true =>
        go_wp2_with fail
        with_reducible refine (gramText_any (parseS t) av cp (parseR t) _ HR6 hcp).mono ?_
        rintro e w7 ⟨rfl, hb7⟩
        have hG7 := hG6.below hb7
        have hZ7 := hZ6.below hb7
        have hO7 := hO6.below hb7
        have HR7 := HR6.below hb7 (Nat.le_refl _)
        have hB7 := Below.on hB6 hb7 (Nat.le_refl _)
        clear hG6 hZ6 hO6 HR6 hB6 hb7 x0 x1 xf0 xf1 z0 z1 zf0 zf1
        obtain ⟨x0, x1, xf0, xf1⟩ := hG7.cells
        obtain ⟨z0, z1, zf0, zf1⟩ := hZ7.cells
        cases htx : (gramTextL (parseS t) (parseR t) == t) with
        | false =>
          have HGD : Hid (goodT t = false) := by show _ = _; unfold goodT; rw [htx]; simp
          have hne : ((bytesOf (gramTextL (parseS t) (parseR t))).toList != (bytesOf t).toList) = true := by
            rw [bne_iff_ne]; intro e; exact absurd htx (by rw [bytes_eq e]; simp)
          have heq : ((bytesOf (gramTextL (parseS t) (parseR t))).toList == (bytesOf t).toList) = false := by
            rw [beq_eq_false_iff_ne]; intro e; exact absurd htx (by rw [bytes_eq e]; simp)
          clear htx hok
          go_wp2
          exact bodyPost_ret (v := .tuple #[.agg #[.string ⟨#[]⟩, .slice none 0 0], .bool false]) (by simp [results, Try.results15, go_sem, z0, z1]) rfl (read_bad HGD.out ((hB7.setCell (p := ⟨w.heap.size, 0, none⟩) (Nat.le_refl _) _).setCell (p := ⟨w.heap.size, 1, none⟩) (Nat.le_refl _) _))
        | true =>
          have HGD : Hid (goodT t = true) := by show _ = _; unfold goodT; rw [htx, hok]; rfl
          have hne : ((bytesOf (gramTextL (parseS t) (parseR t))).toList != (bytesOf t).toList) = false := by
            rw [beq_iff_eq] at htx; rw [htx]; simp
          have heq : ((bytesOf (gramTextL (parseS t) (parseR t))).toList == (bytesOf t).toList) = true := by
            rw [beq_iff_eq] at htx; rw [htx]; simp
          have lZ : w.heap.size < w2.heap.size + 1 := by omega
          have hZb : ((BoxG.set0 hZ7 (.string (parseS t))).set1 (.slice av (parseR t).length cp)) = ((BoxG.set0 hZ7 (.string (parseS t))).set1 (.slice av (parseR t).length cp)) := rfl
          have hO8 := ((hO7.set (p := ⟨w.heap.size, 0, none⟩) lZ (.string (parseS t))).set (p := ⟨w.heap.size, 1, none⟩) lZ (.slice av (parseR t).length cp))
          have hB8 := ((hB7.setCell (p := ⟨w.heap.size, 0, none⟩) (Nat.le_refl _) (.string (parseS t))).setCell (p := ⟨w.heap.size, 1, none⟩) (Nat.le_refl _) (.slice av (parseR t).length cp))
          clear htx hok hZb
          go_wp2
          refine bodyPost_ret (v := .tuple #[.agg #[.string (parseS t), .slice av (parseR t).length cp], .bool true]) (by simp [results, Try.results15, go_sem, z0, z1]) rfl (read_good HGD.out hcp ?_ (hO8.mono (by omega)) hB8)
          obtain ⟨a', c', e, _, hR'⟩ := hO8.fits hfit
          simp only [Value.slice.injEq] at e
          have ea := e.1
          subst ea
          exact hR'
    · obtain ⟨j, rfl⟩ : ∃ j, gk = j + 1 := ⟨gk - 1, by omega⟩
      have hlen : (us.length : Int) ≤ 8 := by have := HK.out; omega
      obtain ⟨av, cp, rfl, hcp, HR⟩ := hown.fits hfit0
      obtain ⟨x0, x1, xf0, xf1⟩ := hG.cells
      go_wp2_with fail
      with_reducible refine (next_any (w.heap.size + 1) r wr hR (by omega)).mono ?_
      rintro e w3 (⟨h1, rfl, hb⟩ | ⟨x, y, h1, h2, rfl, hb, ho⟩)
      · have e9 : us = parseR t := by rw [hPR.out, HL.out, linesR, h1]; simp
        subst e9
        have hfit := hfit0
        replace hG := hG.below hb
        replace hZ := hZ.below hb
        replace hown := hown.below hb
        replace hB := Below.on hB hb (Nat.le_refl _)
        clear HL HSZ HK hg0 hfit0 hR hb h1 HR x0 x1 xf0 xf1 hlen
        have hav := hown
        clear hav hcp
        obtain ⟨av2, cp2, e, hcp, HR⟩ := hown.fits hfit
        simp only [Value.slice.injEq, true_and] at e
        obtain ⟨rfl, rfl⟩ := e
        obtain ⟨x0, x1, xf0, xf1⟩ := hG.cells
        obtain ⟨z0, z1, zf0, zf1⟩ := hZ.cells
        go_wp2_with fail
        with_reducible refine (gramOk_any (parseS t) av cp (parseR t) _ HR hcp).mono ?_
        rintro e w6 ⟨rfl, hb6⟩
        have hG6 := hG.below hb6
        have hZ6 := hZ.below hb6
        have hO6 := hown.below hb6
        have HR6 := HR.below hb6 (Nat.le_refl _)
        have hB6 := Below.on hB hb6 (Nat.le_refl _)
        clear hG hZ hown HR hB hb6 x0 x1 xf0 xf1 z0 z1 zf0 zf1
        obtain ⟨x0, x1, xf0, xf1⟩ := hG6.cells
        obtain ⟨z0, z1, zf0, zf1⟩ := hZ6.cells
        cases hok : gramOkB (parseS t) (parseR t) with
        | false =>
          have HGD : Hid (goodT t = false) := by show _ = _; unfold goodT; rw [hok]; rfl
          go_wp2
          exact bodyPost_ret (v := .tuple #[.agg #[.string ⟨#[]⟩, .slice none 0 0], .bool false]) (by simp [results, Try.results15, go_sem, z0, z1]) rfl (read_bad HGD.out ((hB6.setCell (p := ⟨w.heap.size, 0, none⟩) (Nat.le_refl _) _).setCell (p := ⟨w.heap.size, 1, none⟩) (Nat.le_refl _) _))
        | true =>
          go_wp2_with fail
          with_reducible refine (gramText_any (parseS t) av cp (parseR t) _ HR6 hcp).mono ?_
          rintro e w7 ⟨rfl, hb7⟩
          have hG7 := hG6.below hb7
          have hZ7 := hZ6.below hb7
          have hO7 := hO6.below hb7
          have HR7 := HR6.below hb7 (Nat.le_refl _)
          have hB7 := Below.on hB6 hb7 (Nat.le_refl _)
          clear hG6 hZ6 hO6 HR6 hB6 hb7 x0 x1 xf0 xf1 z0 z1 zf0 zf1
          obtain ⟨x0, x1, xf0, xf1⟩ := hG7.cells
          obtain ⟨z0, z1, zf0, zf1⟩ := hZ7.cells
          cases htx : (gramTextL (parseS t) (parseR t) == t) with
          | false =>
            have HGD : Hid (goodT t = false) := by show _ = _; unfold goodT; rw [htx]; simp
            have hne : ((bytesOf (gramTextL (parseS t) (parseR t))).toList != (bytesOf t).toList) = true := by
              rw [bne_iff_ne]; intro e; exact absurd htx (by rw [bytes_eq e]; simp)
            have heq : ((bytesOf (gramTextL (parseS t) (parseR t))).toList == (bytesOf t).toList) = false := by
              rw [beq_eq_false_iff_ne]; intro e; exact absurd htx (by rw [bytes_eq e]; simp)
            clear htx hok
            go_wp2
            exact bodyPost_ret (v := .tuple #[.agg #[.string ⟨#[]⟩, .slice none 0 0], .bool false]) (by simp [results, Try.results15, go_sem, z0, z1]) rfl (read_bad HGD.out ((hB7.setCell (p := ⟨w.heap.size, 0, none⟩) (Nat.le_refl _) _).setCell (p := ⟨w.heap.size, 1, none⟩) (Nat.le_refl _) _))
          | true =>
            have HGD : Hid (goodT t = true) := by show _ = _; unfold goodT; rw [htx, hok]; rfl
            have hne : ((bytesOf (gramTextL (parseS t) (parseR t))).toList != (bytesOf t).toList) = false := by
              rw [beq_iff_eq] at htx; rw [htx]; simp
            have heq : ((bytesOf (gramTextL (parseS t) (parseR t))).toList == (bytesOf t).toList) = true := by
              rw [beq_iff_eq] at htx; rw [htx]; simp
            have lZ : w.heap.size < w2.heap.size + 1 := by omega
            have hZb : ((BoxG.set0 hZ7 (.string (parseS t))).set1 (.slice av (parseR t).length cp)) = ((BoxG.set0 hZ7 (.string (parseS t))).set1 (.slice av (parseR t).length cp)) := rfl
            have hO8 := ((hO7.set (p := ⟨w.heap.size, 0, none⟩) lZ (.string (parseS t))).set (p := ⟨w.heap.size, 1, none⟩) lZ (.slice av (parseR t).length cp))
            have hB8 := ((hB7.setCell (p := ⟨w.heap.size, 0, none⟩) (Nat.le_refl _) (.string (parseS t))).setCell (p := ⟨w.heap.size, 1, none⟩) (Nat.le_refl _) (.slice av (parseR t).length cp))
            clear htx hok hZb
            go_wp2
            refine bodyPost_ret (v := .tuple #[.agg #[.string (parseS t), .slice av (parseR t).length cp], .bool true]) (by simp [results, Try.results15, go_sem, z0, z1]) rfl (read_good HGD.out hcp ?_ (hO8.mono (by omega)) hB8)
            obtain ⟨a', c', e, _, hR'⟩ := hO8.fits hfit
            simp only [Value.slice.injEq] at e
            have ea := e.1
            subst ea
            exact hR'
      · have hx1 : x.length ≤ r.length := by rw [h2]; simp
        have hy1 : y.length ≤ r.length := by rw [h2]; simp; omega
        have HLx : Hid (linesR 9 r0 = (us ++ [ruleOfL x]) ++ linesR j y) := by show _ = _; rw [HL.out, linesR, h1]; simp
        have hG3 := hG.only ho (by omega)
        have hZ3 := hZ.only ho (by omega)
        have hown3 := hown.only1 ho (by omega)
        have hsB := hB.size
        have hB3 : Below w.heap.size w w3 := hB.trans (ho.below _ (by omega) (by omega))
        have hs3 := hG3.lt
        clear hG hZ hown hB HR x0 x1 xf0 xf1 h1 h2 ho hR HL
        go_wp2_with fail
        with_reducible refine (cutRule_any x (by omega) _).mono ?_
        rintro e w4 ⟨⟨l, q, bb, rfl, hru, hl1, hl2⟩, hb4⟩
        have HRU := Lib.hid hru
        clear hru
        have hG4 := hG3.below hb4
        have hZ4 := hZ3.below hb4
        have hown4 := hown3.below hb4
        have hR4 := hb.below hb4
        have hB4 := Below.on hB3 hb4 (Nat.le_refl _)
        have hs4 := hG4.lt
        have hlz : (bytesOf l).size ≤ t.length := by rw [bytesOf_size]; omega
        have hqz : (bytesOf q).size ≤ t.length := by rw [bytesOf_size]; omega
        have hown5 := hown4.below ((Below.refl _ _).alloc (Nat.le_refl _) (.cells #[.string (bytesOf l), .string (bytesOf q)] 55))
        have hL5 := rules_lit w4 (bytesOf l) (bytesOf q) (by unfold maxLen; omega) (by unfold maxLen; omega)
        have hG5 := hG4.old (.cells #[.string (bytesOf l), .string (bytesOf q)] 55)
        have hZ5 := hZ4.old (.cells #[.string (bytesOf l), .string (bytesOf q)] 55)
        have hR5 := hR4.below ((Below.refl _ _).alloc (Nat.le_refl _) (.cells #[.string (bytesOf l), .string (bytesOf q)] 55))
        have hB5 := hB4.alloc hB4.size (.cells #[.string (bytesOf l), .string (bytesOf q)] 55)
        obtain ⟨x0, x1, xf0, xf1⟩ := hG4.cells
        clear hG3 hZ3 hown3 hB3 hb4 hb
        go_wp2_with (at_builtin; refine wpList_append_own _ rfl _ _ 22 rfl (w2.heap.size + 1) 55 i0 (.agg #[.string ByteArray.empty, .string ByteArray.empty]) 2 32 Try.underlying22 hi0 hz0 hz1 hz2 rfl (by decide) (.slice av us.length cp) us.length (flatR us) rfl hown5 ⟨w4.heap.size, 0, none⟩ 1 1 (flatR [(bytesOf l, bytesOf q)]) rfl rfl ?c1 ?c2 ?c3 ?c4 ?c5 ?_)
        case c1 => exact rules_cells hL5
        case c2 => exact flatR_one _
        case c3 => unfold maxLen; omega
        case c4 => omega
        case c5 => simp; omega
        intro v' w5 h1 h2 h3
        have hown6 : OwnN w5 (w2.heap.size + 1) v' (us ++ [(bytesOf l, bytesOf q)]) := by
          unfold OwnN
          rw [flatR_append, List.length_append]
          exact h1
        have hG6 : BoxG w5 w2.heap.size (.string (parseS t)) (.slice av us.length cp) := box_grown hown5 h2 (by omega) hG5
        have hZ6 : BoxG w5 w.heap.size (.string ⟨#[]⟩) (.slice none 0 0) := box_grown hown5 h2 (by omega) hZ5
        have hR6 : BoxS w5 (w.heap.size + 1) y := box_grown hown5 h2 (by omega) hR5
        have hB6 : Below w.heap.size w w5 := hB5.grown h2 hB5.size (fun k hk => by have := hown5.row k hk; omega)
        obtain ⟨y0, y1, yf0, yf1⟩ := hG6.cells
        have n1 : w.heap.size + 1 ≠ w2.heap.size := by omega
        have n2 : w.heap.size ≠ w2.heap.size := by omega
        have n3 : w.heap.size ≤ w2.heap.size := by omega
        rcases h1.2 with ⟨_, h0⟩ | ⟨g, cp', cur, hv', _⟩
        · exact absurd h0 (by simp)
        subst hv'
        clear hown5 hG5 hZ5 hR5 hB5 hL5 h1 h2 h3 x0 x1 xf0 xf1 hown4 hG4 hZ4 hR4 hB4
        go_wp2
        go_roundg j
        case measure => omega
        case rel =>
          refine ⟨us ++ [(bytesOf l, bytesOf q)], y, _, ?_, ?_, by omega, ?_, hG6.set1 _, hown6.set (p := ⟨w2.heap.size, 1, none⟩) (Nat.lt_succ_self _) _, hR6.other (p := ⟨w2.heap.size, 1, none⟩) n1 _, hZ6.other (p := ⟨w2.heap.size, 1, none⟩) n2 _, hB6.setCell (p := ⟨w2.heap.size, 1, none⟩) n3 _⟩
          · rw [HLx.out, HRU.out]
          · have := HK.out; simp; omega
          · intro x hx
            rcases List.mem_append.1 hx with hx | hx
            · exact HSZ.out x hx
            · obtain rfl : x = (bytesOf l, bytesOf q) := by simpa using hx
              exact ⟨hlz, hqz⟩
end Go.Proofs.Ytjpkohahabclgaa
