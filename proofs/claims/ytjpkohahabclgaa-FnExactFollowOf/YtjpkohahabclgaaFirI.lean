/- Contracts of the model's l2Firsts and FirstOf. -/
import Derived.Test.YtjpkohahabclgaaFirH
import Derived.Test.YtjpkohahabclgaaLeast
namespace Go.Proofs.Ytjpkohahabclgaa
open Go.ChangeShapes Go.WideShapes Go.ChangeAt Go.RowKit
set_option maxRecDepth 100000
theorem run_make5 (w : World) : (Instr.makeSlice 60 (.int .i64 5) (.int .i64 5)).run Try.prog w = .ok (.slice (some ⟨w.heap.size, 0, none⟩) 5 5) (w.alloc (.cells (strCells5 zero5) 9)) := by
  have hinfo : (Try.prog.info? 9).map (fun i => (i.zero, i.size, i.bytes)) = some (some (.string ByteArray.empty), 1, 16) := by kernel_rfl
  obtain ⟨i, hi, hzz⟩ := Option.map_eq_some_iff.1 hinfo
  simp only [Prod.mk.injEq] at hzz
  obtain ⟨hz, hs, hb⟩ := hzz
  have hr := run_make (P := Try.prog) w 60 9 i _ Try.underlying60 hi hz .i64 .i64 5 5 (by omega) (Int.le_refl _) (by rw [hb]; omega) (by omega)
  rw [hs] at hr
  have e : madeCells #[.string ByteArray.empty] (5 * 1) = strCells5 zero5 := by
    apply Array.ext
    · simp [size_madeCells, strCells5]
    · intro i h1 h2
      rw [size_madeCells] at h1
      have : i = 0 ∨ i = 1 ∨ i = 2 ∨ i = 3 ∨ i = 4 := by omega
      rcases this with rfl | rfl | rfl | rfl | rfl <;> simp [madeCells, strCells5, zero5, bytesOf] <;> rfl
  simpa [Value.cells, e] using hr
def sumS (w : World) (b : Nat) : Nat := setC (w.cell? ⟨b, 0, none⟩) + setC (w.cell? ⟨b, 1, none⟩) + setC (w.cell? ⟨b, 2, none⟩) + setC (w.cell? ⟨b, 3, none⟩) + setC (w.cell? ⟨b, 4, none⟩)
where setC : Option Value → Nat
  | some v => setV v
  | none => 0
theorem Str5.sum {w : World} {b : Nat} {F : V5} (h : Str5 w b F) (hF : F.ok) : sumS w b = F.sum := by
  obtain ⟨h1, h2, h3, h4, h5⟩ := hF
  unfold sumS
  rw [cell_of_block h 0, cell_of_block h 1, cell_of_block h 2, cell_of_block h 3, cell_of_block h 4]
  show setV (.string (bytesOf (textN F.a))) + setV (.string (bytesOf (textN F.b))) + setV (.string (bytesOf (textN F.c))) + setV (.string (bytesOf (textN F.d))) + setV (.string (bytesOf (textN F.e))) = _
  rw [setV_text h1, setV_text h2, setV_text h3, setV_text h4, setV_text h5]; rfl
theorem tlB_inj {x y : ByteArray} (h : x.toList = y.toList) : x = y := by
  apply bytesOf_ext
  rwa [ByteArray.toList_eq, ByteArray.toList_eq] at h
theorem text_neq {a b : Nat} (ha : a < 1024) (hb : b < 1024) : ((bytesOf (textN a)).toList == (bytesOf (textN b)).toList) = decide (a = b) := by
  by_cases h : a = b
  · subst h; simp
  · rw [decide_eq_false h, beq_eq_false_iff_ne]
    intro e
    have e1 : bytesOf (textN a) = bytesOf (textN b) := tlB_inj e
    have e2 : textN a = textN b := by have := congrArg (fun x => x.data.toList) e1; simpa [bytesOf] using this
    exact h (by rw [← set_text ha, ← set_text hb, e2])
def firDone (rs : List RuleT) (n : Nat) (F : V5) (k : Nat) : Prop := ∀ j (h : j < rs.length), j < k → Sub (firstA n F 0 rs[j].2.data.toList).1 (F.get (leftC rs[j]))
set_option maxHeartbeats 2000000 in
theorem l2Firsts_any (st : ByteArray) (a : Option Addr) (cap : Nat) (rs : List RuleT) (w : World) (H : RulesAt w a rs) (hok : gramOkB st rs = true) :
    Calls Try.prog 102 #[.agg #[.string st, .slice a rs.length cap]] w fun e w' => ∃ F b, e = .returned (.slice (some ⟨b, 0, none⟩) 5 5) ∧ w.heap.size ≤ b ∧ Str5 w' b F ∧ IsFirst rs (leftsLeast rs 0) F ∧ Below w.heap.size w w' := by
  have hl := (gramOk_facts hok).2.1
  have hlm := leftsLeast_lt rs 0
  obtain ⟨n, hnn⟩ : ∃ n, leftsLeast rs 0 = n := ⟨_, rfl⟩
  have hm5 := run_make5
  have hG : GBox (w.alloc (.cells #[.string st, .slice a rs.length cap] 24)) w.heap.size st a rs.length cap := blk_new _ _ rfl
  have hbw := (Below.refl w.heap.size w).alloc (Nat.le_refl _) (.cells #[.string st, .slice a rs.length cap] 24)
  simp only [hnn] at hlm ⊢
  have HN := Lib.hid hnn
  clear hnn
  go_enter Try.func102, Try.ntmps102
  go_wp2_with fail
  refine (l2Grow_any st a cap rs false _ (H.below hbw (Nat.le_refl _)) hok).mono ?_
  rintro e w2 ⟨rfl, hb2⟩
  rw [show smallSet false = 0 from rfl, HN.out]
  have hG2 := hG.below hb2
  have hB2 : Below w.heap.size w w2 := hbw.trans (hb2.mono (by simp))
  have HOK := Lib.hid hok
  clear hG hbw hb2 hok
  have hS0 : Str5 (w2.alloc (.cells (strCells5 zero5) 9)) w2.heap.size zero5 := blk_new _ _ rfl
  have hG3 : GBox (w2.alloc (.cells (strCells5 zero5) 9)) w.heap.size st a rs.length cap := hG2.below ((Below.refl _ _).alloc (Nat.le_refl _) _)
  have hB3 := hB2.alloc hB2.size (.cells (strCells5 zero5) 9)
  have hlt2 := hG2.lt
  go_wp2
  clear hm5
  go_loopw [5] (fun i wr => ∃ (k : Nat) (F : V5), k ≤ rs.length ∧ i = .int .i64 k ∧ F.ok ∧ Str5 wr w2.heap.size F ∧ Hid (∀ G, firClosed rs n G → Sub5 F G) ∧ Hid (firDone rs n F k) ∧ GBox wr w.heap.size st a rs.length cap ∧ Below w.heap.size w wr) (fun i wr => (5120 - sumS wr w2.heap.size) * 16 + (16 - (intOf i).toNat))
  case atStart => exact ⟨0, zero5, Nat.zero_le _, rfl, zero5_ok, hS0, fun G _ => zero5_sub G, fun j _ h => absurd h (Nat.not_lt_zero _), hG3, hB3⟩
  case round =>
    obtain ⟨k, F, hk, rfl, hF, hS, HL, HD, hGr, hb⟩ := hrel
    obtain ⟨g0, g1⟩ := hGr.cells
    by_cases hlt : k < rs.length
    · obtain ⟨z1, z2, bb, off, e, hbb, d1', d2'⟩ := H.2 k hlt
      obtain ⟨c, hc, hbig⟩ := ok_left HOK.out hlt
      obtain ⟨hsym, hsz⟩ := ok_right HOK.out hlt
      subst e
      have HC : Hid (leftC rs[k] = c) := by show _ = _; unfold leftC; rw [hc]; rfl
      have d1 : wr.cell? ⟨bb, off + k * 2, none⟩ = some (.string ⟨#[c]⟩) := by rw [hb.cell (p := ⟨bb, _, none⟩) hbb, d1', hc]
      have d2 : wr.cell? ⟨bb, off + k * 2 + 1, none⟩ = some (.string rs[k].2) := by rw [hb.cell (p := ⟨bb, _, none⟩) hbb, d2']
      have hkl : (k : Int) < (rs.length : Int) := by omega
      have hx := byte0
      have hcell := hS.cell hbig
      obtain ⟨j, hj1, hj2, hj3⟩ := idx_big hbig
      rw [hj1] at hcell
      have hj4 : (j : Int) < 5 := by omega
      have hfz := hS.frozen j
      have hltb : bb < wr.heap.size := Nat.lt_of_lt_of_le hbb hb.size
      have hlts := hS.lt
      have hltg := hGr.lt
      have q1 : ∀ x, (grow wr x).cell? ⟨w2.heap.size, j, none⟩ = some (.string (bytesOf (textN (F.get c)))) := fun x => by rw [grow_cell _ _ _ _ hlts]; exact hcell
      have q2 : ∀ x, (grow wr x).cell? ⟨w.heap.size, 1, none⟩ = some (.slice (some ⟨bb, off, none⟩) rs.length cap) := fun x => by rw [grow_cell _ _ _ _ hltg]; exact g1
      have q3 : ∀ x, (grow wr x).cell? ⟨bb, off + k * 2 + 1, none⟩ = some (.string rs[k].2) := fun x => by rw [grow_cell _ _ _ _ hltb]; exact d2
      have hfl := firstA_lt (n := n) hF rs[k].2.data.toList 0 (by omega)
      clear d1' d2' hc
      go_wp2
      refine wp_region_grow (by kernel_rfl) (by kernel_rfl) ?_
      repeat (go_big_quiet_step ((first | (go_at_call 104; exact Calls.grow_of (l2First_any w2.heap.size n F rs[k].2 _ hF (by omega) hsym (hS.below (below_grow _ _)))) | (go_at_call 103; exact Calls.grow_of (l2Join_any (F.get c) (firstA n F 0 rs[k].2.data.toList).1 _ (hF.get c) hfl)))))
      refine wpQuiet_nil ?_
      rintro _ ⟨x, rfl⟩
      have hbx := below_grow wr x
      have hSx := hS.below hbx
      have hGx := hGr.below hbx
      have hBx := hb.trans (hbx.mono hb.size)
      have cx := q1 x
      have fx := hSx.frozen j
      have hml := or_lt (hF.get c) hfl
      have hteq := text_neq hml (hF.get c)
      have hsum := hS.sum hF
      clear q1 q2 q3 hcell hfz g0 g1 d1 d2
      generalize grow wr x = wx at *
      by_cases he : F.get c ||| (firstA n F 0 rs[k].2.data.toList).1 = F.get c
      · rw [decide_eq_true he] at hteq
        have HE : Hid (Sub (firstA n F 0 rs[k].2.data.toList).1 (F.get c)) := by show Sub _ _; unfold Sub; rw [Nat.or_comm]; exact he
        clear he
        go_wp2
        go_roundw
        case rel => exact ⟨k + 1, F, by omega, by go_num, hF, hSx, HL, fun q hq h => by
                      by_cases e : q = k
                      · subst e; rw [HC.out]; exact HE.out
                      · exact HD.out q hq (by omega), hGx, hBx⟩
        case measure => rw [hSx.sum hF, hsum]; simp [intOf]; omega
      · rw [decide_eq_false he] at hteq
        have hS2 := hSx.upd hbig (F.get c ||| (firstA n F 0 rs[k].2.data.toList).1)
        rw [hj1] at hS2
        have hF2 := hF.upd c hml
        have hgrow := (sub5_upd F c (sub_or_left (F.get c) (firstA n F 0 rs[k].2.data.toList).1)).grows (fun e => by
          have h2 := V5.upd_get F c (F.get c ||| (firstA n F 0 rs[k].2.data.toList).1)
          rw [← e] at h2; exact he h2.symm)
        have hs2 := hS2.sum hF2
        have hsl := hF2.sum
        have hG2' : GBox (wx.setCell ⟨w2.heap.size, j, none⟩ (.string (bytesOf (textN (F.get c ||| (firstA n F 0 rs[k].2.data.toList).1))))) w.heap.size st (some ⟨bb, off, none⟩) rs.length cap := blk_set (p := ⟨w2.heap.size, j, none⟩) hGx (by show w.heap.size ≠ w2.heap.size; omega) _
        have hB2' := hBx.setCell (p := ⟨w2.heap.size, j, none⟩) hB2.size (.string (bytesOf (textN (F.get c ||| (firstA n F 0 rs[k].2.data.toList).1))))
        have HS2 := Lib.hid hS2
        have HG2 := Lib.hid hG2'
        have HB2 := Lib.hid hB2'
        have HSS := Lib.hid hs2
        clear hS2 hG2' hB2' hs2
        go_wp2
        go_roundw
        case rel => exact ⟨0, _, Nat.zero_le _, rfl, hF2, HS2.out, fun G hG => (HL.out G hG).upd c (((HL.out G hG).get c).or ((firstA_mono (HL.out G hG) _ (Sub.refl 0)).trans (by have := hG rs[k] (List.getElem_mem hlt); rwa [HC.out] at this))), fun j _ h => absurd h (Nat.not_lt_zero _), HG2.out, HB2.out⟩
        case measure => rw [HSS.out, hsum]; simp [intOf]; omega
    · have hkl : ¬ (k : Int) < (rs.length : Int) := by omega
      obtain rfl : k = rs.length := by omega
      go_wp2
      go_ret
      refine ⟨F, _, rfl, hB2.size, hS, ⟨hF, ?_, HL.out⟩, hb⟩
      intro r hr
      obtain ⟨j, hj, rfl⟩ := List.getElem_of_mem hr
      exact HD.out j hj hj
theorem firstA_all {n : Nat} {F : V5} (hn : Sub n 62) : ∀ (l : List UInt8) (acc : Nat), (firstA n F acc l).2 = hasAllN n l
  | [], _ => rfl
  | c :: r, acc => by
    have hall : hasAllN n (c :: r) = (hasN n c && hasAllN n r) := rfl
    unfold firstA
    split
    · rename_i hs
      have : hasN n c = false := by
        cases h : hasN n c with
        | false => rfl
        | true =>
          have := hasN_mono hn h
          rcases smallN_cases hs with rfl | rfl | rfl | rfl <;> exact absurd this (by decide)
      rw [hall, this]; rfl
    split
    · rename_i h; rw [firstA_all hn r, hall, h]; rfl
    · rename_i h
      have h' : hasN n c = false := by simpa using h
      rw [hall, h']; rfl
theorem least_big {st : ByteArray} {rs : List RuleT} (h : gramOkB st rs = true) (g : Nat) : Sub (leftsLeast rs g) 62 := by
  refine leftsLeast_sub ?_
  rw [leftsClosed_iff]
  intro r hr _
  obtain ⟨k, hk, rfl⟩ := List.getElem_of_mem hr
  obtain ⟨c, hc, hb⟩ := ok_left h hk
  rw [hc]
  rcases bigN_cases hb with rfl | rfl | rfl | rfl | rfl <;> (unfold Sub; decide)
end Go.Proofs.Ytjpkohahabclgaa
