/- The draw of FnTreeSmall: rules, and some text. -/
import Derived.Test.YtpkejcjjbkgomaaGreatDoorDrawX
import Derived.Test.YtpkejcjjbkgomaaGreatDoorTtB
import Derived.Deep.DeepCutAuto
import Derived.Deep.RegionHeld3
namespace Go.Proofs.YtpkejcjjbkgomaaGreatDoor
open Go.ChangeShapes Go.WideShapes Go.ChangeAt Go.RowKit Go.Deep
set_option maxRecDepth 100000
@[irreducible] def catT (a b : ByteArray) : ByteArray := a ++ b
theorem run_catT (a b : ByteArray) (h : a.size + b.size ≤ 9223372036854775807) (w : World) : (Op.stringOp .add a b).run Tryz.prog w = .ok (.string (catT a b)) w := by
  unfold catT
  rw [run_string_add_sum w _ _ h]
theorem catT_size (a b : ByteArray) : (catT a b).size = a.size + b.size := by unfold catT; simp
theorem cut_size (s : ByteArray) (i j : Nat) : (s.extract i j).size ≤ s.size := by rw [ByteArray.size_extract]; omega
theorem str8_size : ∀ x ∈ ([⟨#[]⟩, ⟨#[91]⟩, ⟨#[93]⟩, ⟨#[48]⟩, ⟨#[49]⟩, ⟨#[97]⟩, ⟨#[98]⟩, ⟨#[57]⟩] : List ByteArray), x.size ≤ 1 := by
  intro x hx
  simp only [List.mem_cons, List.not_mem_nil, or_false] at hx
  rcases hx with rfl | rfl | rfl | rfl | rfl | rfl | rfl | rfl <;> decide
theorem treeText_size (st : ByteArray) (rs : List RuleT) (T : Tr) : (treeTextS st rs T).size ≤ 180 := by
  unfold treeTextS
  rw [bytesOf_size]
  split
  · rename_i h
    obtain ⟨_, hs⟩ := ok_shape h
    have h1 := textN_len rs 20 T hs
    have h2 := many_shape rs 20 T hs
    have h3 : (manyD 20 T : Int) ≤ 60 := by
      unfold treeOkB at h
      rw [Bool.and_eq_true, Bool.and_eq_true] at h
      exact of_decide_eq_true h.2.2
    omega
  · simp
theorem str8 {w : World} {L : Nat} (h : w.heap[L]? = some (.cells #[.string ⟨#[]⟩, .string ⟨#[91]⟩, .string ⟨#[93]⟩, .string ⟨#[48]⟩, .string ⟨#[49]⟩, .string ⟨#[97]⟩, .string ⟨#[98]⟩, .string ⟨#[57]⟩] 9)) : ∀ i (h' : i < ([⟨#[]⟩, ⟨#[91]⟩, ⟨#[93]⟩, ⟨#[48]⟩, ⟨#[49]⟩, ⟨#[97]⟩, ⟨#[98]⟩, ⟨#[57]⟩] : List ByteArray).length), w.cell? ⟨L, i, none⟩ = some (.string ([⟨#[]⟩, ⟨#[91]⟩, ⟨#[93]⟩, ⟨#[48]⟩, ⟨#[49]⟩, ⟨#[97]⟩, ⟨#[98]⟩, ⟨#[57]⟩] : List ByteArray)[i]) := by
  intro i hi
  rw [cell_of_block h i]
  have : i = 0 ∨ i = 1 ∨ i = 2 ∨ i = 3 ∨ i = 4 ∨ i = 5 ∨ i = 6 ∨ i = 7 := by simp at hi; omega
  rcases this with rfl | rfl | rfl | rfl | rfl | rfl | rfl | rfl <;> rfl
theorem GB2.put2 {w : World} {b : Nat} {v0 v1 : Value} (h : GB2 w b v0 v1) (x0 x1 : Value) : GB2 ((w.setCell ⟨b, 0, none⟩ x0).setCell ⟨b, 1, none⟩ x1) b x0 x1 := by
  unfold GB2 at *; simp [World.setCell, Array.getElem?_modify, h]
def MadeGX (w : World) (e : Ending) (w' : World) : Prop := ∃ gv x st rs, e = .returned (.tuple #[gv, .string x]) ∧ GramVal w' w.heap.size 14 gv st rs ∧ Below w.heap.size w w'
theorem gx_end {w wz : World} {st : ByteArray} {rs : List RuleT} {b off cg : Nat} {x : ByteArray} (hcg : rs.length ≤ cg) (HU : RulesAt wz (some ⟨b, off, none⟩) rs) (hl : rs.length ≤ 14) (hst : st.size ≤ 100) (hS : SmallR rs) (hb : w.heap.size + 1 ≤ b) (B : Below w.heap.size w wz) (x0 x1 : Value) :
    MadeGX w (.returned (.tuple #[.agg #[.string st, .slice (some ⟨b, off, none⟩) rs.length cg], .string x])) ((wz.setCell ⟨w.heap.size, 0, none⟩ x0).setCell ⟨w.heap.size, 1, none⟩ x1) :=
  ⟨_, x, st, rs, rfl, ⟨b, off, cg, rfl, hcg, (HU.other (p := ⟨w.heap.size, 0, none⟩) (fun q hq => by cases hq; show b ≠ w.heap.size; omega) x0).other (p := ⟨w.heap.size, 1, none⟩) (fun q hq => by cases hq; show b ≠ w.heap.size; omega) x1, hl, hst, hS, by omega⟩, (B.setCell (p := ⟨w.heap.size, 0, none⟩) (Nat.le_refl _) _).setCell (p := ⟨w.heap.size, 1, none⟩) (Nat.le_refl _) _⟩
set_option maxHeartbeats 2000000 in
theorem drawTreeRead_any (a : Option Addr) (n cap : Nat) (w : World) (H : BytesAt w a n cap) :
    Calls Tryz.prog 5 #[.slice a n cap] w (MadeGX w) := by
  have hb1 := (Below.refl w.heap.size w).alloc (Nat.le_refl _) (.cells #[.string ⟨#[]⟩, .slice none 0 0] 25)
  have hG1 : GB2 (w.alloc (.cells #[.string ⟨#[]⟩, .slice none 0 0] 25)) w.heap.size (.string ⟨#[]⟩) (.slice none 0 0) := blk_new _ _ rfl
  go_enter Tryz.func5, Tryz.ntmps5
  go_wp2_with fail
  refine (l17Open_any a n cap _ (H.alloc _)).mono ?_
  rintro e w3 ⟨rfl, hrd3, hb3⟩
  simp only [World.size_alloc] at hrd3
  have hG3 : GB2 w3 w.heap.size (.string ⟨#[]⟩) (.slice none 0 0) := (hb3.block _ hG1.lt).trans hG1
  have hB3 := Below.on hb1 hb3 (Nat.le_refl _)
  have hz3 : w.heap.size + 1 ≤ w3.heap.size := by have := hb3.size; simpa using this
  clear hG1 hb1 hb3
  go_wp2_with fail
  refine (l3Some_any (w.heap.size + 1) w3 hrd3).mono ?_
  rintro e w4 ⟨gv, tv, rfl, ⟨st, rs, T, ⟨b, off, cg, rfl, hcg, HU, hl, hst, hS, hbb⟩, HT, hsz, hwt⟩, hrd4, ho4⟩
  obtain ⟨s, r, ks, ka, kc, rfl, _⟩ := HT.tr.open
  have hR3 := hrd3.lt
  have hG4 := hG3.only ho4 (by omega)
  have hB4 : Below w.heap.size w w4 := hB3.trans (ho4.below _ (by omega) (by have := hB3.size; omega))
  have hz4 := ho4.size
  clear hG3 hB3 ho4
  have al := ((Below.refl w4.heap.size w4).alloc (Nat.le_refl _) (.cells #[.string st, .slice (some ⟨b, off, none⟩) rs.length cg] 25)).alloc (by simp) (.cells #[.string s, .int .i64 r, .slice ka ks.length kc] 30)
  have g5 : GB2 ((w4.alloc (.cells #[.string st, .slice (some ⟨b, off, none⟩) rs.length cg] 25)).alloc (.cells #[.string s, .int .i64 r, .slice ka ks.length kc] 30)) w4.heap.size (.string st) (.slice (some ⟨b, off, none⟩) rs.length cg) := (blk_old _ _ (by simp)).trans (blk_new _ _ rfl)
  have hG5 : GB2 ((w4.alloc (.cells #[.string st, .slice (some ⟨b, off, none⟩) rs.length cg] 25)).alloc (.cells #[.string s, .int .i64 r, .slice ka ks.length kc] 30)) w.heap.size (.string ⟨#[]⟩) (.slice none 0 0) := (al.block _ hG4.lt).trans hG4
  have HU5 := HU.below al (Nat.le_refl _)
  have hrd5 := hrd4.below al
  have B5 := Below.on hB4 al (Nat.le_refl _)
  have CT := Lib.hid (sTreeText_any st (some ⟨b, off, none⟩) cg rs T _ _ HU5 hcg ((HT.keep al).tr.mono (Nat.zero_le _)) hwt (by omega))
  have hts := treeText_size st rs T
  clear hG4 HU hrd4 hB4 HT hrd3
  go_wp2_with fail
  refine CT.out.mono ?_
  rintro e w6 ⟨rfl, hb6⟩
  generalize treeTextS st rs T = ts at *
  have g6 : GB2 w6 w4.heap.size (.string st) (.slice (some ⟨b, off, none⟩) rs.length cg) := (hb6.block _ g5.lt).trans g5
  have hG6 : GB2 w6 w.heap.size (.string ⟨#[]⟩) (.slice none 0 0) := (hb6.block _ hG5.lt).trans hG5
  have HU6 := HU5.below hb6 (Nat.le_refl _)
  have hrd6 := hrd5.below hb6
  have B6 := Below.on B5 hb6 (Nat.le_refl _)
  clear CT g5 hG5 HU5 hrd5 B5 hb6 al
  have fin : ∀ (wz : World) (x : ByteArray), GB2 wz w.heap.size (.string ⟨#[]⟩) (.slice none 0 0) → RulesAt wz (some ⟨b, off, none⟩) rs → Below w.heap.size w wz → MadeGX w (.returned (.tuple #[.agg #[.string st, .slice (some ⟨b, off, none⟩) rs.length cg], .string x])) ((wz.setCell ⟨w.heap.size, 0, none⟩ (.string st)).setCell ⟨w.heap.size, 1, none⟩ (.slice (some ⟨b, off, none⟩) rs.length cg)) ∧ ((wz.setCell ⟨w.heap.size, 0, none⟩ (.string st)).setCell ⟨w.heap.size, 1, none⟩ (.slice (some ⟨b, off, none⟩) rs.length cg)).cell? ⟨w.heap.size, 0, none⟩ = some (.string st) ∧ ((wz.setCell ⟨w.heap.size, 0, none⟩ (.string st)).setCell ⟨w.heap.size, 1, none⟩ (.slice (some ⟨b, off, none⟩) rs.length cg)).cell? ⟨w.heap.size, 1, none⟩ = some (.slice (some ⟨b, off, none⟩) rs.length cg) := fun wz x h1 h2 h3 =>
    ⟨gx_end hcg h2 hl hst hS (by omega) h3 _ _, (h1.put2 _ _).cells.1, (h1.put2 _ _).cells.2⟩
  have FIN := Lib.hid fin
  clear fin
  obtain ⟨g0, g1⟩ := g6.cells
  obtain ⟨z0, z1⟩ := hG6.cells
  have fz0 := frozen_of_block hG6 0
  have fz1 := frozen_of_block hG6 1
  by_cases h0 : ts.size = 0
  · have hq : ((ts.size : Int) == 0) = true := by rw [h0]; rfl
    obtain ⟨m1, e0, e1⟩ := FIN.out w6 ts hG6 HU6 B6
    have E0 := Lib.hid e0
    have E1 := Lib.hid e1
    have M1 := Lib.hid m1
    clear e0 e1 m1 h0
    go_wp2_with fail
    exact bodyPost_ret (v := .tuple #[.agg #[.string st, .slice (some ⟨b, off, none⟩) rs.length cg], .string ts]) (by have e0 := E0.out; have e1 := E1.out; simp [results, Tryz.results5, go_sem, e0, e1]) rfl M1.out
  · have hq : ((ts.size : Int) == 0) = false := by rw [beq_eq_false_iff_ne]; omega
    have hpos : 0 < ts.size := by omega
    clear h0
    have CP := Lib.hid (pick_any (w.heap.size + 1) 900000 2 w6 hrd6 (by omega) (by omega) (by omega))
    go_wp2_with fail
    refine CP.out.mono ?_
    rintro e w7 ⟨v, rfl, ⟨hv0, hv1, _⟩, hrd7, ho7⟩
    have g7 := g6.only ho7 (by omega)
    have hG7 := hG6.only ho7 (by omega)
    have HU7 := HU6.only ho7 (by omega)
    have B7 : Below w.heap.size w w7 := B6.trans (ho7.below _ (by omega) (by have := B6.size; omega))
    clear CP g6 hG6 HU6 hrd6 B6 ho7 g0 g1 z0 z1 fz0 fz1 hv1
    obtain ⟨g0, g1⟩ := g7.cells
    obtain ⟨z0, z1⟩ := hG7.cells
    have fz0 := frozen_of_block hG7 0
    have fz1 := frozen_of_block hG7 1
    by_cases hv : v = 0
    · subst hv
      obtain ⟨m1, e0, e1⟩ := FIN.out w7 ts hG7 HU7 B7
      have E0 := Lib.hid e0
      have E1 := Lib.hid e1
      have M1 := Lib.hid m1
      clear e0 e1 m1
      go_wp2_with fail
      exact bodyPost_ret (v := .tuple #[.agg #[.string st, .slice (some ⟨b, off, none⟩) rs.length cg], .string ts]) (by have e0 := E0.out; have e1 := E1.out; simp [results, Tryz.results5, go_sem, e0, e1]) rfl M1.out
    · have hvq : (v == 0) = false := by simpa using hv
      clear hv
      have CP := Lib.hid (pick_any (w.heap.size + 1) 900001 (ts.size : Int) w7 hrd7 (by omega) (by omega) (by omega))
      go_wp2_with fail
      refine CP.out.mono ?_
      rintro e w8 ⟨k, rfl, ⟨hk0, hk1, _⟩, hrd8, ho8⟩
      obtain ⟨k, rfl⟩ : ∃ j : Nat, k = (j : Int) := ⟨k.toNat, by omega⟩
      have hkl : k < ts.size := by have := hk1 (by omega); omega
      have hkl' : (k : Int) ≤ (ts.size : Int) := by omega
      have g8 := g7.only ho8 (by omega)
      have hG8 := hG7.only ho8 (by omega)
      have HU8 := HU7.only ho8 (by omega)
      have B8 : Below w.heap.size w w8 := B7.trans (ho8.below _ (by omega) (by have := B7.size; omega))
      clear CP g7 hG7 HU7 hrd7 B7 ho8 g0 g1 z0 z1 fz0 fz1 hk1
      go_upto_region 7 with fail
      go_cut [3] (fun s3 wx => ∃ x, s3 = .string x ∧ Hid (MadeGX w (.returned (.tuple #[.agg #[.string st, .slice (some ⟨b, off, none⟩) rs.length cg], .string x])) wx) ∧ wx.cell? ⟨w.heap.size, 0, none⟩ = some (.string st) ∧ wx.cell? ⟨w.heap.size, 1, none⟩ = some (.slice (some ⟨b, off, none⟩) rs.length cg))
      case first =>
        have al := (Below.refl w8.heap.size w8).alloc (Nat.le_refl _) (.cells #[.string ⟨#[]⟩, .string ⟨#[91]⟩, .string ⟨#[93]⟩, .string ⟨#[48]⟩, .string ⟨#[49]⟩, .string ⟨#[97]⟩, .string ⟨#[98]⟩, .string ⟨#[57]⟩] 9)
        have hR8 := hrd8.lt
        have CO := Lib.hid (of_any (w.heap.size + 1) 900002 w8.heap.size 8 8 [⟨#[]⟩, ⟨#[91]⟩, ⟨#[93]⟩, ⟨#[48]⟩, ⟨#[49]⟩, ⟨#[97]⟩, ⟨#[98]⟩, ⟨#[57]⟩] (w8.alloc (.cells #[.string ⟨#[]⟩, .string ⟨#[91]⟩, .string ⟨#[93]⟩, .string ⟨#[48]⟩, .string ⟨#[49]⟩, .string ⟨#[97]⟩, .string ⟨#[98]⟩, .string ⟨#[57]⟩] 9)).drew (hrd8.alloc _).drew (by omega) rfl (by omega) (by omega) (by omega) (str8 (w := (w8.alloc (.cells #[.string ⟨#[]⟩, .string ⟨#[91]⟩, .string ⟨#[93]⟩, .string ⟨#[48]⟩, .string ⟨#[49]⟩, .string ⟨#[97]⟩, .string ⟨#[98]⟩, .string ⟨#[57]⟩] 9)).drew) (blk_new w8 _ rfl)))
        have key : ∀ wx : World, Only (w.heap.size + 1) (w8.alloc (.cells #[.string ⟨#[]⟩, .string ⟨#[91]⟩, .string ⟨#[93]⟩, .string ⟨#[48]⟩, .string ⟨#[49]⟩, .string ⟨#[97]⟩, .string ⟨#[98]⟩, .string ⟨#[57]⟩] 9)).drew wx → GB2 wx w4.heap.size (.string st) (.slice (some ⟨b, off, none⟩) rs.length cg) ∧ GB2 wx w.heap.size (.string ⟨#[]⟩) (.slice none 0 0) ∧ RulesAt wx (some ⟨b, off, none⟩) rs ∧ Below w.heap.size w wx := fun wx ho =>
          have o8 : Only (w.heap.size + 1) w8 wx := (Only.of_below al.drew).trans ho
          ⟨g8.only o8 (by omega), hG8.only o8 (by omega), HU8.only o8 (by omega), B8.trans (o8.below _ (by omega) (by have := B8.size; omega))⟩
        have KEY := Lib.hid key
        obtain ⟨g0, g1⟩ := g8.cells
        clear key g8 hG8 HU8 B8 al
        go_region_held3 (fun w' => w'.cell? ⟨w4.heap.size, 0, none⟩ = some (.string st) ∧ w'.cell? ⟨w4.heap.size, 1, none⟩ = some (.slice (some ⟨b, off, none⟩) rs.length cg))
          (first
            | go_keep
            | with_reducible exact ka
            | with_reducible exact kb
            | with_reducible exact kc
            | fail)
          (first
            | (go_at_call 24; (with_reducible refine CO.out.mono ?_); rintro e w10 ⟨x1, rfl, hx1, hrd10, ho10⟩; have hx1s := str8_size x1 hx1; clear hx1; have hc1 := cut_size ts 0 k; have E1 := fun wv => run_catT (ts.extract 0 k) x1 (by omega) wv; have hc2 := catT_size (ts.extract 0 k) x1; have HC2 := Lib.hid hc2; clear hc2; have ka := (KEY.out _ ho10).1.cells; have HO10 := Lib.hid ho10; have HR10 := Lib.hid hrd10; clear ho10 hrd10)
            | (go_at_call 23; (with_reducible refine (pick_any (w.heap.size + 1) 900003 2 w10 HR10.out (by omega) (by omega) (by omega)).mono ?_); rintro e w11 ⟨q, rfl, ⟨hq0, hq1, _⟩, _, ho11⟩; have hq2 := hq1 (by omega); obtain ⟨q, rfl⟩ : ∃ j : Nat, q = (j : Int) := ⟨q.toNat, by omega⟩; have hwq : IntKind.i64.wrap ((k : Int) + (q : Int)) = (k : Int) + (q : Int) := IntWalk.i64_in _ (by omega); have hq3 : (k : Int) + (q : Int) ≤ (ts.size : Int) := (by omega); have hq4 : 0 ≤ (k : Int) + (q : Int) := (by omega); have hq5 : ((k : Int) + (q : Int)).toNat = k + q := (by omega); have hc3 := cut_size ts (k + q) ts.size; have E2 := fun wv => run_catT (catT (ts.extract 0 k) x1) (ts.extract (k + q) ts.size) (by rw [HC2.out]; omega) wv; have KK := Lib.hid (KEY.out _ (HO10.out.trans ho11)); have kb := KK.out.1.cells; have hne0 : w4.heap.size ≠ w.heap.size := (by omega); have kc := (show GB2 ((w11.setCell ⟨w.heap.size, 0, none⟩ (.string st)).setCell ⟨w.heap.size, 1, none⟩ (.slice (some ⟨b, off, none⟩) rs.length cg)) w4.heap.size (.string st) (.slice (some ⟨b, off, none⟩) rs.length cg) from (Below.heap_setCell _ _ _ _ hne0).trans ((Below.heap_setCell _ _ _ _ hne0).trans KK.out.1)).cells; clear hne0; obtain ⟨z0, z1⟩ := KK.out.2.1.cells; have fz0 := frozen_of_block KK.out.2.1 0; have fz1 := frozen_of_block KK.out.2.1 1; clear ho11 hq1)
            | fail)
        all_goals go_wp2_with fail
        all_goals go_meet
        all_goals
          obtain ⟨m1, e0, e1⟩ := FIN.out w11 (catT (catT (ts.extract 0 k) x1) (ts.extract (k + q) ts.size)) KK.out.2.1 KK.out.2.2.1 KK.out.2.2.2
          exact ⟨_, rfl, m1, e0, e1⟩
      case rest =>
        obtain ⟨x, rfl, M1, e0, e1⟩ := hcut
        have E0 := Lib.hid e0
        have E1 := Lib.hid e1
        clear e0 e1
        go_wp2_with fail
        exact bodyPost_ret (v := .tuple #[.agg #[.string st, .slice (some ⟨b, off, none⟩) rs.length cg], .string x]) (by have e0 := E0.out; have e1 := E1.out; simp [results, Tryz.results5, go_sem, e0, e1]) rfl M1.out
end Go.Proofs.YtpkejcjjbkgomaaGreatDoor
