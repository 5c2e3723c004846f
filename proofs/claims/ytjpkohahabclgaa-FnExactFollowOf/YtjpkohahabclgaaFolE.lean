/- FOLLOW sets: contracts of FollowOf and of the model's l2Follows and FollowOf; what they are closed under. -/
import Derived.Test.YtjpkohahabclgaaFolB
import Derived.Test.YtjpkohahabclgaaFirJ
namespace Go.Proofs.Ytjpkohahabclgaa
open Go.ChangeShapes Go.WideShapes Go.ChangeAt Go.RowKit
set_option maxRecDepth 100000
def followAsk (st : ByteArray) (rs : List RuleT) (s : ByteArray) : Bool := gramOkB st rs && isBigS s
def followRes (st : ByteArray) (rs : List RuleT) (K : V5) (s : ByteArray) : List UInt8 := if followAsk st rs s = true then textN (K.get (headB s)) else []
def FollowSays (st : ByteArray) (rs : List RuleT) (s : ByteArray) (w : World) (e : Ending) (w' : World) : Prop :=
  ∃ F K, (followAsk st rs s = true → IsFirst rs (leftsLeast rs 0) F ∧ IsFollow (headB st) rs (leftsLeast rs 0) F K) ∧ e = .returned (.string (bytesOf (followRes st rs K s))) ∧ Below w.heap.size w w'
set_option maxHeartbeats 1000000 in
theorem followOf_any (st : ByteArray) (a : Option Addr) (cap : Nat) (rs : List RuleT) (s : ByteArray) (w : World) (H : RulesAt w a rs) (hcap : rs.length ≤ cap) :
    Calls Try.prog 30 #[.agg #[.string st, .slice a rs.length cap], .string s] w (FollowSays st rs s w) := by
  have hG : GBox (w.alloc (.cells #[.string st, .slice a rs.length cap] 24)) w.heap.size st a rs.length cap := blk_new _ _ rfl
  have hbw := (Below.refl w.heap.size w).alloc (Nat.le_refl _) (.cells #[.string st, .slice a rs.length cap] 24)
  go_enter Try.func30, Try.ntmps30
  go_wp2_with fail
  refine (gramOk_any _ _ _ rs _ (H.below hbw (Nat.le_refl _)) hcap).mono ?_
  rintro e w2 ⟨rfl, hb2⟩
  have c2 : Below w.heap.size w w2 := hbw.trans (hb2.mono (by simp))
  obtain ⟨g0, g1⟩ := (hG.below hb2).cells
  have H2 := H.below c2 (Nat.le_refl _)
  clear hG hbw hb2
  cases hok : gramOkB st rs with
  | false =>
    go_wp2
    go_ret
    exact ⟨zero5, zero5, (fun h => by simp [followAsk, hok] at h), by simp [followRes, followAsk, hok, bytesOf], c2⟩
  | true =>
    go_wp2_with fail
    refine (signBig_any s _).mono ?_
    rintro e w3 ⟨rfl, rfl⟩
    cases hb : isBigS s with
    | false =>
      go_wp2
      go_ret
      exact ⟨zero5, zero5, (fun h => by simp [followAsk, hb] at h), by simp [followRes, followAsk, hb, bytesOf], c2⟩
    | true =>
      obtain ⟨c, rfl, hbig⟩ := big_str hb
      have hask : followAsk st rs ⟨#[c]⟩ = true := by simp [followAsk, hok, hb]
      go_wp2_with fail
      refine (followSets_any st a cap rs _ H2 hok).mono ?_
      rintro e w4 ⟨F, K, rfl, hF, hK, hb4⟩
      go_wp2_with fail
      refine (of5_any K c _ hbig).mono ?_
      rintro e w5 ⟨rfl, hb5⟩
      go_wp2_with fail
      refine (setText_any _ _ (hK.1.get c)).mono ?_
      rintro e w6 ⟨rfl, hb6⟩
      have hfin : Below w.heap.size w w6 := c2.trans (((hb4.trans (hb5.mono hb4.size)).trans (hb6.mono (Nat.le_trans hb4.size hb5.size))).mono c2.size)
      go_wp2
      go_ret
      exact ⟨F, K, (fun _ => ⟨hF, hK⟩), by unfold followRes; rw [if_pos hask]; rfl, hfin⟩
theorem text_one : bytesOf (textN 1) = ⟨#[36]⟩ := by decide
theorem text_none : bytesOf (textN 0) = ⟨#[]⟩ := by decide
theorem start_cells {c : UInt8} (hc : bigN (c.toNat : Int) = true) : (strCells5 zero5).setIfInBounds (c.toNat - 65) (.string ⟨#[36]⟩) = strCells5 (startK c) := by
  rcases bigN_cases hc with rfl | rfl | rfl | rfl | rfl <;> simp [strCells5, startK, V5.upd, zero5, text_one, text_none]
def boolN : Value → Nat
  | .bool true => 1
  | _ => 0
set_option maxHeartbeats 8000000 in
theorem l2Follows_any (st : ByteArray) (a : Option Addr) (cap : Nat) (rs : List RuleT) (w : World) (H : RulesAt w a rs) (hok : gramOkB st rs = true) :
    Calls Try.prog 63 #[.agg #[.string st, .slice a rs.length cap]] w fun e w' => ∃ F K b, e = .returned (.slice (some ⟨b, 0, none⟩) 5 5) ∧ w.heap.size ≤ b ∧ Str5 w' b K ∧ IsFirst rs (leftsLeast rs 0) F ∧ IsFollow (headB st) rs (leftsLeast rs 0) F K ∧ Below w.heap.size w w' := by
  have hl := (gramOk_facts hok).2.1
  have hlm := leftsLeast_lt rs 0
  obtain ⟨c0, rfl, hbig0⟩ := ok_begin hok
  have hm5 := run_make5
  have hx := byte0
  have hG : GBox (w.alloc (.cells #[.string ⟨#[c0]⟩, .slice a rs.length cap] 24)) w.heap.size ⟨#[c0]⟩ a rs.length cap := blk_new _ _ rfl
  have hbw := (Below.refl w.heap.size w).alloc (Nat.le_refl _) (.cells #[.string ⟨#[c0]⟩, .slice a rs.length cap] 24)
  go_enter Try.func63, Try.ntmps63
  go_wp2_with fail
  refine (l2Grow_any ⟨#[c0]⟩ a cap rs false _ (H.below hbw (Nat.le_refl _)) hok).mono ?_
  rintro e w2 ⟨rfl, hb2⟩
  rw [show smallSet false = 0 from rfl]
  have hG2 := hG.below hb2
  have hB2 : Below w.heap.size w w2 := hbw.trans (hb2.mono (by simp))
  clear hG hbw hb2
  obtain ⟨g0, g1⟩ := hG2.cells
  go_wp2_with fail
  refine (l2Firsts_any ⟨#[c0]⟩ a cap rs _ (H.below hB2 (Nat.le_refl _)) hok).mono ?_
  rintro e w3 ⟨F, bf, rfl, hbl, hS3, hF, hb3⟩
  have hbigN := least_big hok 0
  have hG3 := hG2.below hb3
  have hB3 : Below w.heap.size w w3 := hB2.trans (hb3.mono hB2.size)
  have HOK := Lib.hid hok
  clear hG2 hB2 hb3 hok g0 g1
  obtain ⟨j0, hj1, hj2, hj3⟩ := idx_big hbig0
  have hj4 : (j0 : Int) < 5 := by omega
  have hS4 : Str5 (w3.alloc (.cells (strCells5 zero5) 9)) w3.heap.size zero5 := blk_new _ _ rfl
  have hfz := hS4.frozen j0
  have hcz := hS4.cell hbig0
  rw [hj1] at hcz
  have hF4 := hS3.alloc (.cells (strCells5 zero5) 9)
  have hG4 : GBox (w3.alloc (.cells (strCells5 zero5) 9)) w.heap.size ⟨#[c0]⟩ a rs.length cap := hG3.below ((Below.refl _ _).alloc (Nat.le_refl _) _)
  have hB4 := hB3.alloc hB3.size (.cells (strCells5 zero5) 9)
  obtain ⟨g0, g1⟩ := hG3.cells
  have hltg := hG3.lt
  generalize hnn : leftsLeast rs 0 = n at *
  go_wp2_with fail
  have hcs := start_cells hbig0
  rw [hj1] at hcs
  rw [hcs]
  have hS5 : Str5 (w3.alloc (.cells (strCells5 (startK c0)) 9)) w3.heap.size (startK c0) := blk_new _ _ rfl
  have hF5 := hS3.alloc (.cells (strCells5 (startK c0)) 9)
  have hG5 : GBox (w3.alloc (.cells (strCells5 (startK c0)) 9)) w.heap.size ⟨#[c0]⟩ a rs.length cap := hG3.below ((Below.refl _ _).alloc (Nat.le_refl _) _)
  have hB5 := hB3.alloc hB3.size (.cells (strCells5 (startK c0)) 9)
  have hltf := hS3.lt
  have hsz3 := hB3.size
  clear hcs hS4 hfz hcz hF4 hG4 hB4 g0 g1 hG3 hS3 hm5 hj1 hj2 hj3 hj4
  generalize w3.alloc (.cells (strCells5 (startK c0)) 9) = W5 at *
  have hFok := hF.1
  go_loopw [6] (fun mv wr => ∃ (mb : Bool) (K : V5), mv = .bool mb ∧ K.ok ∧ Str5 wr w3.heap.size K ∧ Hid (Sub5 (startK c0) K ∧ ∀ G, Sub5 (startK c0) G → folClosed rs n F G → Sub5 K G) ∧ Hid (mb = false → folClosed rs n F K) ∧ Str5 wr bf F ∧ GBox wr w.heap.size ⟨#[c0]⟩ a rs.length cap ∧ Below w.heap.size w wr) (fun mv wr => (5120 - sumS wr w3.heap.size) * 2 + boolN mv)
  case atStart => exact ⟨true, startK c0, rfl, startK_ok c0, hS5, ⟨Sub5.refl _, fun G h _ => h⟩, (fun h => by cases h), hF5, hG5, hB5⟩
  case round =>
    obtain ⟨mb, K, rfl, hKok, hS, HL, HC, hFr, hGr, hb⟩ := hrel
    cases mb with
    | false =>
      go_wp2
      go_ret
      exact ⟨F, K, _, rfl, hsz3, hS, hF, ⟨hKok, HL.out.1, HC.out (by simp), HL.out.2⟩, hb⟩
    | true =>
      have hsum := hS.sum hKok
      have HSUM := Lib.hid hsum
      clear hsum
      go_wp2
      go_loopw [6, 7] (fun mv iv wr => ∃ (k : Nat) (mb : Bool), k ≤ rs.length ∧ iv = .int .i64 k ∧ mv = .bool mb ∧ Str5 wr w3.heap.size (folTo rs n F K k) ∧ Hid (mb = false → folTo rs n F K k = K) ∧ Hid (mb = true → K.sum < (folTo rs n F K k).sum) ∧ Str5 wr bf F ∧ GBox wr w.heap.size ⟨#[c0]⟩ a rs.length cap ∧ Below w.heap.size w wr) (fun _ iv _ => rs.length - (intOf iv).toNat)
      case atStart => exact ⟨0, false, Nat.zero_le _, rfl, rfl, hS, (fun _ => rfl), (fun h => by cases h), hFr, hGr, hb⟩
      case round =>
        obtain ⟨k, mb, hk, rfl, rfl, hSk, HM1, HM2, hFk, hGk, hbk⟩ := hrel
        obtain ⟨g0, g1⟩ := hGk.cells
        have hKk := folTo_ok rs n hFok hKok k
        by_cases hlt : k < rs.length
        · obtain ⟨z1, z2, bb, off, e, hbb, d1', d2'⟩ := H.2 k hlt
          obtain ⟨cl, hcl, hbigL⟩ := ok_left HOK.out hlt
          obtain ⟨hsym, hsz⟩ := ok_right HOK.out hlt
          subst e
          have HRK : Hid (rs[k] = (⟨#[cl]⟩, rs[k].2)) := Prod.ext hcl rfl
          have HS := Lib.hid (folTo_succ rs n F K k hlt)
          have d1 : wr.cell? ⟨bb, off + k * 2, none⟩ = some (.string ⟨#[cl]⟩) := by rw [hbk.cell (p := ⟨bb, _, none⟩) hbb, d1', hcl]
          have d2 : wr.cell? ⟨bb, off + k * 2 + 1, none⟩ = some (.string rs[k].2) := by rw [hbk.cell (p := ⟨bb, _, none⟩) hbb, d2']
          have hkl : (k : Int) < (rs.length : Int) := by omega
          have hX0 : (wr.alloc (.cells #[.string ⟨#[cl]⟩, .string rs[k].2] 55)).heap[wr.heap.size]? = some (.cells #[.string ⟨#[cl]⟩, .string rs[k].2] 55) := blk_new _ _ rfl
          have hS0 := hSk.alloc (.cells #[.string ⟨#[cl]⟩, .string rs[k].2] 55)
          have hF0 := hFk.alloc (.cells #[.string ⟨#[cl]⟩, .string rs[k].2] 55)
          have hG0 : GBox (wr.alloc (.cells #[.string ⟨#[cl]⟩, .string rs[k].2] 55)) w.heap.size ⟨#[c0]⟩ (some ⟨bb, off, none⟩) rs.length cap := hGk.below ((Below.refl _ _).alloc (Nat.le_refl _) _)
          have hb0 := hbk.alloc hbk.size (.cells #[.string ⟨#[cl]⟩, .string rs[k].2] 55)
          have hlts := hSk.lt
          have hltf2 := hFk.lt
          have hltg2 := hGk.lt
          clear d1' d2'
          generalize hRR : rs[k].2 = R at *
          generalize hKK : folTo rs n F K k = Kk at *
          have HSUB : Hid (Sub5 K Kk) := by show Sub5 _ _; rw [← hKK]; exact folTo_sub rs n F K k
          clear hRR hKK
          go_wp2
          generalize wr.heap.size = xb at *
          go_loopw [6, 9] (fun mv kv ww => ∃ (p : Nat) (mb : Bool), p ≤ R.size ∧ kv = .int .i64 p ∧ mv = .bool mb ∧ Str5 ww w3.heap.size ((List.range p).foldl (folPos n F (⟨#[cl]⟩, R)) Kk) ∧ Hid (mb = false → (List.range p).foldl (folPos n F (⟨#[cl]⟩, R)) Kk = K) ∧ Hid (mb = true → K.sum < ((List.range p).foldl (folPos n F (⟨#[cl]⟩, R)) Kk).sum) ∧ ww.heap[xb]? = some (.cells #[.string ⟨#[cl]⟩, .string R] 55) ∧ Str5 ww bf F ∧ GBox ww w.heap.size ⟨#[c0]⟩ (some ⟨bb, off, none⟩) rs.length cap ∧ Below w.heap.size w ww) (fun _ kv _ => R.size - (intOf kv).toNat)
          case atStart => exact ⟨0, mb, Nat.zero_le _, rfl, rfl, hS0, HM1, HM2, hX0, hF0, hG0, hb0⟩
          case round =>
            obtain ⟨p, mb2, hp, rfl, rfl, hSp, HN1, HN2, hXp, hFp, hGp, hbp⟩ := hrel
            have x0 : wr.cell? ⟨xb, 0, none⟩ = some (.string ⟨#[cl]⟩) := by rw [cell_of_block hXp 0]; rfl
            have x1 : wr.cell? ⟨xb, 1, none⟩ = some (.string R) := by rw [cell_of_block hXp 1]; rfl
            have hltx := (Array.getElem?_eq_some_iff.1 hXp).1
            have hKp : ((List.range p).foldl (folPos n F (⟨#[cl]⟩, R)) Kk).ok := fold_ok (folPos_ok hFok _) _ Kk hKk
            have HSUBp : Hid (Sub5 K ((List.range p).foldl (folPos n F (⟨#[cl]⟩, R)) Kk)) := HSUB.out.trans (fold_sub (folPos_sub n F _) _ Kk)
            by_cases hpl : p < R.size
            · have hpl' : (p : Int) < (R.size : Int) := by omega
              have HFOLD : Hid ((List.range (p + 1)).foldl (folPos n F (⟨#[cl]⟩, R)) Kk = folPos n F (⟨#[cl]⟩, R) ((List.range p).foldl (folPos n F (⟨#[cl]⟩, R)) Kk) p) := by show _ = _; rw [List.range_succ, List.foldl_append]; rfl
              have HSC : Hid (signC (⟨#[cl]⟩, R) p = R[p]) := signC_at (⟨#[cl]⟩, R) hpl
              have hsyT := sym_tail hsym (p + 1)
              have hszT : (R.extract (p + 1) R.size).size ≤ 1000 := by simp; omega
              obtain ⟨T, hT⟩ : ∃ T, R.extract (p + 1) R.size = T := ⟨_, rfl⟩
              have HTL0 : Hid (tailA n F (⟨#[cl]⟩, R) p = firstA n F 0 T.data.toList) := by show _ = _; rw [← hT, cut_tail]; rfl
              rw [hT] at hsyT hszT
              obtain ⟨rm, rb, hres⟩ : ∃ rm rb, firstA n F 0 T.data.toList = (rm, rb) := ⟨_, _, rfl⟩
              have HTL : Hid (tailA n F (⟨#[cl]⟩, R) p = (rm, rb)) := by show _ = _; rw [HTL0.out, hres]
              have hfl : rm < 1024 := by have := firstA_lt (n := n) hFok T.data.toList 0 (by omega); rwa [hres] at this
              have HALL : Hid (hasAllN n T.data.toList = rb) := by show _ = _; rw [← firstA_all (F := F) hbigN T.data.toList 0, hres]
              have CF : ∀ x, Calls Try.prog 104 #[.slice (some ⟨bf, 0, none⟩) 5 5, .string (bytesOf (textN n)), .string T] (grow wr x) fun e w' => e = .returned (.string (bytesOf (textN rm))) ∧ ∃ y, w' = grow wr y := fun x => Calls.grow_of (by have := l2First_any bf n F T (grow wr x) hFok hszT hsyT (hFp.below (below_grow _ _)); rwa [hres] at this)
              clear hres HTL0 hsyT
              generalize (List.range p).foldl (folPos n F (⟨#[cl]⟩, R)) Kk = Kp at *
              obtain ⟨c, hcc⟩ : ∃ c, R[p] = c := ⟨_, rfl⟩
              rw [hcc] at HSC
              cases hbig : bigN (c.toNat : Int) with
              | false =>
                have HP : Hid (folPos n F (⟨#[cl]⟩, R) Kp p = Kp) := by show _ = _; unfold folPos; rw [HSC.out, hbig]; simp
                go_wp2_with (first | (go_at_call 100; refine (l1Big_any _ _).mono ?_; rintro e w2 ⟨rfl, rfl⟩))
                go_roundw
                case rel => exact ⟨p + 1, mb2, by omega, by go_num, rfl, by rw [HFOLD.out, HP.out]; exact hSp, (by rw [HFOLD.out, HP.out]; exact HN1), (by rw [HFOLD.out, HP.out]; exact HN2), hXp, hFp, hGp, hbp⟩
                case measure => simp [intOf]; omega
              | true =>
                have HP : Hid (folPos n F (⟨#[cl]⟩, R) Kp p = Kp.upd c (Kp.get c ||| folAdd n F Kp (⟨#[cl]⟩, R) p)) := by show _ = _; unfold folPos; rw [HSC.out, hbig]; simp
                have HAD : Hid (folAdd n F Kp (⟨#[cl]⟩, R) p = rm ||| (if rb = true then Kp.get cl else 0)) := by show _ = _; unfold folAdd; rw [HTL.out]; rfl
                have hcell := hSp.cell hbig
                obtain ⟨j, hj1, hj2, hj3⟩ := idx_big hbig
                rw [hj1] at hcell
                have hj4 : (j : Int) < 5 := by omega
                obtain ⟨jl, hl1, hl2, hl3⟩ := idx_big hbigL
                have hl4 : (jl : Int) < 5 := by omega
                have hlsp := hSp.lt
                have q1 : ∀ x, (grow wr x).cell? ⟨w3.heap.size, j, none⟩ = some (.string (bytesOf (textN (Kp.get c)))) := fun x => by rw [grow_cell _ _ _ _ hlsp]; exact hcell
                have q2 : ∀ x, (grow wr x).cell? ⟨xb, 1, none⟩ = some (.string R) := fun x => by rw [grow_cell _ _ _ _ hltx]; exact x1
                have CJ : ∀ x, Calls Try.prog 103 #[.string (bytesOf (textN (Kp.get c))), .string (bytesOf (textN rm))] (grow wr x) fun e w' => e = .returned (.string (bytesOf (textN (Kp.get c ||| rm)))) ∧ ∃ y, w' = grow wr y := fun x => Calls.grow_of (l2Join_any (Kp.get c) rm _ (hKp.get c) hfl)
                go_wp2_with (first | (go_at_call 100; refine (l1Big_any _ _).mono ?_; rintro e w2 ⟨rfl, rfl⟩))
                refine wp_region_grow (by kernel_rfl) (by kernel_rfl) ?_
                repeat (go_big_quiet_step ((first | (go_at_call 104; exact CF _) | (go_at_call 103; exact CJ _))))
                refine wpQuiet_nil ?_
                rintro _ ⟨x, rfl⟩
                have hbx := below_grow wr x
                have hSx := hSp.below hbx
                have hFx := hFp.below hbx
                have hGx := hGp.below hbx
                have hXx : (grow wr x).heap[xb]? = some (.cells #[.string ⟨#[cl]⟩, .string R] 55) := (hbx.block _ hltx).trans hXp
                have hBx := hbp.trans (hbx.mono hbp.size)
                clear q1 q2 CJ CF hcell x0 x1 hSp hFp hGp hXp hbp hbx hltx hlsp
                generalize grow wr x = wx at *
                have x0 : wx.cell? ⟨xb, 0, none⟩ = some (.string ⟨#[cl]⟩) := by rw [cell_of_block hXx 0]; rfl
                have x1 : wx.cell? ⟨xb, 1, none⟩ = some (.string R) := by rw [cell_of_block hXx 1]; rfl
                have hml := or_lt (hKp.get c) hfl
                go_wp2_with fail
                refine (l2All_any T n false _ (by unfold maxLen; omega)).mono ?_
                rintro e w7 ⟨rfl, rfl⟩
                rw [show smallSet false = 0 from rfl, Nat.or_zero, HALL.out]
                have hcellL := hSx.cell hbigL
                rw [hl1] at hcellL
                cases rb
                case' false =>
                  obtain ⟨m, hm⟩ : ∃ m, Kp.get c ||| rm = m := ⟨_, rfl⟩
                  have HM : Hid (folPos n F (⟨#[cl]⟩, R) Kp p = Kp.upd c m) := by show _ = _; rw [HP.out, HAD.out, ← hm]; simp
                  have HGE : Hid (Sub (Kp.get c) m) := by show Sub _ _; rw [← hm]; exact sub_or_left _ _
                  rw [hm] at hml ⊢
                  have hSy := hSx
                  have hFy := hFx
                  have hGy := hGx
                  have hXy := hXx
                  have hBy := hBx
                  clear hm
                case' true =>
                  go_wp2_with fail
                  refine (l2Join_any (Kp.get c ||| rm) (Kp.get cl) _ hml (hKp.get cl)).mono ?_
                  rintro e w8 ⟨rfl, hb8⟩
                  have hSy := hSx.below hb8
                  have hFy := hFx.below hb8
                  have hGy := hGx.below hb8
                  have hXy : w8.heap[xb]? = some (.cells #[.string ⟨#[cl]⟩, .string R] 55) := (hb8.block _ (Array.getElem?_eq_some_iff.1 hXx).1).trans hXx
                  have hBy := hBx.trans (hb8.mono hBx.size)
                  have hml2 := or_lt hml (hKp.get cl)
                  obtain ⟨m, hm⟩ : ∃ m, Kp.get c ||| rm ||| Kp.get cl = m := ⟨_, rfl⟩
                  have HM : Hid (folPos n F (⟨#[cl]⟩, R) Kp p = Kp.upd c m) := by show _ = _; rw [HP.out, HAD.out, ← hm, Nat.or_assoc]; simp
                  have HGE : Hid (Sub (Kp.get c) m) := by show Sub _ _; rw [← hm, Nat.or_assoc]; exact sub_or_left _ _
                  clear hml
                  have hml := hml2
                  rw [hm] at hml ⊢
                  clear hm hml2 hb8
                all_goals
                  clear hSx hFx hGx hXx hBx hcellL x0 x1 HP HAD HALL HTL
                  have hcy := hSy.cell hbig
                  rw [hj1] at hcy
                  have hfz := hSy.frozen j
                  have hteq := text_neq hml (hKp.get c)
                  have hS2 := hSy.upd hbig m
                  rw [hj1] at hS2
                  have hF2 := blk_set (p := ⟨w3.heap.size, j, none⟩) hFy (by show bf ≠ w3.heap.size; omega) (.string (bytesOf (textN m)))
                  have hG2 := blk_set (p := ⟨w3.heap.size, j, none⟩) hGy (by show w.heap.size ≠ w3.heap.size; omega) (.string (bytesOf (textN m)))
                  have hX2 := blk_set (p := ⟨w3.heap.size, j, none⟩) hXy (by show xb ≠ w3.heap.size; omega) (.string (bytesOf (textN m)))
                  have hB2 := hBy.setCell (p := ⟨w3.heap.size, j, none⟩) hsz3 (.string (bytesOf (textN m)))
                  have HS2 := Lib.hid hS2
                  have HF2 := Lib.hid hF2
                  have HG2 := Lib.hid hG2
                  have HX2 := Lib.hid hX2
                  have HB2 := Lib.hid hB2
                  clear hS2 hF2 hG2 hX2 hB2 hSy hFy hGy hXy hBy
                  by_cases he : m = Kp.get c
                  · rw [decide_eq_true he] at hteq
                    have HU : Hid (Kp.upd c m = Kp) := by show _ = _; rw [he]; exact V5.upd_self Kp c
                    clear he
                    cases mb2
                    all_goals
                      go_wp2
                      go_roundw
                      case rel => exact ⟨p + 1, _, by omega, by go_num, rfl, by rw [HFOLD.out, HM.out]; exact HS2.out, (by rw [HFOLD.out, HM.out, HU.out]; exact fun h => (by first | exact HN1.out h | exact HN1.out trivial | cases h)), (by rw [HFOLD.out, HM.out, HU.out]; exact fun h => (by first | exact HN2.out h | exact HN2.out trivial | cases h)), HX2.out, HF2.out, HG2.out, HB2.out⟩
                      case measure => simp [intOf]; omega
                  · rw [decide_eq_false he] at hteq
                    have HGR : Hid (K.sum < (Kp.upd c m).sum) := by
                      show _ < _
                      have h1 := HSUBp.out.sum
                      have h2 := (sub5_upd Kp c HGE.out).grows (fun e => by
                        have h2 := V5.upd_get Kp c m
                        rw [← e] at h2; exact he h2.symm)
                      omega
                    clear he
                    cases mb2
                    all_goals
                      go_wp2
                      go_roundw
                      case rel => exact ⟨p + 1, true, by omega, by go_num, rfl, by rw [HFOLD.out, HM.out]; exact HS2.out, (fun h => by cases h), (by rw [HFOLD.out, HM.out]; exact fun _ => HGR.out), HX2.out, HF2.out, HG2.out, HB2.out⟩
                      case measure => simp [intOf]; omega
            · have hpl' : ¬ (p : Int) < (R.size : Int) := by omega
              obtain rfl : p = R.size := by omega
              have HEND : Hid (folTo rs n F K (k + 1) = (List.range R.size).foldl (folPos n F (⟨#[cl]⟩, R)) Kk) := by show _ = _; rw [HS.out, HRK.out]; rfl
              go_wp2
              go_roundw
              case rel => exact ⟨k + 1, mb2, by omega, by go_num, rfl, by rw [HEND.out]; exact hSp, (by rw [HEND.out]; exact HN1), (by rw [HEND.out]; exact HN2), hFp, hGp, hbp⟩
              case measure => simp [intOf]; omega
        · have hkl : ¬ (k : Int) < (rs.length : Int) := by omega
          obtain rfl : k = rs.length := by omega
          have HS2 := Lib.hid (hSk.sum hKk)
          have hsl := hKk.sum
          go_wp2
          go_roundw
          case rel => exact ⟨mb, _, rfl, hKk, hSk, ⟨HL.out.1.trans (folTo_sub rs n F K _), fun G hs hc => folTo_below hc (HL.out.2 G hs hc)⟩, (fun h => by have e := HM1.out h; rw [e]; exact folTo_fix e), hFk, hGk, hbk⟩
          case measure =>
            rw [HSUM.out, HS2.out]
            cases mb with
            | true => have := HM2.out rfl; simp [boolN]; omega
            | false => rw [HM1.out rfl]; simp [boolN]
set_option maxHeartbeats 1000000 in
theorem sFollowOf_any (st : ByteArray) (a : Option Addr) (cap : Nat) (rs : List RuleT) (s : ByteArray) (w : World) (H : RulesAt w a rs) (hcap : rs.length ≤ cap) :
    Calls Try.prog 29 #[.agg #[.string st, .slice a rs.length cap], .string s] w (FollowSays st rs s w) := by
  have hG : GBox (w.alloc (.cells #[.string st, .slice a rs.length cap] 24)) w.heap.size st a rs.length cap := blk_new _ _ rfl
  have hbw := (Below.refl w.heap.size w).alloc (Nat.le_refl _) (.cells #[.string st, .slice a rs.length cap] 24)
  have hx := byte0
  go_enter Try.func29, Try.ntmps29
  go_wp2_with fail
  refine (sGramOk_any _ _ _ rs _ (H.below hbw (Nat.le_refl _)) hcap).mono ?_
  rintro e w2 ⟨rfl, hb2⟩
  have c2 : Below w.heap.size w w2 := hbw.trans (hb2.mono (by simp))
  have hG2 := hG.below hb2
  obtain ⟨g0, g1⟩ := hG2.cells
  have H2 := H.below c2 (Nat.le_refl _)
  clear hG hbw hb2
  cases hok : gramOkB st rs with
  | false =>
    go_wp2
    go_ret
    exact ⟨zero5, zero5, (fun h => by simp [followAsk, hok] at h), by simp [followRes, followAsk, hok, bytesOf], c2⟩
  | true =>
    go_wp2_with fail
    refine (sSignBig_any s _).mono ?_
    rintro e w3 ⟨rfl, rfl⟩
    cases hb : isBigS s with
    | false =>
      go_wp2
      go_ret
      exact ⟨zero5, zero5, (fun h => by simp [followAsk, hb] at h), by simp [followRes, followAsk, hb, bytesOf], c2⟩
    | true =>
      obtain ⟨c, rfl, hbig⟩ := big_str hb
      have hask : followAsk st rs ⟨#[c]⟩ = true := by simp [followAsk, hok, hb]
      have H2d : RulesAt w2.drew a rs := H2
      have c2d := c2.drew
      rcases bigN_cases hbig with rfl | rfl | rfl | rfl | rfl
      all_goals
        go_wp2_with fail
        go_region_with (first
          | (go_at_call 63; refine (l2Follows_any st a cap rs _ H2d hok).mono ?_; rintro e w4 ⟨F, K, b, rfl, hbl, hS, hF, hK, hb4⟩; have hcell := hS.cell hbig; simp only [UInt8.reduceToNat, Nat.reduceSub] at hcell; have hB4 : Below w.heap.size w w4 := c2d.trans (hb4.mono c2d.size))
          | fail)
        all_goals
          go_wp2
          go_ret
          exact ⟨F, K, (fun _ => ⟨hF, hK⟩), by unfold followRes; rw [if_pos hask]; rfl, hB4⟩
theorem exists_follow_from (c0 : UInt8) (rs : List RuleT) (n : Nat) {F : V5} (hF : F.ok) : ∀ (k : Nat) (K : V5), 5120 - K.sum ≤ k → K.ok → Sub5 (startK c0) K → (∀ G, Sub5 (startK c0) G → folClosed rs n F G → Sub5 K G) → ∃ R, IsFollow c0 rs n F R := by
  intro k
  induction k with
  | zero =>
    intro K h hK _ _
    have := hK.sum
    omega
  | succ k ih =>
    intro K h hK h1 hl
    by_cases e : folTo rs n F K rs.length = K
    · exact ⟨K, hK, h1, folTo_fix e, hl⟩
    · have h2 := (folTo_sub rs n F K rs.length).grows (fun e' => e e'.symm)
      have h3 := (folTo_ok rs n hF hK rs.length).sum
      exact ih (folTo rs n F K rs.length) (by omega) (folTo_ok rs n hF hK _) (h1.trans (folTo_sub rs n F K _)) (fun G hs hG => folTo_below hG (hl G hs hG))
theorem exists_follow (c0 : UInt8) (rs : List RuleT) (n : Nat) {F : V5} (hF : F.ok) : ∃ K, IsFollow c0 rs n F K := exists_follow_from c0 rs n hF _ (startK c0) (Nat.le_refl _) (startK_ok c0) (Sub5.refl _) (fun _ h _ => h)
theorem followRes_same {st : ByteArray} {rs : List RuleT} {s : ByteArray} {F G K L : V5} (hF : followAsk st rs s = true → IsFirst rs (leftsLeast rs 0) F ∧ IsFollow (headB st) rs (leftsLeast rs 0) F K) (hG : IsFirst rs (leftsLeast rs 0) G) (hL : IsFollow (headB st) rs (leftsLeast rs 0) G L) : followRes st rs K s = followRes st rs L s := by
  cases h : followAsk st rs s with
  | true =>
    obtain ⟨h1, h2⟩ := hF h
    rw [h1.unique hG] at h2
    rw [h2.unique hL]
  | false => simp [followRes, h]
theorem followOf_fix {st : ByteArray} {rs : List RuleT} {F K : V5} (hF : IsFirst rs (leftsLeast rs 0) F) (hK : IsFollow (headB st) rs (leftsLeast rs 0) F K) (a : Option Addr) (cap : Nat) (s : ByteArray) (w : World) (H : RulesAt w a rs) (hcap : rs.length ≤ cap) :
    Calls Try.prog 30 #[.agg #[.string st, .slice a rs.length cap], .string s] w fun e w' => e = .returned (.string (bytesOf (followRes st rs K s))) ∧ Below w.heap.size w w' :=
  (followOf_any st a cap rs s w H hcap).mono fun e w' ⟨G, L, hG, he, hb⟩ => ⟨by rw [he, followRes_same hG hF hK], hb⟩
theorem sFollowOf_fix {st : ByteArray} {rs : List RuleT} {F K : V5} (hF : IsFirst rs (leftsLeast rs 0) F) (hK : IsFollow (headB st) rs (leftsLeast rs 0) F K) (a : Option Addr) (cap : Nat) (s : ByteArray) (w : World) (H : RulesAt w a rs) (hcap : rs.length ≤ cap) :
    Calls Try.prog 29 #[.agg #[.string st, .slice a rs.length cap], .string s] w fun e w' => e = .returned (.string (bytesOf (followRes st rs K s))) ∧ Below w.heap.size w w' :=
  (sFollowOf_any st a cap rs s w H hcap).mono fun e w' ⟨G, L, hG, he, hb⟩ => ⟨by rw [he, followRes_same hG hF hK], hb⟩
/-- at a place of a rule: FIRST of what stands behind, and whether it may be nothing -/
theorem tail_res {st : ByteArray} {rs : List RuleT} {F : V5} (hok : gramOkB st rs = true) {k : Nat} (hk : k < rs.length) (p : Nat) : firstRes st rs F (rs[k].2.extract (p + 1) rs[k].2.size) = (textN (tailA (leftsLeast rs 0) F rs[k] p).1, (tailA (leftsLeast rs 0) F rs[k] p).2) := by
  obtain ⟨hsym, hsz⟩ := ok_right hok hk
  have hask : firstAsk st rs (rs[k].2.extract (p + 1) rs[k].2.size) = true := by
    unfold firstAsk
    rw [hok, sym_tail hsym]
    simp; omega
  unfold firstRes tailA
  rw [if_pos hask, cut_tail]
theorem follow_says {st : ByteArray} {rs : List RuleT} {F K : V5} {c : UInt8} (hK : IsFollow (headB st) rs (leftsLeast rs 0) F K) {k : Nat} (hk : k < rs.length) {p : Nat} (hp : p < rs[k].2.size) (hc : rs[k].2[p] = c) (hb : bigN (c.toNat : Int) = true) :
    Sub (tailA (leftsLeast rs 0) F rs[k] p).1 (K.get c) ∧ ((tailA (leftsLeast rs 0) F rs[k] p).2 = true → Sub (K.get (leftC rs[k])) (K.get c)) := by
  have h := hK.2.2.1 rs[k] (List.getElem_mem hk) p hp (by rw [signC_at _ hp, hc]; exact hb)
  rw [signC_at _ hp, hc] at h
  unfold folAdd at h
  refine ⟨(sub_or_left _ _).trans h, fun ht => ?_⟩
  rw [if_pos ht] at h
  exact (sub_or_right _ _).trans h
theorem follow_end {st : ByteArray} {rs : List RuleT} {F K : V5} (hK : IsFollow (headB st) rs (leftsLeast rs 0) F K) : hasN (K.get (headB st)) 36 = true := by
  have h := hK.2.1.get (headB st)
  unfold startK at h
  rw [V5.upd_get] at h
  exact hasN_mono h (by decide)
end Go.Proofs.Ytjpkohahabclgaa
