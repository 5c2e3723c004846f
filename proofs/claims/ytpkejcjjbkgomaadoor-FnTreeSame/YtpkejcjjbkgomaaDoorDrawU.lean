/- The contract of the model's l3Any. -/
import Derived.Test.YtpkejcjjbkgomaaDoorDrawS
namespace Go.Proofs.YtpkejcjjbkgomaaDoor
open Go.ChangeShapes Go.WideShapes Go.ChangeAt Go.RowKit Go.Deep
set_option maxRecDepth 100000
set_option maxHeartbeats 4000000 in
theorem l3Any_any (R : Nat) (rs : List RuleT) (hS : SmallR rs) (hl : rs.length ≤ 100) (st : ByteArray) (b off cg : Nat) (hbR : b ≠ R) : ∀ (d : Nat), d ≤ 8 → ∀ (k : Nat) (sg : ByteArray) (w : World), Rdk w R k → k + tmost d ≤ 950000 → RulesAt w (some ⟨b, off, none⟩) rs → sg.size ≤ 100 →
    Calls Tryd.prog 67 #[.pointer (some ⟨R, 0, none⟩), .agg #[.string st, .slice (some ⟨b, off, none⟩) rs.length cg], .string sg, .int .i64 (d : Int)] w (DrawnT R k d sg w) := by
  intro d
  induction d using Nat.strongRecOn with
  | _ d ih =>
    intro hd k sg w HR hk HU hsg
    have hsg' : sg.size ≤ maxLen := by unfold maxLen; omega
    have hRl := HR.lt
    have HIH := Lib.hid ih
    have hb2 := ((Below.refl w.heap.size w).alloc (Nat.le_refl _) (.cells #[.string st, .slice (some ⟨b, off, none⟩) rs.length cg] 64)).alloc (by simp) (.cells #[.string ⟨#[]⟩, .int .i64 0, .slice none 0 0] 29)
    have hbL := ((Below.refl w.heap.size w).alloc (Nat.le_refl _) (.cells #[.string st, .slice (some ⟨b, off, none⟩) rs.length cg] 64)).alloc (by simp) (.cells #[.string sg, .int .i64 (-1), .slice none 0 0] 29)
    have hG2 : GB2 ((w.alloc (.cells #[.string st, .slice (some ⟨b, off, none⟩) rs.length cg] 64)).alloc (.cells #[.string ⟨#[]⟩, .int .i64 0, .slice none 0 0] 29)) w.heap.size (.string st) (.slice (some ⟨b, off, none⟩) rs.length cg) := (blk_old _ _ (by simp)).trans (blk_new _ _ rfl)
    have hZ2 : BoxT ((w.alloc (.cells #[.string st, .slice (some ⟨b, off, none⟩) rs.length cg] 64)).alloc (.cells #[.string ⟨#[]⟩, .int .i64 0, .slice none 0 0] 29)) (w.heap.size + 1) (.string ⟨#[]⟩) (.int .i64 0) (.slice none 0 0) := blk_new _ _ (by simp)
    have HU2 := HU.below hb2 (Nat.le_refl _)
    have HR2 := HR.below hb2
    have HRL := HR.below hbL
    have HUW := Lib.hid HU
    clear ih HU
    cases hsm : isSmallS sg with
    | true =>
      go_enter Tryd.func67, Tryd.ntmps67
      go_wp2_with (go_at_call 97; refine (sSignSmall_any _ _).mono ?_; rintro e w' ⟨rfl, rfl⟩; rw [hsm])
      exact bodyPost_ret (v := .agg #[.string sg, .int .i64 (-1), .slice none 0 0]) (by simp [results, Tryd.results67, go_sem]) rfl (leaf_drawn hsg' HRL (Only.of_below hbL))
    | false =>
      obtain ⟨g0, g1⟩ := hG2.cells
      have hsz2 : ((w.alloc (.cells #[.string st, .slice (some ⟨b, off, none⟩) rs.length cg] 64)).alloc (.cells #[.string ⟨#[]⟩, .int .i64 0, .slice none 0 0] 29)).heap.size = w.heap.size + 2 := by simp
      clear hbL HRL HR
      go_enter Tryd.func67, Tryd.ntmps67
      go_wp2_with (go_at_call 97; refine (sSignSmall_any _ _).mono ?_; rintro e w' ⟨rfl, rfl⟩; rw [hsm])
      refine (l1For_any st sg _ cg rs _ HU2 hl).mono ?_
      rintro e w3 ⟨va, rfl, hat, hb3⟩
      obtain ⟨ga, capa, rfl, hgB, hI3⟩ := hat.at (Nat.le_trans (forTo_len rs sg rs.length) (by omega))
      rw [hsz2] at hgB
      have hmem : ∀ z ∈ forTo rs sg rs.length, ∃ j : Nat, z = (j : Int) ∧ j < rs.length := fun z hz => by
        obtain ⟨j, e, _, h⟩ := forTo_mem hz
        exact ⟨j, e, h⟩
      have hzl := forTo_len rs sg rs.length
      have hG3 : GB2 w3 w.heap.size (.string st) (.slice (some ⟨b, off, none⟩) rs.length cg) := (hb3.block _ hG2.lt).trans hG2
      have hZ3 := hZ2.below hb3
      have HU3 := HU2.below hb3 (Nat.le_refl _)
      have HR3 := HR2.below hb3
      have hB3 := hb2.trans (hb3.mono hb2.size)
      have hz3 : w.heap.size + 2 ≤ w3.heap.size := by have := hb3.size; rw [hsz2] at this; exact this
      clear hat g0 g1 hG2 hZ2 HU2 HR2 hb2 hb3 hsz2
      generalize forTo rs sg rs.length = zs at *
      obtain ⟨o0, o1, o2, of0, of1, of2⟩ := hZ3.cells
      by_cases hleaf : zs.length = 0 ∨ d = 0
      · have hoL := (((Only.of_below (R := R) hB3).store (Nat.le_refl _) (p := ⟨w.heap.size + 1, 0, none⟩) (Nat.le_succ _) (.string sg)).store (Nat.le_refl _) (p := ⟨w.heap.size + 1, 1, none⟩) (Nat.le_succ _) (.int .i64 (-1))).store (Nat.le_refl _) (p := ⟨w.heap.size + 1, 2, none⟩) (Nat.le_succ _) (.slice none 0 0)
        have hrL := ((HR3.other (p := ⟨w.heap.size + 1, 0, none⟩) (by show R < w.heap.size + 1; omega) (.string sg)).other (p := ⟨w.heap.size + 1, 1, none⟩) (by show R < w.heap.size + 1; omega) (.int .i64 (-1))).other (p := ⟨w.heap.size + 1, 2, none⟩) (by show R < w.heap.size + 1; omega) (.slice none 0 0)
        by_cases hz0 : zs.length = 0
        · have e0 : ((zs.length : Int) == 0) = true := by rw [hz0]; rfl
          clear hleaf hz0
          have hq := hZ3.set3 (.string sg) (.int .i64 (-1)) (.slice none 0 0)
          obtain ⟨q0, q1, q2, _, _, _⟩ := hq.cells
          have HQ0 := Lib.hid q0
          have HQ1 := Lib.hid q1
          have HQ2 := Lib.hid q2
          clear q0 q1 q2 hq
          go_wp2_with fail
          exact bodyPost_ret (v := .agg #[.string sg, .int .i64 (-1), .slice none 0 0]) (by have q0 := HQ0.out; have q1 := HQ1.out; have q2 := HQ2.out; simp [results, Tryd.results67, go_sem, q0, q1, q2]) rfl (leaf_drawn hsg' hrL hoL)
        · have e0 : ((zs.length : Int) == 0) = false := by rw [beq_eq_false_iff_ne]; omega
          have hd0 : d = 0 := by rcases hleaf with h | h; exact absurd h hz0; exact h
          subst hd0
          clear hleaf hz0
          have hq := hZ3.set3 (.string sg) (.int .i64 (-1)) (.slice none 0 0)
          obtain ⟨q0, q1, q2, _, _, _⟩ := hq.cells
          have HQ0 := Lib.hid q0
          have HQ1 := Lib.hid q1
          have HQ2 := Lib.hid q2
          clear q0 q1 q2 hq
          go_wp2_with fail
          exact bodyPost_ret (v := .agg #[.string sg, .int .i64 (-1), .slice none 0 0]) (by have q0 := HQ0.out; have q1 := HQ1.out; have q2 := HQ2.out; simp [results, Tryd.results67, go_sem, q0, q1, q2]) rfl (leaf_drawn hsg' hrL hoL)
      · have hz1 : 1 ≤ zs.length := by omega
        have hd1 : ¬ (d : Int) < 1 := by omega
        have e0 : ((zs.length : Int) == 0) = false := by rw [beq_eq_false_iff_ne]; omega
        have S3 : AnyS R k st b off cg rs w w3 := ⟨hG3, hZ3, HU3, HR3, Only.of_below hB3, hz3⟩
        clear hleaf o0 o1 o2 of0 of1 of2 hG3 hZ3 HU3 hB3
        go_wp2_with fail
        refine (pick_any R k (zs.length : Int) _ HR3 (by omega) (by omega) (by omega)).mono ?_
        rintro e w4 ⟨q, rfl, ⟨hq0, hq1, _⟩, HR4, ho4⟩
        obtain ⟨qn, rfl⟩ : ∃ qn : Nat, q = (qn : Int) := ⟨q.toNat, by omega⟩
        have hqn : qn < zs.length := by have := hq1 (by omega); omega
        have hql : (qn : Int) < (zs.length : Int) := by omega
        have S4 : AnyS R (k + 1) st b off cg rs w w4 := ⟨S3.g.only ho4 (by omega), S3.z.only ho4 (by omega), S3.u.only ho4 hbR, HR4, S3.o.trans ho4, Nat.le_trans hz3 ho4.size⟩
        have hI4 := hI3.only ho4 (by omega)
        obtain ⟨_, _, e4, _, ci⟩ := hI4.2 qn hqn
        simp only [Option.some.injEq, Addr.mk.injEq] at e4
        obtain ⟨rfl, rfl, _⟩ := e4
        rw [Nat.zero_add] at ci
        obtain ⟨j0, hj0, hj0l⟩ := hmem zs[qn] (List.getElem_mem hqn)
        rw [hj0] at ci
        clear S3 HR3 hI3 ho4 HR4 hq1 hz3
        go_upto_if 38 with fail
        go_cut [10] (fun s10 wx => ∃ j : Nat, s10 = .int .i64 (j : Int) ∧ j < rs.length ∧ AnyS R (k + 1) st b off cg rs w wx)
        case first =>
          by_cases hd4 : (d : Int) < 4
          · have hd4b : decide ((d : Int) < 4) = true := by simpa using hd4
            rw [hd4b]
            go_wp2_with fail
            go_loopg [10, 11] (zs.length + 1) (fun gk kv iv wr => ∃ i j : Nat, gk = zs.length + 1 - i ∧ i ≤ zs.length ∧ iv = .int .i64 (i : Int) ∧ kv = .int .i64 (j : Int) ∧ j < rs.length ∧ AnyS R (k + 1) st b off cg rs w wr ∧ IntsAt wr (some ⟨ga, 0, none⟩) zs)
            case atStart => exact ⟨0, j0, rfl, Nat.zero_le _, rfl, rfl, hj0l, S4, hI4⟩
            case round =>
              clear S4 hI4 ci hj0 hj0l hqn hql
              obtain ⟨i, j, hgk, hi, rfl, rfl, hj, S, hI⟩ := hrel
              have HG := Lib.hid hgk
              clear hgk
              by_cases hlt : i < zs.length
              · have hil : (i : Int) < (zs.length : Int) := by omega
                obtain ⟨_, _, e4, _, ci⟩ := hI.2 i hlt
                simp only [Option.some.injEq, Addr.mk.injEq] at e4
                obtain ⟨rfl, rfl, _⟩ := e4
                rw [Nat.zero_add] at ci
                obtain ⟨j1, hj1, hj1l⟩ := hmem zs[i] (List.getElem_mem hlt)
                rw [hj1] at ci
                obtain ⟨_, hs1, _, _, e5, _, _, r1⟩ := S.u.2 j1 hj1l
                simp only [Option.some.injEq, Addr.mk.injEq] at e5
                obtain ⟨rfl, rfl, _⟩ := e5
                obtain ⟨_, hs2, _, _, e6, _, _, r2⟩ := S.u.2 j hj
                simp only [Option.some.injEq, Addr.mk.injEq] at e6
                obtain ⟨rfl, rfl, _⟩ := e6
                obtain ⟨g0, g1⟩ := S.g.cells
                have hja : (j1 : Int) < (rs.length : Int) := by omega
                have hjb : (j : Int) < (rs.length : Int) := by omega
                have HS := Lib.hid S
                have HI := Lib.hid hI
                clear S hI hj1
                cases hcmp : decide ((rs[j1].2.size : Int) < (rs[j].2.size : Int)) with
                | true =>
                  have hcm : (rs[j1].2.size : Int) < (rs[j].2.size : Int) := by simpa using hcmp
                  go_wp2_with fail
                  go_quiet (fail)
                  have ci' : (wr.drewN nq).cell? ⟨ga, i, none⟩ = some (.int .i64 (j1 : Int)) := ci
                  go_wp2_with fail
                  go_roundg (zs.length + 1 - (i + 1))
                  case measure => have := HG.out; omega
                  case rel => exact ⟨i + 1, j1, rfl, by omega, by go_num, rfl, hj1l, HS.out.drewN _, HI.out.drewN _⟩
                | false =>
                  have hcm : ¬ (rs[j1].2.size : Int) < (rs[j].2.size : Int) := by simpa using hcmp
                  go_wp2_with fail
                  go_quiet (fail)
                  go_wp2_with fail
                  go_roundg (zs.length + 1 - (i + 1))
                  case measure => have := HG.out; omega
                  case rel => exact ⟨i + 1, j, rfl, by omega, by go_num, rfl, hj, HS.out.drewN _, HI.out.drewN _⟩
              · have hil : ¬ (i : Int) < (zs.length : Int) := by omega
                go_wp2_with fail
                go_meet
                exact ⟨j, rfl, hj, S⟩
          · go_wp2_with fail
            go_meet
            exact ⟨j0, rfl, hj0l, S4⟩
        case rest =>
          clear S4 hI4 ci hj0 hj0l hqn hql hmem
          obtain ⟨j, rfl, hj, S⟩ := hcut
          obtain ⟨dd, rfl⟩ : ∃ dd, d = dd + 1 := ⟨d - 1, by omega⟩
          obtain ⟨_, hs2, _, _, e6, hbl, _, r2⟩ := S.u.2 j hj
          simp only [Option.some.injEq, Addr.mk.injEq] at e6
          obtain ⟨rfl, rfl, _⟩ := e6
          obtain ⟨g0, g1⟩ := S.g.cells
          have hjb : (j : Int) < (rs.length : Int) := by omega
          have hr5 : rs[j].2.size ≤ 5 := (hS rs[j] (List.getElem_mem hj)).2
          have HS := Lib.hid S
          have hbw : b < w.heap.size := by
            obtain ⟨_, _, b', _, e7, hb7, _⟩ := HUW.out.2 j hj
            simp only [Option.some.injEq, Addr.mk.injEq] at e7
            rw [e7.1]; exact hb7
          have hCC : w.heap.size + 2 ≤ wc.heap.size := S.s
          have htm : tmost (dd + 1) = 1 + 5 * tmost dd := rfl
          have HTM := Lib.hid htm
          have hkt : k + 1 + rs[j].2.size * tmost dd ≤ 950000 := by
            have : rs[j].2.size * tmost dd ≤ 5 * tmost dd := Nat.mul_le_mul_right _ hr5
            omega
          have hrel0 : KidRel R (k + 1) (tmost dd) wc.heap.size st b off cg rs w sg j 0 (wc.alloc (.cells #[.string sg, .int .i64 (j : Int), .slice none 0 0] 29)) := by
            refine ⟨.slice none 0 0, [], [], blk_new _ _ rfl, ⟨_, _, _, rfl⟩, ⟨World.ownsRow_nil _ _ _ _, rfl, fun _ hj => absurd hj (Nat.not_lt_zero _)⟩, rfl, (fun T h => by cases h), ?_⟩
            rw [Nat.zero_mul, Nat.add_zero]
            exact S.move hRl hbw (fun q hq => blk_old _ _ (by omega)) rfl rfl rfl (by simp)
          have HREL0 := Lib.hid hrel0
          clear htm hrel0 S HS
          go_wp2_with fail
          clear g0 g1 r2 hbl hs2
          go_loopg [13] (rs[j].2.size + 1) (fun gk iv wr => ∃ i : Nat, gk = rs[j].2.size + 1 - i ∧ i ≤ rs[j].2.size ∧ iv = .int .i64 (i : Int) ∧ KidRel R (k + 1) (tmost dd) wc.heap.size st b off cg rs w sg j i wr)
          case atStart => exact ⟨0, rfl, Nat.zero_le _, rfl, HREL0.out⟩
          case round =>
            clear HREL0
            obtain ⟨i, hgk, hi, rfl, v, us, ks, hbx, ⟨va, vn, vc, rfl⟩, hK, hul, hks, S⟩ := hrel
            have HG := Lib.hid hgk
            clear hgk
            obtain ⟨_, hs2, _, _, e6, hbl, _, r2⟩ := S.u.2 j hj
            simp only [Option.some.injEq, Addr.mk.injEq] at e6
            obtain ⟨rfl, rfl, _⟩ := e6
            obtain ⟨g0, g1⟩ := S.g.cells
            obtain ⟨x0, x1, x2, xf0, xf1, xf2⟩ := hbx.cells
            have hCl := hbx.lt
            by_cases hlt : i < rs[j].2.size
            · have hil : (i : Int) < (rs[j].2.size : Int) := by omega
              have hi0 : (0 : Int) ≤ (i : Int) := by omega
              have hiz : (i : Int) + 1 ≤ (rs[j].2.size : Int) := by omega
              have hiz2 : i + 1 ≤ rs[j].2.size := by omega
              have hw1 : IntKind.i64.wrap ((i : Int) + 1) = (i : Int) + 1 := IntWalk.i64_in _ (by omega)
              have hw2 : (0 : Int) ≤ (i : Int) + 1 := by omega
              have hw3 : ((i : Int) + 1).toNat = i + 1 := by omega
              have hw4 : IntKind.i64.wrap ((dd : Int) + 1 - 1) = (dd : Int) := by rw [show (dd : Int) + 1 - 1 = (dd : Int) from by omega]; exact IntWalk.i64_in _ (by omega)
              have hw5 : IntKind.i64.wrap (dd : Int) = (dd : Int) := IntWalk.i64_in _ (by omega)
              have hw6 : ((dd + 1 : Nat) : Int) - 1 = (dd : Int) := by omega
              have hw7 : (i : Int) ≤ (i : Int) + 1 := by omega
              have hext : (rs[j].2.extract i (i + 1)).size = 1 := by simp; omega
              have hkk : k + 1 + i * tmost dd + tmost dd ≤ 950000 := by
                have : (i + 1) * tmost dd ≤ rs[j].2.size * tmost dd := Nat.mul_le_mul_right _ hlt
                rw [Nat.add_mul, Nat.one_mul] at this
                omega
              have hK0 : ∀ q, (Value.slice va vn vc).ownBlock = some q → q < wr.heap.size := fun q e => by
                rcases hK.row.2 with ⟨h, _⟩ | ⟨g, cap, cur, h, _, hh, _⟩
                · rw [h] at e; cases e
                · rw [h] at e; simp only [Value.ownBlock, Option.some.injEq] at e; rw [← e]; exact (Array.getElem?_eq_some_iff.1 hh).1
              have HK0 := Lib.hid hK0
              clear hK0
              have HS := Lib.hid S
              have HK := Lib.hid hK
              have HBX := Lib.hid hbx
              have HKS := Lib.hid hks
              have HKK := Lib.hid hkk
              have HEX := Lib.hid hext
              clear S hK hbx hks hkk hext
              go_wp2_with fail
              go_region_law (first
                | (go_simp; go_at_call 67; (with_reducible refine (HIH.out dd (by omega) (by omega) (k + 1 + i * tmost dd) (rs[j].2.extract i (i + 1)) _ ?_ ?_ ?_ ?_).mono ?_); (exact HS.out.r.drew); (exact HKK.out); (exact HS.out.u.drew); (rw [HEX.out]; omega); rintro e wa ⟨u, T, rfl, hT, hsgT, hszT, hwtT, HRa, hoa, _⟩; obtain ⟨us1, ur1, uks, ua, uc, rfl, _⟩ := hT.trB.open; have hbxa := (show BoxT wr.drew wc.heap.size (.string sg) (.int .i64 (j : Int)) (.slice va vn vc) from HBX.out).only hoa (by omega); obtain ⟨y0, y1, y2, yf0, yf1, yf2⟩ := hbxa.cells; have Sa := (show AnyS R (k + 1 + i * tmost dd) st b off cg rs w wr.drew from ⟨HS.out.g, HS.out.z, HS.out.u, HS.out.r, HS.out.o.drew, HS.out.s⟩).only hRl hbR hoa HRa; have hKa := (show KidsQ wr.drew (wc.heap.size + 1) (fun q => wc.heap.size + 1 ≤ q ∧ (Value.slice va vn vc).ownBlock ≠ some q) (.slice va vn vc) us ks from HK.out.stay (fun _ _ _ => rfl)).stay (w' := wa) (fun q hq hlt => hoa.block q hlt (by omega)); have yz : ∀ o, (wa.alloc o).cell? ⟨wc.heap.size, 2, none⟩ = some (.slice va vn vc) := (fun o => (hbxa.old o).cells.2.2.1); have hwaB : wc.heap.size + 1 ≤ wa.heap.size := hbxa.lt)
                | (refine step_append_kid rfl _ _ rfl (wc.heap.size + 1) (.slice va vn vc) us (us1, ur1, .slice ua uks.length uc) wa.heap.size rfl rfl ?_ ?_ rfl ?_ ?_ ?_; (exact (hKa.stay (fun q _ hq => blk_old _ _ hq)).row); (exact blk_new _ _ rfl); (omega); (simp; omega); intro g6 cap6 w6 hrow6 hgrow hat6; have hbx6 : BoxT w6 wc.heap.size (.string sg) (.int .i64 (j : Int)) (.slice va vn vc) := (hgrow.block _ (by simp; omega) (fun e => hKa.ne (Nat.lt_succ_self _) e.symm)).trans ((blk_old _ _ hbxa.lt).trans hbxa); obtain ⟨d0, d1, d2, df0, df1, df2⟩ := hbx6.cells; have S6 := Sa.move (wy := w6) hRl hbw (fun q hq => (hgrow.block q (by have := Sa.s; simp; omega) (fun e => hKa.ne (by omega) e.symm)).trans (blk_old _ _ (by have := Sa.s; omega))) hgrow.os hgrow.tape hgrow.output (by have := hgrow.size; simp at this; omega))
                | fail)
              all_goals
                have hsd : wr.drew.heap.size = wr.heap.size := rfl
                have hwl := HBX.out.lt
                have hu : TrQ wa (fun q => wc.heap.size + 1 ≤ q ∧ (Value.slice va vn vc).ownBlock ≠ some q) (kidVal (us1, ur1, .slice ua uks.length uc)) T := TrQ.mono (show TrQ wa (fun q => wr.drew.heap.size ≤ q) (kidVal (us1, ur1, .slice ua uks.length uc)) T from hT) (fun q hq _ => ⟨by omega, fun e => by have := HK0.out q e; omega⟩)
                have hSa : AnyS R (k + 1 + (us.length + 1) * tmost dd) st b off cg rs w wa := by
                  have e : k + 1 + (us.length + 1) * tmost dd = k + 1 + i * tmost dd + tmost dd := by rw [hul, Nat.add_mul, Nat.one_mul]; omega
                  rw [e]; exact Sa
                have hrel6 := KidRel.more hRl hbw hCC hbxa hKa hSa hu ⟨hszT, by rw [HEX.out] at hwtT; exact hwtT⟩ HKS.out hrow6 hgrow hat6
                rw [hul] at hrel6
                have HRL := Lib.hid hrel6
                clear hrel6 hu hSa Sa S6 hbxa hKa hbx6 hrow6 hgrow hat6 d0 d1 d2 df0 df1 df2 y0 y1 y2 yf0 yf1 yf2 yz hT hszT hwtT HRa hoa g0 g1 r2 x0 x1 x2 xf0 xf1 xf2
                go_wp2_with fail
                go_roundg (rs[j].2.size + 1 - (i + 1))
                case measure => have := HG.out; omega
                case rel => exact ⟨i + 1, rfl, by omega, by go_num, HRL.out⟩
            · have hil : ¬ (i : Int) < (rs[j].2.size : Int) := by omega
              obtain rfl : i = rs[j].2.size := by omega
              obtain ⟨z0, z1, z2, zf0, zf1, zf2⟩ := S.z.cells
              have hqz := S.z.set3 (.string sg) (.int .i64 (j : Int)) (.slice va vn vc)
              obtain ⟨q0, q1, q2, _, _, _⟩ := hqz.cells
              have HQ0 := Lib.hid q0
              have HQ1 := Lib.hid q1
              have HQ2 := Lib.hid q2
              have HD := Lib.hid (KidRel.done (k := k) (j := j) hRl hCC hsg' (by omega) hr5 hK hul ⟨_, _, _, rfl⟩ hks S)
              clear q0 q1 q2 hqz
              go_wp2_with fail
              exact bodyPost_end (v := .agg #[.string sg, .int .i64 (j : Int), .slice va vn vc]) (by have q0 := HQ0.out; have q1 := HQ1.out; have q2 := HQ2.out; simp [results, Tryd.results67, go_sem, q0, q1, q2]) rfl HD.out
end Go.Proofs.YtpkejcjjbkgomaaDoor
