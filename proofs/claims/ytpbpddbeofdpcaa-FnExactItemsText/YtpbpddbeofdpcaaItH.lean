/- ItemsOk of the program and of the model. -/
import Derived.Test.YtpbpddbeofdpcaaItG
namespace Go.Proofs.Ytpbpddbeofdpcaa
open Go.ChangeShapes Go.WideShapes Go.ChangeAt Go.RowKit
set_option maxRecDepth 100000
set_option maxHeartbeats 2000000 in
theorem iItemsOk_any (st : ByteArray) (a : Option Addr) (cap : Nat) (rs : List RuleT) (c : Option Addr) (cup : Nat) (xs : List ItemT) (w : World) (H : RulesAt w a rs) (hs : st.size ≤ maxLen) (hcap : rs.length ≤ cap) (G : ItemsAt w c xs) :
    Calls Try.prog 19 #[.agg #[.string st, .slice a rs.length cap], .slice c xs.length cup] w fun e w' => e = .returned (.bool (itemsB st rs xs)) ∧ Below w.heap.size w w' := by
  have hbw := (Below.refl w.heap.size w).alloc (Nat.le_refl _) (.cells #[.string st, .slice a rs.length cap] 32)
  have H1 := H.below hbw (Nat.le_refl _)
  have G1 := G.below hbw (Nat.le_refl _)
  go_enter Try.func19, Try.ntmps19
  go_wp2_with fail
  refine (itemSetOf_any _ _ _ rs _ _ xs _ H1 hs hcap G1).mono ?_
  rintro e w2 ⟨hsay, hb2⟩
  unfold SetOfSays at hsay
  subst hsay
  have c2 := Below.on hbw hb2 (Nat.le_refl _)
  have HO : ∃ ok, Hid (ok = itemsB st rs xs) := ⟨_, rfl⟩
  generalize (if itemsB st rs xs = true then setI xs else zeroF) = F
  clear hbw hb2 H1 G1
  unfold agg4
  obtain ⟨ok, HO⟩ := HO
  rw [← HO.out]
  go_wp2_with fail
  go_ret
  exact ⟨ret_bool HO.out, c2.alloc c2.size _⟩
set_option maxHeartbeats 4000000 in
theorem sItemsOk_any (st : ByteArray) (a : Option Addr) (cap : Nat) (rs : List RuleT) (c : Option Addr) (cup : Nat) (xs : List ItemT) (w : World) (H : RulesAt w a rs) (hs : st.size ≤ maxLen) (hcap : rs.length ≤ cap) (G : ItemsAt w c xs) :
    Calls Try.prog 17 #[.agg #[.string st, .slice a rs.length cap], .slice c xs.length cup] w fun e w' => e = .returned (.bool (itemsB st rs xs)) ∧ Below w.heap.size w w' := by
  have hn := G.1
  unfold maxLen at hn
  have hbw := (Below.refl w.heap.size w).alloc (Nat.le_refl _) (.cells #[.string st, .slice a rs.length cap] 32)
  have X1 := Box2.new w (.string st) (.slice a rs.length cap) 32
  go_enter Try.func17, Try.ntmps17
  go_wp2_with fail
  go_loopw [5] (fun i wr => ∃ k : Nat, k ≤ xs.length ∧ i = .int .i64 k ∧ Hid (∀ j, j < k → goodI st rs xs j = true) ∧ Below w.heap.size w wr ∧ Box2 wr w.heap.size (.string st) (.slice a rs.length cap)) (fun i _ => xs.length - (intOf i).toNat)
  case atStart => exact ⟨0, Nat.zero_le _, rfl, fun j h => by omega, hbw, X1⟩
  case round =>
    clear hbw X1
    obtain ⟨k, hk, rfl, HG, hb, X⟩ := hrel
    have hX := X.1
    by_cases hlt : k < xs.length
    · have Hr := H.below hb (Nat.le_refl _)
      obtain ⟨z, b, off, e, hbb, c0, c1, c2⟩ := (G.below hb (Nat.le_refl _)).2 k hlt
      subst e
      have hkl : (k : Int) < (xs.length : Int) := by omega
      have hfin : ∀ x, Below w.heap.size w (grow wr x) := fun x => hb.trans ((below_grow _ _).mono hb.size)
      have p0 : ∀ x, (grow wr x).cell? ⟨w.heap.size, 0, none⟩ = some (.string st) := fun x => by rw [grow_cell _ _ _ _ hX, X.2.1]
      have p1 : ∀ x, (grow wr x).cell? ⟨w.heap.size, 1, none⟩ = some (.slice a rs.length cap) := fun x => by rw [grow_cell _ _ _ _ hX, X.2.2]
      have g0 : ∀ x, (grow wr x).cell? ⟨b, off + k * 3, none⟩ = some (.int .i64 xs[k].1) := fun x => by rw [grow_cell _ _ _ _ hbb, c0]
      have g1 : ∀ x, (grow wr x).cell? ⟨b, off + k * 3 + 1, none⟩ = some (.int .i64 xs[k].2.1) := fun x => by rw [grow_cell _ _ _ _ hbb, c1]
      have g2 : ∀ x, (grow wr x).cell? ⟨b, off + k * 3 + 2, none⟩ = some (.string xs[k].2.2) := fun x => by rw [grow_cell _ _ _ _ hbb, c2]
      have CO : ∀ x, Calls Try.prog 9 #[.agg #[.string st, .slice a rs.length cap], .agg #[.int .i64 xs[k].1, .int .i64 xs[k].2.1, .string xs[k].2.2]] (grow wr x) fun e w'' => e = .returned (.bool (itemOkB st rs xs[k].1 xs[k].2.1 xs[k].2.2)) ∧ ∃ y, w'' = grow wr y :=
        fun x => Calls.grow_of (sItemOk_any _ _ _ rs _ _ _ _ (H.below (hfin x) (Nat.le_refl _)) hs hcap)
      have X' : ∀ x, Box2 (grow wr x) w.heap.size (.string st) (.slice a rs.length cap) := fun x => X.below (below_grow _ _)
      clear c0 c1 c2 hbb z
      cases ho : itemOkB st rs xs[k].1 xs[k].2.1 xs[k].2.2 with
      | false =>
        have HI : Hid (itemsB st rs xs = false) := by
          show _ = _
          unfold itemOkB at ho
          rw [Bool.and_eq_false_iff] at ho
          rcases ho with ho | ho
          · unfold itemsB; rw [ho]; rfl
          · refine itemsB_bad hlt ?_
            cases hg : goodI st rs xs k with
            | false => rfl
            | true => have := good_ok hlt hg; unfold okI at this; rw [ho] at this; cases this
        rw [ho] at CO
        clear ho HG
        go_wp2_with fail
        refine wp_region_grow (by kernel_rfl) (by kernel_rfl) ?_
        repeat (go_big_quiet_step ((go_at_call 9; exact CO _)))
        refine wpQuiet_nil ?_
        rintro _ ⟨x, rfl⟩
        go_wp2_with fail
        go_ret
        exact ⟨ret_bool HI.out.symm, hfin x⟩
      | true =>
        have HB : Hid (okI st rs xs[k] = true) := by
          show _ = _
          unfold itemOkB at ho
          rw [Bool.and_eq_true] at ho
          exact ho.2
        rw [ho] at CO
        clear ho
        by_cases hk0 : k = 0
        · have HGk : Hid (goodI st rs xs k = true) := by
            show _ = _; subst hk0; rw [goodI_zero hlt]; exact HB.out
          have d1 : decide ((0 : Int) < (k : Int)) = false := by rw [decide_eq_false_iff_not]; omega
          have d2 : decide (0 < k) = false := by rw [decide_eq_false_iff_not]; omega
          have HK := Lib.hid hk0
          clear hk0 HB
          go_wp2_with fail
          refine wp_region_grow (by kernel_rfl) (by kernel_rfl) ?_
          repeat (go_big_quiet_step ((go_at_call 9; exact CO _)))
          refine wpQuiet_nil ?_
          rintro _ ⟨x, rfl⟩
          clear d1 d2
          go_wp2_with fail
          go_roundw
          case rel => exact ⟨k + 1, by omega, by go_num, fun j hj => by
                        by_cases e : j = k
                        · subst e; exact HGk.out
                        · exact HG.out j (by omega), hfin x, X' x⟩
          case measure => simp [intOf]; omega
        · obtain ⟨m, hm⟩ : ∃ m, k = m + 1 := ⟨k - 1, by omega⟩
          have hml : m < xs.length := by omega
          have d1 : decide ((0 : Int) < (k : Int)) = true := by rw [decide_eq_true_eq]; omega
          have d2 : decide (0 < k) = true := by rw [decide_eq_true_eq]; omega
          have q1 : IntKind.i64.wrap ((k : Int) - 1) = (m : Int) := by rw [show (k : Int) - 1 = (m : Int) from by omega]; exact IntWalk.i64_in _ (by omega)
          have hml' : (m : Int) < (xs.length : Int) := by omega
          obtain ⟨z, b', off', e, hbb, c0, c1, c2⟩ := (G.below hb (Nat.le_refl _)).2 m hml
          simp only [Option.some.injEq, Addr.mk.injEq] at e
          obtain ⟨rfl, rfl, _⟩ := e
          have g3 : ∀ x, (grow wr x).cell? ⟨b, off + m * 3, none⟩ = some (.int .i64 xs[m].1) := fun x => by rw [grow_cell _ _ _ _ hbb, c0]
          have g4 : ∀ x, (grow wr x).cell? ⟨b, off + m * 3 + 1, none⟩ = some (.int .i64 xs[m].2.1) := fun x => by rw [grow_cell _ _ _ _ hbb, c1]
          have g5 : ∀ x, (grow wr x).cell? ⟨b, off + m * 3 + 2, none⟩ = some (.string xs[m].2.2) := fun x => by rw [grow_cell _ _ _ _ hbb, c2]
          have HGk : Hid (goodI st rs xs k = lessI xs[m] xs[k]) := by
            show _ = _; subst hm; rw [goodI_succ hlt, HB.out, Bool.true_and]
          have CL : ∀ x, Calls Try.prog 32 #[.agg #[.int .i64 xs[m].1, .int .i64 xs[m].2.1, .string xs[m].2.2], .agg #[.int .i64 xs[k].1, .int .i64 xs[k].2.1, .string xs[k].2.2]] (grow wr x) fun e w'' => e = .returned (.bool (lessI xs[m] xs[k])) ∧ ∃ y, w'' = grow wr y :=
            fun x => Calls.grow_of (l5Less_any _ _ _ _ _ _ _)
          have HK := Lib.hid hm
          clear hm hk0 HB c0 c1 c2 hbb z
          cases hle : lessI xs[m] xs[k] with
          | false =>
            have HI : Hid (itemsB st rs xs = false) := itemsB_bad hlt (by rw [HGk.out, hle])
            rw [hle] at CL
            clear hle HG
            go_wp2_with fail
            refine wp_region_grow (by kernel_rfl) (by kernel_rfl) ?_
            repeat (go_big_quiet_step ((first | (go_at_call 9; exact CO _) | (go_at_call 32; exact CL _))))
            refine wpQuiet_nil ?_
            rintro _ ⟨x, rfl⟩
            clear d1 d2 q1
            go_wp2_with fail
            go_ret
            exact ⟨ret_bool HI.out.symm, hfin x⟩
          | true =>
            have HGt : Hid (goodI st rs xs k = true) := by show _ = _; rw [HGk.out, hle]
            rw [hle] at CL
            clear hle
            go_wp2_with fail
            refine wp_region_grow (by kernel_rfl) (by kernel_rfl) ?_
            repeat (go_big_quiet_step ((first | (go_at_call 9; exact CO _) | (go_at_call 32; exact CL _))))
            refine wpQuiet_nil ?_
            rintro _ ⟨x, rfl⟩
            clear d1 d2 q1
            go_wp2_with fail
            go_roundw
            case rel => exact ⟨k + 1, by omega, by go_num, fun j hj => by
                          by_cases e : j = k
                          · subst e; exact HGt.out
                          · exact HG.out j (by omega), hfin x, X' x⟩
            case measure => simp [intOf]; omega
    · have HI : Hid (itemsB st rs xs = gramOkB st rs) := itemsB_all (fun j hj => HG.out j (by omega))
      obtain ⟨k0, k1⟩ := X.2
      go_wp2_with fail
      refine (sGramOk_any _ _ _ rs _ (H.below hb (Nat.le_refl _)) hcap).mono ?_
      rintro e w2 ⟨rfl, hb2⟩
      generalize gramOkB st rs = ok at *
      go_wp2_with fail
      go_ret
      exact ⟨ret_bool HI.out.symm, Below.on hb hb2 (Nat.le_refl _)⟩
end Go.Proofs.Ytpbpddbeofdpcaa
