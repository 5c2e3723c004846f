/- ItemsText of the program and of the model. -/
import Derived.Test.YtpbpddbeofdpcaaItI
import Derived.StillTailTactics
namespace Go.Proofs.Ytpbpddbeofdpcaa
open Go.ChangeShapes Go.WideShapes Go.ChangeAt Go.RowKit
set_option maxRecDepth 100000
theorem run_add8 (l : List UInt8) (a q1 q2 s : ByteArray) (h : l.length + a.size + q1.size + q2.size + s.size ≤ 9000000000) :
    (∀ w, (Op.stringOp .add (bytesOf l) a).run Try.prog w = .ok (.string (bytesOf (cat l a))) w) ∧
    (∀ w, (Op.stringOp .add (bytesOf (cat l a)) (⟨#[62]⟩ : ByteArray)).run Try.prog w = .ok (.string (bytesOf (cat (cat l a) (⟨#[62]⟩ : ByteArray)))) w) ∧
    (∀ w, (Op.stringOp .add (bytesOf (cat (cat l a) (⟨#[62]⟩ : ByteArray))) q1).run Try.prog w = .ok (.string (bytesOf (cat (cat (cat l a) (⟨#[62]⟩ : ByteArray)) q1))) w) ∧
    (∀ w, (Op.stringOp .add (bytesOf (cat (cat (cat l a) (⟨#[62]⟩ : ByteArray)) q1)) (⟨#[46]⟩ : ByteArray)).run Try.prog w = .ok (.string (bytesOf (cat (cat (cat (cat l a) (⟨#[62]⟩ : ByteArray)) q1) (⟨#[46]⟩ : ByteArray)))) w) ∧
    (∀ w, (Op.stringOp .add (bytesOf (cat (cat (cat (cat l a) (⟨#[62]⟩ : ByteArray)) q1) (⟨#[46]⟩ : ByteArray))) q2).run Try.prog w = .ok (.string (bytesOf (cat (cat (cat (cat (cat l a) (⟨#[62]⟩ : ByteArray)) q1) (⟨#[46]⟩ : ByteArray)) q2))) w) ∧
    (∀ w, (Op.stringOp .add (bytesOf (cat (cat (cat (cat (cat l a) (⟨#[62]⟩ : ByteArray)) q1) (⟨#[46]⟩ : ByteArray)) q2)) (⟨#[32]⟩ : ByteArray)).run Try.prog w = .ok (.string (bytesOf (cat (cat (cat (cat (cat (cat l a) (⟨#[62]⟩ : ByteArray)) q1) (⟨#[46]⟩ : ByteArray)) q2) (⟨#[32]⟩ : ByteArray)))) w) ∧
    (∀ w, (Op.stringOp .add (bytesOf (cat (cat (cat (cat (cat (cat l a) (⟨#[62]⟩ : ByteArray)) q1) (⟨#[46]⟩ : ByteArray)) q2) (⟨#[32]⟩ : ByteArray))) s).run Try.prog w = .ok (.string (bytesOf (cat (cat (cat (cat (cat (cat (cat l a) (⟨#[62]⟩ : ByteArray)) q1) (⟨#[46]⟩ : ByteArray)) q2) (⟨#[32]⟩ : ByteArray)) s))) w) ∧
    (∀ w, (Op.stringOp .add (bytesOf (cat (cat (cat (cat (cat (cat (cat l a) (⟨#[62]⟩ : ByteArray)) q1) (⟨#[46]⟩ : ByteArray)) q2) (⟨#[32]⟩ : ByteArray)) s)) (⟨#[10]⟩ : ByteArray)).run Try.prog w = .ok (.string (bytesOf (cat (cat (cat (cat (cat (cat (cat (cat l a) (⟨#[62]⟩ : ByteArray)) q1) (⟨#[46]⟩ : ByteArray)) q2) (⟨#[32]⟩ : ByteArray)) s) (⟨#[10]⟩ : ByteArray)))) w) := by
  refine ⟨?_, ?_, ?_, ?_, ?_, ?_, ?_, ?_⟩ <;> exact run_add_bytes (P := Try.prog) _ _ (by first | omega | (simp only [cat_len, one_size]; omega))
theorem text_step {st : ByteArray} {rs : List RuleT} {xs : List ItemT} {k : Nat} (hlt : k < xs.length) {d : Nat} (hd : xs[k].2.1 = d) :
    bytesOf (cat (cat (cat (cat (cat (cat (cat (cat (textI st rs xs k) (leftI rs xs[k].1)) (⟨#[62]⟩ : ByteArray)) ((rightI st rs xs[k].1).extract 0 d)) (⟨#[46]⟩ : ByteArray)) ((rightI st rs xs[k].1).extract d (rightI st rs xs[k].1).size)) (⟨#[32]⟩ : ByteArray)) xs[k].2.2) (⟨#[10]⟩ : ByteArray)) = bytesOf (textI st rs xs (k + 1)) := by
  rw [line_cat _ st rs xs[k] d hd, textI_succ hlt]
set_option maxHeartbeats 4000000 in
theorem sItemsText_any (st : ByteArray) (a : Option Addr) (cap : Nat) (rs : List RuleT) (c : Option Addr) (cup : Nat) (xs : List ItemT) (w : World) (H : RulesAt w a rs) (hs : st.size ≤ maxLen) (hcap : rs.length ≤ cap) (G : ItemsAt w c xs) :
    Calls Try.prog 21 #[.agg #[.string st, .slice a rs.length cap], .slice c xs.length cup] w fun e w' => e = .returned (.string (itemsTextL st rs xs)) ∧ Below w.heap.size w w' := by
  have hn := G.1
  unfold maxLen at hn
  have hbw := (Below.refl w.heap.size w).alloc (Nat.le_refl _) (.cells #[.string st, .slice a rs.length cap] 32)
  have X1 := Box2.new w (.string st) (.slice a rs.length cap) 32
  by_cases hempty : xs.length = 0
  · have HI : Hid (itemsTextL st rs xs = ⟨#[]⟩) := by
      show _ = _; unfold itemsTextL textI; rw [hempty]; simp [bytesOf]
    have hx : ((0 : Int) < (xs.length : Int)) = False := by rw [hempty]; simp
    have HE := Lib.hid hempty
    clear hempty
    go_enter Try.func21, Try.ntmps21
    go_wp2_with fail
    go_loopw [5, 6] (fun o i wr => i = .int .i64 (0 : Nat) ∧ o = .string ⟨#[]⟩ ∧ Below w.heap.size w wr) (fun _ _ _ => 0)
    case atStart => exact ⟨rfl, rfl, hbw⟩
    case round =>
      obtain ⟨rfl, rfl, hb⟩ := hrel
      have hl0 := HE.out
      go_wp2_with fail
      go_ret
      exact ⟨ret_bytes HI.out.symm, hb⟩
  cases hok : itemsB st rs xs with
  | false =>
    have HI : Hid (itemsTextL st rs xs = ⟨#[]⟩) := by
      show _ = _; unfold itemsTextL; rw [hok]; rfl
    go_enter Try.func21, Try.ntmps21
    go_wp2_with fail
    go_loopw [5, 6] (fun o i wr => i = .int .i64 (0 : Nat) ∧ o = .string ⟨#[]⟩ ∧ Below w.heap.size w wr ∧ Box2 wr w.heap.size (.string st) (.slice a rs.length cap)) (fun _ _ _ => 0)
    case atStart => exact ⟨rfl, rfl, hbw, X1⟩
    case round =>
      clear X1 hbw
      obtain ⟨rfl, rfl, hb, X⟩ := hrel
      obtain ⟨k0, k1⟩ := X.2
      have hl0 : (0 : Int) < (xs.length : Int) := by omega
      go_wp2_with fail
      refine (sItemsOk_any _ _ _ rs _ _ xs _ (H.below hb (Nat.le_refl _)) hs hcap (G.below hb (Nat.le_refl _))).mono ?_
      rintro e w2 ⟨rfl, hb2⟩
      rw [hok]
      go_wp2_with fail
      go_ret
      exact ⟨ret_bytes HI.out.symm, Below.on hb hb2 (Nat.le_refl _)⟩
  | true =>
    obtain ⟨hg, hall, hlen⟩ := items_good hok
    have HI : Hid (itemsTextL st rs xs = bytesOf (textI st rs xs xs.length)) := by
      show _ = _; unfold itemsTextL; rw [hok]; rfl
    have HOK := Lib.hid hok
    have HALL := Lib.hid hall
    have HGR := Lib.hid hg
    clear hall hg
    go_enter Try.func21, Try.ntmps21
    go_wp2_with fail
    go_loopw [5, 6] (fun o i wr => ∃ k : Nat, k ≤ xs.length ∧ i = .int .i64 k ∧ o = .string (bytesOf (textI st rs xs k)) ∧ Below w.heap.size w wr ∧ Box2 wr w.heap.size (.string st) (.slice a rs.length cap)) (fun _ i _ => xs.length - (intOf i).toNat)
    case atStart => exact ⟨0, Nat.zero_le _, rfl, rfl, hbw, X1⟩
    case round =>
      clear X1 hbw
      obtain ⟨k, hk, rfl, rfl, hb, X⟩ := hrel
      obtain ⟨k0, k1⟩ := X.2
      by_cases hlt : k < xs.length
      · have hkl : (k : Int) < (xs.length : Int) := by omega
        go_wp2_with fail
        refine (sItemsOk_any _ _ _ rs _ _ xs _ (H.below hb (Nat.le_refl _)) hs hcap (G.below hb (Nat.le_refl _))).mono ?_
        rintro e w2 ⟨rfl, hb2⟩
        rw [hok]
        have b2 := Below.on hb hb2 (Nat.le_refl _)
        have X2 := X.below hb2
        clear X hb hb2 k0 k1
        obtain ⟨k0, k1⟩ := X2.2
        have hokk := HALL.out k hlt
        obtain ⟨r1, r2, d, hd, d4, ha, _⟩ := okI_facts HGR.out hokk
        have hrl : xs[k].1 < (rs.length : Int) := by
          have := hokk; unfold okI itemB at this; simp only [Bool.and_eq_true, decide_eq_true_eq] at this; exact this.2.1
        have hdl : d ≤ (rightI st rs xs[k].1).size := by
          have := hokk; unfold okI itemB at this; simp only [Bool.and_eq_true, decide_eq_true_eq] at this; omega
        obtain ⟨z, b, off, e, hbb, c0, c1, c2⟩ := (G.below b2 (Nat.le_refl _)).2 k hlt
        subst e
        have HST := Lib.hid (text_step (st := st) (rs := rs) hlt hd)
        have hq4 := (gram_right HGR.out).2.2 xs[k].1
        have hl1 := left_le HGR.out xs[k].1
        have ht := textI_le HOK.out k hk
        obtain ⟨ch, hch, _⟩ := ahead_one ha
        have hs1 : xs[k].2.2.size = 1 := by have := congrArg List.length hch; simpa using this
        have hx1 : (((rightI st rs xs[k].1).extract 0 d)).size ≤ 4 := by rw [ByteArray.size_extract]; omega
        have hx2 : (((rightI st rs xs[k].1).extract d (rightI st rs xs[k].1).size)).size ≤ 4 := by rw [ByteArray.size_extract]; omega
        obtain ⟨a1, a2, a3, a4, a5, a6, a7, a8⟩ := run_add8 (textI st rs xs k) (leftI rs xs[k].1) ((rightI st rs xs[k].1).extract 0 d) ((rightI st rs xs[k].1).extract d (rightI st rs xs[k].1).size) xs[k].2.2 (by omega)
        rw [hd] at c1
        have RH := H.below b2 (Nat.le_refl _)
        have HL : (xs[k].1 < 0 → leftI rs xs[k].1 = ⟨#[46]⟩) := fun h => by unfold leftI; rw [if_pos h]
        have CR : ∀ v, RulesAt v a rs → Calls Try.prog 35 #[.agg #[.string st, .slice a rs.length cap], .int .i64 xs[k].1] v fun e w' => e = .returned (.string (rightI st rs xs[k].1)) ∧ Below v.heap.size v w' := fun v hv => l5Right_any _ _ _ rs _ _ hv hrl
        have HLAT : ∀ q : Nat, (hq : q < rs.length) → xs[k].1 = q → leftI rs xs[k].1 = rs[q].1 := fun q hq e => by rw [e]; exact leftI_at rs q hq
        clear hch ha hokk z
        generalize xs[k].2.2 = s at *
        generalize xs[k].1 = r at *
        generalize rightI st rs r = q at *
        have hd' : (d : Int) ≤ (q.size : Int) := by omega
        have hX2 := X2.1
        have bx := (Below.refl w2.heap.size w2).alloc (Nat.le_refl _) (.cells #[.int .i64 r, .int .i64 (d : Int), .string s] 34)
        have Y3 := Box3.new w2 (.int .i64 r) (.int .i64 (d : Int)) (.string s) 34
        generalize hlf : leftI rs r = lf at *
        by_cases hr : r < 0
        · obtain rfl := HL hr
          clear HL HLAT hlf
          go_wp2_with fail
          refine (CR _ (RH.below bx (Nat.le_refl _))).mono ?_
          rintro e w4 ⟨rfl, hb4⟩
          have X4 := (X2.below bx).below hb4
          obtain ⟨y0, y1, y2⟩ := (Y3.below hb4).2
          have b4 := Below.on (Below.on b2 bx (Nat.le_refl _)) hb4 (Nat.le_refl _)
          clear X2 bx Y3 hb4 k0 k1 c0 c1 c2 hbb CR RH HALL
          go_wp2_with fail
          go_quiet (fail)
          clear a1 a2 a3 a4 a5 a6 a7 a8
          go_wp2_with fail
          go_roundw
          case rel => exact ⟨k + 1, by omega, by go_num, by rw [HST.out], ⟨b4.os, b4.tape, b4.output, b4.size, b4.block⟩, X4⟩
          case measure => simp [intOf]; omega
        · obtain ⟨rn, rfl⟩ : ∃ rn : Nat, r = rn := ⟨r.toNat, by omega⟩
          have hrn : rn < rs.length := by omega
          obtain rfl := HLAT rn hrn rfl
          obtain ⟨z1, z2, b', off', e', hbb', e0, e1⟩ := RH.2 rn hrn
          subst e'
          clear HL HLAT hlf
          go_wp2_with fail
          refine (CR _ (RH.below bx (Nat.le_refl _))).mono ?_
          rintro e w4 ⟨rfl, hb4⟩
          have X4 := (X2.below bx).below hb4
          obtain ⟨y0, y1, y2⟩ := (Y3.below hb4).2
          have b4 := Below.on (Below.on b2 bx (Nat.le_refl _)) hb4 (Nat.le_refl _)
          clear X2 bx Y3 hb4 k0 k1 c0 c1 c2 hbb CR RH HALL
          go_wp2_with fail
          go_quiet (fail)
          clear a1 a2 a3 a4 a5 a6 a7 a8
          go_wp2_with fail
          go_roundw
          case rel => exact ⟨k + 1, by omega, by go_num, by rw [HST.out], ⟨b4.os, b4.tape, b4.output, b4.size, b4.block⟩, X4⟩
          case measure => simp [intOf]; omega
      · have hkn : k = xs.length := by omega
        have HK : Hid (bytesOf (textI st rs xs k) = itemsTextL st rs xs) := by show _ = _; rw [HI.out, hkn]
        clear hkn
        go_wp2_with fail
        go_ret
        exact ⟨ret_bytes HK.out, hb⟩

set_option maxHeartbeats 4000000 in
theorem iItemsText_any (st : ByteArray) (a : Option Addr) (cap : Nat) (rs : List RuleT) (c : Option Addr) (cup : Nat) (xs : List ItemT) (w : World) (H : RulesAt w a rs) (hs : st.size ≤ maxLen) (hcap : rs.length ≤ cap) (G : ItemsAt w c xs) :
    Calls Try.prog 22 #[.agg #[.string st, .slice a rs.length cap], .slice c xs.length cup] w fun e w' => e = .returned (.string (itemsTextL st rs xs)) ∧ Below w.heap.size w w' := by
  have hn := G.1
  unfold maxLen at hn
  have hbw := (Below.refl w.heap.size w).alloc (Nat.le_refl _) (.cells #[.string st, .slice a rs.length cap] 32)
  have X1 := Box2.new w (.string st) (.slice a rs.length cap) 32
  have H1 := H.below hbw (Nat.le_refl _)
  have G1 := G.below hbw (Nat.le_refl _)
  go_enter Try.func22, Try.ntmps22
  go_wp2_with fail
  refine (iItemsOk_any _ _ _ rs _ _ xs _ H1 hs hcap G1).mono ?_
  rintro e w2 ⟨rfl, hb2⟩
  have c2 := Below.on hbw hb2 (Nat.le_refl _)
  have X2 := X1.below hb2
  clear hbw hb2 H1 G1 X1
  cases hok : itemsB st rs xs with
  | false =>
    have HI : Hid (itemsTextL st rs xs = ⟨#[]⟩) := by
      show _ = _; unfold itemsTextL; rw [hok]; rfl
    go_wp2_with fail
    go_ret
    exact ⟨ret_bytes HI.out.symm, c2⟩
  | true =>
    obtain ⟨hg, hall, hlen⟩ := items_good hok
    have HI : Hid (itemsTextL st rs xs = bytesOf (textI st rs xs xs.length)) := by
      show _ = _; unfold itemsTextL; rw [hok]; rfl
    have HOK := Lib.hid hok
    have HALL := Lib.hid hall
    have HGR := Lib.hid hg
    have hs2 := X2.1
    have G2 := G.below c2 (Nat.le_refl _)
    have H2 := H.below c2 (Nat.le_refl _)
    clear hall hg hok
    go_wp2_with fail
    have hB0 : Builds w2.heap.size w2.heap.size [] (w2.alloc (.cells #[.pointer none, .slice none 0 0] 63)) := Lib.fresh_isBuilder _ _ _
    go_loopw [15] (fun i wr => ∃ k : Nat, k ≤ xs.length ∧ i = .int .i64 k ∧ Builds w2.heap.size w2.heap.size (textI st rs xs k) wr ∧ Below w2.heap.size w2 wr) (fun i _ => xs.length - (intOf i).toNat)
    case atStart => exact ⟨0, Nat.zero_le _, rfl, hB0, (Below.refl _ _).alloc (Nat.le_refl _) _⟩
    case round =>
      clear hB0
      obtain ⟨k, hk, rfl, hB, hb⟩ := hrel
      have Xr : Box2 wr w.heap.size (.string st) (.slice a rs.length cap) := X2.below hb
      by_cases hlt : k < xs.length
      · have hkl : (k : Int) < (xs.length : Int) := by omega
        obtain ⟨k0, k1⟩ := Xr.2
        have hXr := Xr.1
        have hokk := HALL.out k hlt
        obtain ⟨r1, r2, d, hd, d4, ha, _⟩ := okI_facts HGR.out hokk
        have hrl : xs[k].1 < (rs.length : Int) := by
          have := hokk; unfold okI itemB at this; simp only [Bool.and_eq_true, decide_eq_true_eq] at this; exact this.2.1
        have hdl : d ≤ (rightI st rs xs[k].1).size := by
          have := hokk; unfold okI itemB at this; simp only [Bool.and_eq_true, decide_eq_true_eq] at this; omega
        obtain ⟨z, b, off, e, hbb, c0, c1, c3⟩ := (G2.below hb (Nat.le_refl _)).2 k hlt
        subst e
        have HLE := Lib.hid (line_le HGR.out hokk)
        have HST := Lib.hid (line_cat [] st rs xs[k] d hd)
        have HSU := Lib.hid (textI_succ (st := st) (rs := rs) hlt)
        have hq4 := (gram_right HGR.out).2.2 xs[k].1
        have hl1 := left_le HGR.out xs[k].1
        have ht := textI_le HOK.out k hk
        obtain ⟨ch, hch, _⟩ := ahead_one ha
        have hs1 : xs[k].2.2.size = 1 := by have := congrArg List.length hch; simpa using this
        have hx1 : (((rightI st rs xs[k].1).extract 0 d)).size ≤ 4 := by rw [ByteArray.size_extract]; omega
        have hx2 : (((rightI st rs xs[k].1).extract d (rightI st rs xs[k].1).size)).size ≤ 4 := by rw [ByteArray.size_extract]; omega
        obtain ⟨a1, a2, a3, a4, a5, a6, a7, a8⟩ := run_add8 [] (leftI rs xs[k].1) ((rightI st rs xs[k].1).extract 0 d) ((rightI st rs xs[k].1).extract d (rightI st rs xs[k].1).size) xs[k].2.2 (by simp; omega)
        clear a1
        have ec : bytesOf (cat [] (leftI rs xs[k].1)) = leftI rs xs[k].1 := bytesOf_ext (by simp [bytesOf, cat])
        rw [ec] at a2
        rw [hd] at c1
        have CR : ∀ v, RulesAt v a rs → Calls Try.prog 36 #[.agg #[.string st, .slice a rs.length cap], .int .i64 xs[k].1] v fun e w' => e = .returned (.agg #[.string (leftI rs xs[k].1), .string (rightI st rs xs[k].1)]) ∧ Below v.heap.size v w' := fun v hv => ruleAt_any _ _ _ rs _ _ hv r1 hrl
        clear hch ha hokk z ec
        generalize lineL st rs xs[k] = ln at *
        generalize xs[k].2.2 = s at *
        generalize xs[k].1 = r at *
        generalize rightI st rs r = q at *
        generalize leftI rs r = lf at *
        have hd' : (d : Int) ≤ (q.size : Int) := by omega
        have bx := (Below.refl wr.heap.size wr).alloc (Nat.le_refl _) (.cells #[.int .i64 r, .int .i64 (d : Int), .string s] 34)
        have Y3 := Box3.new wr (.int .i64 r) (.int .i64 (d : Int)) (.string s) 34
        go_wp2_with fail
        refine (CR _ ((H2.below hb (Nat.le_refl _)).below bx (Nat.le_refl _))).mono ?_
        rintro e w4 ⟨rfl, hb4⟩
        have Y4 := (Y3.below hb4).old (.cells #[.string lf, .string q] 58)
        have V5 := Box2.new w4 (.string lf) (.string q) 58
        have b5 : Below w2.heap.size w2 (w4.alloc (.cells #[.string lf, .string q] 58)) := (Below.on (Below.on hb bx (Nat.le_refl _)) hb4 (Nat.le_refl _)).alloc (Below.on (Below.on hb bx (Nat.le_refl _)) hb4 (Nat.le_refl _)).size _
        have B5 : Builds w2.heap.size w2.heap.size (textI st rs xs k) (w4.alloc (.cells #[.string lf, .string q] 58)) := ((hB.below bx).below hb4).alloc _
        clear Y3 bx hb4 hB hb k0 k1 c0 c1 c3 hbb CR Xr hXr X2
        obtain ⟨y0, y1, y2⟩ := Y4.2
        obtain ⟨v0, v1⟩ := V5.2
        generalize hw5 : w4.alloc (.cells #[.string lf, .string q] 58) = w5 at *
        go_wp2_with fail
        go_still_tail 21, (by kernel_rfl)
        change wpList _ _ _ _ _ w5.drew
        have b6 : Below w2.heap.size w2 w5.drew := ⟨b5.os, b5.tape, b5.output, b5.size, b5.block⟩
        have B6 : Builds w2.heap.size w2.heap.size (textI st rs xs k) w5.drew := B5
        clear b5 B5 hw5 y0 y1 y2 v0 v1 Y4 V5
        generalize w5.drew = w6 at *
        clear a2 a3 a4 a5 a6 a7 a8
        go_wp2_with fail
        rw [HST.out, List.nil_append]
        refine (write_any _ _ _ _ _ B6 (by have := HLE.out; omega) b6.size).mono ?_
        rintro e w7 ⟨rfl, hB7, hb7⟩
        rw [← HSU.out] at hB7
        have b7 : Below w2.heap.size w2 w7 := b6.trans hb7
        clear B6 b6 hb7
        go_wp2_with fail
        go_roundw
        case rel => exact ⟨k + 1, by omega, by go_num, hB7, b7⟩
        case measure => simp [intOf]; omega
      · go_wp2_with fail
        refine (builderString_any _ _ _ _ hB hb.size).mono ?_
        rintro e w' ⟨rfl, hb'⟩
        have hfin : Below w.heap.size w w' := c2.trans ((hb.trans hb').mono (by omega))
        have HK : Hid (bytesOf (textI st rs xs k) = itemsTextL st rs xs) := by show _ = _; rw [HI.out, show k = xs.length by omega]
        go_wp2_with fail
        go_ret
        exact ⟨ret_bytes HK.out, hfin⟩
end Go.Proofs.Ytpbpddbeofdpcaa
