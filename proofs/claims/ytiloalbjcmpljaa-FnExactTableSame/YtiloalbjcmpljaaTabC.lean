/- slices.Equal over moves and over ends; TableSame of the program and of the model. -/
import Derived.Test.YtiloalbjcmpljaaTabB
namespace Go.Proofs.Ytiloalbjcmpljaa
open Go.ChangeShapes Go.WideShapes Go.ChangeAt Go.RowKit Go.Joins Go.Deep
set_option maxRecDepth 100000
def eqT (x y : TriT) : Bool := (x.1 == y.1) && ((x.2.1.toList == y.2.1.toList) && (x.2.2 == y.2.2))
def eqTs (xs ys : List TriT) : Bool := decide (xs.length = ys.length) && (List.range xs.length).all fun i => match xs[i]?, ys[i]? with
  | some x, some y => eqT x y
  | _, _ => true
theorem eqTs_len {xs ys : List TriT} (h : xs.length ≠ ys.length) : eqTs xs ys = false := by simp [eqTs, h]
theorem eqTs_bad {xs ys : List TriT} {k : Nat} (h1 : k < xs.length) (h2 : k < ys.length) (h : eqT xs[k] ys[k] = false) : eqTs xs ys = false := by
  unfold eqTs
  rw [Bool.and_eq_false_iff]
  right
  rw [List.all_eq_false]
  exact ⟨k, by simpa using h1, by simp [h1, h2, h]⟩
theorem eqTs_all {xs ys : List TriT} (hl : xs.length = ys.length) (h : ∀ k (h1 : k < xs.length) (h2 : k < ys.length), eqT xs[k] ys[k] = true) : eqTs xs ys = true := by
  unfold eqTs
  rw [Bool.and_eq_true]
  refine ⟨by simpa using hl, ?_⟩
  rw [List.all_eq_true]
  intro i hi
  have h1 : i < xs.length := by simpa using hi
  have h2 : i < ys.length := by omega
  simp [h1, h2, h i h1 h2]
def sameT (m : Int) (xs ys : List TriT) (m' : Int) (xs' ys' : List TriT) : Bool := (m == m') && (eqTs xs xs' && eqTs ys ys')

theorem equalIn_Move (r d r' d' : Int) (s s' : ByteArray) (w : World) : (Op.equalIn 10000 60 (.agg #[.int .i64 r, .string s, .int .i64 d]) (.agg #[.int .i64 r', .string s', .int .i64 d'])).run Try.prog w = .ok (eqT (r, s, d) (r', s', d')) w := by
  have u3 := Try.underlying9
  have a3 := Try.isAgg9
  have z3 := Try.sizeOf9
  have u4 := Try.underlying3
  have a4 := Try.isAgg3
  have z4 := Try.sizeOf3
  have hS : Try.prog.underlying 60 = some (.struct (Try.prog.fieldsOf 60)) := by kernel_rfl
  have hp : Try.prog.stoodInHeld 60 = false := by kernel_rfl
  rw [show (10000 : Nat) = 9999 + 1 from rfl, run_equalIn_agg w 9999 60 _ _ hS hp]
  simp only [Program.fieldsOf, Try.underlying60]
  go_simp
  by_cases h1 : r = r' <;> by_cases h2 : s.toList = s'.toList <;> by_cases h3 : d = d' <;> simp [h1, h2, h3, eqT]
theorem eqGuard_Move (op : BinOp) (x y : Operand) (xs ys : Array Value) (w : World) : (eqGuard op 60 x y (.agg xs) (.agg ys)).run Try.prog w = .ok () w :=
  run_eqGuard_agg w op 60 x y xs ys (by kernel_rfl)
theorem run_neq_Move (r d r' d' : Int) (s s' : ByteArray) (w : World) : Sem.run Try.prog (binOp .neq 60 (.agg #[.int .i64 r, .string s, .int .i64 d]) (.agg #[.int .i64 r', .string s', .int .i64 d'])) w = .ok (.bool (!eqT (r, s, d) (r', s', d'))) w := by
  rw [run_neq_struct, equalIn_Move]; rfl
set_option maxHeartbeats 400000 in
theorem equalMove_any (a a' : Option Addr) (cap cap' : Nat) (xs ys : List TriT) (w : World) (HA : TrisAt w a xs) (HB : TrisAt w a' ys) :
    Calls Try.prog 56 #[.slice a xs.length cap, .slice a' ys.length cap'] w fun e w' => e = .returned (.bool (eqTs xs ys)) ∧ Below w.heap.size w w' := by
  have hn := HA.1
  unfold maxLen at hn
  have heq := run_neq_Move
  have hgd := eqGuard_Move
  by_cases hl : xs.length = ys.length
  case neg =>
    have hl' : ((xs.length : Int) != (ys.length : Int)) = true := by rw [bne_iff_ne]; omega
    go_enter Try.func56, Try.ntmps56
    go_wp2
    go_ret
    exact ⟨ret_bool (eqTs_len hl).symm, Below.refl _ _⟩
  case pos =>
    have HL := Lib.hid hl
    have hl' : ((xs.length : Int) != (ys.length : Int)) = false := by simp [hl]
    have hle1 : xs.length ≤ ys.length := by omega
    clear hl
    go_enter Try.func56, Try.ntmps56
    go_wp2
    go_loopw [13] (fun i wr => ∃ k : Nat, k ≤ xs.length ∧ i = .int .i64 k ∧ Hid (∀ j (h1 : j < xs.length) (h2 : j < ys.length), j < k → eqT xs[j] ys[j] = true) ∧ ∃ n, wr = w.drewN n) (fun i _ => xs.length - (intOf i).toNat)
    case atStart => exact ⟨0, Nat.zero_le _, rfl, fun j _ _ h => by omega, 0, rfl⟩
    case round =>
      obtain ⟨k, hk, rfl, HN, n, rfl⟩ := hrel
      by_cases hlt : k < xs.length
      · have hlt2 : k < ys.length := by omega
        obtain ⟨z1, b, off, e, hbb, c0, c1, c2⟩ := HA.2 k hlt
        obtain ⟨z1', b', off', e', hbb', c0', c1', c2'⟩ := HB.2 k hlt2
        subst e e'
        have hkl : (k : Int) < (xs.length : Int) := by omega
        have hkl' : (k : Int) < (ys.length : Int) := by omega
        go_wp2
        go_quiet (fail)
        cases he : eqT (xs[k].1, xs[k].2.1, xs[k].2.2) (ys[k].1, ys[k].2.1, ys[k].2.2) with
        | false =>
          go_wp2
          go_ret
          exact ⟨ret_bool (eqTs_bad hlt hlt2 he).symm, rfl, rfl, rfl, Nat.le_refl _, fun _ _ => rfl⟩
        | true =>
          have HE := Lib.hid he
          go_wp2
          go_roundw
          case rel => exact ⟨k + 1, by omega, by go_num, fun j h1 h2 hj => by
                        by_cases e : j = k
                        · subst e; exact HE.out
                        · exact HN.out j h1 h2 (by omega), _, rfl⟩
          case measure => simp [intOf]; omega
      · go_wp2
        go_ret
        exact ⟨ret_bool (eqTs_all HL.out (fun j h1 h2 => HN.out j h1 h2 (by omega))).symm, rfl, rfl, rfl, Nat.le_refl _, fun _ _ => rfl⟩

theorem equalIn_End (r d r' d' : Int) (s s' : ByteArray) (w : World) : (Op.equalIn 10000 63 (.agg #[.int .i64 r, .string s, .int .i64 d]) (.agg #[.int .i64 r', .string s', .int .i64 d'])).run Try.prog w = .ok (eqT (r, s, d) (r', s', d')) w := by
  have u3 := Try.underlying9
  have a3 := Try.isAgg9
  have z3 := Try.sizeOf9
  have u4 := Try.underlying3
  have a4 := Try.isAgg3
  have z4 := Try.sizeOf3
  have hS : Try.prog.underlying 63 = some (.struct (Try.prog.fieldsOf 63)) := by kernel_rfl
  have hp : Try.prog.stoodInHeld 63 = false := by kernel_rfl
  rw [show (10000 : Nat) = 9999 + 1 from rfl, run_equalIn_agg w 9999 63 _ _ hS hp]
  simp only [Program.fieldsOf, Try.underlying63]
  go_simp
  by_cases h1 : r = r' <;> by_cases h2 : s.toList = s'.toList <;> by_cases h3 : d = d' <;> simp [h1, h2, h3, eqT]
theorem eqGuard_End (op : BinOp) (x y : Operand) (xs ys : Array Value) (w : World) : (eqGuard op 63 x y (.agg xs) (.agg ys)).run Try.prog w = .ok () w :=
  run_eqGuard_agg w op 63 x y xs ys (by kernel_rfl)
theorem run_neq_End (r d r' d' : Int) (s s' : ByteArray) (w : World) : Sem.run Try.prog (binOp .neq 63 (.agg #[.int .i64 r, .string s, .int .i64 d]) (.agg #[.int .i64 r', .string s', .int .i64 d'])) w = .ok (.bool (!eqT (r, s, d) (r', s', d'))) w := by
  rw [run_neq_struct, equalIn_End]; rfl
set_option maxHeartbeats 400000 in
theorem equalEnd_any (a a' : Option Addr) (cap cap' : Nat) (xs ys : List TriT) (w : World) (HA : TrisAt w a xs) (HB : TrisAt w a' ys) :
    Calls Try.prog 57 #[.slice a xs.length cap, .slice a' ys.length cap'] w fun e w' => e = .returned (.bool (eqTs xs ys)) ∧ Below w.heap.size w w' := by
  have hn := HA.1
  unfold maxLen at hn
  have heq := run_neq_End
  have hgd := eqGuard_End
  by_cases hl : xs.length = ys.length
  case neg =>
    have hl' : ((xs.length : Int) != (ys.length : Int)) = true := by rw [bne_iff_ne]; omega
    go_enter Try.func57, Try.ntmps57
    go_wp2
    go_ret
    exact ⟨ret_bool (eqTs_len hl).symm, Below.refl _ _⟩
  case pos =>
    have HL := Lib.hid hl
    have hl' : ((xs.length : Int) != (ys.length : Int)) = false := by simp [hl]
    have hle1 : xs.length ≤ ys.length := by omega
    clear hl
    go_enter Try.func57, Try.ntmps57
    go_wp2
    go_loopw [13] (fun i wr => ∃ k : Nat, k ≤ xs.length ∧ i = .int .i64 k ∧ Hid (∀ j (h1 : j < xs.length) (h2 : j < ys.length), j < k → eqT xs[j] ys[j] = true) ∧ ∃ n, wr = w.drewN n) (fun i _ => xs.length - (intOf i).toNat)
    case atStart => exact ⟨0, Nat.zero_le _, rfl, fun j _ _ h => by omega, 0, rfl⟩
    case round =>
      obtain ⟨k, hk, rfl, HN, n, rfl⟩ := hrel
      by_cases hlt : k < xs.length
      · have hlt2 : k < ys.length := by omega
        obtain ⟨z1, b, off, e, hbb, c0, c1, c2⟩ := HA.2 k hlt
        obtain ⟨z1', b', off', e', hbb', c0', c1', c2'⟩ := HB.2 k hlt2
        subst e e'
        have hkl : (k : Int) < (xs.length : Int) := by omega
        have hkl' : (k : Int) < (ys.length : Int) := by omega
        go_wp2
        go_quiet (fail)
        cases he : eqT (xs[k].1, xs[k].2.1, xs[k].2.2) (ys[k].1, ys[k].2.1, ys[k].2.2) with
        | false =>
          go_wp2
          go_ret
          exact ⟨ret_bool (eqTs_bad hlt hlt2 he).symm, rfl, rfl, rfl, Nat.le_refl _, fun _ _ => rfl⟩
        | true =>
          have HE := Lib.hid he
          go_wp2
          go_roundw
          case rel => exact ⟨k + 1, by omega, by go_num, fun j h1 h2 hj => by
                        by_cases e : j = k
                        · subst e; exact HE.out
                        · exact HN.out j h1 h2 (by omega), _, rfl⟩
          case measure => simp [intOf]; omega
      · go_wp2
        go_ret
        exact ⟨ret_bool (eqTs_all HL.out (fun j h1 h2 => HN.out j h1 h2 (by omega))).symm, rfl, rfl, rfl, Nat.le_refl _, fun _ _ => rfl⟩

theorem tableSame_any (m : Int) (a : Option Addr) (cap : Nat) (xs : List TriT) (c : Option Addr) (cup : Nat) (ys : List TriT) (m' : Int) (a' : Option Addr) (cap' : Nat) (xs' : List TriT) (c' : Option Addr) (cup' : Nat) (ys' : List TriT) (w : World) (HX : TrisAt w a xs) (HY : TrisAt w c ys) (HX' : TrisAt w a' xs') (HY' : TrisAt w c' ys') :
    Calls Try.prog 27 #[tabV m a xs.length cap c ys.length cup, tabV m' a' xs'.length cap' c' ys'.length cup'] w fun e w' => e = .returned (.bool (sameT m xs ys m' xs' ys')) ∧ Below w.heap.size w w' := by
  have hb1 := ((Below.refl w.heap.size w).alloc (Nat.le_refl _) (.cells #[.int .i64 m, .slice a xs.length cap, .slice c ys.length cup] 39)).alloc (by simp) (.cells #[.int .i64 m', .slice a' xs'.length cap', .slice c' ys'.length cup'] 39)
  have X1 := (BoxT.new w (.int .i64 m) (.slice a xs.length cap) (.slice c ys.length cup) 39).old (.cells #[.int .i64 m', .slice a' xs'.length cap', .slice c' ys'.length cup'] 39)
  have Y1 := BoxT.new (w.alloc (.cells #[.int .i64 m, .slice a xs.length cap, .slice c ys.length cup] 39)) (.int .i64 m') (.slice a' xs'.length cap') (.slice c' ys'.length cup') 39
  simp only [World.size_alloc] at Y1
  cases hm : (m == m') with
  | false =>
    go_enter Try.func27, Try.ntmps27
    go_wp2_with fail
    go_ret
    exact ⟨ret_bool (by unfold sameT; rw [hm]; rfl), hb1⟩
  | true =>
    go_enter Try.func27, Try.ntmps27
    go_wp2_with fail
    refine (equalMove_any _ _ _ _ xs xs' _ (HX.below hb1 (Nat.le_refl _)) (HX'.below hb1 (Nat.le_refl _))).mono ?_
    rintro e w2 ⟨rfl, hb2⟩
    have X2 := X1.below hb2
    have Y2 := Y1.below hb2
    have c2 := Below.on hb1 hb2 (Nat.le_refl _)
    clear X1 Y1 hb1 hb2
    obtain ⟨x0, x1, x2⟩ := X2.2
    obtain ⟨y0, y1, y2⟩ := Y2.2
    cases h1 : eqTs xs xs' with
    | false =>
      go_wp2_with fail
      go_ret
      exact ⟨ret_bool (by unfold sameT; rw [hm, h1]; rfl), c2⟩
    | true =>
      go_wp2_with fail
      refine (equalEnd_any _ _ _ _ ys ys' _ (HY.below c2 (Nat.le_refl _)) (HY'.below c2 (Nat.le_refl _))).mono ?_
      rintro e w3 ⟨rfl, hb3⟩
      go_wp2_with fail
      go_ret
      exact ⟨ret_bool (by unfold sameT; rw [hm, h1]; rfl), Below.on c2 hb3 (Nat.le_refl _)⟩
set_option maxHeartbeats 2000000 in
theorem sTableSame_any (m : Int) (a : Option Addr) (cap : Nat) (xs : List TriT) (c : Option Addr) (cup : Nat) (ys : List TriT) (m' : Int) (a' : Option Addr) (cap' : Nat) (xs' : List TriT) (c' : Option Addr) (cup' : Nat) (ys' : List TriT) (w : World) (HX : TrisAt w a xs) (HY : TrisAt w c ys) (HX' : TrisAt w a' xs') (HY' : TrisAt w c' ys') :
    Calls Try.prog 26 #[tabV m a xs.length cap c ys.length cup, tabV m' a' xs'.length cap' c' ys'.length cup'] w fun e w' => e = .returned (.bool (sameT m xs ys m' xs' ys')) ∧ Below w.heap.size w w' := by
  have hn := HX.1
  have hn2 := HY.1
  unfold maxLen at hn hn2
  have heq := run_neq_Move
  have hgd := eqGuard_Move
  have heq2 := run_neq_End
  have hgd2 := eqGuard_End
  have hb1 := ((Below.refl w.heap.size w).alloc (Nat.le_refl _) (.cells #[.int .i64 m, .slice a xs.length cap, .slice c ys.length cup] 39)).alloc (by simp) (.cells #[.int .i64 m', .slice a' xs'.length cap', .slice c' ys'.length cup'] 39)
  have X1 := (BoxT.new w (.int .i64 m) (.slice a xs.length cap) (.slice c ys.length cup) 39).old (.cells #[.int .i64 m', .slice a' xs'.length cap', .slice c' ys'.length cup'] 39)
  have Y1 := BoxT.new (w.alloc (.cells #[.int .i64 m, .slice a xs.length cap, .slice c ys.length cup] 39)) (.int .i64 m') (.slice a' xs'.length cap') (.slice c' ys'.length cup') 39
  simp only [World.size_alloc] at Y1
  by_cases hl : m = m' ∧ xs.length = xs'.length ∧ ys.length = ys'.length
  case neg =>
    have HF : Hid (sameT m xs ys m' xs' ys' = false) := by
      show _ = _
      unfold sameT
      by_cases q1 : m = m'
      · by_cases q2 : xs.length = xs'.length
        · rw [eqTs_len (xs := ys) (by intro q3; exact hl ⟨q1, q2, q3⟩)]; simp
        · rw [eqTs_len q2]; simp
      · rw [show (m == m') = false from by simpa using q1]; rfl
    cases q1 : (m != m') with
    | true =>
      go_enter Try.func26, Try.ntmps26
      go_wp2_with fail
      go_ret
      exact ⟨ret_bool HF.out.symm, hb1⟩
    | false =>
      cases q2 : ((xs.length : Int) != (xs'.length : Int)) with
      | true =>
        go_enter Try.func26, Try.ntmps26
        go_wp2_with fail
        go_ret
        exact ⟨ret_bool HF.out.symm, hb1⟩
      | false =>
        have q3 : ((ys.length : Int) != (ys'.length : Int)) = true := by
          rw [bne_iff_ne]
          intro q3
          have q1' : m = m' := by simpa using q1
          have q2' : (xs.length : Int) = (xs'.length : Int) := by simpa using q2
          exact hl ⟨q1', by omega, by omega⟩
        go_enter Try.func26, Try.ntmps26
        go_wp2_with fail
        go_ret
        exact ⟨ret_bool HF.out.symm, hb1⟩
  case pos =>
  obtain ⟨hm, hl1, hl2⟩ := hl
  have hm1 : (m != m') = false := by simp [hm]
  have hl1' : ((xs.length : Int) != (xs'.length : Int)) = false := by simp [hl1]
  have hl2' : ((ys.length : Int) != (ys'.length : Int)) = false := by simp [hl2]
  have HM : Hid ((m == m') = true) := by show _ = _; simpa using hm
  have HL1 := Lib.hid hl1
  have HL2 := Lib.hid hl2
  have hle1 : xs.length ≤ xs'.length := by omega
  have hle2 : ys.length ≤ ys'.length := by omega
  clear hm hl1 hl2
  go_enter Try.func26, Try.ntmps26
  go_wp2_with fail
  clear hm1 hl1' hl2'
  go_loopw [5] (fun i wr => ∃ k : Nat, k ≤ xs.length ∧ i = .int .i64 k ∧ Hid (∀ j (h1 : j < xs.length) (h2 : j < xs'.length), j < k → eqT xs[j] xs'[j] = true) ∧ Below w.heap.size w wr ∧ BoxT wr w.heap.size (.int .i64 m) (.slice a xs.length cap) (.slice c ys.length cup) ∧ BoxT wr (w.heap.size + 1) (.int .i64 m') (.slice a' xs'.length cap') (.slice c' ys'.length cup')) (fun i _ => xs.length - (intOf i).toNat)
  case atStart => exact ⟨0, Nat.zero_le _, rfl, fun j _ _ h => by omega, hb1, X1, Y1⟩
  case round =>
    clear hb1 X1 Y1
    obtain ⟨k, hk, rfl, HN, hb, X, Y⟩ := hrel
    obtain ⟨x0, x1, x2⟩ := X.2
    obtain ⟨y0, y1, y2⟩ := Y.2
    by_cases hlt : k < xs.length
    · have hlt2 : k < xs'.length := by omega
      obtain ⟨z1, b, off, e, hbb, c0, c1, c2⟩ := (HX.below hb (Nat.le_refl _)).2 k hlt
      obtain ⟨z1', b', off', e', hbb', c0', c1', c2'⟩ := (HX'.below hb (Nat.le_refl _)).2 k hlt2
      subst e e'
      have hkl : (k : Int) < (xs.length : Int) := by omega
      have hkl' : (k : Int) < (xs'.length : Int) := by omega
      have hfin : ∀ m, Below w.heap.size w (wr.drewN m) := fun m => ⟨hb.os, hb.tape, hb.output, hb.size, hb.block⟩
      go_wp2
      go_quiet (fail)
      cases he : eqT (xs[k].1, xs[k].2.1, xs[k].2.2) (xs'[k].1, xs'[k].2.1, xs'[k].2.2) with
      | false =>
        go_wp2
        go_ret
        exact ⟨ret_bool (by unfold sameT; rw [eqTs_bad hlt hlt2 he]; simp), hfin _⟩
      | true =>
        have HE := Lib.hid he
        go_wp2
        go_roundw
        case rel => exact ⟨k + 1, by omega, by go_num, fun j h1 h2 hj => by
                      by_cases e : j = k
                      · subst e; exact HE.out
                      · exact HN.out j h1 h2 (by omega), hfin _, X, Y⟩
        case measure => simp [intOf]; omega
    · have HE1 := Lib.hid (eqTs_all HL1.out (fun j h1 h2 => HN.out j h1 h2 (by omega)))
      clear HN
      have hb1 := hb
      have X1 := X
      have Y1 := Y
      go_wp2
      clear hb X Y hk hlt
      go_loopw [6] (fun i wr => ∃ k : Nat, k ≤ ys.length ∧ i = .int .i64 k ∧ Hid (∀ j (h1 : j < ys.length) (h2 : j < ys'.length), j < k → eqT ys[j] ys'[j] = true) ∧ Below w.heap.size w wr ∧ BoxT wr w.heap.size (.int .i64 m) (.slice a xs.length cap) (.slice c ys.length cup) ∧ BoxT wr (w.heap.size + 1) (.int .i64 m') (.slice a' xs'.length cap') (.slice c' ys'.length cup')) (fun i _ => ys.length - (intOf i).toNat)
      case atStart => exact ⟨0, Nat.zero_le _, rfl, fun j _ _ h => by omega, hb1, X1, Y1⟩
      case round =>
        clear hb1 X1 Y1 x0 x1 x2 y0 y1 y2
        obtain ⟨k, hk, rfl, HN, hb, X, Y⟩ := hrel
        obtain ⟨x0, x1, x2⟩ := X.2
        obtain ⟨y0, y1, y2⟩ := Y.2
        by_cases hlt : k < ys.length
        · have hlt2 : k < ys'.length := by omega
          obtain ⟨z1, b, off, e, hbb, c0, c1, c2⟩ := (HY.below hb (Nat.le_refl _)).2 k hlt
          obtain ⟨z1', b', off', e', hbb', c0', c1', c2'⟩ := (HY'.below hb (Nat.le_refl _)).2 k hlt2
          subst e e'
          have hkl : (k : Int) < (ys.length : Int) := by omega
          have hkl' : (k : Int) < (ys'.length : Int) := by omega
          have hfin : ∀ m, Below w.heap.size w (wr.drewN m) := fun m => ⟨hb.os, hb.tape, hb.output, hb.size, hb.block⟩
          go_wp2
          go_quiet (fail)
          cases he : eqT (ys[k].1, ys[k].2.1, ys[k].2.2) (ys'[k].1, ys'[k].2.1, ys'[k].2.2) with
          | false =>
            go_wp2
            go_ret
            exact ⟨ret_bool (by unfold sameT; rw [eqTs_bad hlt hlt2 he]; simp), hfin _⟩
          | true =>
            have HE := Lib.hid he
            go_wp2
            go_roundw
            case rel => exact ⟨k + 1, by omega, by go_num, fun j h1 h2 hj => by
                          by_cases e : j = k
                          · subst e; exact HE.out
                          · exact HN.out j h1 h2 (by omega), hfin _, X, Y⟩
            case measure => simp [intOf]; omega
        · go_wp2
          go_ret
          exact ⟨ret_bool (by unfold sameT; rw [HM.out, HE1.out, eqTs_all HL2.out (fun j h1 h2 => HN.out j h1 h2 (by omega))]; rfl), hb⟩

end Go.Proofs.Ytiloalbjcmpljaa
