/- itemSetOf and ItemsOk of the program, ItemsOk of the model. -/
import Derived.Test.YtpbpddbeofdpcaaItF
namespace Go.Proofs.Ytpbpddbeofdpcaa
open Go.ChangeShapes Go.WideShapes Go.ChangeAt Go.RowKit
set_option maxRecDepth 100000
theorem lastI_zero (xs : List ItemT) : lastI xs 0 = -1 := rfl
theorem lastI_succ {xs : List ItemT} {k : Nat} (h : k < xs.length) : lastI xs (k + 1) = (packI xs[k] : Nat) := by
  show (match xs[k]? with
    | some y => ((packI y : Nat) : Int)
    | none => -1) = _
  rw [List.getElem?_eq_getElem h]
theorem last_less {st : ByteArray} {rs : List RuleT} {xs : List ItemT} {k : Nat} (hg : gramOkB st rs = true) (h : k < xs.length) (ho : okI st rs xs[k] = true) (hp : ∀ j, j < k → goodI st rs xs j = true) :
    goodI st rs xs k = decide (lastI xs k < (packI xs[k] : Int)) := by
  cases k with
  | zero => rw [goodI_zero h, ho, lastI_zero]; symm; rw [decide_eq_true_eq]; omega
  | succ j =>
    have hj := good_ok (show j < xs.length by omega) (hp j (by omega))
    obtain ⟨_, _, d, e1, e2, _⟩ := okI_facts hg ho
    obtain ⟨_, _, d', e1', e2', _⟩ := okI_facts hg hj
    rw [goodI_succ h, ho, less_pack hj ho (by omega) (by omega), lastI_succ (by omega), Bool.true_and, Bool.eq_iff_iff, decide_eq_true_eq, decide_eq_true_eq]
    omega
theorem lastI_lt {st : ByteArray} {rs : List RuleT} {xs : List ItemT} {k : Nat} (hg : gramOkB st rs = true) (h : k ≤ xs.length) (hp : ∀ j, j < k → goodI st rs xs j = true) : -1 ≤ lastI xs k ∧ lastI xs k < 225 := by
  cases k with
  | zero => rw [lastI_zero]; omega
  | succ j =>
    have hj := good_ok (show j < xs.length by omega) (hp j (by omega))
    obtain ⟨_, _, d', e1', e2', _, e3⟩ := okI_facts hg hj
    rw [lastI_succ (by omega)]
    omega
theorem Set4.all {w : World} {b : Nat} {f : Nat → Nat} (h : Set4 w b f) : (w.cell? ⟨b, 0, none⟩ = some (.int .u64 (f 0 : Nat)) ∧ w.frozen? ⟨b, 0, none⟩ = false) ∧ (w.cell? ⟨b, 1, none⟩ = some (.int .u64 (f 1 : Nat)) ∧ w.frozen? ⟨b, 1, none⟩ = false) ∧ (w.cell? ⟨b, 2, none⟩ = some (.int .u64 (f 2 : Nat)) ∧ w.frozen? ⟨b, 2, none⟩ = false) ∧ (w.cell? ⟨b, 3, none⟩ = some (.int .u64 (f 3 : Nat)) ∧ w.frozen? ⟨b, 3, none⟩ = false) :=
  ⟨h.cell (by omega), h.cell (by omega), h.cell (by omega), h.cell (by omega)⟩
theorem StI.gcells {w : World} {u v : Value} {b6 : Nat} {f : Nat → Nat} {wr : World} (h : StI w #[u, v] b6 f wr) : wr.cell? ⟨w.heap.size, 0, none⟩ = some u ∧ wr.cell? ⟨w.heap.size, 1, none⟩ = some v :=
  ⟨by rw [cell_of_block h.g 0]; rfl, by rw [cell_of_block h.g 1]; rfl⟩
theorem packed_item {st : ByteArray} {rs : List RuleT} {x : ItemT} (hg : gramOkB st rs = true) (h : okI st rs x = true) (w : World) :
    Calls Try.prog 50 #[.agg #[.int .i64 x.1, .int .i64 x.2.1, .string x.2.2]] w fun e w' => e = .returned (.int .i64 (packI x : Nat)) ∧ Below w.heap.size w w' := by
  obtain ⟨h0, h1, d, e1, e2, h3, _⟩ := okI_facts hg h
  obtain ⟨r, d', s⟩ := x
  dsimp only at e1 h0 h1 h3 ⊢
  subst e1
  exact packed_any r d s w h0 h1 e2 h3
def SetOfSays (st : ByteArray) (rs : List RuleT) (xs : List ItemT) (e : Ending) : Prop := e = .returned (.tuple #[agg4 (if itemsB st rs xs = true then setI xs else zeroF), .bool (itemsB st rs xs)])
theorem setOf_no {st : ByteArray} {rs : List RuleT} {xs : List ItemT} (h : itemsB st rs xs = false) : SetOfSays st rs xs (.returned (.tuple #[agg4 zeroF, .bool false])) := by
  unfold SetOfSays; rw [h]; rfl
theorem setOf_yes {st : ByteArray} {rs : List RuleT} {xs : List ItemT} (h : itemsB st rs xs = true) : SetOfSays st rs xs (.returned (.tuple #[agg4 (setI xs), .bool true])) := by
  unfold SetOfSays; rw [h]; rfl
set_option maxHeartbeats 4000000 in
theorem itemSetOf_any (st : ByteArray) (a : Option Addr) (cap : Nat) (rs : List RuleT) (c : Option Addr) (cup : Nat) (xs : List ItemT) (w : World) (H : RulesAt w a rs) (hs : st.size ≤ maxLen) (hcap : rs.length ≤ cap) (G : ItemsAt w c xs) :
    Calls Try.prog 33 #[.agg #[.string st, .slice a rs.length cap], .slice c xs.length cup] w fun e w' => SetOfSays st rs xs e ∧ Below w.heap.size w w' := by
  have hn := G.1
  unfold maxLen at hn
  have hbw := ((Below.refl w.heap.size w).alloc (Nat.le_refl _) (.cells #[.string st, .slice a rs.length cap] 32)).alloc (by simp) (.cells #[.int .u64 0, .int .u64 0, .int .u64 0, .int .u64 0] 54)
  have H1 := H.below hbw (Nat.le_refl _)
  go_enter Try.func33, Try.ntmps33
  go_wp2_with fail
  refine (gramOk_any _ _ _ rs _ H1 hcap).mono ?_
  rintro e w2 ⟨rfl, hb2⟩
  have g2 : w2.heap[w.heap.size]? = some (.cells #[.string st, .slice a rs.length cap] 32) := by
    rw [hb2.block _ (by simp; omega), blk_old _ _ (by simp), blk_new _ _ rfl]
  have z2 : Set4 w2 (w.heap.size + 1) zeroF := by
    unfold Set4; rw [hb2.block _ (by simp), blk_new _ _ (by simp)]; rfl
  have c2 := Below.on hbw hb2 (Nat.le_refl _)
  clear hbw H1 hb2
  obtain ⟨k0, k1⟩ : w2.cell? ⟨w.heap.size, 0, none⟩ = some (.string st) ∧ w2.cell? ⟨w.heap.size, 1, none⟩ = some (.slice a rs.length cap) := ⟨by rw [cell_of_block g2 0]; rfl, by rw [cell_of_block g2 1]; rfl⟩
  cases hok : gramOkB st rs with
  | false =>
    have HI : Hid (itemsB st rs xs = false) := by show _ = _; unfold itemsB; rw [hok]; rfl
    obtain ⟨y0, f0⟩ := z2.cell (i := 0) (by omega)
    obtain ⟨y1, f1⟩ := z2.cell (i := 1) (by omega)
    obtain ⟨y2, f2⟩ := z2.cell (i := 2) (by omega)
    obtain ⟨y3, f3⟩ := z2.cell (i := 3) (by omega)
    go_wp2_with fail
    refine bodyPost_ret (v := .tuple #[agg4 zeroF, .bool false]) (by simp [results, Try.results33, go_sem, y0, y1, y2, y3, agg4, zeroF]) rfl ⟨setOf_no HI.out, ?_⟩
    exact (((c2.setCell (by show w.heap.size ≤ w.heap.size + 1; omega) _).setCell (by show w.heap.size ≤ w.heap.size + 1; omega) _).setCell (by show w.heap.size ≤ w.heap.size + 1; omega) _).setCell (by show w.heap.size ≤ w.heap.size + 1; omega) _
  | true =>
    have HOK := Lib.hid hok
    have S3 : StI w #[.string st, .slice a rs.length cap] w2.heap.size (setI (xs.take 0)) (w2.alloc (.cells #[.int .u64 0, .int .u64 0, .int .u64 0, .int .u64 0] 54)) :=
      ⟨c2.alloc c2.size _, (blk_old _ _ (Array.getElem?_eq_some_iff.1 g2).1).trans g2, (blk_old _ _ z2.lt).trans z2, blk_new _ _ rfl, by have := z2.lt; omega⟩
    generalize hb6 : w2.heap.size = b6 at S3
    clear c2 g2 z2
    go_wp2_with fail
    go_loopw [7, 16] (fun l i wr => ∃ k : Nat, k ≤ xs.length ∧ i = .int .i64 k ∧ l = .int .i64 (lastI xs k) ∧ Hid (∀ j, j < k → goodI st rs xs j = true) ∧ StI w #[.string st, .slice a rs.length cap] b6 (setI (xs.take k)) wr) (fun _ i _ => xs.length - (intOf i).toNat)
    case atStart => exact ⟨0, Nat.zero_le _, rfl, rfl, fun j h => by omega, by first | exact S3 | (rw [hb6] at *; exact S3)⟩
    case round =>
      obtain ⟨k, hk, rfl, rfl, HG, S⟩ := hrel
      by_cases hlt : k < xs.length
      · obtain ⟨z, b, off, e, hbb, c0, c1, c2⟩ := (G.to S.bel).2 k hlt
        subst e
        have hkl : (k : Int) < (xs.length : Int) := by omega
        obtain ⟨g0, g1⟩ := S.gcells
        have bx := (Below.refl wr.heap.size wr).alloc (Nat.le_refl _) (.cells #[.int .i64 xs[k].1, .int .i64 xs[k].2.1, .string xs[k].2.2] 34)
        have S1 := S.below bx
        have X1 := Box3.new wr (.int .i64 xs[k].1) (.int .i64 xs[k].2.1) (.string xs[k].2.2) 34
        obtain ⟨m0, m1⟩ := S1.gcells
        go_wp2_with fail
        refine (itemOk_any _ _ _ rs _ _ _ _ (H.below S1.bel (Nat.le_refl _)) hs).mono ?_
        rintro e w4 ⟨rfl, hb4⟩
        have S4 := S1.below hb4
        have X4 := X1.below hb4
        clear S S1 X1 bx m0 m1 g0 g1 c0 c1 c2 hb4 hbb
        obtain ⟨x0, x1, x2⟩ := X4.2
        obtain ⟨⟨y0, f0⟩, ⟨y1, f1⟩, ⟨y2, f2⟩, ⟨y3, f3⟩⟩ := S4.z.all
        cases ho : itemB st rs xs[k].1 xs[k].2.1 xs[k].2.2 with
        | false =>
          have HI : Hid (itemsB st rs xs = false) := itemsB_bad hlt (by
            cases hg : goodI st rs xs k with
            | false => rfl
            | true => have := good_ok hlt hg; unfold okI at this; rw [ho] at this; cases this)
          have c4 := S4.bel
          clear S4 X4 HG
          go_wp2_with fail
          refine bodyPost_ret (v := .tuple #[agg4 zeroF, .bool false]) (by simp [results, Try.results33, go_sem, y0, y1, y2, y3, agg4, zeroF]) rfl ⟨setOf_no HI.out, ?_⟩
          exact (((c4.setCell (by show w.heap.size ≤ w.heap.size + 1; omega) _).setCell (by show w.heap.size ≤ w.heap.size + 1; omega) _).setCell (by show w.heap.size ≤ w.heap.size + 1; omega) _).setCell (by show w.heap.size ≤ w.heap.size + 1; omega) _
        | true =>
          have HL := Lib.hid (last_less HOK.out hlt ho HG.out)
          have hll := lastI_lt HOK.out hk HG.out
          have hp : packI xs[k] < 225 := by obtain ⟨_, _, _, _, _, _, hp⟩ := okI_facts HOK.out ho; exact hp
          have HPK : Hid (lastI xs (k + 1) = (packI xs[k] : Nat)) := lastI_succ hlt
          have HSK : Hid (setI (xs.take (k + 1)) = addF (setI (xs.take k)) (packI xs[k])) := setI_succ hlt
          have CP : ∀ v, Calls Try.prog 50 #[.agg #[.int .i64 xs[k].1, .int .i64 xs[k].2.1, .string xs[k].2.2]] v fun e w' => e = .returned (.int .i64 (packI xs[k] : Nat)) ∧ Below v.heap.size v w' := fun v => packed_item (x := xs[k]) HOK.out ho v
          generalize packI xs[k] = pk at HL hp HPK HSK CP
          generalize lastI xs k = lk at HL hll ⊢
          generalize HF : setI (xs.take k) = F at S4 HSK
          have HFF := Lib.hid HF
          clear HF
          go_wp2_with fail
          refine (CP _).mono ?_
          rintro e w5 ⟨rfl, hb5⟩
          have S5 := S4.below hb5
          have X5 := X4.below hb5
          clear S4 X4 x0 x1 x2 y0 y1 y2 y3 f0 f1 f2 f3 hb5
          obtain ⟨x0, x1, x2⟩ := X5.2
          obtain ⟨⟨y0, f0⟩, ⟨y1, f1⟩, ⟨y2, f2⟩, ⟨y3, f3⟩⟩ := S5.z.all
          by_cases hle : (pk : Int) ≤ lk
          · have HI : Hid (itemsB st rs xs = false) := itemsB_bad hlt (by rw [HL.out, decide_eq_false_iff_not]; omega)
            have c5 := S5.bel
            clear S5 X5 HG
            go_wp2_with fail
            refine bodyPost_ret (v := .tuple #[agg4 zeroF, .bool false]) (by simp [results, Try.results33, go_sem, y0, y1, y2, y3, agg4, zeroF]) rfl ⟨setOf_no HI.out, ?_⟩
            exact (((c5.setCell (by show w.heap.size ≤ w.heap.size + 1; omega) _).setCell (by show w.heap.size ≤ w.heap.size + 1; omega) _).setCell (by show w.heap.size ≤ w.heap.size + 1; omega) _).setCell (by show w.heap.size ≤ w.heap.size + 1; omega) _
          · have HGk : Hid (goodI st rs xs k = true) := by show _ = _; rw [HL.out, decide_eq_true_eq]; omega
            clear y0 y1 y2 y3 f0 f1 f2 f3
            go_wp2_with fail
            refine (CP _).mono ?_
            rintro e w6 ⟨rfl, hb6'⟩
            have S6 := S5.below hb6'
            clear S5 X5 x0 x1 x2 hb6'
            go_wp2_with fail
            refine (setAdd_any b6 pk F _ (by rw [← HFF.out]; exact wordsLt_setI xs k hk) hp S6.s).mono ?_
            rintro e w7 ⟨⟨v7, rfl⟩, hs7, hA7⟩
            have S7 := S6.put hs7 hA7
            clear S6 hs7 hA7
            go_wp2_with fail
            go_roundw
            case rel =>
              exact ⟨k + 1, by omega, by go_num, by rw [HPK.out], fun j hj => by
                by_cases e : j = k
                · subst e; exact HGk.out
                · exact HG.out j (by omega), by rw [HSK.out]; exact S7⟩
            case measure => simp [intOf]; omega
      · have hkn : k = xs.length := by omega
        have HI : Hid (itemsB st rs xs = true) := by show _ = _; rw [itemsB_all (fun j hj => HG.out j (by omega)), HOK.out]
        have HT : Hid (xs.take k = xs) := by show _ = _; rw [hkn, List.take_length]
        obtain ⟨⟨y0, f0⟩, ⟨y1, f1⟩, ⟨y2, f2⟩, ⟨y3, f3⟩⟩ := S.z.all
        obtain ⟨⟨s0, _⟩, ⟨s1, _⟩, ⟨s2, _⟩, ⟨s3, _⟩⟩ := S.s.all
        have c5 := S.bel
        clear hkn S HG
        go_wp2_with fail
        refine bodyPost_ret (v := .tuple #[agg4 (setI (xs.take k)), .bool true]) (by simp [results, Try.results33, go_sem, y0, y1, y2, y3, agg4]) rfl ⟨by rw [HT.out]; exact setOf_yes HI.out, ?_⟩
        exact (((c5.setCell (by show w.heap.size ≤ w.heap.size + 1; omega) _).setCell (by show w.heap.size ≤ w.heap.size + 1; omega) _).setCell (by show w.heap.size ≤ w.heap.size + 1; omega) _).setCell (by show w.heap.size ≤ w.heap.size + 1; omega) _
end Go.Proofs.Ytpbpddbeofdpcaa
