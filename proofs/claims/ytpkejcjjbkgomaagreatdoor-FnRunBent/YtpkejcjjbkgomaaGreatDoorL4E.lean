/- A code of bytes is opened and a grammar is drawn of it. -/
import Derived.Test.YtpkejcjjbkgomaaGreatDoorDrawG
import Derived.Test.YtpkejcjjbkgomaaGreatDoorDrawU
import Derived.Test.YtpkejcjjbkgomaaGreatDoorYldB
import Derived.Test.YtpkejcjjbkgomaaGreatDoorTxtA
namespace Go.Proofs.YtpkejcjjbkgomaaGreatDoor
open Go.ChangeShapes Go.WideShapes Go.ChangeAt Go.RowKit
/-- a code as it came in -/
def BytesAt (w : World) (a : Option Addr) (n cap : Nat) : Prop := n ≤ cap ∧ cap ≤ maxLen ∧ ∀ i, i < n → ∃ b off, ∃ x : Int, a = some ⟨b, off, none⟩ ∧ b < w.heap.size ∧ w.cell? ⟨b, off + i, none⟩ = some (.int .u8 x) ∧ 0 ≤ x ∧ x ≤ 255
theorem BytesAt.below {w w' : World} {a : Option Addr} {n cap : Nat} (h : BytesAt w a n cap) (hb : Below w.heap.size w w') : BytesAt w' a n cap := by
  refine ⟨h.1, h.2.1, fun i hi => ?_⟩
  obtain ⟨b, off, x, e, hl, hc, hx⟩ := h.2.2 i hi
  exact ⟨b, off, x, e, Nat.lt_of_lt_of_le hl hb.size, by rw [hb.cell (p := ⟨b, _, none⟩) hl]; exact hc, hx⟩
theorem BytesAt.alloc {w : World} {a : Option Addr} {n cap : Nat} (h : BytesAt w a n cap) (o : Obj) : BytesAt (w.alloc o) a n cap := h.below ((Below.refl _ _).alloc (Nat.le_refl _) _)
theorem rd_open {w : World} {a : Option Addr} {n m cap : Nat} (h : BytesAt w a n cap) (hm : m ≤ n) (h2 : m ≤ 2000) {cs : Array Value} (hcs : cs = #[.slice a m cap, .int .i64 0]) : Rdk (w.alloc (.cells cs 106)) w.heap.size 0 := by
  subst hcs
  refine ⟨a, m, cap, 0, by rw [blk_new w _ rfl]; simp, h2, Nat.le_refl _, fun i hi => ?_⟩
  obtain ⟨b, off, x, e, hl, hc, hx⟩ := h.2.2 i (by omega)
  exact ⟨b, off, x, e, hl, by rw [((Below.refl _ _).alloc (Nat.le_refl _) _).cell (p := ⟨b, _, none⟩) hl]; exact hc, hx⟩
def OpenR (w : World) (e : Ending) (w' : World) : Prop := e = .returned (.pointer (some ⟨w.heap.size, 0, none⟩)) ∧ Rdk w' w.heap.size 0 ∧ Below w.heap.size w w'
theorem l17Open_any (a : Option Addr) (n cap : Nat) (w : World) (H : BytesAt w a n cap) :
    Calls Tryz.prog 20 #[.slice a n cap] w (OpenR w) := by
  have hm := H.2.1
  unfold maxLen at hm
  by_cases h : (2000 : Int) < (n : Int)
  · obtain ⟨b, off, x, rfl, hl, hc, hx⟩ := H.2.2 0 (by omega)
    have hcap : 2000 ≤ cap := by have := H.1; omega
    have hcap' : (2000 : Int) ≤ (cap : Int) := by omega
    go_enter Tryz.func20, Tryz.ntmps20
    go_wp2
    go_ret
    exact ⟨rfl, rd_open H (m := 2000) (by omega) (by omega) rfl, (Below.refl _ _).alloc (Nat.le_refl _) _⟩
  · go_enter Tryz.func20, Tryz.ntmps20
    go_wp2
    go_ret
    exact ⟨rfl, rd_open H (m := n) (by omega) (by omega) rfl, (Below.refl _ _).alloc (Nat.le_refl _) _⟩
/-- a grammar of at most m rules was made -/
def MadeGm (m : Nat) (w : World) (e : Ending) (w' : World) : Prop := ∃ v st rs, e = .returned v ∧ GramVal w' w.heap.size m v st rs ∧ Below w.heap.size w w'
theorem wrap_end {w wz : World} {m : Nat} {v0 v1 : Value} {st : ByteArray} {rs : List RuleT} (h : GramVal wz (w.heap.size + 1) m (.agg #[v0, v1]) st rs) (hb : Below w.heap.size w wz) :
    MadeGm m w (.returned (.agg #[v0, v1])) ((wz.setCell ⟨w.heap.size, 0, none⟩ v0).setCell ⟨w.heap.size, 1, none⟩ v1) :=
  ⟨_, st, rs, rfl, ((h.other (p := ⟨w.heap.size, 0, none⟩) (Nat.lt_succ_self _) _).other (p := ⟨w.heap.size, 1, none⟩) (Nat.lt_succ_self _) _).mono (Nat.le_succ _),
    (hb.setCell (p := ⟨w.heap.size, 0, none⟩) (Nat.le_refl _) _).setCell (p := ⟨w.heap.size, 1, none⟩) (Nat.le_refl _) _⟩
end Go.Proofs.YtpkejcjjbkgomaaGreatDoor
namespace Go.Proofs.YtpkejcjjbkgomaaGreatDoor
open Go.ChangeShapes Go.WideShapes Go.ChangeAt Go.RowKit Go.Deep
set_option maxRecDepth 100000
set_option maxHeartbeats 1000000 in
theorem l4Text_any (R k n : Nat) (w : World) (H : Rdk w R k) (hk : k + n ≤ 1000000) (hn : n ≤ 1000) :
    Calls Tryz.prog 101 #[.pointer (some ⟨R, 0, none⟩), .int .i64 (n : Int)] w (DrawnS (fun s => s.size ≤ n) R (k + n) w) := by
  go_enter Tryz.func101, Tryz.ntmps101
  go_wp2
  go_loopw [5, 6] (fun o i wr => ∃ (j : Nat) (l : List UInt8), j ≤ n ∧ i = .int .i64 j ∧ o = .string (bytesOf l) ∧ l.length ≤ j ∧ Rdk wr R (k + j) ∧ Only R w wr) (fun _ i _ => n - (intOf i).toNat)
  case atStart => exact ⟨0, [], Nat.zero_le _, rfl, rfl, Nat.le_refl _, H, Only.refl _ _⟩
  case round =>
    obtain ⟨j, l, hj, rfl, rfl, hl, hrd, ho⟩ := hrel
    by_cases hlt : j < n
    · have hjn : (j : Int) < (n : Int) := by omega
      go_wp2_with fail
      refine (of_any R (k + j) wr.heap.size 6 _ [⟨#[97]⟩, ⟨#[98]⟩, ⟨#[97]⟩, ⟨#[99]⟩, ⟨#[98]⟩, ⟨#[100]⟩] _ (hrd.alloc _) (by omega) rfl (by omega) (by omega) (by have := hrd.lt; omega) (lit_cells wr [⟨#[97]⟩, ⟨#[98]⟩, ⟨#[97]⟩, ⟨#[99]⟩, ⟨#[98]⟩, ⟨#[100]⟩] _)).mono ?_
      rintro e w' ⟨s, rfl, hs, hrd', ho'⟩
      have hs1 : s.size = 1 := by
        simp only [List.mem_cons, List.not_mem_nil, or_false] at hs
        rcases hs with rfl | rfl | rfl | rfl | rfl | rfl <;> rfl
      have hadd := run_add_bytes (P := Tryz.prog) l s (by omega)
      have hcl : (cat l s).length ≤ j + 1 := by rw [cat_len]; omega
      have ho2 : Only R w w' := (ho.alloc _).trans ho'
      clear hs hs1
      go_wp2
      go_roundw
      case rel => exact ⟨j + 1, cat l s, by omega, by go_num, rfl, hcl, hrd', ho2⟩
      case measure => simp [intOf]; omega
    · go_wp2
      go_ret
      exact ⟨_, rfl, by show (bytesOf l).size ≤ n; rw [bytesOf_size]; omega, hrd.mono (by omega), ho⟩
theorem cat_join (a b : ByteArray) (h : a.size + b.size ≤ 9223372036854775807) (w : World) : (Op.stringOp .add a b).run Tryz.prog w = .ok (.string (bytesOf (cat a.data.toList b))) w := by
  have := run_add_bytes (P := Tryz.prog) a.data.toList b (by simpa using h) w
  rwa [bytesOf_self] at this
theorem box2_keep {w : World} {b : Nat} {v0 v1 : Value} (h : Box2 w b v0 v1) : w.cell? ⟨b, 0, none⟩ = some v0 ∧ w.cell? ⟨b, 1, none⟩ = some v1 := h.2
theorem small_deep {v : Int} (h : v ∈ ([4, 5, 6, 3] : List Int)) : ∃ d : Nat, v = (d : Int) ∧ d ≤ 8 := by
  simp only [List.mem_cons, List.not_mem_nil, or_false] at h
  exact ⟨v.toNat, by omega, by omega⟩
theorem tmost6 : tmost 8 = 488281 := by decide
theorem tmost_le {a b : Nat} (h : a ≤ b) : tmost a ≤ tmost b := by
  induction h with
  | refl => exact Nat.le_refl _
  | step _ ih => exact Nat.le_trans ih (by rw [tmost]; omega)
set_option maxHeartbeats 4000000 in
theorem l4Some_any (R k b off cap : Nat) (st : ByteArray) (rs : List RuleT) (w : World) (H : Rdk w R k) (hk : k ≤ 1000) (HU : RulesAt w (some ⟨b, off, none⟩) rs) (hcap : rs.length ≤ cap) (hl : rs.length ≤ 100) (hS : SmallR rs) (hst : st.size ≤ 100) (hbR : b ≠ R) :
    Calls Tryz.prog 73 #[.pointer (some ⟨R, 0, none⟩), .agg #[.string st, .slice (some ⟨b, off, none⟩) rs.length cap]] w (DrawnS (fun s => s.size ≤ 1000) R 900000 w) := by
  have hR := H.lt
  have hb1 := (Below.refl w.heap.size w).alloc (Nat.le_refl _) (.cells #[.string st, .slice (some ⟨b, off, none⟩) rs.length cap] 25)
  have G1 := Box2.new w (.string st) (.slice (some ⟨b, off, none⟩) rs.length cap) 25
  have hGR : w.heap.size ≠ R := by omega
  go_enter Tryz.func73, Tryz.ntmps73
  go_wp2_with fail
  refine (sGramOk_any _ _ _ rs _ (HU.below hb1 (Nat.le_refl _)) hcap).mono ?_
  rintro e w2 ⟨rfl, hb2⟩
  have B2 := Below.on hb1 hb2 (Nat.le_refl _)
  have G2 := G1.below hb2
  have r2 := H.below B2
  have o2 := Only.of_below (R := R) B2
  have U2 := HU.below B2 (Nat.le_refl _)
  clear hb1 hb2 G1 B2
  cases hok : gramOkB st rs with
  | false =>
    clear hok G2
    go_wp2_with fail
    refine (pick_any R k 7 _ r2 (by omega) (by omega) (by omega)).mono ?_
    rintro e wa ⟨v7, rfl, hv7, ra, oa⟩
    have hm7 : ∃ m : Nat, v7 = (m : Int) ∧ m ≤ 6 := ⟨v7.toNat, by omega, by omega⟩
    obtain ⟨m7, rfl, hm7⟩ := hm7
    have oA := o2.trans oa
    clear hv7 oa r2 o2
    go_wp2_with fail
    refine (l4Text_any R _ m7 _ ra (by omega) (by omega)).mono ?_
    rintro e wb ⟨z, rfl, hz, rb, ob⟩
    have oB := oA.trans ob
    have hz' : z.size ≤ m7 := hz
    clear oA ob ra hz
    go_wp2_with fail
    refine (pick_any R _ 30 _ rb (by omega) (by omega) (by omega)).mono ?_
    rintro e wc ⟨v30, rfl, hv30, rc, oc⟩
    have oC := oB.trans oc
    clear oB oc rb hv30
    by_cases h30 : v30 = 0
    · subst h30
      go_wp2_with fail
      refine (of_any R _ wc.heap.size 4 _ [⟨#[101]⟩, ⟨#[65]⟩, ⟨#[32]⟩, ⟨#[97, 97, 97, 97, 97, 97, 97, 97, 97]⟩] _ (rc.alloc _) (by omega) rfl (by omega) (by omega) (by have := rc.lt; omega) (lit_cells wc [⟨#[101]⟩, ⟨#[65]⟩, ⟨#[32]⟩, ⟨#[97, 97, 97, 97, 97, 97, 97, 97, 97]⟩] _)).mono ?_
      rintro e wd ⟨y, rfl, hy, rd, od⟩
      have hy1 : y.size ≤ 9 := by
        simp only [List.mem_cons, List.not_mem_nil, or_false] at hy
        rcases hy with rfl | rfl | rfl | rfl <;> decide
      have oD := (oC.alloc _).trans od
      have hadd := cat_join z y (by omega)
      have hsz : (bytesOf (cat z.data.toList y)).size ≤ 1000 := by rw [bytesOf_size, cat_len]; simp; omega
      clear hy oC od rc
      go_wp2
      go_ret
      exact ⟨_, rfl, hsz, rd.mono (by omega), oD⟩
    · have e30 : (v30 == 0) = false := by simpa using h30
      clear h30
      go_wp2
      go_ret
      exact ⟨_, rfl, (by show z.size ≤ 1000; omega), rc.mono (by omega), oC⟩
  | true =>
    clear hok
    go_wp2_with fail
    refine (pick_any R k 3 _ r2 (by omega) (by omega) (by omega)).mono ?_
    rintro e w3 ⟨v3, rfl, ⟨hv0, hv1, _⟩, r3, o3⟩
    have o3' := o2.trans o3
    have G3 : Box2 w3 w.heap.size (.string st) (.slice (some ⟨b, off, none⟩) rs.length cap) := ⟨Nat.lt_of_lt_of_le G2.1 o3.size, (o3.cell (p := ⟨w.heap.size, 0, none⟩) G2.1 hGR).trans G2.2.1, (o3.cell (p := ⟨w.heap.size, 1, none⟩) G2.1 hGR).trans G2.2.2⟩
    have U3 := U2.only o3 hbR
    clear o2 r2 U2 G2 hv1 o3
    by_cases h3 : 0 < v3
    · have h3' : decide (0 < v3) = true := by simpa using h3
      go_wp2_with fail
      obtain ⟨hgl, g0, g1⟩ := G3
      have r4 : Rdk (w3.alloc (.cells #[.int .i64 4, .int .i64 5, .int .i64 6, .int .i64 3] 3)).drew R (k + 1) := r3.alloc _
      have L4 := lit_ints w3 [4, 5, 6, 3] 3
      have L4' : ∀ i (h : i < ([4, 5, 6, 3] : List Int).length), (w3.alloc (.cells #[.int .i64 4, .int .i64 5, .int .i64 6, .int .i64 3] 3)).drew.cell? ⟨w3.heap.size, i, none⟩ = some (.int .i64 ([4, 5, 6, 3] : List Int)[i]) := L4
      have G4 : Box2 (w3.alloc (.cells #[.int .i64 4, .int .i64 5, .int .i64 6, .int .i64 3] 3)).drew w.heap.size (.string st) (.slice (some ⟨b, off, none⟩) rs.length cap) := Box2.old ⟨hgl, g0, g1⟩ _
      have U4 : RulesAt (w3.alloc (.cells #[.int .i64 4, .int .i64 5, .int .i64 6, .int .i64 3] 3)).drew (some ⟨b, off, none⟩) rs := U3.below (((Below.refl _ _).alloc (Nat.le_refl _) _).drew) (Nat.le_refl _)
      have o4 : Only R w (w3.alloc (.cells #[.int .i64 4, .int .i64 5, .int .i64 6, .int .i64 3] 3)).drew := (o3'.alloc _).drew
      have hLR : w3.heap.size ≠ R := by have := r3.lt; omega
      clear L4 r3 o3' U3
      go_region_held3 (fun w' => w'.cell? ⟨w.heap.size, 0, none⟩ = some (.string st) ∧ w'.cell? ⟨w.heap.size, 1, none⟩ = some (.slice (some ⟨b, off, none⟩) rs.length cap))
        (first
          | go_keep
          | with_reducible exact box2_keep G5
          | with_reducible exact box2_keep G6
          | with_reducible exact box2_keep G7
          | fail)
        (first
          | (go_at_call 58; (with_reducible refine (num_any R (k + 1) w3.heap.size 4 4 [4, 5, 6, 3] (w3.alloc (.cells #[.int .i64 4, .int .i64 5, .int .i64 6, .int .i64 3] 3)).drew ?_ (by omega) rfl (by omega) (by omega) hLR ?_).mono ?_); (exact r4); (exact L4'); rintro e w5 ⟨dv, rfl, hdv, r5, o5⟩; obtain ⟨d, rfl, hd8⟩ := small_deep hdv; have htm := Nat.le_trans (tmost_le hd8) (Nat.le_of_eq tmost6); have G5 : Box2 w5 w.heap.size (.string st) (.slice (some ⟨b, off, none⟩) rs.length cap) := ⟨Nat.lt_of_lt_of_le G4.1 o5.size, (o5.cell (p := ⟨w.heap.size, 0, none⟩) G4.1 hGR).trans G4.2.1, (o5.cell (p := ⟨w.heap.size, 1, none⟩) G4.1 hGR).trans G4.2.2⟩; have U5 := U4.only o5 hbR; have o5' := o4.trans o5)
          | (go_at_call 57; (with_reducible refine (l3Any_any R rs hS hl st b off cap hbR d hd8 (k + 2) st w5 ?_ (by omega) ?_ hst).mono ?_); (exact r5); (exact U5); rintro e w6 ⟨u, T, rfl, HT, _, hsz6, _, r6, o6, _⟩; have G6 : Box2 w6 w.heap.size (.string st) (.slice (some ⟨b, off, none⟩) rs.length cap) := ⟨Nat.lt_of_lt_of_le G5.1 o6.size, (o6.cell (p := ⟨w.heap.size, 0, none⟩) G5.1 hGR).trans G5.2.1, (o6.cell (p := ⟨w.heap.size, 1, none⟩) G5.1 hGR).trans G5.2.2⟩; have o6' := o5'.trans o6)
          | (go_at_call 100; (with_reducible refine (l3Yield_any _ T (Nat.le_refl _) ?_ u w6 ?_).mono ?_); (omega); (exact HT.tr); rintro e w7 ⟨rfl, hb7⟩; have G7 := G6.below hb7; have r7 := r6.below hb7; have o7' := o6'.trans (Only.of_below hb7))
          | fail)
      have hyl := yield_len _ T (Nat.le_refl _)
      have hys : (bytesOf (yieldL T)).size ≤ maxLen := by rw [bytesOf_size]; unfold maxLen; omega
      clear hyl
      generalize bytesOf (yieldL T) = s at *
      go_wp2_with fail
      refine (sTextOk_any s _ hys).mono ?_
      rintro e w8 ⟨rfl, rfl⟩
      cases ht : textB s with
      | true =>
        have hs8 : s.size ≤ 8 := by unfold textB at ht; simp at ht; omega
        clear ht
        go_wp2
        go_ret
        exact ⟨s, rfl, (by show s.size ≤ 1000; omega), r7.mono (by omega), o7'⟩
      | false =>
        clear ht hys
        go_wp2_with fail
        refine (pick_any R (k + 2 + tmost d) 7 _ r7 (by omega) (by omega) (by omega)).mono ?_
        rintro e wa ⟨v7, rfl, hv7, ra, oa⟩
        have hm7 : ∃ m : Nat, v7 = (m : Int) ∧ m ≤ 6 := ⟨v7.toNat, by omega, by omega⟩
        obtain ⟨m7, rfl, hm7⟩ := hm7
        have oA := o7'.trans oa
        clear hv7 oa r7 o7'
        go_wp2_with fail
        refine (l4Text_any R _ m7 _ ra (by omega) (by omega)).mono ?_
        rintro e wb ⟨z, rfl, hz, rb, ob⟩
        have oB := oA.trans ob
        have hz' : z.size ≤ m7 := hz
        clear oA ob ra hz
        go_wp2_with fail
        refine (pick_any R _ 30 _ rb (by omega) (by omega) (by omega)).mono ?_
        rintro e wc ⟨v30, rfl, hv30, rc, oc⟩
        have oC := oB.trans oc
        clear oB oc rb hv30
        by_cases h30 : v30 = 0
        · subst h30
          go_wp2_with fail
          refine (of_any R _ wc.heap.size 4 _ [⟨#[101]⟩, ⟨#[65]⟩, ⟨#[32]⟩, ⟨#[97, 97, 97, 97, 97, 97, 97, 97, 97]⟩] _ (rc.alloc _) (by omega) rfl (by omega) (by omega) (by have := rc.lt; omega) (lit_cells wc [⟨#[101]⟩, ⟨#[65]⟩, ⟨#[32]⟩, ⟨#[97, 97, 97, 97, 97, 97, 97, 97, 97]⟩] _)).mono ?_
          rintro e wd ⟨y, rfl, hy, rd, od⟩
          have hy1 : y.size ≤ 9 := by
            simp only [List.mem_cons, List.not_mem_nil, or_false] at hy
            rcases hy with rfl | rfl | rfl | rfl <;> decide
          have oD := (oC.alloc _).trans od
          have hadd := cat_join z y (by omega)
          have hsz : (bytesOf (cat z.data.toList y)).size ≤ 1000 := by rw [bytesOf_size, cat_len]; simp; omega
          clear hy oC od rc
          go_wp2
          go_ret
          exact ⟨_, rfl, hsz, rd.mono (by omega), oD⟩
        · have e30 : (v30 == 0) = false := by simpa using h30
          clear h30
          go_wp2
          go_ret
          exact ⟨_, rfl, (by show z.size ≤ 1000; omega), rc.mono (by omega), oC⟩
    · have h3' : decide (0 < v3) = false := by simpa using h3
      clear h3 G3 U3
      go_wp2_with fail
      refine (pick_any R (k + 1) 7 _ r3 (by omega) (by omega) (by omega)).mono ?_
      rintro e wa ⟨v7, rfl, hv7, ra, oa⟩
      have hm7 : ∃ m : Nat, v7 = (m : Int) ∧ m ≤ 6 := ⟨v7.toNat, by omega, by omega⟩
      obtain ⟨m7, rfl, hm7⟩ := hm7
      have oA := o3'.trans oa
      clear hv7 oa r3 o3'
      go_wp2_with fail
      refine (l4Text_any R _ m7 _ ra (by omega) (by omega)).mono ?_
      rintro e wb ⟨z, rfl, hz, rb, ob⟩
      have oB := oA.trans ob
      have hz' : z.size ≤ m7 := hz
      clear oA ob ra hz
      go_wp2_with fail
      refine (pick_any R _ 30 _ rb (by omega) (by omega) (by omega)).mono ?_
      rintro e wc ⟨v30, rfl, hv30, rc, oc⟩
      have oC := oB.trans oc
      clear oB oc rb hv30
      by_cases h30 : v30 = 0
      · subst h30
        go_wp2_with fail
        refine (of_any R _ wc.heap.size 4 _ [⟨#[101]⟩, ⟨#[65]⟩, ⟨#[32]⟩, ⟨#[97, 97, 97, 97, 97, 97, 97, 97, 97]⟩] _ (rc.alloc _) (by omega) rfl (by omega) (by omega) (by have := rc.lt; omega) (lit_cells wc [⟨#[101]⟩, ⟨#[65]⟩, ⟨#[32]⟩, ⟨#[97, 97, 97, 97, 97, 97, 97, 97, 97]⟩] _)).mono ?_
        rintro e wd ⟨y, rfl, hy, rd, od⟩
        have hy1 : y.size ≤ 9 := by
          simp only [List.mem_cons, List.not_mem_nil, or_false] at hy
          rcases hy with rfl | rfl | rfl | rfl <;> decide
        have oD := (oC.alloc _).trans od
        have hadd := cat_join z y (by omega)
        have hsz : (bytesOf (cat z.data.toList y)).size ≤ 1000 := by rw [bytesOf_size, cat_len]; simp; omega
        clear hy oC od rc
        go_wp2
        go_ret
        exact ⟨_, rfl, hsz, rd.mono (by omega), oD⟩
      · have e30 : (v30 == 0) = false := by simpa using h30
        clear h30
        go_wp2
        go_ret
        exact ⟨_, rfl, (by show z.size ≤ 1000; omega), rc.mono (by omega), oC⟩
end Go.Proofs.YtpkejcjjbkgomaaGreatDoor
namespace Go.Proofs.YtpkejcjjbkgomaaGreatDoor
open Go.ChangeShapes Go.WideShapes Go.ChangeAt Go.RowKit Go.Deep
set_option maxRecDepth 100000
/-- a grammar and a text were drawn -/
def DrawnGS (w : World) (e : Ending) (w' : World) : Prop := ∃ b off cap st rs s, e = .returned (.tuple #[.agg #[.string st, .slice (some ⟨b, off, none⟩) rs.length cap], .string s]) ∧ rs.length ≤ cap ∧ RulesAt w' (some ⟨b, off, none⟩) rs ∧ st.size ≤ 100 ∧ s.size ≤ 1000 ∧ w.heap.size ≤ b ∧ Below w.heap.size w w'
theorem gs_end {w w' : World} {b off : Nat} {rs : List RuleT} (HU : RulesAt w' (some ⟨b, off, none⟩) rs) (hb : Below w.heap.size w w') (hbw : w.heap.size < b) (v0 v1 : Value) :
    RulesAt ((w'.setCell ⟨w.heap.size, 0, none⟩ v0).setCell ⟨w.heap.size, 1, none⟩ v1) (some ⟨b, off, none⟩) rs ∧ Below w.heap.size w ((w'.setCell ⟨w.heap.size, 0, none⟩ v0).setCell ⟨w.heap.size, 1, none⟩ v1) := by
  refine ⟨⟨HU.1, fun i hi => ?_⟩, (hb.setCell (Nat.le_refl _) _).setCell (Nat.le_refl _) _⟩
  obtain ⟨z1, z2, b', off', e, hl, c1, c2⟩ := HU.2 i hi
  simp only [Option.some.injEq, Addr.mk.injEq] at e
  obtain ⟨rfl, rfl, _⟩ := e
  have hbl : ((w'.setCell ⟨w.heap.size, 0, none⟩ v0).setCell ⟨w.heap.size, 1, none⟩ v1).heap[b]? = w'.heap[b]? := (Below.heap_setCell _ _ _ _ (by show b ≠ w.heap.size; omega)).trans (Below.heap_setCell _ _ _ _ (by show b ≠ w.heap.size; omega))
  exact ⟨z1, z2, b, off, rfl, by simp [World.setCell]; exact hl, (World.cell?_of_block (w := w') (a := ⟨b, _, none⟩) hbl).trans c1, (World.cell?_of_block (w := w') (a := ⟨b, _, none⟩) hbl).trans c2⟩
theorem put_block {w : World} {X : Nat} {u0 u1 : Value} {g : Nat} (h : g ≠ X) : ((w.setCell ⟨X, 0, none⟩ u0).setCell ⟨X, 1, none⟩ u1).heap[g]? = w.heap[g]? :=
  (Below.heap_setCell _ _ _ _ h).trans (Below.heap_setCell _ _ _ _ h)
theorem box2_put {w : World} {C X : Nat} {v0 v1 : Value} (h : Box2 w C v0 v1) (hne : C ≠ X) (u0 u1 : Value) : ((w.setCell ⟨X, 0, none⟩ u0).setCell ⟨X, 1, none⟩ u1).cell? ⟨C, 0, none⟩ = some v0 ∧ ((w.setCell ⟨X, 0, none⟩ u0).setCell ⟨X, 1, none⟩ u1).cell? ⟨C, 1, none⟩ = some v1 :=
  ⟨(World.cell?_of_block (w := w) (a := ⟨C, 0, none⟩) (put_block hne)).trans h.2.1, (World.cell?_of_block (w := w) (a := ⟨C, 1, none⟩) (put_block hne)).trans h.2.2⟩
set_option maxHeartbeats 2000000 in
theorem l4Draw_any (a : Option Addr) (n cap : Nat) (w : World) (H : BytesAt w a n cap) :
    Calls Tryz.prog 40 #[.slice a n cap] w (DrawnGS w) := by
  go_enter Tryz.func40, Tryz.ntmps40
  go_wp2_with fail
  have hZ : BoxG (w.alloc (.cells #[.string ⟨#[]⟩, .slice none 0 0] 25)) w.heap.size (.string ⟨#[]⟩) (.slice none 0 0) := blk_new _ _ rfl
  refine (l17Open_any a n cap _ (H.alloc _)).mono ?_
  rintro e w2 ⟨rfl, hrd2, hb2⟩
  have hZ2 := hZ.below hb2
  have hB2 : Below w.heap.size w w2 := ((Below.refl _ _).alloc (Nat.le_refl _) _).trans (hb2.mono (by simp))
  simp only [World.size_alloc] at hrd2
  clear hZ hb2
  go_wp2_with fail
  refine (l1Gram_any (w.heap.size + 1) 0 w2 hrd2 (by omega)).mono ?_
  rintro e w3 ⟨v3, st3, rs3, rfl, ⟨b3, off3, cap3, rfl, hc3, hR3, hl3, hs3, hS3, hb3⟩, hrd3, ho3⟩
  have hZ3 := hZ2.only ho3 (by omega)
  have hlt2 := hrd2.lt
  have hB3 : Below w.heap.size w w3 := hB2.trans (ho3.below _ (by omega) (by omega))
  clear hZ2 hrd2 hB2
  go_wp2_with fail
  refine (l1Bent_any (w.heap.size + 1) (0 + 100) 6 b3 off3 cap3 st3 rs3 w3 hrd3 (by omega) hR3 hl3 (by omega) (by omega) hs3 hS3).mono ?_
  rintro e w4 ⟨v4, st4, rs4, rfl, ⟨b4, off4, cap4, rfl, hc4, hR4, hl4, hs4, hS4, hb4⟩, hrd4, ho4⟩
  have hZ4 := hZ3.only ho4 (by omega)
  have hlt3 := hrd3.lt
  have hB4 : Below w.heap.size w w4 := hB3.trans (ho4.below _ (by omega) (by omega))
  clear hZ3 hrd3 hB3 hR3 hS3
  have hlt4 := hrd4.lt
  have r5 := hrd4.alloc (.cells #[.string st4, .slice (some ⟨b4, off4, none⟩) rs4.length cap4] 25)
  have Z5 := hZ4.old (.cells #[.string st4, .slice (some ⟨b4, off4, none⟩) rs4.length cap4] 25)
  have B5 := hB4.alloc hB4.size (.cells #[.string st4, .slice (some ⟨b4, off4, none⟩) rs4.length cap4] 25)
  have U5 := hR4.below ((Below.refl w4.heap.size w4).alloc (Nat.le_refl _) (.cells #[.string st4, .slice (some ⟨b4, off4, none⟩) rs4.length cap4] 25)) (Nat.le_refl _)
  have G5 : BoxG (w4.alloc (.cells #[.string st4, .slice (some ⟨b4, off4, none⟩) rs4.length cap4] 25)) w4.heap.size (.string st4) (.slice (some ⟨b4, off4, none⟩) rs4.length cap4) := blk_new _ _ rfl
  have hbw : w.heap.size < b4 := by omega
  have hbR : b4 ≠ w.heap.size + 1 := by omega
  go_wp2_with fail
  generalize w4.alloc (.cells #[.string st4, .slice (some ⟨b4, off4, none⟩) rs4.length cap4] 25) = w5 at *
  have hCw : w.heap.size + 1 < w4.heap.size := hlt4
  have hC5 : w4.heap.size < w5.heap.size := G5.lt
  generalize w4.heap.size = C at *
  obtain ⟨z0, z1, zf0, zf1⟩ := Z5.cells
  obtain ⟨g0, g1, _, _⟩ := G5.cells
  have q5 : Rdk w5.drew (w.heap.size + 1) 200 := r5.mono (by omega)
  have V5 : RulesAt w5.drew (some ⟨b4, off4, none⟩) rs4 := U5.below ((Below.refl w5.heap.size w5).drew) (Nat.le_refl _)
  have Z5d : BoxG w5.drew w.heap.size (.string ⟨#[]⟩) (.slice none 0 0) := Z5
  have G5d : Box2 w5.drew C (.string st4) (.slice (some ⟨b4, off4, none⟩) rs4.length cap4) := ⟨hC5, g0, g1⟩
  have hCR : C ≠ w.heap.size + 1 := by omega
  have hwR : w.heap.size ≠ w.heap.size + 1 := by omega
  have hCX : C ≠ w.heap.size := by omega
  go_region_held3 (fun w' => w'.cell? ⟨C, 0, none⟩ = some (.string st4) ∧ w'.cell? ⟨C, 1, none⟩ = some (.slice (some ⟨b4, off4, none⟩) rs4.length cap4))
    (first
      | go_keep
      | with_reducible exact box2_keep G6
      | with_reducible exact box2_put G6 hCX _ _
      | fail)
    (first
      | (go_at_call 73; (with_reducible refine (l4Some_any (w.heap.size + 1) 200 b4 off4 cap4 st4 rs4 w5.drew q5 (by omega) V5 hc4 (by omega) hS4 hs4 hbR).mono ?_); rintro e w6 ⟨s, rfl, hs, r6, o6⟩; have G6 : Box2 w6 C (.string st4) (.slice (some ⟨b4, off4, none⟩) rs4.length cap4) := ⟨Nat.lt_of_lt_of_le G5d.1 o6.size, (o6.cell (p := ⟨C, 0, none⟩) G5d.1 hCR).trans G5d.2.1, (o6.cell (p := ⟨C, 1, none⟩) G5d.1 hCR).trans G5d.2.2⟩; have Z6 := BoxG.only Z5d o6 hwR; obtain ⟨z0, z1, zf0, zf1⟩ := Z6.cells)
      | fail)
  go_wp2
  have U6 := V5.only o6 hbR
  have B6 : Below w.heap.size w w6 := (B5.drew).trans (o6.below w.heap.size (by omega) (B5.drew).size)
  have E6 := gs_end U6 B6 hbw (.string st4) (.slice (some ⟨b4, off4, none⟩) rs4.length cap4)
  obtain ⟨y0, y1, _, _⟩ := ((Z6.set0 (.string st4)).set1 (.slice (some ⟨b4, off4, none⟩) rs4.length cap4)).cells
  exact bodyPost_ret (v := .tuple #[.agg #[.string st4, .slice (some ⟨b4, off4, none⟩) rs4.length cap4], .string s]) (by simp [results, Tryz.results40, go_sem, y0, y1]) rfl ⟨b4, off4, cap4, st4, rs4, s, rfl, hc4, E6.1, hs4, hs, Nat.le_of_lt hbw, E6.2⟩
end Go.Proofs.YtpkejcjjbkgomaaGreatDoor
