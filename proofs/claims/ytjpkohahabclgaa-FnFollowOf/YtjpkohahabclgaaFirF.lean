/- FIRST sets of the nonterminals: what both programs compute; the contract of the program's firstSetsOf. -/
import Derived.Test.YtjpkohahabclgaaFirE
namespace Go.Proofs.Ytjpkohahabclgaa
open Go.ChangeShapes Go.WideShapes Go.ChangeAt Go.RowKit
set_option maxRecDepth 100000
def leftC (r : RuleT) : UInt8 := r.1.data.toList.headD 0
theorem firstA_mono {n : Nat} {F G : V5} (h : Sub5 F G) : ∀ (l : List UInt8) {a b : Nat}, Sub a b → Sub (firstA n F a l).1 (firstA n G b l).1
  | [], _, _, hab => hab
  | c :: r, a, b, hab => by
    unfold firstA
    split
    · exact hab.or_mono (Sub.refl _)
    split
    · exact firstA_mono h r (hab.or_mono (h.get c))
    · exact hab.or_mono (h.get c)
def firStep (n : Nat) (F : V5) (r : RuleT) : V5 := F.upd (leftC r) (F.get (leftC r) ||| (firstA n F 0 r.2.data.toList).1)
def firTo (rs : List RuleT) (n : Nat) (F : V5) (k : Nat) : V5 := (rs.take k).foldl (firStep n) F
def firClosed (rs : List RuleT) (n : Nat) (F : V5) : Prop := ∀ r ∈ rs, Sub (firstA n F 0 r.2.data.toList).1 (F.get (leftC r))
/-- F is the least family of FIRST sets -/
def IsFirst (rs : List RuleT) (n : Nat) (F : V5) : Prop := F.ok ∧ firClosed rs n F ∧ ∀ G, firClosed rs n G → Sub5 F G
theorem IsFirst.unique {rs : List RuleT} {n : Nat} {F G : V5} (h : IsFirst rs n F) (k : IsFirst rs n G) : F = G := (h.2.2 G k.2.1).antisymm (k.2.2 F h.2.1)
theorem firTo_succ (rs : List RuleT) (n : Nat) (F : V5) (k : Nat) (h : k < rs.length) : firTo rs n F (k + 1) = firStep n (firTo rs n F k) rs[k] := by
  unfold firTo; rw [List.take_succ_eq_append_getElem h, List.foldl_append]; rfl
theorem firStep_ok {n : Nat} {F : V5} (h : F.ok) (r : RuleT) : (firStep n F r).ok := h.upd _ (or_lt (h.get _) (firstA_lt h _ 0 (by omega)))
theorem firStep_sub (n : Nat) (F : V5) (r : RuleT) : Sub5 F (firStep n F r) := sub5_upd F _ (sub_or_left _ _)
theorem firFold_ok (n : Nat) : ∀ (l : List RuleT) (F : V5), F.ok → (l.foldl (firStep n) F).ok
  | [], _, h => h
  | r :: l, _, h => firFold_ok n l _ (firStep_ok h r)
theorem firTo_ok (rs : List RuleT) (n : Nat) {F : V5} (h : F.ok) (k : Nat) : (firTo rs n F k).ok := firFold_ok n _ F h
theorem firFold_sub (n : Nat) : ∀ (l : List RuleT) (F : V5), Sub5 F (l.foldl (firStep n) F)
  | [], F => Sub5.refl F
  | r :: l, F => (firStep_sub n F r).trans (firFold_sub n l _)
theorem firTo_sub (rs : List RuleT) (n : Nat) (F : V5) (k : Nat) : Sub5 F (firTo rs n F k) := firFold_sub n _ F
theorem firFold_fix (n : Nat) : ∀ (l : List RuleT) (F : V5), l.foldl (firStep n) F = F → ∀ r ∈ l, firStep n F r = F
  | [], _, _ => fun r hr => by cases hr
  | r :: l, F, h => by
    have h1 : firStep n F r = F := ((firStep_sub n F r).antisymm (by have := firFold_sub n l (firStep n F r); rw [List.foldl_cons] at h; rwa [h] at this)).symm
    intro x hx
    rcases List.mem_cons.1 hx with rfl | hx
    · exact h1
    · exact firFold_fix n l F (by rw [List.foldl_cons, h1] at h; exact h) x hx
theorem firTo_fix {rs : List RuleT} {n : Nat} {F : V5} (h : firTo rs n F rs.length = F) : firClosed rs n F := by
  unfold firTo at h
  rw [List.take_of_length_le (Nat.le_refl _)] at h
  intro r hr
  have h1 := firFold_fix n rs F h r hr
  have h2 : (firStep n F r).get (leftC r) = F.get (leftC r) ||| (firstA n F 0 r.2.data.toList).1 := V5.upd_get _ _ _
  rw [h1] at h2
  rw [h2]
  exact sub_or_right _ _
theorem firFold_below {n : Nat} {G : V5} : ∀ (l : List RuleT) (F : V5), (∀ r ∈ l, Sub (firstA n G 0 r.2.data.toList).1 (G.get (leftC r))) → Sub5 F G → Sub5 (l.foldl (firStep n) F) G
  | [], _, _, h => h
  | r :: l, F, hc, h => by
    refine firFold_below l _ (fun x hx => hc x (List.mem_cons_of_mem _ hx)) ?_
    exact h.upd _ ((h.get _).or ((firstA_mono h _ (Sub.refl 0)).trans (hc r (List.mem_cons_self ..))))
theorem firTo_below {rs : List RuleT} {n : Nat} {F G : V5} {k : Nat} (hc : firClosed rs n G) (h : Sub5 F G) : Sub5 (firTo rs n F k) G :=
  firFold_below _ F (fun r hr => hc r (List.mem_of_mem_take hr)) h
theorem zero5_sub (G : V5) : Sub5 zero5 G := ⟨Sub.zero _, Sub.zero _, Sub.zero _, Sub.zero _, Sub.zero _⟩
theorem zero5_ok : zero5.ok := ⟨by decide, by decide, by decide, by decide, by decide⟩
theorem FBox.upd {w : World} {b n : Nat} {F : V5} (h : FBox w b n F) {c : UInt8} (hc : bigN (c.toNat : Int) = true) (m : Nat) : FBox (w.setCell ⟨b, 1 + (c.toNat - 65), none⟩ (.int .u16 (m : Nat))).drew b n (F.upd c m) := by
  unfold FBox at *
  rcases bigN_cases hc with rfl | rfl | rfl | rfl | rfl <;> simp [World.setCell, Array.getElem?_modify, h, firstCells, V5.upd, World.drew]
theorem FBox.at5 {w : World} {b n : Nat} {F : V5} (h : FBox w b n F) : At5 w b 1 F := by
  obtain ⟨_, h1, h2, h3, h4, h5⟩ := h.cells
  intro i hi
  refine ⟨?_, h.frozen _⟩
  match i, hi with
  | 0, _ => exact h1
  | 1, _ => exact h2
  | 2, _ => exact h3
  | 3, _ => exact h4
  | 4, _ => exact h5
theorem ok_right {st : ByteArray} {rs : List RuleT} (h : gramOkB st rs = true) {k : Nat} (hk : k < rs.length) : allSym rs[k].2 = true ∧ rs[k].2.size ≤ 4 := by
  unfold gramOkB at h
  simp only [Bool.and_eq_true, decide_eq_true_eq, List.all_eq_true, List.mem_range] at h
  have h4 := h.2.2 k hk
  rw [goodB_at hk] at h4
  simp only [ruleOkB, Bool.and_eq_true, decide_eq_true_eq] at h4
  exact ⟨h4.1.2.2, h4.1.2.1⟩
set_option maxHeartbeats 2000000 in
theorem first1_any (st : ByteArray) (a : Option Addr) (cap : Nat) (rs : List RuleT) (b1 n : Nat) (F : V5) (w : World) (H : RulesAt w a rs) (hok : gramOkB st rs = true) (hn : n < 1024) (hF : F.ok) (hG : GBox w b1 st a rs.length cap) :
    Calls Try.prog 125 #[.agg (firstCells n F), .pointer (some ⟨b1, 0, none⟩)] w fun e w' => e = .returned (.agg (firstCells n (firTo rs n F rs.length))) ∧ Below w.heap.size w w' := by
  have hl := (gramOk_facts hok).2.1
  have HOK := Lib.hid hok
  clear hok
  have hK0 : FBox ((w.alloc (.cells (firstCells n F) 104)).alloc (.cells (firstCells 0 zero5) 104)) w.heap.size n F := FBox.alloc (blk_new _ _ rfl) _
  have hR0 : FBox ((w.alloc (.cells (firstCells n F) 104)).alloc (.cells (firstCells 0 zero5) 104)) (w.heap.size + 1) 0 zero5 := blk_new _ _ (by simp)
  have hb0 := ((Below.refl w.heap.size w).alloc (Nat.le_refl _) (.cells (firstCells n F) 104)).alloc (by simp) (.cells (firstCells 0 zero5) 104)
  obtain ⟨g0, g1⟩ := (hG.below hb0).cells
  unfold firstCells at g0 g1 hK0 hR0 hb0 ⊢
  have hb1 := hG.lt
  obtain ⟨m0, m1⟩ := hG.cells
  have hn1 : ¬ b1 = w.heap.size := by omega
  have hn2 : ¬ b1 = w.heap.size + 1 := by omega
  go_enter Try.func125, Try.ntmps125
  go_wp2
  clear g0 g1 m0 m1
  go_loopw [11] (fun i wr => ∃ k : Nat, k ≤ rs.length ∧ i = .int .i64 k ∧ FBox wr w.heap.size n (firTo rs n F k) ∧ FBox wr (w.heap.size + 1) 0 zero5 ∧ Below w.heap.size w wr) (fun i _ => rs.length - (intOf i).toNat)
  case atStart => exact ⟨0, Nat.zero_le _, rfl, hK0, hR0, hb0⟩
  case round =>
    obtain ⟨k, hk, rfl, hK, hR, hb⟩ := hrel
    obtain ⟨c0, c1, c2, c3, c4, c5⟩ := hK.cells
    by_cases hlt : k < rs.length
    · obtain ⟨z1, z2, b, off, e, hbb, d1', d2'⟩ := H.2 k hlt
      obtain ⟨c, hc, hbig⟩ := ok_left HOK.out hlt
      obtain ⟨hsym, hsz⟩ := ok_right HOK.out hlt
      subst e
      have HC : Hid (leftC rs[k] = c) := by show _ = _; unfold leftC; rw [hc]; rfl
      have HS := Lib.hid (firTo_succ rs n F k hlt)
      have hFk := firTo_ok rs n hF k
      have d1 : wr.cell? ⟨b, off + k * 2, none⟩ = some (.string ⟨#[c]⟩) := by rw [hb.cell (p := ⟨b, _, none⟩) hbb, d1', hc]
      have d2 : wr.cell? ⟨b, off + k * 2 + 1, none⟩ = some (.string rs[k].2) := by rw [hb.cell (p := ⟨b, _, none⟩) hbb, d2']
      have hkl : (k : Int) < (rs.length : Int) := by omega
      have hlt1 := hK.lt
      have hn3 : ¬ w.heap.size = wr.heap.size := by omega
      have hK2 := hK.alloc (.cells #[.string ⟨#[c]⟩, .string rs[k].2] 55)
      have hR2 := hR.alloc (.cells #[.string ⟨#[c]⟩, .string rs[k].2] 55)
      have hb2 := hb.alloc hb.size (.cells #[.string ⟨#[c]⟩, .string rs[k].2] 55)
      clear d1' d2' hc hK0 hR0 hb0
      generalize firTo rs n F k = Fk at *
      go_wp2_with fail
      refine (ofFirst_any n Fk rs[k].2 _ hn hFk (by omega) hsym).mono ?_
      rintro e w2 ⟨rfl, hb3⟩
      have hK3 := hK2.below hb3
      have hR3 := hR2.below hb3
      have hb4 : Below w.heap.size w w2 := hb2.trans (hb3.mono (by have := hb.size; simp; omega))
      have x0 : w2.cell? ⟨wr.heap.size, 0, none⟩ = some (.string ⟨#[c]⟩) := by rw [hb3.cell (p := ⟨wr.heap.size, 0, none⟩) (by simp)]; simp
      have hm := firstA_lt (n := n) hFk rs[k].2.data.toList 0 (by omega)
      have HE : Hid (firStep n Fk rs[k] = Fk.upd c (Fk.get c ||| (firstA n Fk 0 rs[k].2.data.toList).1)) := by show _ = _; unfold firStep; rw [HC.out]
      generalize firstA n Fk 0 rs[k].2.data.toList = res at *
      clear c0 c1 c2 c3 c4 c5 d1 d2 hK hR hb hK2 hR2 hb2 hb3
      go_wp2_with fail
      refine (add5_any Fk c _ 1 res.1 _ hbig hFk hm hK3.at5).mono ?_
      rintro e w3 ⟨⟨u, rfl⟩, rfl⟩
      have hK4 := hK3.upd hbig (Fk.get c ||| res.1)
      have hR4 : FBox (w2.setCell ⟨w.heap.size, 1 + (c.toNat - 65), none⟩ (.int .u16 (Fk.get c ||| res.1 : Nat))).drew (w.heap.size + 1) 0 zero5 := blk_set (p := ⟨w.heap.size, 1 + (c.toNat - 65), none⟩) hR3 (by show w.heap.size + 1 ≠ w.heap.size; omega) _
      have hb5 := (hb4.setCell (p := ⟨w.heap.size, 1 + (c.toNat - 65), none⟩) (Nat.le_refl _) (.int .u16 (Fk.get c ||| res.1 : Nat))).drew
      rw [← HE.out, ← HS.out] at hK4
      generalize (w2.setCell ⟨w.heap.size, 1 + (c.toNat - 65), none⟩ (.int .u16 (Fk.get c ||| res.1 : Nat))).drew = w5 at *
      go_wp2
      go_roundw
      case rel => exact ⟨k + 1, by omega, by go_num, hK4, hR4, hb5⟩
      case measure => simp [intOf]; omega
    · have hkl : ¬ (k : Int) < (rs.length : Int) := by omega
      obtain rfl : k = rs.length := by omega
      obtain ⟨r0, r1, r2, r3, r4, r5⟩ := hR.cells
      have f0 := hR.frozen 0
      have f1 := hR.frozen 1
      have f2 := hR.frozen 2
      have f3 := hR.frozen 3
      have f4 := hR.frozen 4
      have f5 := hR.frozen 5
      generalize hRR : firTo rs n F rs.length = R at *
      have HRR := Lib.hid hRR
      clear hRR
      have p0 := store6_same (n := n) (F := R) hR
      obtain ⟨q0, q1, q2, q3, q4, q5⟩ := p0.cells
      have p1 := store6_below hb (b := w.heap.size + 1) (by omega) n R
      unfold store6 at q0 q1 q2 q3 q4 q5 p1
      have P1 := Lib.hid p1
      clear hK hR hb p0 p1 hK0 hR0 hb0
      go_wp2
      exact bodyPost_ret (v := .agg #[.int .u16 (n : Nat), .int .u16 (R.a : Nat), .int .u16 (R.b : Nat), .int .u16 (R.c : Nat), .int .u16 (R.d : Nat), .int .u16 (R.e : Nat)]) (by simp [results, Try.results125, go_sem, q0, q1, q2, q3, q4, q5]) rfl ⟨by rw [HRR.out], P1.out⟩
set_option maxHeartbeats 1000000 in
theorem firstSetsOf_any (st : ByteArray) (a : Option Addr) (cap : Nat) (rs : List RuleT) (w : World) (H : RulesAt w a rs) (hok : gramOkB st rs = true) :
    Calls Try.prog 90 #[.agg #[.string st, .slice a rs.length cap]] w fun e w' => ∃ F, e = .returned (.agg (firstCells (leftsLeast rs 0) F)) ∧ IsFirst rs (leftsLeast rs 0) F ∧ Below w.heap.size w w' := by
  have hmf := makeFunc_run
  have hlm := leftsLeast_lt rs 0
  obtain ⟨n, hnn⟩ : ∃ n, leftsLeast rs 0 = n := ⟨_, rfl⟩
  simp only [hnn] at hlm ⊢
  have HN := Lib.hid hnn
  clear hnn
  have hG : GBox ((w.alloc (.cells #[.string st, .slice a rs.length cap] 24)).alloc (.cells (firstCells 0 zero5) 104)) w.heap.size st a rs.length cap := (blk_old _ _ (by simp)).trans (blk_new _ _ rfl)
  have hR : FBox ((w.alloc (.cells #[.string st, .slice a rs.length cap] 24)).alloc (.cells (firstCells 0 zero5) 104)) (w.heap.size + 1) 0 zero5 := blk_new _ _ (by simp)
  have hb0 := ((Below.refl w.heap.size w).alloc (Nat.le_refl _) (.cells #[.string st, .slice a rs.length cap] 24)).alloc (by simp) (.cells (firstCells 0 zero5) 104)
  go_enter Try.func90, Try.ntmps90
  go_wp2_with fail
  refine (nullableSet_any st a cap rs _ (H.below hb0 (Nat.le_refl _))).mono ?_
  rintro e w2 ⟨rfl, hb2⟩
  rw [HN.out]
  have hG2 := (hG.below hb2)
  have hR2 := (hR.below hb2)
  have hB2 : Below w.heap.size w w2 := hb0.trans (hb2.mono (by simp; omega))
  clear hG hR hb0 hb2
  go_wp2_with fail
  have hb3 := (Below.refl w2.heap.size w2).alloc (Nat.le_refl _) (.cells (firstCells n zero5) 104)
  have hG3 := hG2.below hb3
  have hR3 := hR2.below hb3
  have H3 := (H.below hB2 (Nat.le_refl _)).below hb3 (Nat.le_refl _)
  refine (lfpF_any n #[.pointer (some ⟨w.heap.size, 0, none⟩)] (fun F => firTo rs n F rs.length) (fun F => F.ok ∧ ∀ G, firClosed rs n G → Sub5 F G) ?_ _ ?_ zero5 ⟨zero5_ok, fun G _ => zero5_sub G⟩).mono ?_
  · rintro x ⟨h1, h2⟩
    exact ⟨⟨firTo_ok rs n h1 _, fun S hS => firTo_below hS (h2 S hS)⟩, firTo_sub rs n x _, firTo_ok rs n h1 _⟩
  · rintro x W ⟨h1, _⟩ hb
    exact first1_any st a cap rs _ n x W (H3.below hb (Nat.le_refl _)) hok hlm h1 (hG3.below hb)
  · rintro e w4 ⟨R, rfl, ⟨h1, h2⟩, hfix, hb4⟩
    have hF : IsFirst rs n R := ⟨h1, firTo_fix hfix, h2⟩
    have hR4 := hR3.below hb4
    have hB4 : Below w.heap.size w w4 := hB2.trans ((hb3.trans (hb4.mono (by simp))).mono hB2.size)
    obtain ⟨r0, r1, r2, r3, r4, r5⟩ := hR4.cells
    have f0 := hR4.frozen 0
    have f1 := hR4.frozen 1
    have f2 := hR4.frozen 2
    have f3 := hR4.frozen 3
    have f4 := hR4.frozen 4
    have f5 := hR4.frozen 5
    have p0 := store6_same (n := n) (F := R) hR4
    obtain ⟨q0, q1, q2, q3, q4, q5⟩ := p0.cells
    have p1 := store6_below hB4 (b := w.heap.size + 1) (by omega) n R
    unfold store6 at q0 q1 q2 q3 q4 q5 p1
    have P1 := Lib.hid p1
    have HF := Lib.hid hF
    clear hR4 hB4 p0 p1 hG2 hR2 hG3 hR3 hb3 hb4 hF h2 hfix
    unfold firstCells
    go_wp2
    exact bodyPost_ret (v := .agg #[.int .u16 (n : Nat), .int .u16 (R.a : Nat), .int .u16 (R.b : Nat), .int .u16 (R.c : Nat), .int .u16 (R.d : Nat), .int .u16 (R.e : Nat)]) (by simp [results, Try.results90, go_sem, q0, q1, q2, q3, q4, q5]) rfl ⟨R, rfl, HF.out, P1.out⟩
end Go.Proofs.Ytjpkohahabclgaa
