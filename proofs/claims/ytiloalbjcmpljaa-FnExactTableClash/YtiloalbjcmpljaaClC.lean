/- The program's eachClash and TableClash. -/
import Derived.Test.YtiloalbjcmpljaaClB
namespace Go.Proofs.Ytiloalbjcmpljaa
open Go.ChangeShapes Go.WideShapes Go.ChangeAt Go.RowKit Go.Deep
set_option maxRecDepth 100000
theorem CapC.only {w w' : World} {p B R : Nat} {cs : List DuoT} (h : CapC w p B cs) (hb : OnlyG R w w') (hp : R ≠ p) (hR : R < B) : CapC w' p B cs := by
  obtain ⟨h1, h2, v, h3, h4, h5⟩ := h
  refine ⟨h1, Nat.le_trans h2 hb.size, v, (hb.block p h3.lt (fun e => hp e.symm)).trans h3, h4, ?_⟩
  rcases h5 with h0 | ⟨g, cap, cur, hv, hg, hh, hl⟩
  · exact .inl h0
  · exact .inr ⟨g, cap, cur, hv, hg, (hb.block g (Array.getElem?_eq_some_iff.1 hh).1 (by omega)).trans hh, hl⟩
theorem BoxT.only {w w' : World} {b R : Nat} {v0 v1 v2 : Value} (h : BoxT w b v0 v1 v2) (hb : OnlyG R w w') (hR : b ≠ R) : BoxT w' b v0 v1 v2 :=
  ⟨Nat.lt_of_lt_of_le h.1 hb.size, (hb.cell (p := ⟨b, 0, none⟩) h.1 hR).trans h.2.1, (hb.cell (p := ⟨b, 1, none⟩) h.1 hR).trans h.2.2.1, (hb.cell (p := ⟨b, 2, none⟩) h.1 hR).trans h.2.2.2⟩
/-- what the map holds: a count for each key, none where it is nought -/
def Cnt (F : Value → Option Value) (c : DuoT → Nat) : Prop := ∀ x : DuoT, (F (keyV x)).getD (.int .i64 0) = .int .i64 ((c x : Nat) : Int)
theorem Cnt.put {F : Value → Option Value} {c c' : DuoT → Nat} (h : Cnt F c) (y : DuoT) (n : Nat) (h1 : c' y = n) (h2 : ∀ x, x ≠ y → c' x = c x) : Cnt (putF F (keyV y) (.int .i64 ((n : Nat) : Int))) c' := fun x => by
  by_cases e : x = y
  · subst e; rw [putF_same, h1]; rfl
  · rw [putF_other F _ (fun e' => e (keyV_inj e')), h2 x e]; exact h x
def c1N (xs : List TriT) (k : Nat) (x : DuoT) : Nat := if (xs.take k).any (hitD x) then 1 else 0
theorem c1N_same {xs : List TriT} {k : Nat} (h : k < xs.length) : c1N xs (k + 1) (xs[k].1, xs[k].2.1) = 1 := by
  unfold c1N
  rw [List.take_succ_eq_append_getElem h, List.any_append]
  simp [(hitD_iff (xs[k].1, xs[k].2.1) xs[k]).2 rfl]
theorem c1N_other {xs : List TriT} {k : Nat} (h : k < xs.length) {x : DuoT} (hx : x ≠ (xs[k].1, xs[k].2.1)) : c1N xs (k + 1) x = c1N xs k x := by
  unfold c1N
  rw [List.take_succ_eq_append_getElem h, List.any_append]
  have : hitD x xs[k] = false := by
    cases hh : hitD x xs[k] with
    | false => rfl
    | true => exact absurd ((hitD_iff _ _).1 hh).symm hx
  rw [show ((xs.take k).any (hitD x) || [xs[k]].any (hitD x)) = (xs.take k).any (hitD x) from by rw [List.any_cons, List.any_nil, this, Bool.or_false, Bool.or_false]]
theorem cN_same {xs ys : List TriT} {k : Nat} (h : k < ys.length) : cN xs ys (k + 1) (ys[k].1, ys[k].2.1) = cN xs ys k (ys[k].1, ys[k].2.1) + 1 := by
  rw [cN_succ h, if_pos ((hitD_iff _ _).2 rfl)]
theorem cN_other {xs ys : List TriT} {k : Nat} (h : k < ys.length) {x : DuoT} (hx : x ≠ (ys[k].1, ys[k].2.1)) : cN xs ys (k + 1) x = cN xs ys k x := by
  rw [cN_succ h, if_neg (fun e => hx ((hitD_iff _ _).1 e).symm)]; rfl
theorem TrisAt.rel1 {w w' : World} {a : Option Addr} {xs : List TriT} {p : Nat} {v : Value} {T : TypeId} (h : TrisAt w a xs) (hp : one1 w p v T) (hv : ∀ n, v ≠ .int .i64 n) (hr : Rel1 p w.heap.size w w') : TrisAt w' a xs := by
  refine ⟨h.1, fun i hi => ?_⟩
  obtain ⟨z, b, off, e, hl, c0, c1, c2⟩ := h.2 i hi
  have hb : w'.heap[b]? = w.heap[b]? := by
    refine hr.block b hl hl fun e => ?_
    subst e
    rw [cell_of_block hp] at c0
    cases ho : off + i * 3 with
    | zero => rw [ho] at c0; simp at c0; exact hv _ c0
    | succ j => rw [ho] at c0; simp at c0
  exact ⟨z, b, off, e, Nat.lt_of_lt_of_le hl hr.size, (World.cell?_of_block (w := w) hb).trans c0, (World.cell?_of_block (w := w) hb).trans c1, (World.cell?_of_block (w := w) hb).trans c2⟩
set_option maxHeartbeats 4000000 in
theorem eachClash_any (m : Int) (a : Option Addr) (cap : Nat) (xs : List TriT) (c : Option Addr) (cup : Nat) (ys : List TriT) (p : Nat) (w : World) (HX : TrisAt w a xs) (HY : TrisAt w c ys) (WX : WfT xs) (WY : WfT ys) (hl : ys.length ≤ 1048576) (HP : one1 w p (.slice none 0 0) 47) :
    Calls Try.prog 50 #[tabV m a xs.length cap c ys.length cup, .func (.func 51) #[] #[.pointer (some ⟨p, 0, none⟩)]] w fun e w' => e = .returned (.tuple #[]) ∧ CapC w' p w.heap.size (clashTo xs ys ys.length) ∧ Rel1 p w.heap.size w w' := by
  have hn1 := HX.1
  have hn2 := HY.1
  unfold maxLen at hn1 hn2
  have hpl := HP.lt
  have hmm := @run_makeMap Try.prog
  have eg : ∀ args w, (callFunc 51 args).run Try.prog w = .ok (.enter 51 args) w := enters_of Try.func51 (by kernel_rfl) rfl
  have hb1 := ((Below.refl w.heap.size w).alloc (Nat.le_refl _) (.cells #[.int .i64 m, .slice a xs.length cap, .slice c ys.length cup] 39)).alloc (by simp) (.map #[] 0)
  have X1 := (BoxT.new w (.int .i64 m) (.slice a xs.length cap) (.slice c ys.length cup) 39).old (.map #[] 0)
  have M1 : MapF Try.prog 77 ((w.alloc (.cells #[.int .i64 m, .slice a xs.length cap, .slice c ys.length cup] 39)).alloc (.map #[] 0)) (w.heap.size + 1) (fun _ => none) := by
    have := MapF.made (P := Try.prog) (k := 77) (w.alloc (.cells #[.int .i64 m, .slice a xs.length cap, .slice c ys.length cup] 39))
    simpa using this
  obtain ⟨x0, x1, x2⟩ := X1.2
  go_enter Try.func50, Try.ntmps50
  go_wp2_with fail
  clear x0 x1 x2 hmm
  go_loopw [14] (fun i wr => ∃ k : Nat, k ≤ xs.length ∧ i = .int .i64 k ∧ (∃ F, MapF Try.prog 77 wr (w.heap.size + 1) F ∧ Hid (Cnt F (c1N xs k))) ∧ Below w.heap.size w wr ∧ BoxT wr w.heap.size (.int .i64 m) (.slice a xs.length cap) (.slice c ys.length cup)) (fun i _ => xs.length - (intOf i).toNat)
  case atStart => exact ⟨0, Nat.zero_le _, rfl, ⟨_, M1, fun x => by simp [c1N]⟩, hb1, X1⟩
  case round =>
    clear hb1 X1 M1
    obtain ⟨k, hk, rfl, ⟨F, M, HF⟩, hb, X⟩ := hrel
    by_cases hlt : k < xs.length
    · obtain ⟨z, b, off, e, hbb, c0, c1, c2⟩ := (HX.below hb (Nat.le_refl _)).2 k hlt
      subst e
      have hwf := WX xs[k] (List.getElem_mem hlt)
      have hkl : (k : Int) < (xs.length : Int) := by omega
      obtain ⟨l, hkey⟩ := clash_key (xs[k].1, xs[k].2.1) ⟨hwf.1, z⟩
      have hb3 := (Below.refl wr.heap.size wr).alloc (Nat.le_refl _) (.cells #[.int .i64 xs[k].1, .string xs[k].2.1, .int .i64 xs[k].2.2] 60)
      have M3 := M.below hb3
      have X3 := X.below hb3
      have hc3 := Below.on hb hb3 (Nat.le_refl _)
      obtain ⟨w4, hrun, M4, hO4, _⟩ := M3.update clash_law Try.underlying104 hkey (.int .i64 1)
      unfold keyV at hrun
      have X4 := X3.only hO4 (by omega)
      have hc4 := hc3.trans (hO4.below w.heap.size (by omega) hc3.size)
      have HC := Lib.hid (HF.out.put (c' := c1N xs (k + 1)) (xs[k].1, xs[k].2.1) 1 (c1N_same hlt) (fun x hx => c1N_other hlt hx))
      clear hb3 M3 X3 hc3 hO4 HF M X hb
      go_wp2_with fail
      go_roundw
      case rel => exact ⟨k + 1, by omega, by go_num, ⟨_, M4, HC⟩, hc4, X4⟩
      case measure => simp [intOf]; omega
    · obtain rfl : k = xs.length := by omega
      have HC : Hid (Cnt F (cN xs ys 0)) := by
        intro x
        have := HF.out x
        rw [cN_zero]
        rw [c1N, List.take_length] at this
        exact this
      have hsz := hb.size
      have hmb := M.lt
      have hlow : ∀ j, j < w.heap.size → wr.heap[j]? = w.heap[j]? := fun j hj => hb.block j hj
      have hC : CapC wr p (w.heap.size + 2) (clashTo xs ys 0) := ⟨by omega, by omega, .slice none 0 0, (hlow p hpl).trans HP, World.ownsRow_nil _ _ _ _⟩
      have hR : Rel1 p w.heap.size w wr := ⟨hb.os, hb.tape, hb.output, hb.size, fun j _ hj _ => hlow j hj⟩
      have HY2 := HY.below hb (Nat.le_refl _)
      obtain ⟨x0, x1, x2⟩ := X.2
      clear hlt HF hlow hb
      go_wp2_with fail
      clear x0 x1 x2 X
      go_loopw [28] (fun i wr => ∃ k : Nat, k ≤ ys.length ∧ i = .int .i64 k ∧ (∃ F, MapF Try.prog 77 wr (w.heap.size + 1) F ∧ Hid (Cnt F (cN xs ys k))) ∧ CapC wr p (w.heap.size + 2) (clashTo xs ys k) ∧ Rel1 p w.heap.size w wr ∧ w.heap.size + 2 ≤ wr.heap.size) (fun i _ => ys.length - (intOf i).toNat)
      case atStart => exact ⟨0, Nat.zero_le _, rfl, ⟨_, M, HC⟩, hC, hR, by omega⟩
      case round =>
        clear hC hR HC M HY2 hsz hmb
        obtain ⟨k, hk, rfl, ⟨F, M, HF⟩, C, R, hs2⟩ := hrel
        by_cases hlt : k < ys.length
        · obtain ⟨z, b, off, e, hbb, c0, c1, c2⟩ := (HY.rel1 HP (by simp) R).2 k hlt
          subst e
          have hwf := WY ys[k] (List.getElem_mem hlt)
          have hkl : (k : Int) < (ys.length : Int) := by omega
          obtain ⟨l, hkey⟩ := clash_key (ys[k].1, ys[k].2.1) ⟨hwf.1, z⟩
          have hb4 := ((Below.refl wr.heap.size wr).alloc (Nat.le_refl _) (.cells #[.int .i64 ys[k].1, .string ys[k].2.1, .int .i64 ys[k].2.2] 63)).alloc (by simp) (.cells #[.int .i64 ys[k].1, .string ys[k].2.1] 77)
          have K4 := Box2.new (wr.alloc (.cells #[.int .i64 ys[k].1, .string ys[k].2.1, .int .i64 ys[k].2.2] 63)) (.int .i64 ys[k].1) (.string ys[k].2.1) 77
          simp only [World.size_alloc] at K4
          have M4 := M.below hb4
          have C4 := C.below hb4
          have R4 := R.trans (Rel1.of_below hb4)
          have hs4 : w.heap.size + 4 ≤ ((wr.alloc (.cells #[.int .i64 ys[k].1, .string ys[k].2.1, .int .i64 ys[k].2.2] 63)).alloc (.cells #[.int .i64 ys[k].1, .string ys[k].2.1] 77)).heap.size := by simp; omega
          clear hb4 M C R
          go_wp2_with fail
          generalize ((wr.alloc (.cells #[.int .i64 ys[k].1, .string ys[k].2.1, .int .i64 ys[k].2.2] 63)).alloc (.cells #[.int .i64 ys[k].1, .string ys[k].2.1] 77)) = u at *
          have hF := HF.out (ys[k].1, ys[k].2.1)
          have hnl := cN_le xs ys k (ys[k].1, ys[k].2.1)
          have HS := Lib.hid (cN_same (xs := xs) hlt)
          have HN := Lib.hid (HF.out.put (c' := cN xs ys (k + 1)) (ys[k].1, ys[k].2.1) _ (cN_same hlt) (fun x hx => cN_other hlt hx))
          obtain ⟨n, hn⟩ : ∃ n, n = cN xs ys k (ys[k].1, ys[k].2.1) := ⟨_, rfl⟩
          rw [← hn] at hF hnl
          have HNn := Lib.hid hn
          rw [← hn] at HN
          clear hn
          have L4 := M4.lookup (w := u) clash_law Try.underlying104 (zeroI _) hkey
          obtain ⟨st, w5, hE, M5, hO5, _, hSt⟩ := MapF.entry (w := u.drew) M4 clash_law Try.underlying104 zeroI hkey
          have L5 := M5.lookup clash_law Try.underlying104 (zeroI _) hkey
          rw [putF_same] at L5
          obtain ⟨w6, hS6, M6, hO6, _⟩ := hSt w5 (.int .i64 ((n : Int) + 1)) rfl
          have L6 := M6.lookup clash_law Try.underlying104 (zeroI _) hkey
          rw [putF_same] at L6
          rw [hF] at L4 hE L5
          simp only [Option.getD_some] at L5 L6
          have L4d : (Instr.lookup 104 (.map (some (w.heap.size + 1))) (keyV (ys[k].1, ys[k].2.1)) false).run Try.prog u.drew = .ok (.int .i64 (n : Int)) u.drew := by
            have := MapF.lookup (w := u.drew) M4 clash_law Try.underlying104 (zeroI _) hkey
            rwa [hF] at this
          unfold keyV at hE L4d L5 L6
          have hwr : IntKind.i64.wrap ((n : Int) + 1) = (n : Int) + 1 := IntWalk.i64_in _ (by omega)
          have hO : OnlyG (w.heap.size + 1) u w6 := by
            have := hO5.trans hO6
            exact ⟨this.os, this.tape, this.output, this.size, this.block⟩
          obtain ⟨k0, k1⟩ := K4.2
          have k0d : u.drew.cell? ⟨wr.heap.size + 1, 0, none⟩ = some (.int .i64 ys[k].1) := k0
          have k1d : u.drew.cell? ⟨wr.heap.size + 1, 1, none⟩ = some (.string ys[k].2.1) := k1
          have k06 := (hO.cell (p := ⟨wr.heap.size + 1, 0, none⟩) K4.1 (by show wr.heap.size + 1 ≠ w.heap.size + 1; omega)).trans k0
          have k16 := (hO.cell (p := ⟨wr.heap.size + 1, 1, none⟩) K4.1 (by show wr.heap.size + 1 ≠ w.heap.size + 1; omega)).trans k1
          go_region
          all_goals
            have C6 := C4.only hO (by omega) (by omega)
            have R6 := R4.trans (Rel1.of_only hO (by omega))
            have hs6 : w.heap.size + 2 ≤ w6.heap.size := by have := hO.size; omega
            have hmb := M6.lt
            have HK := Lib.hid M6
            have hcl := clashTo_len xs ys k
            clear hE M5 hO5 hSt L5 hS6 M6 hO6 L4 L4d hF hO k0 k1 k0d k1d C4 R4 K4 hs4 M4 HF
            by_cases hone : n = 1
            · have q2 : (((n : Int) + 1) == 2) = true := by rw [beq_iff_eq]; omega
              have HY1 := Lib.hid (clashTo_yes (xs := xs) hlt (by rw [← HNn.out]; exact hone))
              clear hone
              go_wp2_with fail
              refine (report_any (ys[k].1, ys[k].2.1) p _ _ w6 C6 (by omega)).mono ?_
              rintro e w8 ⟨rfl, C8, _, R8⟩
              have M8 := HK.out.keep (R8.block (w.heap.size + 1) (by omega) (by omega) (by omega))
              go_wp2_with fail
              go_roundw
              case rel => exact ⟨k + 1, by omega, by go_num, ⟨_, M8, HN⟩, by rw [HY1.out]; exact C8, R6.trans (R8.low (by omega)), by have := R8.size; omega⟩
              case measure => simp [intOf]; omega
            · have q2 : (((n : Int) + 1) == 2) = false := by rw [beq_eq_false_iff_ne]; omega
              have HY1 := Lib.hid (clashTo_no (xs := xs) hlt (by rw [← HNn.out]; exact hone))
              clear hone
              go_wp2_with fail
              go_roundw
              case rel => exact ⟨k + 1, by omega, by go_num, ⟨_, HK.out, HN⟩, by rw [HY1.out]; exact C6, R6, hs6⟩
              case measure => simp [intOf]; omega
        · obtain rfl : k = ys.length := by omega
          go_wp2_with fail
          go_end0
          obtain ⟨q1, q2, v, q3, q4, q5⟩ := C
          refine ⟨rfl, ⟨hpl, R.size, v, q3, q4, ?_⟩, R⟩
          rcases q5 with h0 | ⟨g, cp, cur, hv, hg, hh⟩
          · exact .inl h0
          · exact .inr ⟨g, cp, cur, hv, by omega, hh⟩
set_option maxHeartbeats 1000000 in
theorem tableClash_any (m : Int) (a : Option Addr) (cap : Nat) (xs : List TriT) (c : Option Addr) (cup : Nat) (ys : List TriT) (w : World) (HX : TrisAt w a xs) (HY : TrisAt w c ys) (WX : WfT xs) (WY : WfT ys) (hl : ys.length ≤ 1048576) :
    Calls Try.prog 21 #[tabV m a xs.length cap c ys.length cup] w fun e w' => (∃ v, e = .returned v ∧ w'.ownsRow w.heap.size 77 2 v (clashTo xs ys ys.length).length (flatD (clashTo xs ys ys.length))) ∧ Below w.heap.size w w' := by
  have hmf := makeFunc_run
  have hb1 := ((Below.refl w.heap.size w).alloc (Nat.le_refl _) (.cells #[.int .i64 m, .slice a xs.length cap, .slice c ys.length cup] 39)).alloc (by simp) (.cells #[.slice none 0 0] 47)
  have X1 := (BoxT.new w (.int .i64 m) (.slice a xs.length cap) (.slice c ys.length cup) 39).old (.cells #[.slice none 0 0] 47)
  have P1 : one1 ((w.alloc (.cells #[.int .i64 m, .slice a xs.length cap, .slice c ys.length cup] 39)).alloc (.cells #[.slice none 0 0] 47)) (w.heap.size + 1) (.slice none 0 0) 47 := blk_new _ _ (by simp)
  obtain ⟨x0, x1, x2⟩ := X1.2
  go_enter Try.func21, Try.ntmps21
  go_wp2_with fail
  refine (eachClash_any m _ _ xs _ _ ys (w.heap.size + 1) _ (HX.below hb1 (Nat.le_refl _)) (HY.below hb1 (Nat.le_refl _)) WX WY hl P1).mono ?_
  rintro e w2 ⟨rfl, C2, R2⟩
  simp only [World.size_alloc] at C2 R2
  obtain ⟨q1, q2, v, q3, q4⟩ := C2
  obtain ⟨av, cv, rfl, _⟩ := owns_at q4
  obtain ⟨d0, f0⟩ := q3.cell
  have hb2 : Below w.heap.size w w2 := ⟨R2.os.trans hb1.os, R2.tape.trans hb1.tape, R2.output.trans hb1.output, by omega, fun j hj => (R2.block j (by simp; omega) (by omega) (by omega)).trans (hb1.block j hj)⟩
  have q5 : w2.ownsRow w.heap.size 77 2 (.slice av (clashTo xs ys ys.length).length cv) (clashTo xs ys ys.length).length (flatD (clashTo xs ys ys.length)) := by
    refine ⟨q4.1, ?_⟩
    rcases q4.2 with h0 | ⟨g, cp, cur, hv, hg, hh⟩
    · exact .inl h0
    · exact .inr ⟨g, cp, cur, hv, by omega, hh⟩
  clear X1 P1 hb1 x0 x1 x2 hmf
  go_wp2_with fail
  go_ret
  exact ⟨⟨_, rfl, q5⟩, hb2⟩
end Go.Proofs.Ytiloalbjcmpljaa
