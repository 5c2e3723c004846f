/- The contract of the model's l4Copy. -/
import Derived.Test.YtcningdeocmbgaaSgB
import Derived.Deep.LoopGhost
namespace Go.Proofs.Ytcningdeocmbgaa
open Go.ChangeShapes Go.WideShapes Go.ChangeAt Go.RowKit Go.Deep
set_option maxRecDepth 100000
/-- a node whose kids lie in a row of the call's own -/
theorem TreesW.whole {w : World} {B : Nat} {v : Value} {us : List KidO} {ts : List OT} {s : ByteArray} {r : Int} (H : TreesW w B v us ts) (hs : s.size ≤ maxLen) (hr : (Lit.int .i64 r).wf = true) :
    ∃ g, KidOk w (s, r, v) (.node g s r ts) ∧ (OT.node g s r ts).bs.Nodup ∧ ∀ b ∈ (OT.node g s r ts).bs, B ≤ b := by
  have hl := H.len
  rcases H.row.2 with ⟨hv, h0⟩ | ⟨g, cap, cur, hv, hg, hh, hlc, hcm, hz, ht⟩
  · have hd : ts = [] := List.eq_nil_of_length_eq_zero (by rw [← hl]; exact h0)
    subst hd
    exact ⟨0, ⟨none, 0, by rw [hv]; rfl, Nat.zero_le _, hs, hr, Nat.zero_le _, OwnK.none _ _⟩, by rw [OT.bs]; simp, fun b hb => by rw [OT.bs] at hb; simp at hb⟩
  · have hbs : (OT.node g s r ts).bs = (if ts.length = 0 then [] else [g]) ++ ts.flatMap OT.bs := by rw [OT.bs]
    have hgn : g ∉ ts.flatMap OT.bs := fun hm => (H.low g hm).2.2 (by rw [hv]; rfl)
    refine ⟨g, ⟨some ⟨g, 0, none⟩, cap, by rw [hv, hl]; rfl, by show ts.length ≤ cap; omega, hs, hr, by show ts.length ≤ maxLen; omega, ?_⟩, ?_, fun b hb => ?_⟩
    · show OwnK w g (some ⟨g, 0, none⟩) ts
      by_cases hd : ts = []
      · rw [hd]; exact OwnK.none _ _
      · have each : ∀ i : Nat, ∃ q : Option Addr × Nat, ∀ h : i < ts.length, us[i]'(by omega) = (ts[i].s, ts[i].r, .slice q.1 ts[i].ks.length q.2) ∧ ts[i].ks.length ≤ q.2 ∧ ts[i].s.size ≤ maxLen ∧ (Lit.int .i64 ts[i].r).wf = true ∧ ts[i].ks.length ≤ maxLen ∧ OwnK w ts[i].g q.1 ts[i].ks := fun i => by
          by_cases h : i < ts.length
          · obtain ⟨a, c, h1, h2, h3, h4, h5, h6⟩ := H.kid i (by omega)
            exact ⟨(a, c), fun _ => ⟨h1, h2, h3, h4, h5, h6⟩⟩
          · exact ⟨(none, 0), fun h' => absurd h' h⟩
        obtain ⟨q, hq⟩ := Classical.axiomOfChoice each
        refine OwnK.row g _ cur (fun i => (q i).1) (fun i => (q i).2) hd hh (by rw [hz, ← hl]; exact Nat.mul_le_mul_right 3 hlc) (fun i hi => ?_) (fun i hi => (hq i hi).2.2.2.2.2)
        obtain ⟨h1, h2, h3, h4, h5, _⟩ := hq i hi
        obtain ⟨f0, f1, f2⟩ := flatO_at us i (by omega)
        rw [h1] at f0 f1 f2
        have cv : ∀ q x, q < us.length * 3 → (flatO us)[q]? = some x → cur[q]? = some x := by
          intro q x hq hx
          rw [← ht, List.getElem?_take, if_pos hq] at hx
          simpa using hx
        exact ⟨cv _ _ (by omega) f0, cv _ _ (by omega) f1, cv _ _ (by omega) f2, h2, h3, h4, h5⟩
    · rw [hbs]
      split
      · exact H.nd
      · rw [List.nodup_append]
        exact ⟨by simp, H.nd, fun x hx y hy e => hgn (by rw [List.mem_singleton] at hx; rw [← hx, e]; exact hy)⟩
    · rw [hbs] at hb
      rcases List.mem_append.1 hb with hb | hb
      · split at hb
        · cases hb
        · rw [List.mem_singleton] at hb; rw [hb]; exact hg
      · exact (H.low b hb).1
/-- what l4Copy gives: that tree, in rows of its own -/
def CopyGives (w : World) (T : Tr) (e : Ending) (w' : World) : Prop := Below w.heap.size w w' ∧ ∃ t a cap, OT.tr t = T ∧ e = .returned (.agg #[.string t.s, .int .i64 t.r, .slice a t.ks.length cap]) ∧ KidOk w' (t.s, t.r, .slice a t.ks.length cap) t ∧ t.bs.Nodup ∧ ∀ b ∈ t.bs, w.heap.size ≤ b
/-- a tree more, out of a row of one -/
theorem push_one {Y : World} {B U : Nat} {v : Value} {us : List KidO} {ts : List OT} {u : KidO} {t : OT} (H3 : TreesW Y B v us ts) (hkid : KidOk Y u t) (hnd : ((ts ++ [t]).flatMap OT.bs).Nodup) (hlow : ∀ b ∈ t.bs, B ≤ b ∧ v.ownBlock ≠ some b)
    (hU : Y.heap[U]? = some (.cells #[.string u.1, .int .i64 u.2.1, u.2.2] 30)) (hk : us.length ≤ 3000) (hB : B ≤ Y.heap.size) :
    ∃ a4 c4 z, (appT #[28, 28] 28 #[v, .slice (some ⟨U, 0, none⟩) 1 1]).run Try.prog Y = .ok (.slice a4 (us.length + 1) c4) z ∧ TreesW z B (.slice a4 (us.length + 1) c4) (us ++ [u]) (ts ++ [t]) ∧ Y.grownBy z v.ownBlock := by
  obtain ⟨v4, z, h1, h2, h3, _, h5⟩ := run_appT H3.row ⟨U, 0, none⟩ [u] 1 (fun j x hj => by
    rw [WideShapes.add_plain, cell_of_block hU]
    simpa [flatO] using hj) (fun x hx => by rw [List.mem_singleton] at hx; subst hx; exact hkid.one) (by simp only [List.length_cons, List.length_nil]; omega) hB
  have h6 : z.ownsRow B 30 3 v4 (us.length + 1) (flatO (us ++ [u])) := h2
  obtain ⟨a4, c4, rfl, _⟩ := owns_at h6
  exact ⟨a4, c4, z, h1, H3.push hkid h6 (fun b hb hne => h3.block b hb (fun e => hne e.symm)) h3.size h5 (Nat.le_refl _) hnd hlow, h3⟩
theorem sz_take_le {ks : List Tr} (i : Nat) : ((ks.take i).map Tr.sz).sum ≤ (ks.map Tr.sz).sum := by rw [List.map_take]; exact sum_take_le _ i
theorem len_sz : ∀ ks : List Tr, ks.length ≤ (ks.map Tr.sz).sum
  | [] => by simp
  | k :: ks => by
    have := len_sz ks
    have h1 : 1 ≤ k.sz := by cases k with | node s r l => rw [Tr.sz]; omega
    simp only [List.length_cons, List.map_cons, List.sum_cons]
    omega
theorem thirdBoxT {w : World} {b : Nat} {v0 v1 v2 : Value} (h : BoxT w b v0 v1 v2) (u2 : Value) : BoxT (w.setCell ⟨b, 2, none⟩ u2) b v0 v1 u2 := by unfold BoxT at h ⊢; simp [World.setCell, Array.getElem?_modify, h]
theorem nodup_more {ts : List OT} {t : OT} (h : (ts.flatMap OT.bs).Nodup) (ht : t.bs.Nodup) (hd : ∀ b, b ∈ ts.flatMap OT.bs → b ∈ t.bs → False) : ((ts ++ [t]).flatMap OT.bs).Nodup := by
  rw [List.flatMap_append, List.flatMap_singleton, List.nodup_append]
  exact ⟨h, ht, fun x hx y hy e => hd x hx (e ▸ hy)⟩
attribute [-go_sem] BigFrame.builtin_append
attribute [local go_sem ↓] builtin_appT
set_option maxHeartbeats 4000000 in
theorem l4Copy_any (m : Nat) : ∀ (T : Tr), T.sz ≤ m → T.sz ≤ 2000 → ∀ v w, TrIn w 0 v T →
    Calls Try.prog 28 #[v] w (CopyGives w T) := by
  induction m with
  | zero =>
    intro T hT
    cases T with
    | node s r ks => rw [Tr.sz] at hT; omega
  | succ m ih =>
    intro T hT hW v w HT
    obtain ⟨s, r, ks, a, cap, rfl, rfl, hs, hr, hn, hc, HK⟩ := HT.open
    have hkid : ∀ k ∈ ks, k.sz < (Tr.node s r ks).sz := fun k hk => Tr.sz_kid hk
    have hklen : ks.length ≤ 2000 := by have := len_sz ks; rw [Tr.sz] at hW; omega
    have HIH := Lib.hid ih
    have HKD := Lib.hid hkid
    have HTT := Lib.hid hT
    have HWW := Lib.hid hW
    have hb3 := (((Below.refl w.heap.size w).alloc (Nat.le_refl _) (.cells #[.string s, .int .i64 r, .slice a ks.length cap] 30)).alloc (by simp) (.cells #[.string ⟨#[]⟩, .int .i64 0, .slice none 0 0] 30)).alloc (by simp; omega) (.cells #[.string s, .int .i64 r, .slice none 0 0] 30)
    have hA : BoxT (((w.alloc (.cells #[.string s, .int .i64 r, .slice a ks.length cap] 30)).alloc (.cells #[.string ⟨#[]⟩, .int .i64 0, .slice none 0 0] 30)).alloc (.cells #[.string s, .int .i64 r, .slice none 0 0] 30)) w.heap.size (.string s) (.int .i64 r) (.slice a ks.length cap) := (blk_old _ _ (by simp; omega)).trans ((blk_old _ _ (by simp)).trans (blk_new _ _ rfl))
    have hZ : BoxT (((w.alloc (.cells #[.string s, .int .i64 r, .slice a ks.length cap] 30)).alloc (.cells #[.string ⟨#[]⟩, .int .i64 0, .slice none 0 0] 30)).alloc (.cells #[.string s, .int .i64 r, .slice none 0 0] 30)) (w.heap.size + 1) (.string ⟨#[]⟩) (.int .i64 0) (.slice none 0 0) := (blk_old _ _ (by simp)).trans (blk_new _ _ (by simp))
    have hO : BoxT (((w.alloc (.cells #[.string s, .int .i64 r, .slice a ks.length cap] 30)).alloc (.cells #[.string ⟨#[]⟩, .int .i64 0, .slice none 0 0] 30)).alloc (.cells #[.string s, .int .i64 r, .slice none 0 0] 30)) (w.heap.size + 2) (.string s) (.int .i64 r) (.slice none 0 0) := blk_new _ _ (by simp)
    unfold maxLen at hn
    clear ih hkid hT hW
    go_enter Try.func28, Try.ntmps28
    go_wp2_with fail
    go_loopg [4] (ks.length + 1) (fun gk iv wr => ∃ (i : Nat) (vo : Option Addr) (co : Nat) (us : List KidO) (ts : List OT), gk = ks.length + 1 - i ∧ i ≤ ks.length ∧ iv = .int .i64 (i : Int) ∧ us.length = i ∧ Hid (ts.map OT.tr = ks.take i) ∧ BoxT wr w.heap.size (.string s) (.int .i64 r) (.slice a ks.length cap) ∧ BoxT wr (w.heap.size + 1) (.string ⟨#[]⟩) (.int .i64 0) (.slice none 0 0) ∧ BoxT wr (w.heap.size + 2) (.string s) (.int .i64 r) (.slice vo us.length co) ∧ Hid (TreesW wr (w.heap.size + 3) (.slice vo us.length co) us ts) ∧ Below w.heap.size w wr)
    case atStart => exact ⟨0, none, 0, [], [], rfl, Nat.zero_le _, rfl, rfl, rfl, hA, hZ, hO, TreesW.nil _ _, hb3⟩
    case round =>
      clear hA hZ hO hb3
      obtain ⟨i, vo, co, us, ts, hgk, hi, rfl, hul, HTR, hA, hZ, hO, HTW, hb⟩ := hrel
      have HG := Lib.hid hgk
      have HUL := Lib.hid hul
      clear hgk hul
      obtain ⟨a0, a1, a2, _, _, _⟩ := hA.cells
      obtain ⟨o0, o1, o2, of0, of1, of2⟩ := hO.cells
      by_cases hlt : i < ks.length
      · have hil : (i : Int) < (ks.length : Int) := by omega
        have hi0 : (0 : Int) ≤ (i : Int) := by omega
        obtain ⟨g, off, s', r', x, rfl, _, hg, c0, c1, c2, ht⟩ := (HK.below hb) i hlt
        obtain ⟨a3, n3, cap3, rfl⟩ := ht.third
        have hkm : ks[i].sz ≤ m := by have := HKD.out ks[i] (List.getElem_mem hlt); have := HTT.out; omega
        have hk2 : ks[i].sz ≤ 2000 := by have := HKD.out ks[i] (List.getElem_mem hlt); have := HWW.out; omega
        have hus3 : us.length ≤ 3000 := by have := HUL.out; omega
        have HTAKE : Hid (ks.take (i + 1) = ks.take i ++ [ks[i]]) := List.take_succ_eq_append_getElem hlt
        go_wp2_with fail
        go_region_law (first
          | (go_simp; go_at_call 28; go_must ((with_reducible refine (HIH.out ks[i] hkm hk2 _ _ ?_).mono ?_); (exact ht.stay (fun _ _ _ => rfl) (Nat.le_refl _)); rintro e w3 ⟨hb3', t, a5, c5, htr, rfl, hkid, hnd, hlow⟩; have hb3 := below_of_drew hb3'; have hbA := (Below.refl _ _).alloc (Nat.le_refl w3.heap.size) (.cells #[.string t.s, .int .i64 t.r, .slice a5 t.ks.length c5] 30); have hO3 := hO.below hb3; have hO4 := hO3.below hbA; have hTA := (HTW.out.below hb3).below hbA; obtain ⟨a4, c4, z, hap, hTz, hgz⟩ := push_one (U := w3.heap.size) hTA (hkid.keep (fun b hb => hbA.block b (hkid.lt b hb))) (nodup_more hTA.nd hnd (fun b h1 h2 => by have h3 := (HTW.out.low b h1).2.1; have h4 := hlow b h2; have h5 : wr.heap.size ≤ b := h4; omega)) (fun b hb => ⟨by have h4 : wr.heap.size ≤ b := hlow b hb; have := hO.lt; omega, fun e => by have h3 := (HTW.out.block b e).2; have h4 : wr.heap.size ≤ b := hlow b hb; omega⟩) (blk_new w3 (.cells #[.string t.s, .int .i64 t.r, .slice a5 t.ks.length c5] 30) rfl) hus3 (by have := hO4.lt; omega); have hnb : ∀ x, (Value.slice vo us.length co).ownBlock = some x → w.heap.size + 3 ≤ x := fun x hx => (HTW.out.block x hx).1; have hO5 : BoxT z (w.heap.size + 2) (.string s) (.int .i64 r) (.slice vo us.length co) := (hgz.block _ hO4.lt (fun e => by have := hnb _ e.symm; omega)).trans hO4; have hA5 : BoxT z w.heap.size (.string s) (.int .i64 r) (.slice (some ⟨g, off, none⟩) ks.length cap) := (hgz.block _ ((hA.below hb3).below hbA).lt (fun e => by have := hnb _ e.symm; omega)).trans ((hA.below hb3).below hbA); have hZ5 : BoxT z (w.heap.size + 1) (.string ⟨#[]⟩) (.int .i64 0) (.slice none 0 0) := (hgz.block _ ((hZ.below hb3).below hbA).lt (fun e => by have := hnb _ e.symm; omega)).trans ((hZ.below hb3).below hbA); have hbz : Below w.heap.size w z := (hb.trans (hb3.mono hb.size)).trans (((hbA.mono (by have := hb.size; have := hb3.size; omega))).trans ⟨hgz.os, hgz.tape, hgz.output, hgz.size, fun x hx => hgz.block x (by have := hb.size; have := hb3.size; simp; omega) (fun e => by have := hnb _ e.symm; omega)⟩); obtain ⟨l0, l1, l2, _, _, _⟩ := hO3.cells; obtain ⟨k0, k1, k2, _, _, _⟩ := hO4.cells; obtain ⟨m0, m1, m2, mf0, mf1, mf2⟩ := hO5.cells))
          | fail)
        all_goals
          (have hlu : (us ++ [(t.s, t.r, Value.slice a5 t.ks.length c5)]).length = us.length + 1 := by simp
           have R1 : BoxT (z.setCell ⟨w.heap.size + 2, 2, none⟩ (.slice a4 (us.length + 1) c4)) w.heap.size (.string s) (.int .i64 r) (.slice (some ⟨g, off, none⟩) ks.length cap) := (Below.heap_setCell _ _ _ _ (by show w.heap.size ≠ w.heap.size + 2; omega)).trans hA5
           have R2 : BoxT (z.setCell ⟨w.heap.size + 2, 2, none⟩ (.slice a4 (us.length + 1) c4)) (w.heap.size + 1) (.string ⟨#[]⟩) (.int .i64 0) (.slice none 0 0) := (Below.heap_setCell _ _ _ _ (by show w.heap.size + 1 ≠ w.heap.size + 2; omega)).trans hZ5
           have R3 : BoxT (z.setCell ⟨w.heap.size + 2, 2, none⟩ (.slice a4 (us.length + 1) c4)) (w.heap.size + 2) (.string s) (.int .i64 r) (.slice a4 (us ++ [(t.s, t.r, Value.slice a5 t.ks.length c5)]).length c4) := by rw [hlu]; exact thirdBoxT hO5 _
           have R4 : Hid (TreesW (z.setCell ⟨w.heap.size + 2, 2, none⟩ (.slice a4 (us.length + 1) c4)) (w.heap.size + 3) (.slice a4 (us ++ [(t.s, t.r, Value.slice a5 t.ks.length c5)]).length c4) (us ++ [(t.s, t.r, Value.slice a5 t.ks.length c5)]) (ts ++ [t])) := by
             show TreesW _ _ _ _ _
             rw [hlu]
             exact hTz.keep (fun x hx _ => Below.heap_setCell _ _ _ _ (by show x ≠ w.heap.size + 2; omega)) (by simp [World.setCell])
           have R5 : Below w.heap.size w (z.setCell ⟨w.heap.size + 2, 2, none⟩ (.slice a4 (us.length + 1) c4)) := hbz.setCell (by show w.heap.size ≤ w.heap.size + 2; omega) _
           have R6 : Hid ((ts ++ [t]).map OT.tr = ks.take (i + 1)) := by show _ = _; rw [HTAKE.out, List.map_append, HTR.out, List.map_cons, List.map_nil, htr]
           have R7 : (us ++ [(t.s, t.r, Value.slice a5 t.ks.length c5)]).length = i + 1 := by rw [hlu, HUL.out]
           have H1 := Lib.hid R1
           have H2 := Lib.hid R2
           have H3 := Lib.hid R3
           have H7 := Lib.hid R7
           clear R1 R2 R3 R7 hlu hO3 hO4 hO5 hTA hTz hgz hA5 hZ5 hbz hbA hkid hnd hlow htr hnb
           go_wp2_with fail
           go_roundg (ks.length + 1 - (i + 1))
           case measure => have := HG.out; omega
           case rel => exact ⟨i + 1, a4, c4, _, _, rfl, by omega, by go_num, H7.out, R6, H1.out, H2.out, H3.out, R4, R5⟩)
      · have hil : ¬ (i : Int) < (ks.length : Int) := by omega
        obtain rfl : i = ks.length := by omega
        obtain ⟨z0, z1, z2, zf0, zf1, zf2⟩ := hZ.cells
        obtain ⟨f0, f1, f2, _, _, _⟩ := (zeroBoxT hZ (.string s) (.int .i64 r) (.slice vo us.length co)).cells
        obtain ⟨g2, hk1, hk2, hk3⟩ := HTW.out.whole (s := s) (r := r) hs hr
        have HTT2 : Hid (OT.tr (.node g2 s r ts) = .node s r ks) := by show _ = _; rw [OT.tr, HTR.out, List.take_length]
        have hlen : us.length = ts.length := HTW.out.len
        have HLEN := Lib.hid hlen
        clear hlen
        go_wp2_with fail
        refine bodyPost_ret (v := .agg #[.string s, .int .i64 r, .slice vo us.length co]) (by simp [results, Try.results28, go_sem, f0, f1, f2]) rfl ⟨((hb.setCell (Nat.le_succ _) _).setCell (Nat.le_succ _) _).setCell (Nat.le_succ _) _, .node g2 s r ts, vo, co, HTT2.out, by rw [HLEN.out]; rfl, ?_, hk2, fun b hb => by have := hk3 b hb; omega⟩
        rw [show (OT.node g2 s r ts).ks.length = us.length from HLEN.out.symm]
        refine hk1.keep fun b hb => ?_
        have := hk3 b hb
        rw [Below.heap_setCell _ _ _ _ (by show b ≠ w.heap.size + 1; omega), Below.heap_setCell _ _ _ _ (by show b ≠ w.heap.size + 1; omega), Below.heap_setCell _ _ _ _ (by show b ≠ w.heap.size + 1; omega)]
end Go.Proofs.Ytcningdeocmbgaa
