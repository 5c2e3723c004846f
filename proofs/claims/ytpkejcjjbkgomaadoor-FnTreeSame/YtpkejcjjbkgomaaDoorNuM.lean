/- Trees that stand in a list without twins: where they stand, and what a walk makes of the list. -/
import Derived.Test.YtpkejcjjbkgomaaDoorYldL
import Derived.Lib.ItoaMem
namespace Go.Proofs.YtpkejcjjbkgomaaDoor
open Go.Lib
set_option maxRecDepth 100000
/-- the number that digits write -/
def valD (l : List UInt8) : Nat := l.foldl (fun a d => a * 10 + (d.toNat - 48)) 0
theorem valD_dec (u : Nat) : valD (decDigits u) = u := by
  induction u using Nat.strongRecOn with
  | _ u ih =>
    by_cases h : u < 10
    · rw [decDigits_one h]
      unfold valD
      simp only [List.foldl_cons, List.foldl_nil, UInt8.toNat_ofNat']
      omega
    · rw [decDigits, dif_neg h]
      have := ih (u / 10) (by omega)
      unfold valD at this ⊢
      rw [List.foldl_append, this]
      simp only [List.foldl_cons, List.foldl_nil, UInt8.toNat_ofNat']
      omega
theorem dec_inj {a b : Nat} (h : decDigits a = decDigits b) : a = b := by
  rw [← valD_dec a, ← valD_dec b, h]
theorem dec_plain (u : Nat) : ∀ d ∈ decDigits u, d ≠ 44 := by
  have base : ∀ x : Nat, x < 10 → UInt8.ofNat (48 + x) ≠ 44 := by
    intro x hx e
    have := congrArg UInt8.toNat e
    simp only [UInt8.toNat_ofNat'] at this
    have h2 : (44 : UInt8).toNat = 44 := rfl
    omega
  induction u using Nat.strongRecOn with
  | _ u ih =>
    intro d hd
    by_cases h : u < 10
    · rw [decDigits_one h, List.mem_singleton] at hd
      subst hd
      exact base u h
    · rw [decDigits, dif_neg h, List.mem_append, List.mem_singleton] at hd
      rcases hd with hd | rfl
      · exact ih _ (by omega) d hd
      · exact base _ (by omega)
theorem cut_sep {c : UInt8} : ∀ {l l' r r' : List UInt8}, (∀ x ∈ l, x ≠ c) → (∀ x ∈ l', x ≠ c) → l ++ c :: r = l' ++ c :: r' → l = l' ∧ r = r'
  | [], [], _, _, _, _, h => by simpa using h
  | [], x :: l', _, _, _, h2, h => by
    simp only [List.nil_append, List.cons_append, List.cons.injEq] at h
    exact absurd h.1.symm (h2 x (by simp))
  | x :: l, [], _, _, h1, _, h => by
    simp only [List.nil_append, List.cons_append, List.cons.injEq] at h
    exact absurd h.1 (h1 x (by simp))
  | x :: l, y :: l', _, _, h1, h2, h => by
    simp only [List.cons_append, List.cons.injEq] at h
    obtain ⟨e1, e2⟩ := cut_sep (fun z hz => h1 z (List.mem_cons_of_mem _ hz)) (fun z hz => h2 z (List.mem_cons_of_mem _ hz)) h.2
    exact ⟨by rw [h.1, e1], e2⟩
/-- indices as the program writes them -/
def encN (n : Nat) : List UInt8 := decDigits n ++ [44]
def encK (l : List Nat) : List UInt8 := l.flatMap encN
theorem encK_inj : ∀ {a b : List Nat}, encK a = encK b → a = b
  | [], [], _ => rfl
  | [], y :: b, h => by simp [encK, encN] at h
  | x :: a, [], h => by simp [encK, encN] at h
  | x :: a, y :: b, h => by
    simp only [encK, encN, List.flatMap_cons, List.append_assoc, List.cons_append, List.nil_append] at h
    obtain ⟨e1, e2⟩ := cut_sep (dec_plain x) (dec_plain y) h
    rw [dec_inj e1, encK_inj (a := a) (b := b) e2]
/-- js say where the trees ds stand in L -/
def IxAt (L : List Tr) (js : List Nat) (ds : List Tr) : Prop := js.map (fun j => L[j]?) = ds.map some
theorem IxAt.nil (L : List Tr) : IxAt L [] [] := rfl
theorem IxAt.len {L : List Tr} {js : List Nat} {ds : List Tr} (h : IxAt L js ds) : js.length = ds.length := by
  have := congrArg List.length h
  simpa using this
theorem IxAt.cons {L : List Tr} {j : Nat} {d : Tr} {js : List Nat} {ds : List Tr} : IxAt L (j :: js) (d :: ds) ↔ L[j]? = some d ∧ IxAt L js ds := by
  unfold IxAt
  simp
theorem IxAt.mono {L : List Tr} (X : List Tr) : ∀ {js : List Nat} {ds : List Tr}, IxAt L js ds → IxAt (L ++ X) js ds
  | [], [], _ => rfl
  | [], _ :: _, h => by simp [IxAt] at h
  | _ :: _, [], h => by simp [IxAt] at h
  | j :: js, d :: ds, h => by
    rw [IxAt.cons] at h ⊢
    have hlt := (List.getElem?_eq_some_iff.1 h.1).1
    exact ⟨by rw [List.getElem?_append_left hlt]; exact h.1, h.2.mono X⟩
theorem IxAt.inj {L : List Tr} (hn : L.Nodup) : ∀ {a b : List Nat} {ds : List Tr}, IxAt L a ds → IxAt L b ds → a = b
  | [], [], _, _, _ => rfl
  | [], _ :: _, ds, h, k => by have := h.len.trans k.len.symm; simp at this
  | _ :: _, [], ds, h, k => by have := h.len.trans k.len.symm; simp at this
  | x :: a, y :: b, [], h, _ => by simp [IxAt] at h
  | x :: a, y :: b, d :: ds, h, k => by
    rw [IxAt.cons] at h k
    obtain ⟨h1, h2⟩ := List.getElem?_eq_some_iff.1 h.1
    obtain ⟨k1, k2⟩ := List.getElem?_eq_some_iff.1 k.1
    rw [(List.getElem_inj hn).1 (h2.trans k2.symm), IxAt.inj hn h.2 k.2]
theorem some_map_inj : ∀ {a b : List Tr}, a.map some = b.map some → a = b
  | [], [], _ => rfl
  | [], _ :: _, h => by simp at h
  | _ :: _, [], h => by simp at h
  | x :: a, y :: b, h => by
    simp only [List.map_cons, List.cons.injEq, Option.some.injEq] at h
    rw [h.1, some_map_inj h.2]
theorem IxAt.det {L : List Tr} {js : List Nat} {ds es : List Tr} (h : IxAt L js ds) (k : IxAt L js es) : ds = es := some_map_inj (h.symm.trans k)
theorem IxAt.lt {L : List Tr} : ∀ {js : List Nat} {ds : List Tr}, IxAt L js ds → ∀ j ∈ js, j < L.length
  | [], _, _, _, h => by cases h
  | _ :: _, [], h, _, _ => by simp [IxAt] at h
  | x :: js, d :: ds, h, j, hj => by
    rw [IxAt.cons] at h
    rcases List.mem_cons.1 hj with rfl | hj
    · exact (List.getElem?_eq_some_iff.1 h.1).1
    · exact h.2.lt j hj
theorem IxAt.at {L : List Tr} : ∀ {js : List Nat} {ds : List Tr}, IxAt L js ds → ∀ i (h1 : i < js.length) (h2 : i < ds.length), L[js[i]]? = some ds[i]
  | [], _, _, _, h1, _ => absurd h1 (by simp)
  | _ :: _, [], h, _, _, _ => by simp [IxAt] at h
  | x :: js, d :: ds, h, 0, _, _ => (IxAt.cons.1 h).1
  | x :: js, d :: ds, h, i + 1, h1, h2 => (IxAt.cons.1 h).2.at i (by simpa using h1) (by simpa using h2)
theorem IxAt.two {L : List Tr} : ∀ {a : List Tr} {js : List Nat} {b : List Tr}, IxAt L js (a ++ b) → IxAt L (js.take a.length) a ∧ IxAt L (js.drop a.length) b
  | [], js, b, h => by simp at h ⊢; exact ⟨.nil L, h⟩
  | x :: a, [], b, h => by simp [IxAt] at h
  | x :: a, j :: js, b, h => by
    rw [List.cons_append, IxAt.cons] at h
    obtain ⟨h1, h2⟩ := IxAt.two h.2
    simp only [List.length_cons, List.take_succ_cons, List.drop_succ_cons]
    exact ⟨IxAt.cons.2 ⟨h.1, h1⟩, h2⟩
theorem IxAt.snoc {L : List Tr} : ∀ {js : List Nat} {ds : List Tr} {j : Nat} {d : Tr}, IxAt L js ds → L[j]? = some d → IxAt L (js ++ [j]) (ds ++ [d])
  | [], [], _, _, _, h => IxAt.cons.2 ⟨h, .nil L⟩
  | [], _ :: _, _, _, h, _ => by simp [IxAt] at h
  | _ :: _, [], _, _, h, _ => by simp [IxAt] at h
  | x :: js, e :: ds, j, d, h, k => by
    rw [IxAt.cons] at h
    exact IxAt.cons.2 ⟨h.1, h.2.snoc k⟩
/-- where a tree stands among others without twins -/
theorem place_one {L : List Tr} (hn : L.Nodup) {i j : Nat} {t : Tr} (hi : L[i]? = some t) (hj : L[j]? = some t) : i = j := by
  obtain ⟨h1, h2⟩ := List.getElem?_eq_some_iff.1 hi
  obtain ⟨k1, k2⟩ := List.getElem?_eq_some_iff.1 hj
  exact (List.getElem_inj hn).1 (h2.trans k2.symm)
theorem place_more {L : List Tr} (X : List Tr) {i : Nat} {t : Tr} (hi : L[i]? = some t) : (L ++ X)[i]? = some t := by
  rw [List.getElem?_append_left (List.getElem?_eq_some_iff.1 hi).1]; exact hi
open Classical in
noncomputable def addL (L : List Tr) (t : Tr) : List Tr := if t ∈ L then L else L ++ [t]
theorem addL_in {L : List Tr} {t : Tr} (h : t ∈ L) : addL L t = L := if_pos h
theorem addL_out {L : List Tr} {t : Tr} (h : t ∉ L) : addL L t = L ++ [t] := if_neg h
theorem addL_nodup {L : List Tr} (hn : L.Nodup) (t : Tr) : (addL L t).Nodup := by
  by_cases h : t ∈ L
  · rw [addL_in h]; exact hn
  · rw [addL_out h]
    exact List.nodup_append.2 ⟨hn, by simp, by
      intro a ha b hb
      rw [List.mem_singleton] at hb
      rintro rfl
      rw [hb] at ha
      exact h ha⟩
theorem addL_more (L : List Tr) (t : Tr) : ∃ X, addL L t = L ++ X := by
  by_cases h : t ∈ L
  · exact ⟨[], by rw [addL_in h]; simp⟩
  · exact ⟨[t], addL_out h⟩
theorem addL_len (L : List Tr) (t : Tr) : (addL L t).length ≤ L.length + 1 := by
  by_cases h : t ∈ L
  · rw [addL_in h]; omega
  · rw [addL_out h]; simp
theorem addL_mem (L : List Tr) (t : Tr) : t ∈ addL L t := by
  by_cases h : t ∈ L
  · rw [addL_in h]; exact h
  · rw [addL_out h]; simp
/-- what is held: the trees so far, and of what is whole and no kid yet, the trees; N bounds the trees -/
def Runs (N : Nat) : List (PT × Bool) → List Tr × List Tr → List Tr × List Tr → Prop
  | [], s, f => s = f
  | (_, true) :: es, s, f => Runs N es s f
  | (t, false) :: es, s, f => (s.1.length < N ∧ s.2.length ≤ N) ∧ t.sz ≤ 2000000 ∧ s.1.Nodup ∧ ∃ ds, s.2 = ds ++ t.ks.map PT.tr ∧ Runs N es (addL s.1 t.tr, ds ++ [t.tr]) f
theorem Runs.app {N : Nat} : ∀ {a b : List (PT × Bool)} {s m f : List Tr × List Tr}, Runs N a s m → Runs N b m f → Runs N (a ++ b) s f
  | [], b, s, m, f, h, k => by rw [Runs] at h; rw [h]; exact k
  | (t, true) :: a, b, s, m, f, h, k => by rw [Runs] at h; rw [List.cons_append, Runs]; exact Runs.app h k
  | (t, false) :: a, b, s, m, f, h, k => by
    rw [Runs] at h
    rw [List.cons_append, Runs]
    obtain ⟨h1, h2, h3, ds, h4, h5⟩ := h
    exact ⟨h1, h2, h3, ds, h4, Runs.app h5 k⟩
theorem kids_evs : ∀ l : List PT, l.length ≤ (l.flatMap PT.evs).length
  | [] => by simp
  | t :: l => by
    have := kids_evs l
    rw [List.flatMap_cons, List.length_append, t.evs_eq]
    simp only [List.length_cons]
    omega
def RunOk (N : Nat) (t : PT) : Prop := ∀ (L ds : List Tr), L.Nodup → L.length + t.evs.length ≤ N → ds.length + t.evs.length ≤ N → t.sz ≤ 2000000 → ∃ X, Runs N t.evs (L, ds) (L ++ X, ds ++ [t.tr]) ∧ (L ++ X).Nodup ∧ X.length ≤ t.evs.length ∧ t.tr ∈ L ++ X
theorem run_kids {N : Nat} : ∀ (l : List PT), (∀ k ∈ l, RunOk N k) → ∀ (L ds : List Tr), L.Nodup → L.length + (l.flatMap PT.evs).length ≤ N → ds.length + (l.flatMap PT.evs).length ≤ N → (∀ k ∈ l, k.sz ≤ 2000000) → ∃ X, Runs N (l.flatMap PT.evs) (L, ds) (L ++ X, ds ++ l.map PT.tr) ∧ (L ++ X).Nodup ∧ X.length ≤ (l.flatMap PT.evs).length
  | [], _, L, ds, hn, _, _, _ => ⟨[], by simp [Runs], by simpa using hn, by simp⟩
  | k :: l, hk, L, ds, hn, hl, hd, hz => by
    rw [List.flatMap_cons, List.length_append] at hl hd
    have hk1 : 1 ≤ k.evs.length := by rw [k.evs_eq]; simp
    obtain ⟨X, r1, n1, l1, _⟩ := hk k (by simp) L ds hn (by omega) (by omega) (hz k (by simp))
    obtain ⟨Y, r2, n2, l2⟩ := run_kids l (fun x hx => hk x (List.mem_cons_of_mem _ hx)) (L ++ X) (ds ++ [k.tr]) n1 (by rw [List.length_append]; omega) (by rw [List.length_append, List.length_singleton]; omega) (fun x hx => hz x (List.mem_cons_of_mem _ hx))
    rw [List.append_assoc] at r2 n2
    refine ⟨X ++ Y, ?_, n2, ?_⟩
    · rw [List.flatMap_cons]
      have := Runs.app r1 r2
      simpa using this
    · rw [List.flatMap_cons, List.length_append, List.length_append]; omega
theorem runOk_any {N : Nat} (m : Nat) : ∀ t : PT, t.sz ≤ m → RunOk N t := by
  induction m with
  | zero => intro t ht; have := t.sz_pos; omega
  | succ m ih =>
    intro t ht L ds hn hl hd hz
    have hk : ∀ k ∈ t.ks, RunOk N k := fun k hk => ih k (by have := PT.sz_kid hk; omega)
    have hke := kids_evs t.ks
    rw [t.evs_eq, List.length_cons, List.length_append, List.length_cons, List.length_nil] at hl hd
    obtain ⟨X, r1, n1, l1⟩ := run_kids t.ks hk L ds hn (by omega) (by omega) (fun k hk => by have := PT.sz_kid hk; omega)
    obtain ⟨Y, hY⟩ := addL_more (L ++ X) t.tr
    have hlen := addL_len (L ++ X) t.tr
    have hmem := addL_mem (L ++ X) t.tr
    have hnd := addL_nodup n1 t.tr
    rw [hY, List.append_assoc] at hmem hnd
    rw [hY] at hlen
    simp only [List.length_append] at hlen
    refine ⟨X ++ Y, ?_, hnd, ?_, hmem⟩
    · rw [t.evs_eq, Runs]
      refine Runs.app r1 ?_
      rw [Runs]
      refine ⟨⟨by simp only [List.length_append]; omega, by simp only [List.length_append, List.length_map]; omega⟩, hz, n1, ds, rfl, ?_⟩
      rw [Runs, hY, List.append_assoc]
    · rw [t.evs_eq, List.length_cons, List.length_append, List.length_append, List.length_cons, List.length_nil]; omega
end Go.Proofs.YtpkejcjjbkgomaaDoor
