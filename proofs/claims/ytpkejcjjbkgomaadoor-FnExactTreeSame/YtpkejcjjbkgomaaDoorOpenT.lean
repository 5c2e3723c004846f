/- How a tree that came in as an argument lies in memory. -/
import Derived.Test.YtpkejcjjbkgomaaDoorOpenG
import Derived.Test.YtpkejcjjbkgomaaDoorTreB
import Derived.Deep.Slices
namespace Go.Proofs.YtpkejcjjbkgomaaDoor
open Go.ChangeShapes Go.WideShapes Go.ChangeAt Go.RowKit Go.Joins Go.Deep
set_option maxRecDepth 100000
section
variable {H : Type} {enc : TypeId × Value → H} {W : World} {base : Nat} {spare : Nat → Bool} {held : Bool}
theorem open_tree_cells (fuel : Nat) : ∀ {v0 v1 v2 : Value} {x : DataW H × List MemPlace}, DataW.trod enc Tryd.prog W base spare held fuel 24 [v0, v1, v2] = some x → ∃ T, TrIn W 0 (.agg #[v0, v1, v2]) T := by
  induction fuel using Nat.strongRecOn with
  | _ fuel ih =>
    intro v0 v1 v2 x h
    obtain ⟨xs, n, hf, _, _, hxl, hfs⟩ := DataW.trod_struct Tryd.underlying24 h
    match xs, hxl with
    | [y0, y1, y2], _ =>
      have h0 := hfs 0 _ rfl
      have h1 := hfs 1 _ rfl
      have h2 := hfs 2 _ rfl
      have k0 : Tryd.prog.cellsOf 9 = 1 := by kernel_rfl
      have k1 : Tryd.prog.cellsOf 3 = 1 := by kernel_rfl
      have k2 : Tryd.prog.cellsOf 22 = 1 := by kernel_rfl
      have k3 : Tryd.prog.cellsOf 24 = 3 := by kernel_rfl
      simp [k0] at h0
      simp [k1] at h1
      simp [k2] at h2
      obtain ⟨s, e0, _, hs⟩ := DataW.trod_string Tryd.underlying9 h0
      obtain ⟨r, e1, _, hr⟩ := DataW.trod_int Tryd.underlying3 h1
      obtain rfl : v0 = .string s := by simpa using e0
      obtain rfl : v1 = .int .i64 r := by simpa using e1
      rcases DataW.trod_slice Tryd.underlying22 h2 with ⟨hc, _⟩ | ⟨a, len, cap, elems, rest, m, hm, hc, _, _, hl, hcm, hel, hk, _, _⟩
      · obtain rfl : v2 = .slice none 0 0 := by simpa using hc
        exact ⟨_, TrIn.close (ks := []) hs hr (Nat.zero_le _) (Nat.le_refl _) (fun i hi => absurd hi (Nat.not_lt_zero _))⟩
      · obtain rfl : v2 = .slice (some a) len cap := by simpa using hc
        have hsp : 0 < len → a.spot = none := by
          intro h0
          have hb := hk 0 h0
          rw [List.getElem?_eq_getElem (by omega : 0 < elems.length)] at hb
          obtain ⟨cs, hcs, _⟩ := Option.bind_eq_some_iff.1 hb
          rw [k3] at hcs
          obtain ⟨_, hlen, hcell⟩ := World.cells?_some hcs
          match cs, hlen with
          | [u0, u1, u2], _ =>
            have c0 := hcell 0 (by omega)
            simpa [Addr.add] using World.cell?_spot c0
        have each : ∀ i : Nat, ∃ q : ByteArray × Int × Value × Tr, i < len → ∃ g off, a = ⟨g, off, none⟩ ∧ g < W.heap.size ∧ W.cell? ⟨g, off + i * 3, none⟩ = some (.string q.1) ∧ W.cell? ⟨g, off + i * 3 + 1, none⟩ = some (.int .i64 q.2.1) ∧ W.cell? ⟨g, off + i * 3 + 2, none⟩ = some q.2.2.1 ∧ TrIn W 0 (.agg #[.string q.1, .int .i64 q.2.1, q.2.2.1]) q.2.2.2 := by
          intro i
          by_cases hi : i < len
          · have hb := hk i hi
            rw [List.getElem?_eq_getElem (by omega : i < elems.length)] at hb
            obtain ⟨cs, hcs, htr⟩ := Option.bind_eq_some_iff.1 hb
            rw [k3] at hcs
            obtain ⟨_, hlen, hcell⟩ := World.cells?_some hcs
            match cs, hlen with
            | [u0, u1, u2], _ =>
              obtain ⟨T, hT⟩ := ih m (by omega) htr
              have c0 := hcell 0 (by omega)
              have c1 := hcell 1 (by omega)
              have c2 := hcell 2 (by omega)
              rw [add_add] at c0 c1 c2
              obtain ⟨g, off, spot⟩ := a
              have hspot : spot = none := hsp (by omega)
              subst hspot
              rw [add_plain] at c0 c1 c2
              have hT' := hT
              obtain ⟨s', r', ks', a', cap', e', _⟩ := hT'.open
              simp only [Value.agg.injEq, Array.mk.injEq, List.cons.injEq, and_true] at e'
              obtain ⟨rfl, rfl, rfl⟩ := e'
              have d0 : W.cell? ⟨g, off + i * 3, none⟩ = some (.string s') := by simpa using c0
              refine ⟨(s', r', _, T), fun _ => ⟨g, off, rfl, World.block_lt_of_cell? _ _ d0, d0, by simpa [Nat.add_assoc] using c1, by simpa [Nat.add_assoc] using c2, hT⟩⟩
          · exact ⟨(ByteArray.empty, 0, undef, .node ByteArray.empty 0 []), fun h => absurd h hi⟩
        obtain ⟨q, hq⟩ := Classical.axiomOfChoice each
        have hcl := TrIn.close (w := W) (B := 0) (s := s) (r := r) (ks := (List.range len).map fun i => (q i).2.2.2) (a := some a) (cap := cap) hs hr (by simp; omega) (by simpa using hl) (fun i hi => by
          have hil : i < len := by simpa using hi
          obtain ⟨g, off, rfl, hg, c0, c1, c2, hT⟩ := hq i hil
          refine ⟨g, off, (q i).1, (q i).2.1, (q i).2.2.1, rfl, Nat.zero_le _, hg, c0, c1, c2, ?_⟩
          simpa using hT)
        rw [List.length_map, List.length_range] at hcl
        exact ⟨_, hcl⟩
theorem open_tree {r : Reach} {b0 : Nat} {v : Value} {d : DataW H} {p : List MemPlace} (hv : Value.okWide Tryd.prog W r b0 24 v) (h : DataW.Trod enc Tryd.prog W base spare held 24 v d p) : ∃ T, TrIn W 0 v T := by
  obtain ⟨cs, rfl, hsz⟩ := okWide_struct Tryd.underlying24 hv
  obtain ⟨c0, c1, c2, rfl⟩ := array3 (hsz.trans (by kernel_rfl : Tryd.prog.cellsOf 24 = 3))
  obtain ⟨fuel, hf⟩ := h
  exact open_tree_cells fuel hf
end
end Go.Proofs.YtpkejcjjbkgomaaDoor
