/- What draws: contracts of the model's reader of codes: pick, of, num. They draw something in their bounds; which, is not said. -/
import Derived.Test.YtpkejcjjbkgomaaDoorLawB
namespace Go.Proofs.YtpkejcjjbkgomaaDoor
open Go.ChangeShapes Go.WideShapes Go.ChangeAt Go.RowKit
/-- of what was there, only block R may have turned -/
structure Only (R : Nat) (w w' : World) : Prop where
  os : w'.os = w.os
  tape : w'.tape = w.tape
  output : w'.output = w.output
  size : w.heap.size ≤ w'.heap.size
  block : ∀ k, k < w.heap.size → k ≠ R → w'.heap[k]? = w.heap[k]?
theorem Only.refl (R : Nat) (w : World) : Only R w w := ⟨rfl, rfl, rfl, Nat.le_refl _, fun _ _ _ => rfl⟩
theorem Only.trans {R : Nat} {a b c : World} (h : Only R a b) (k : Only R b c) : Only R a c :=
  ⟨k.os.trans h.os, k.tape.trans h.tape, k.output.trans h.output, Nat.le_trans h.size k.size, fun i hi hR => (k.block i (Nat.lt_of_lt_of_le hi h.size) hR).trans (h.block i hi hR)⟩
theorem Only.of_below {R : Nat} {w w' : World} (h : Below w.heap.size w w') : Only R w w' := ⟨h.os, h.tape, h.output, h.size, fun k hk _ => h.block k hk⟩
theorem Only.below {R : Nat} {w w' : World} (h : Only R w w') (B : Nat) (hB : B ≤ R) (hs : B ≤ w.heap.size) : Below B w w' := ⟨h.os, h.tape, h.output, h.size, fun k hk => h.block k (by omega) (by omega)⟩
theorem Only.cell {R : Nat} {w w' : World} (h : Only R w w') {p : Addr} (hp : p.block < w.heap.size) (hR : p.block ≠ R) : w'.cell? p = w.cell? p := World.cell?_of_block (w := w) (h.block p.block hp hR)
/-- the reader in block R: a code of at most 2000 bytes, at most k bytes read -/
def Rdk (w : World) (R k : Nat) : Prop := ∃ (a : Option Addr) (n cap p : Nat), w.heap[R]? = some (.cells #[.slice a n cap, .int .i64 (p : Int)] 154) ∧ n ≤ 2000 ∧ p ≤ k ∧
  ∀ i, i < n → ∃ b off, ∃ x : Int, a = some ⟨b, off, none⟩ ∧ b < R ∧ w.cell? ⟨b, off + i, none⟩ = some (.int .u8 x) ∧ 0 ≤ x ∧ x ≤ 255
theorem Rdk.lt {w : World} {R k : Nat} (h : Rdk w R k) : R < w.heap.size := by
  obtain ⟨_, _, _, _, h, _⟩ := h
  exact (Array.getElem?_eq_some_iff.1 h).1
theorem Rdk.below {w w' : World} {R k : Nat} (h : Rdk w R k) (hb : Below w.heap.size w w') : Rdk w' R k := by
  have hlt := h.lt
  obtain ⟨a, n, cap, p, h1, h2, h3, h4⟩ := h
  refine ⟨a, n, cap, p, by rw [hb.block R hlt]; exact h1, h2, h3, fun i hi => ?_⟩
  obtain ⟨b, off, x, e, hbl, hc, hx⟩ := h4 i hi
  exact ⟨b, off, x, e, hbl, by rw [hb.cell (p := ⟨b, _, none⟩) (Nat.lt_trans hbl hlt)]; exact hc, hx⟩
theorem Rdk.mono {w : World} {R k k' : Nat} (h : Rdk w R k) (hk : k ≤ k') : Rdk w R k' := by
  obtain ⟨a, n, cap, p, h1, h2, h3, h4⟩ := h
  exact ⟨a, n, cap, p, h1, h2, Nat.le_trans h3 hk, h4⟩
def Drawn (P : Int → Prop) (R k : Nat) (w : World) (e : Ending) (w' : World) : Prop := ∃ v : Int, e = .returned (.int .i64 v) ∧ P v ∧ Rdk w' R k ∧ Only R w w'

theorem rd_step {w : World} {R k : Nat} {a : Option Addr} {m cap p : Nat} (hR : w.heap[R]? = some (.cells #[.slice a m cap, .int .i64 (p : Int)] 154)) (hm : m ≤ 2000) (hp : p ≤ k)
    (hc : ∀ i, i < m → ∃ b off, ∃ x : Int, a = some ⟨b, off, none⟩ ∧ b < R ∧ w.cell? ⟨b, off + i, none⟩ = some (.int .u8 x) ∧ 0 ≤ x ∧ x ≤ 255) :
    Rdk (w.setCell ⟨R, 1, none⟩ (.int .i64 ((p : Int) + 1))) R (k + 1) ∧ Only R w (w.setCell ⟨R, 1, none⟩ (.int .i64 ((p : Int) + 1))) ∧
      (w.setCell ⟨R, 1, none⟩ (.int .i64 ((p : Int) + 1))).cell? ⟨R, 0, none⟩ = some (.slice a m cap) ∧ (w.setCell ⟨R, 1, none⟩ (.int .i64 ((p : Int) + 1))).cell? ⟨R, 1, none⟩ = some (.int .i64 ((p : Int) + 1)) ∧
      ∀ i, i < m → ∃ b off, ∃ x : Int, a = some ⟨b, off, none⟩ ∧ (w.setCell ⟨R, 1, none⟩ (.int .i64 ((p : Int) + 1))).cell? ⟨b, off + i, none⟩ = some (.int .u8 x) ∧ 0 ≤ x ∧ x ≤ 255 := by
  have hh : (w.setCell ⟨R, 1, none⟩ (.int .i64 ((p : Int) + 1))).heap[R]? = some (.cells #[.slice a m cap, .int .i64 ((p + 1 : Nat) : Int)] 154) := by
    simp [World.setCell, Array.getElem?_modify, hR]
  have ho : Only R w (w.setCell ⟨R, 1, none⟩ (.int .i64 ((p : Int) + 1))) := ⟨rfl, rfl, rfl, by simp [World.setCell], fun j _ hj => Below.heap_setCell _ _ _ _ hj⟩
  have hcell : ∀ i, i < m → ∃ b off, ∃ x : Int, a = some ⟨b, off, none⟩ ∧ b < R ∧ (w.setCell ⟨R, 1, none⟩ (.int .i64 ((p : Int) + 1))).cell? ⟨b, off + i, none⟩ = some (.int .u8 x) ∧ 0 ≤ x ∧ x ≤ 255 := fun i hi => by
    obtain ⟨b, off, x, e, h1, h3, h4⟩ := hc i hi
    exact ⟨b, off, x, e, h1, by rw [ho.cell (p := ⟨b, _, none⟩) (Nat.lt_trans h1 (Array.getElem?_eq_some_iff.1 hR).1) (Nat.ne_of_lt h1)]; exact h3, h4⟩
  refine ⟨⟨a, m, cap, p + 1, hh, hm, by omega, fun i hi => ?_⟩, ho, ?_, ?_, fun i hi => ?_⟩
  · obtain ⟨b, off, x, e, h1, h3, h4⟩ := hcell i hi
    exact ⟨b, off, x, e, h1, h3, h4⟩
  · rw [cell_of_block hh 0]; rfl
  · rw [cell_of_block hh 1]; rfl
  · obtain ⟨b, off, x, e, _, h3, h4⟩ := hcell i hi
    exact ⟨b, off, x, e, h3, h4⟩

theorem xor_nonneg (a b : Nat) (ha : a < 2 ^ 62) (hb : b < 2 ^ 62) : 0 ≤ bits .xor .i64 (a : Int) (b : Int) := by
  have hx : a ^^^ b < 2 ^ 62 := Nat.xor_lt_two_pow ha hb
  have h1 : (BitVec.ofInt 64 (a : Int)).toNat = a := by
    rw [BitVec.ofInt_natCast, BitVec.toNat_ofNat]; exact Nat.mod_eq_of_lt (by omega)
  have h2 : (BitVec.ofInt 64 (b : Int)).toNat = b := by
    rw [BitVec.ofInt_natCast, BitVec.toNat_ofNat]; exact Nat.mod_eq_of_lt (by omega)
  have h3 : bits .xor .i64 (a : Int) (b : Int) = IntKind.i64.wrap ((BitVec.ofInt 64 (a : Int) ^^^ BitVec.ofInt 64 (b : Int)).toNat : Int) := rfl
  rw [h3, BitVec.toNat_xor, h1, h2, IntWalk.i64_in _ (by omega)]
  exact Int.natCast_nonneg _
/-- what pick tells of a mixture is in its bounds -/
theorem pick_mix (x y : Int) (p m : Nat) (N : Int) (hx0 : 0 ≤ x) (hx1 : x ≤ 255) (hy0 : 0 ≤ y) (hy1 : y ≤ 255) (hp : p ≤ 1000000) (hN : 0 < N) :
    0 ≤ (bits .xor .i64 (wrap64 (x * 131 + y * 1117 + (p : Int) * 29 + wrap64 (wrap64 ((p : Int) / (m : Int)) * 53))) (wrap64 ((wrap64 (x * 131 + y * 1117 + (p : Int) * 29 + wrap64 (wrap64 ((p : Int) / (m : Int)) * 53))).tdiv 64))).tmod N ∧
    (bits .xor .i64 (wrap64 (x * 131 + y * 1117 + (p : Int) * 29 + wrap64 (wrap64 ((p : Int) / (m : Int)) * 53))) (wrap64 ((wrap64 (x * 131 + y * 1117 + (p : Int) * 29 + wrap64 (wrap64 ((p : Int) / (m : Int)) * 53))).tdiv 64))).tmod N < N := by
  have hd : 0 ≤ (p : Int) / (m : Int) ∧ (p : Int) / (m : Int) ≤ (p : Int) := ⟨Int.ediv_nonneg (by omega) (by omega), Int.ediv_le_self _ (by omega)⟩
  generalize (p : Int) / (m : Int) = d at *
  rw [IntWalk.wrap64_in d (by omega), IntWalk.wrap64_in (d * 53) (by omega), IntWalk.wrap64_in (x * 131 + y * 1117 + (p : Int) * 29 + d * 53) (by omega)]
  obtain ⟨Z, hZ⟩ : ∃ Z : Nat, x * 131 + y * 1117 + (p : Int) * 29 + d * 53 = (Z : Int) := ⟨(x * 131 + y * 1117 + (p : Int) * 29 + d * 53).toNat, by omega⟩
  have hZ1 : Z < 2 ^ 62 := by omega
  rw [hZ, show (Z : Int).tdiv 64 = ((Z / 64 : Nat) : Int) from rfl, IntWalk.wrap64_in _ (by omega)]
  have h := xor_nonneg Z (Z / 64) hZ1 (by omega)
  generalize bits .xor .i64 (Z : Int) ((Z / 64 : Nat) : Int) = V at *
  rw [Int.tmod_eq_emod_of_nonneg h]
  exact ⟨Int.emod_nonneg _ (by omega), Int.emod_lt_of_pos _ hN⟩

set_option maxHeartbeats 3200000 in
theorem pick_any (R k : Nat) (n : Int) (w : World) (H : Rdk w R k) (hk : k ≤ 1000000) (hn : n ≤ 1000000) (hn0 : 0 ≤ n) :
    Calls Tryd.prog 66 #[.pointer (some ⟨R, 0, none⟩), .int .i64 n] w (Drawn (fun v => 0 ≤ v ∧ (0 < n → v < n) ∧ (n = 0 → v = 0)) R (k + 1) w) := by
  obtain ⟨a, m, cap, p, hR, hm, hp, hc⟩ := H
  have d0 := cell_of_block hR 0
  have d1 := cell_of_block hR 1
  have f1 := frozen_of_block hR 1
  simp at d0 d1
  obtain ⟨hrd, ho, e0, e1, eb⟩ := rd_step hR hm hp hc
  clear hR hc
  by_cases c1 : n < 1
  · go_enter Tryd.func66, Tryd.ntmps66
    go_wp2
    go_ret
    exact ⟨0, rfl, ⟨by omega, by omega, fun _ => rfl⟩, hrd, ho⟩
  · by_cases c2 : m = 0
    · subst c2
      go_enter Tryd.func66, Tryd.ntmps66
      go_wp2
      go_ret
      exact ⟨0, rfl, ⟨by omega, by omega, fun _ => rfl⟩, hrd, ho⟩
    · have c2' : ((m : Int) == 0) = false := by simpa using c2
      by_cases c3 : p < m
      · obtain ⟨b, off, x, e, hx, hx0, hx1⟩ := eb p c3
        subst e
        have c3' : (p : Int) < (m : Int) := by omega
        go_enter Tryd.func66, Tryd.ntmps66
        go_wp2
        go_ret
        exact ⟨x % n, rfl, ⟨Int.emod_nonneg _ (by omega), fun _ => Int.emod_lt_of_pos _ (by omega), by omega⟩, hrd, ho⟩
      · have c3' : ¬ (p : Int) < (m : Int) := by omega
        have i1 : p % m < m := Nat.mod_lt _ (by omega)
        have i2 : (p * 7 + 3) % m < m := Nat.mod_lt _ (by omega)
        obtain ⟨b, off, x, e, hx, hx0, hx1⟩ := eb (p % m) i1
        obtain ⟨b', off', y, e', hy, hy0, hy1⟩ := eb ((p * 7 + 3) % m) i2
        subst e
        simp only [Option.some.injEq, Addr.mk.injEq] at e'
        obtain ⟨rfl, rfl, _⟩ := e'
        have hq : p / m ≤ p := Nat.div_le_self _ _
        have t1 : (p : Int).tmod (m : Int) = ((p % m : Nat) : Int) := rfl
        have t2 : ((p : Int) * 7 + 3).tmod (m : Int) = (((p * 7 + 3) % m : Nat) : Int) := by
          rw [show (p : Int) * 7 + 3 = ((p * 7 + 3 : Nat) : Int) from by omega]; rfl
        have q2 : (0 : Int) ≤ ((p / m : Nat) : Int) ∧ ((p / m : Nat) : Int) ≤ (p : Int) := ⟨Int.natCast_nonneg _, Int.ofNat_le.2 hq⟩
        have q1 : IntKind.i64.wrap ((p : Int).tdiv (m : Int)) = ((p / m : Nat) : Int) := by
          rw [show (p : Int).tdiv (m : Int) = ((p / m : Nat) : Int) from rfl]; exact IntWalk.i64_in _ (by omega)
        generalize p % m = j1 at *
        generalize (p * 7 + 3) % m = j2 at *
        generalize p / m = q at *
        have b1 : (j1 : Int) < (m : Int) := by omega
        have b2 : (j2 : Int) < (m : Int) := by omega
        have w1 : IntKind.i64.wrap ((p : Int) * 7) = (p : Int) * 7 := IntWalk.i64_in _ (by omega)
        have w2 : IntKind.i64.wrap ((p : Int) * 7 + 3) = (p : Int) * 7 + 3 := IntWalk.i64_in _ (by omega)
        have w3 : IntKind.i64.wrap (x * 131) = x * 131 := IntWalk.i64_in _ (by omega)
        have w4 : IntKind.i64.wrap (y * 1117) = y * 1117 := IntWalk.i64_in _ (by omega)
        have w5 : IntKind.i64.wrap (x * 131 + y * 1117) = x * 131 + y * 1117 := IntWalk.i64_in _ (by omega)
        have w6 : IntKind.i64.wrap ((p : Int) * 29) = (p : Int) * 29 := IntWalk.i64_in _ (by omega)
        have w7 : IntKind.i64.wrap (x * 131 + y * 1117 + (p : Int) * 29) = x * 131 + y * 1117 + (p : Int) * 29 := IntWalk.i64_in _ (by omega)
        have w8 : IntKind.i64.wrap ((q : Int) * 53) = (q : Int) * 53 := IntWalk.i64_in _ (by omega)
        have w9 : IntKind.i64.wrap (x * 131 + y * 1117 + (p : Int) * 29 + (q : Int) * 53) = x * 131 + y * 1117 + (p : Int) * 29 + (q : Int) * 53 := IntWalk.i64_in _ (by omega)
        have hz0 : 0 ≤ x * 131 + y * 1117 + (p : Int) * 29 + (q : Int) * 53 := by omega
        have hz1 : x * 131 + y * 1117 + (p : Int) * 29 + (q : Int) * 53 ≤ 1000000000 := by omega
        go_enter Tryd.func66, Tryd.ntmps66
        go_wp2
        go_quiet (fail)
        clear w1 w2 w3 w4 w5 w6 w7 w8 w9 t1 t2 q1
        go_wp2
        go_ret
        have hmix := pick_mix x y p m n hx0 hx1 hy0 hy1 (by omega) (by omega)
        exact ⟨_, rfl, ⟨hmix.1, fun _ => hmix.2, by omega⟩, hrd.below ⟨rfl, rfl, rfl, Nat.le_refl _, fun _ _ => rfl⟩, ho.os, ho.tape, ho.output, ho.size, ho.block⟩
end Go.Proofs.YtpkejcjjbkgomaaDoor
