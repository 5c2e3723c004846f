/- The contract of the program's GramText. -/
import Derived.Test.YtpkejcjjbkgomaaGreatDoorTextA
namespace Go.Proofs.YtpkejcjjbkgomaaGreatDoor
open Go.ChangeShapes Go.WideShapes Go.ChangeAt Go.RowKit
set_option maxRecDepth 100000
/-- the builder in block b, made since B, holds these bytes -/
def Builds (B b : Nat) (l : List UInt8) (w : World) : Prop := Lib.IsBuilder 70 5 B b (Lib.byteCells l) w
theorem Builds.alloc {B b : Nat} {l : List UInt8} {w : World} (h : Builds B b l w) (o : Obj) : Builds B b l (w.alloc o) := by
  rcases h with h | h
  · have hlt := h.lt
    obtain ⟨h1, v, h2, h3, h4⟩ := h
    exact .inl ⟨h1, v, by rw [blk_old _ _ hlt]; exact h2, h3.alloc _, h4⟩
  · have hlt := h.lt
    obtain ⟨h1, v, h2, h3, h4⟩ := h
    exact .inr ⟨h1, v, by rw [blk_old _ _ hlt]; exact h2, h3.alloc _, h4⟩
theorem write_any (B b : Nat) (l : List UInt8) (m : List UInt8) (w : World) (h : Builds B b l w) (hlen : l.length + m.length ≤ 1048576) (hB : B ≤ w.heap.size) :
    Calls Tryz.prog 36 #[.pointer (some ⟨b, 0, none⟩), .string (bytesOf m)] w fun e w' => e = .returned (.tuple #[.int .i64 (m.length : Nat), .nilIface]) ∧ Builds B b (l ++ m) w' ∧ Below B w w' :=
  (writeString_any B b _ (bytesOf m) w h (by rw [Lib.byteCells_length, bytesOf_size]; omega) hB).mono fun e w' ⟨he, hb, hbel⟩ =>
    ⟨by rw [he, bytesOf_size], .inr (by rw [Lib.byteCells_append]; exact hb), hbel⟩
theorem ruleText_cat (r : RuleT) : cat (cat (cat r.1.data.toList (⟨#[62]⟩ : ByteArray)) r.2) (⟨#[10]⟩ : ByteArray) = ruleTextL r := by simp [cat, ruleTextL]

set_option maxHeartbeats 1600000 in
theorem gramText_any (st : ByteArray) (a : Option Addr) (cap : Nat) (rs : List RuleT) (w : World) (H : RulesAt w a rs) (hcap : rs.length ≤ cap) :
    Calls Tryz.prog 117 #[.agg #[.string st, .slice a rs.length cap]] w fun e w' => e = .returned (.string (bytesOf (gramTextL st rs))) ∧ Below w.heap.size w w' := by
  have hbw := (Below.refl w.heap.size w).alloc (Nat.le_refl _) (.cells #[.string st, .slice a rs.length cap] 25)
  cases hok : gramOkB st rs with
  | false =>
    go_enter Tryz.func117, Tryz.ntmps117
    go_wp2_with (go_at_call 14; refine (gramOk_any _ _ _ rs _ (H.below hbw (Nat.le_refl _)) hcap).mono ?_; rintro e w' ⟨rfl, hb'⟩)
    go_ret
    exact ⟨ret_string (by simp [gramTextL, hok, bytesOf]), hbw.trans (hb'.mono (by simp))⟩
  | true =>
    have hn := H.1
    unfold maxLen at hn
    go_enter Tryz.func117, Tryz.ntmps117
    go_wp2_with fail
    refine (gramOk_any _ _ _ rs _ (H.below hbw (Nat.le_refl _)) hcap).mono ?_
    rintro e w2 ⟨rfl, hb2⟩
    have k0 : w2.cell? ⟨w.heap.size, 0, none⟩ = some (.string st) := by rw [hb2.cell (p := ⟨w.heap.size, 0, none⟩) (by simp)]; simp
    have k1 : w2.cell? ⟨w.heap.size, 1, none⟩ = some (.slice a rs.length cap) := by rw [hb2.cell (p := ⟨w.heap.size, 1, none⟩) (by simp)]; simp
    have c2 : Below w.heap.size w w2 := hbw.trans (hb2.mono (by simp))
    have s2 : w.heap.size < w2.heap.size := by have := hb2.size; simp at this; omega
    have H2 := H.below c2 (Nat.le_refl _)
    have HOK := Lib.hid hok
    obtain ⟨f1, f2, f3⟩ := gramOk_facts hok
    have hadd : ∀ w, (Op.stringOp .add st (⟨#[10]⟩ : ByteArray)).run Tryz.prog w = .ok (.string (bytesOf (textTo st rs 0))) w := fun w => by
      rw [← textTo_zero]; exact run_string_add_sum w _ _ (by rw [one_size]; omega)
    have F3 := Lib.hid f3
    clear hb2 hbw f1 f3
    go_wp2_with fail
    have hB0 : Builds w2.heap.size w2.heap.size [] (w2.alloc (.cells #[.pointer none, .slice none 0 0] 70)) := Lib.fresh_isBuilder _ _ _
    have hs0 := textTo_size HOK.out 0 (Nat.zero_le _)
    refine (write_any _ _ _ _ _ hB0 (by simp; omega) (by simp)).mono ?_
    rintro e w3 ⟨rfl, hB3, hb3⟩
    have c3 : Below w2.heap.size w2 w3 := ((Below.refl _ _).alloc (Nat.le_refl _) _).trans hb3
    have k1' : w3.cell? ⟨w.heap.size, 1, none⟩ = some (.slice a rs.length cap) := by rw [c3.cell (p := ⟨w.heap.size, 1, none⟩) s2, k1]
    rw [List.nil_append] at hB3
    clear hadd k0 k1 hB0 hb3
    go_wp2
    go_loopw [16] (fun i wr => ∃ k : Nat, k ≤ rs.length ∧ i = .int .i64 k ∧ Builds w2.heap.size w2.heap.size (textTo st rs k) wr ∧ Below w2.heap.size w2 wr) (fun i _ => rs.length - (intOf i).toNat)
    case atStart => exact ⟨0, Nat.zero_le _, rfl, hB3, c3⟩
    case round =>
      obtain ⟨k, hk, rfl, hB, hb⟩ := hrel
      have hsz := textTo_size HOK.out k hk
      by_cases hlt : k < rs.length
      · obtain ⟨z1, z2, b, off, e, hbb, c1, c2'⟩ := H2.2 k hlt
        subst e
        have hkl : (k : Int) < (rs.length : Int) := by omega
        have d1 : wr.cell? ⟨b, off + k * 2, none⟩ = some (.string rs[k].1) := by rw [hb.cell (p := ⟨b, _, none⟩) hbb, c1]
        have d2 : wr.cell? ⟨b, off + k * 2 + 1, none⟩ = some (.string rs[k].2) := by rw [hb.cell (p := ⟨b, _, none⟩) hbb, c2']
        have hf := F3.out k hlt
        have e1 : ∀ w, (Op.stringOp .add rs[k].1 (⟨#[62]⟩ : ByteArray)).run Tryz.prog w = .ok (.string (bytesOf (cat rs[k].1.data.toList (⟨#[62]⟩ : ByteArray)))) w := fun w => by
          have := run_add_bytes (P := Tryz.prog) rs[k].1.data.toList (⟨#[62]⟩ : ByteArray) (by rw [one_size]; simp; omega) w
          rwa [bytesOf_self] at this
        have e2 := run_add_bytes (P := Tryz.prog) (cat rs[k].1.data.toList (⟨#[62]⟩ : ByteArray)) rs[k].2 (by rw [cat_len, one_size]; simp; omega)
        have e3 := run_add_bytes (P := Tryz.prog) (cat (cat rs[k].1.data.toList (⟨#[62]⟩ : ByteArray)) rs[k].2) (⟨#[10]⟩ : ByteArray) (by rw [one_size, cat_len, cat_len, one_size]; simp; omega)
        have hl : (ruleTextL rs[k]).length ≤ 7 := by simp [ruleTextL]; omega
        clear hf
        go_wp2_with fail
        rw [ruleText_cat]
        refine (write_any _ _ _ _ _ (hB.alloc _) (by omega) (by have := hb.size; simp; omega)).mono ?_
        rintro e w' ⟨rfl, hB', hb'⟩
        have hfin : Below w2.heap.size w2 w' := (hb.alloc hb.size _).trans hb'
        rw [← textTo_succ st rs k hlt] at hB'
        clear e1 e2 e3
        go_wp2
        go_roundw
        case rel => exact ⟨k + 1, by omega, by go_num, hB', hfin⟩
        case measure => simp [intOf]; omega
      · go_wp2_with fail
        refine (builderString_any _ _ _ _ hB hb.size).mono ?_
        rintro e w' ⟨rfl, hb'⟩
        have hfin : Below w.heap.size w w' := c2.trans ((hb.trans hb').mono (by omega))
        go_wp2
        go_ret
        refine ⟨ret_string ?_, hfin⟩
        unfold gramTextL
        rw [if_pos HOK.out, show k = rs.length from by omega]
        rfl
end Go.Proofs.YtpkejcjjbkgomaaGreatDoor
