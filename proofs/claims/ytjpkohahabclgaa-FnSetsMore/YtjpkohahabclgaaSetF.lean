/- Contracts of GramNone and GramMade of the program. -/
import Derived.Test.YtjpkohahabclgaaSetE
namespace Go.Proofs.Ytjpkohahabclgaa
open Go.ChangeShapes Go.WideShapes Go.ChangeAt Go.RowKit
set_option maxRecDepth 100000
theorem leftsLeast_lt (rs : List RuleT) (g : Nat) : leftsLeast rs g < 1024 := by
  unfold leftsLeast leastN
  have : ∀ (l : List Nat) (acc : Nat), acc < 1024 → l.foldl (fun acc S => if leftsClosedB rs g S then acc &&& S else acc) acc < 1024 := by
    intro l
    induction l with
    | nil => intro acc h; exact h
    | cons S l ih =>
      intro acc h
      refine ih _ ?_
      show (if leftsClosedB rs g S = true then acc &&& S else acc) < 1024
      split
      · exact Nat.lt_of_le_of_lt Nat.and_le_left h
      · exact h
  exact this _ _ (by omega)
def noneL (st : ByteArray) (rs : List RuleT) : List UInt8 := if gramOkB st rs = true then textN (leftsLeast rs 0) else []
def madeL (st : ByteArray) (rs : List RuleT) : List UInt8 := if gramOkB st rs = true then textN (leftsLeast rs 960) else []
theorem nullableSet_any (st : ByteArray) (a : Option Addr) (cap : Nat) (rs : List RuleT) (w : World) (H : RulesAt w a rs) :
    Calls Try.prog 92 #[.agg #[.string st, .slice a rs.length cap]] w fun e w' => e = .returned (.int .u16 (leftsLeast rs 0 : Nat)) ∧ Below w.heap.size w w' := by
  have hbw := (Below.refl w.heap.size w).alloc (Nat.le_refl _) (.cells #[.string st, .slice a rs.length cap] 24)
  go_enter Try.func92, Try.ntmps92
  go_wp2_with fail
  refine (leftsClosed_any st a cap rs 0 _ (H.below hbw (Nat.le_refl _)) (by omega)).mono ?_
  rintro e w2 ⟨rfl, hb2⟩
  go_wp2
  go_ret
  exact ⟨rfl, hbw.trans (hb2.mono (by simp))⟩
theorem setSmalls_any (w : World) : Calls Try.prog 69 #[.string ({ data := #[97, 98, 99, 100] } : ByteArray)] w fun e w' => e = .returned (.int .u16 ((960 : Nat) : Int)) ∧ w = w' := by
  have hset : setN (({ data := #[97, 98, 99, 100] } : ByteArray)).data.toList = 960 := by decide
  refine (setOf_any ({ data := #[97, 98, 99, 100] } : ByteArray) w (by simp [maxLen, ByteArray.size])).mono ?_
  rintro e w1 ⟨rfl, rfl⟩
  rw [hset]
  exact ⟨rfl, rfl⟩
theorem productiveSet_any (st : ByteArray) (a : Option Addr) (cap : Nat) (rs : List RuleT) (w : World) (H : RulesAt w a rs) :
    Calls Try.prog 68 #[.agg #[.string st, .slice a rs.length cap]] w fun e w' => e = .returned (.int .u16 (leftsLeast rs 960 : Nat)) ∧ Below w.heap.size w w' := by
  have hbw := (Below.refl w.heap.size w).alloc (Nat.le_refl _) (.cells #[.string st, .slice a rs.length cap] 24)
  have g0 : ∀ x, (grow (w.alloc (.cells #[.string st, .slice a rs.length cap] 24)) x).cell? ⟨w.heap.size, 0, none⟩ = some (.string st) := fun x => by rw [grow_cell _ _ _ _ (by simp)]; simp
  have g1 : ∀ x, (grow (w.alloc (.cells #[.string st, .slice a rs.length cap] 24)) x).cell? ⟨w.heap.size, 1, none⟩ = some (.slice a rs.length cap) := fun x => by rw [grow_cell _ _ _ _ (by simp)]; simp
  have HW : ∀ x, RulesAt (grow (w.alloc (.cells #[.string st, .slice a rs.length cap] 24)) x) a rs := fun x => H.below (hbw.trans ((below_grow _ x).mono (by simp))) (Nat.le_refl _)
  go_enter Try.func68, Try.ntmps68
  go_wp2
  refine wp_region_grow (by kernel_rfl) (by kernel_rfl) ?_
  repeat (go_big_quiet_step ((first | (go_at_call 69; exact Calls.grow_of_same (setSmalls_any _)) | (go_at_call 112; exact Calls.grow_of (leftsClosed_any st a cap rs 960 _ (HW _) (by omega))))))
  refine wpQuiet_nil ?_
  rintro _ ⟨x, rfl⟩
  go_wp2
  go_ret
  exact ⟨rfl, hbw.trans ((below_grow _ _).mono (by simp))⟩
theorem gramNone_any (st : ByteArray) (a : Option Addr) (cap : Nat) (rs : List RuleT) (w : World) (H : RulesAt w a rs) (hcap : rs.length ≤ cap) :
    Calls Try.prog 50 #[.agg #[.string st, .slice a rs.length cap]] w fun e w' => e = .returned (.string (bytesOf (noneL st rs))) ∧ Below w.heap.size w w' := by
  have hG : GBox (w.alloc (.cells #[.string st, .slice a rs.length cap] 24)) w.heap.size st a rs.length cap := blk_new _ _ rfl
  have hbw := (Below.refl w.heap.size w).alloc (Nat.le_refl _) (.cells #[.string st, .slice a rs.length cap] 24)
  go_enter Try.func50, Try.ntmps50
  go_wp2_with fail
  refine (gramOk_any _ _ _ rs _ (H.below hbw (Nat.le_refl _)) hcap).mono ?_
  rintro e w2 ⟨rfl, hb2⟩
  have c2 : Below w.heap.size w w2 := hbw.trans (hb2.mono (by simp))
  obtain ⟨g0, g1⟩ := (hG.below hb2).cells
  cases hok : gramOkB st rs with
  | false =>
    go_wp2
    go_ret
    exact ⟨ret_string (by simp [noneL, hok, bytesOf]), c2⟩
  | true =>
    go_wp2_with fail
    refine (nullableSet_any st a cap rs _ (H.below c2 (Nat.le_refl _))).mono ?_
    rintro e w3 ⟨rfl, hb3⟩
    go_wp2_with fail
    refine (setText_any _ _ (leftsLeast_lt rs 0)).mono ?_
    rintro e w4 ⟨rfl, hb4⟩
    go_wp2
    go_ret
    exact ⟨ret_string (by simp [noneL, hok]), c2.trans ((hb3.trans (hb4.mono hb3.size)).mono c2.size)⟩
theorem gramMade_any (st : ByteArray) (a : Option Addr) (cap : Nat) (rs : List RuleT) (w : World) (H : RulesAt w a rs) (hcap : rs.length ≤ cap) :
    Calls Try.prog 48 #[.agg #[.string st, .slice a rs.length cap]] w fun e w' => e = .returned (.string (bytesOf (madeL st rs))) ∧ Below w.heap.size w w' := by
  have hG : GBox (w.alloc (.cells #[.string st, .slice a rs.length cap] 24)) w.heap.size st a rs.length cap := blk_new _ _ rfl
  have hbw := (Below.refl w.heap.size w).alloc (Nat.le_refl _) (.cells #[.string st, .slice a rs.length cap] 24)
  go_enter Try.func48, Try.ntmps48
  go_wp2_with fail
  refine (gramOk_any _ _ _ rs _ (H.below hbw (Nat.le_refl _)) hcap).mono ?_
  rintro e w2 ⟨rfl, hb2⟩
  have c2 : Below w.heap.size w w2 := hbw.trans (hb2.mono (by simp))
  obtain ⟨g0, g1⟩ := (hG.below hb2).cells
  cases hok : gramOkB st rs with
  | false =>
    go_wp2
    go_ret
    exact ⟨ret_string (by simp [madeL, hok, bytesOf]), c2⟩
  | true =>
    go_wp2_with fail
    refine (productiveSet_any st a cap rs _ (H.below c2 (Nat.le_refl _))).mono ?_
    rintro e w3 ⟨rfl, hb3⟩
    go_wp2_with fail
    refine (setText_any _ _ (leftsLeast_lt rs 960)).mono ?_
    rintro e w4 ⟨rfl, hb4⟩
    go_wp2
    go_ret
    exact ⟨ret_string (by simp [madeL, hok]), c2.trans ((hb3.trans (hb4.mono hb3.size)).mono c2.size)⟩
end Go.Proofs.Ytjpkohahabclgaa
