/- Contracts of the functions on one byte, and of the tests on a string. -/
import Derived.Test.YtfolocahchohdaaDoorWKit
namespace Go.Proofs.YtfolocahchohdaaDoor
open Go.RowKit WMath

theorem plainB_int (b : UInt8) (x : Bool) (h : x = (decide (33 ≤ (b.toNat : Int)) && decide ((b.toNat : Int) ≤ 126) && ((b.toNat : Int) != 34) && ((b.toNat : Int) != 92))) : x = plainB b := by
  subst h
  unfold plainB
  have e1 : (b != 34) = ((b.toNat : Int) != 34) := by
    rw [Bool.eq_iff_iff]; simp [← UInt8.toNat_inj]; omega
  have e2 : (b != 92) = ((b.toNat : Int) != 92) := by
    rw [Bool.eq_iff_iff]; simp [← UInt8.toNat_inj]; omega
  rw [e1, e2]
  congr 3
  · simp; omega
  · simp; omega

set_option maxHeartbeats 400000 in
theorem isPlainByte_any (b : UInt8) (w : World) :
    Calls Tryd.prog 47 #[.int .u8 (b.toNat : Int)] w fun e w' => e = .returned (.bool (plainB b)) ∧ w = w' := by
  have hp := plainB_int b
  have Hp := Lib.hid hp
  clear hp
  generalize (b.toNat : Int) = c at *
  go_enter Tryd.func47, Tryd.ntmps47
  go_wp2
  all_goals
    go_ret
    refine ⟨?_, rfl⟩
    rw [← Hp.out _ rfl]
    simp [*]
    try omega

set_option maxHeartbeats 400000 in
theorem plainByte_any (b : UInt8) (w : World) :
    Calls Tryd.prog 33 #[.int .u8 (b.toNat : Int)] w fun e w' => e = .returned (.bool (plainB b)) ∧ w = w' := by
  have hp := plainB_int b
  have Hp := Lib.hid hp
  clear hp
  generalize (b.toNat : Int) = c at *
  go_enter Tryd.func33, Tryd.ntmps33
  go_wp2
  all_goals
    go_ret
    refine ⟨?_, rfl⟩
    rw [← Hp.out _ rfl]
    simp [*]
    try omega
end Go.Proofs.YtfolocahchohdaaDoor
