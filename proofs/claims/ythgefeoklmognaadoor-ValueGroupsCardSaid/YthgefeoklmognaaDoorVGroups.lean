/- ValueGroups, ValueOrder, walked. -/
import Derived.Test.YthgefeoklmognaaDoorVMath
namespace Go.Proofs.YthgefeoklmognaaDoor
open Go.RowKit Go.MapKept

/-- 'at', from a world that is still as w below w's size -/
def RetA (w : World) (n : Int) (e : Ending) (w' : World) : Prop := e = .returned (.int .i64 n) ∧ Hid (Below w.heap.size w w')
theorem at_from {w W : World} (h : Hid (Below w.heap.size w W)) (op x y : Int) : Calls Tryd.prog 21 #[.int .i64 op, .int .i64 x, .int .i64 y] W (RetA w (atN op x y)) :=
  (at_any op x y W).mono fun _ _ ⟨he, hb⟩ => ⟨he, Below.then_ h hb⟩

set_option maxHeartbeats 1000000 in
set_option maxRecDepth 100000 in
theorem valueGroups_no (op a b c : Int) (w : World) (hg : Glob w) (h1 : 0 ≤ op) (h2 : op ≤ 255) (hA : assocB (1 + op % 11) = false) :
    Calls Tryd.prog 5 #[.int .u8 op, .int .i64 a, .int .i64 b, .int .i64 c] w (RetB w true) := by
  have Hg := Lib.hid hg
  have HA := Lib.hid hA
  clear hg hA
  go_enter Tryd.func5, Tryd.ntmps5
  go_wp2_with fail
  refine (sane_any _ Hg.out).mono ?_
  rintro e w1 ⟨rfl, hb1⟩
  have B1 := Lib.hid hb1
  clear hb1
  go_wp2_with fail
  refine (assoc_any _ _).mono ?_
  rintro e w2 ⟨rfl, hb2⟩
  rw [HA.out]
  have B2 := Lib.hid (Below.then_ B1.out hb2)
  clear hb2
  go_wp2_with fail
  refine (unit_any _ _).mono ?_
  rintro e w3 ⟨rfl, hb3⟩
  rw [HA.out]
  have B3 := Lib.hid (Below.then_ B2.out hb3)
  clear hb3
  go_wp2_with fail
  go_ret
  exact ⟨rfl, Below.new B3.out _⟩

set_option maxHeartbeats 1000000 in
set_option maxRecDepth 100000 in
theorem valueGroups_yes (op a b c : Int) (w : World) (hg : Glob w) (h1 : 0 ≤ op) (h2 : op ≤ 255) (hA : assocB (1 + op % 11) = true) (ha : In64 a) :
    Calls Tryd.prog 5 #[.int .u8 op, .int .i64 a, .int .i64 b, .int .i64 c] w (RetB w true) := by
  have t1 : (atN (1 + op % 11) (atN (1 + op % 11) a b) c == atN (1 + op % 11) a (atN (1 + op % 11) b c)) = true := by rw [groups_a hA]; simp
  have t2 : (atN (1 + op % 11) a b == atN (1 + op % 11) b a) = true := by rw [groups_c hA]; simp
  have t3 : (atN (1 + op % 11) (unitN (1 + op % 11)) a == a) = true := by rw [groups_v hA ha]; simp
  have t4 : (atN (1 + op % 11) a (unitN (1 + op % 11)) == a) = true := by rw [groups_u hA ha]; simp
  have Hg := Lib.hid hg
  have HA := Lib.hid hA
  clear hg hA
  go_enter Tryd.func5, Tryd.ntmps5
  go_wp2_with fail
  refine (sane_any _ Hg.out).mono ?_
  rintro e w1 ⟨rfl, hb1⟩
  have B1 := Lib.hid hb1
  clear hb1
  go_wp2_with fail
  refine (assoc_any _ _).mono ?_
  rintro e w2 ⟨rfl, hb2⟩
  rw [HA.out]
  have B2 := Lib.hid (Below.then_ B1.out hb2)
  clear hb2
  go_wp2_with fail
  refine (unit_any _ _).mono ?_
  rintro e w3 ⟨rfl, hb3⟩
  rw [HA.out]
  have B3 := Lib.hid (Below.new (Below.then_ B2.out hb3) (.cells #[.bool false, .int .i64 (unitN (1 + op % 11))] 24))
  have V3 := Lib.hid (ValAt.new w3 false (unitN (1 + op % 11)) 24)
  clear hb3
  go_wp2_with fail
  refine (at_any _ _ _ _).mono ?_
  rintro e w4 ⟨rfl, hb4⟩
  have B4 := Lib.hid (Below.then_ B3.out hb4)
  have V4 := Lib.hid (V3.out.below hb4)
  clear hb4 B3 V3
  go_wp2_with fail
  refine (at_any _ _ _ _).mono ?_
  rintro e w5 ⟨rfl, hb5⟩
  have B5 := Lib.hid (Below.then_ B4.out hb5)
  have V5 := Lib.hid (V4.out.below hb5)
  clear hb5 B4 V4
  go_wp2_with fail
  refine (at_any _ _ _ _).mono ?_
  rintro e w6 ⟨rfl, hb6⟩
  have B6 := Lib.hid (Below.then_ B5.out hb6)
  have V6 := Lib.hid (V5.out.below hb6)
  clear hb6 B5 V5
  go_wp2_with fail
  refine (at_any _ _ _ _).mono ?_
  rintro e w7 ⟨rfl, hb7⟩
  have B7 := Lib.hid (Below.then_ B6.out hb7)
  have V7 := Lib.hid (V6.out.below hb7)
  clear hb7 B6 V6
  go_wp2_with fail
  refine (at_any _ _ _ _).mono ?_
  rintro e w8 ⟨rfl, hb8⟩
  have B8 := Lib.hid (Below.then_ B7.out hb8)
  have V8 := Lib.hid (V7.out.below hb8)
  clear hb8 B7 V7
  go_wp2_with fail
  refine (at_any _ _ _ _).mono ?_
  rintro e w9 ⟨rfl, hb9⟩
  have B9 := Lib.hid (Below.then_ B8.out hb9)
  have V9 := Lib.hid (V8.out.below hb9)
  clear hb9 B8 V8
  obtain ⟨v0, v1, _⟩ := V9.out
  go_wp2_with fail
  refine (at_any _ _ _ _).mono ?_
  rintro e w10 ⟨rfl, hb10⟩
  have B10 := Lib.hid (Below.then_ B9.out hb10)
  have V10 := Lib.hid (V9.out.below hb10)
  clear hb10 B9 V9 v0 v1
  obtain ⟨v0, v1, _⟩ := V10.out
  go_wp2_with fail
  refine (at_any _ _ _ _).mono ?_
  rintro e w11 ⟨rfl, hb11⟩
  have B11 := Lib.hid (Below.then_ B10.out hb11)
  have V11 := Lib.hid (V10.out.below hb11)
  clear hb11 B10 V10
  go_wp2_with fail
  go_ret
  exact ⟨rfl, B11.out⟩
theorem valueGroups_any (op a b c : Int) (w : World) (hg : Glob w) (h1 : 0 ≤ op) (h2 : op ≤ 255) (ha : In64 a) :
    Calls Tryd.prog 5 #[.int .u8 op, .int .i64 a, .int .i64 b, .int .i64 c] w (RetB w true) := by
  cases hA : assocB (1 + op % 11) with
  | true => exact valueGroups_yes op a b c w hg h1 h2 hA ha
  | false => exact valueGroups_no op a b c w hg h1 h2 hA
end Go.Proofs.YthgefeoklmognaaDoor
