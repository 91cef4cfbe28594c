/- ValueOrder, walked. -/
import Derived.Test.YthgefeoklmognaaDoorVMath
namespace Go.Proofs.YthgefeoklmognaaDoor
open Go.RowKit Go.MapKept

theorem order_sum (a b : Int) : wrap64 (wrap64 (atN 10 a b + atN 10 b a) + atN 11 a b) = 1 := by
  have h := order_one a b
  unfold wrap64
  omega
set_option maxHeartbeats 1000000 in
set_option maxRecDepth 100000 in
theorem order_zero (a b : Int) (w : World) (hg : Glob w) (hb : b = 0) :
    Calls Tryd.prog 6 #[.int .i64 a, .int .i64 b] w (RetB w true) := by
  have t5 : (b == 0) = true := by rw [hb]; rfl
  clear hb
  have t1 : (wrap64 (wrap64 (atN 10 a b + atN 10 b a) + atN 11 a b) != 1) = false := by rw [order_sum]; rfl
  have t2 : (atN 10 (atN 6 a b) (atN 5 a b) != 0) = false := by rw [order_less]; rfl
  have t3 : (atN 1 (atN 5 a b) (atN 6 a b) != atN 1 a b) = false := by rw [order_add]; simp
  have t4 : (atN 9 (atN 7 a b) (atN 8 a b) != atN 9 a b) = false := by rw [order_xor]; simp
  have Hg := Lib.hid hg
  clear hg
  go_enter Tryd.func6, Tryd.ntmps6
  go_wp2_with fail
  refine (sane_any _ Hg.out).mono ?_
  rintro e w1 ⟨rfl, hb1⟩
  have B1 := Lib.hid hb1
  clear hb1
  go_wp2_with fail
  refine (at_any _ _ _ _).mono ?_
  rintro e w2 ⟨rfl, hb2⟩
  have B2 := Lib.hid (Below.then_ B1.out hb2)
  clear hb2 B1
  go_wp2_with fail
  refine (at_any _ _ _ _).mono ?_
  rintro e w3 ⟨rfl, hb3⟩
  have B3 := Lib.hid (Below.then_ B2.out hb3)
  clear hb3 B2
  go_wp2_with fail
  refine (at_any _ _ _ _).mono ?_
  rintro e w4 ⟨rfl, hb4⟩
  have B4 := Lib.hid (Below.then_ B3.out hb4)
  clear hb4 B3
  go_wp2_with fail
  refine (at_any _ _ _ _).mono ?_
  rintro e w5 ⟨rfl, hb5⟩
  have B5 := Lib.hid (Below.then_ B4.out hb5)
  clear hb5 B4
  go_wp2_with fail
  refine (at_any _ _ _ _).mono ?_
  rintro e w6 ⟨rfl, hb6⟩
  have B6 := Lib.hid (Below.then_ B5.out hb6)
  clear hb6 B5
  go_wp2_with fail
  refine (at_any _ _ _ _).mono ?_
  rintro e w7 ⟨rfl, hb7⟩
  have B7 := Lib.hid (Below.then_ B6.out hb7)
  clear hb7 B6
  go_wp2_with fail
  refine (at_any _ _ _ _).mono ?_
  rintro e w8 ⟨rfl, hb8⟩
  have B8 := Lib.hid (Below.then_ B7.out hb8)
  clear hb8 B7
  go_wp2_with fail
  refine (at_any _ _ _ _).mono ?_
  rintro e w9 ⟨rfl, hb9⟩
  have B9 := Lib.hid (Below.then_ B8.out hb9)
  clear hb9 B8
  go_wp2_with fail
  refine (at_any _ _ _ _).mono ?_
  rintro e w10 ⟨rfl, hb10⟩
  have B10 := Lib.hid (Below.then_ B9.out hb10)
  clear hb10 B9
  go_wp2_with fail
  refine (at_any _ _ _ _).mono ?_
  rintro e w11 ⟨rfl, hb11⟩
  have B11 := Lib.hid (Below.then_ B10.out hb11)
  clear hb11 B10
  go_wp2_with fail
  refine (at_any _ _ _ _).mono ?_
  rintro e w12 ⟨rfl, hb12⟩
  have B12 := Lib.hid (Below.then_ B11.out hb12)
  clear hb12 B11
  go_wp2_with fail
  refine (at_any _ _ _ _).mono ?_
  rintro e w13 ⟨rfl, hb13⟩
  have B13 := Lib.hid (Below.then_ B12.out hb13)
  clear hb13 B12
  go_wp2_with fail
  go_ret
  exact ⟨rfl, B13.out⟩
set_option maxHeartbeats 1000000 in
set_option maxRecDepth 100000 in
theorem order_m1 (a b : Int) (w : World) (hg : Glob w) (ha : In64 a) (hb : b = -1) :
    Calls Tryd.prog 6 #[.int .i64 a, .int .i64 b] w (RetB w true) := by
  have t6 : (b == 0) = false := by rw [hb]; rfl
  have t7 : (b == -1) = true := by rw [hb]; rfl
  have t1 : (wrap64 (wrap64 (atN 10 a b + atN 10 b a) + atN 11 a b) != 1) = false := by rw [order_sum]; rfl
  have t2 : (atN 10 (atN 6 a b) (atN 5 a b) != 0) = false := by rw [order_less]; rfl
  have t3 : (atN 1 (atN 5 a b) (atN 6 a b) != atN 1 a b) = false := by rw [order_add]; simp
  have t4 : (atN 9 (atN 7 a b) (atN 8 a b) != atN 9 a b) = false := by rw [order_xor]; simp
  have t5 : (atN 2 a (atN 3 (atN 4 a b) b) == 0) = true := by have := rest_m ha; unfold restN at this; rw [hb, this]; rfl
  clear hb
  have Hg := Lib.hid hg
  clear hg
  go_enter Tryd.func6, Tryd.ntmps6
  go_wp2_with fail
  refine (sane_any _ Hg.out).mono ?_
  rintro e w1 ⟨rfl, hb1⟩
  have B1 := Lib.hid hb1
  clear hb1
  go_wp2_with fail
  refine (at_any _ _ _ _).mono ?_
  rintro e w2 ⟨rfl, hb2⟩
  have B2 := Lib.hid (Below.then_ B1.out hb2)
  clear hb2 B1
  go_wp2_with fail
  refine (at_any _ _ _ _).mono ?_
  rintro e w3 ⟨rfl, hb3⟩
  have B3 := Lib.hid (Below.then_ B2.out hb3)
  clear hb3 B2
  go_wp2_with fail
  refine (at_any _ _ _ _).mono ?_
  rintro e w4 ⟨rfl, hb4⟩
  have B4 := Lib.hid (Below.then_ B3.out hb4)
  clear hb4 B3
  go_wp2_with fail
  refine (at_any _ _ _ _).mono ?_
  rintro e w5 ⟨rfl, hb5⟩
  have B5 := Lib.hid (Below.then_ B4.out hb5)
  clear hb5 B4
  go_wp2_with fail
  refine (at_any _ _ _ _).mono ?_
  rintro e w6 ⟨rfl, hb6⟩
  have B6 := Lib.hid (Below.then_ B5.out hb6)
  clear hb6 B5
  go_wp2_with fail
  refine (at_any _ _ _ _).mono ?_
  rintro e w7 ⟨rfl, hb7⟩
  have B7 := Lib.hid (Below.then_ B6.out hb7)
  clear hb7 B6
  go_wp2_with fail
  refine (at_any _ _ _ _).mono ?_
  rintro e w8 ⟨rfl, hb8⟩
  have B8 := Lib.hid (Below.then_ B7.out hb8)
  clear hb8 B7
  go_wp2_with fail
  refine (at_any _ _ _ _).mono ?_
  rintro e w9 ⟨rfl, hb9⟩
  have B9 := Lib.hid (Below.then_ B8.out hb9)
  clear hb9 B8
  go_wp2_with fail
  refine (at_any _ _ _ _).mono ?_
  rintro e w10 ⟨rfl, hb10⟩
  have B10 := Lib.hid (Below.then_ B9.out hb10)
  clear hb10 B9
  go_wp2_with fail
  refine (at_any _ _ _ _).mono ?_
  rintro e w11 ⟨rfl, hb11⟩
  have B11 := Lib.hid (Below.then_ B10.out hb11)
  clear hb11 B10
  go_wp2_with fail
  refine (at_any _ _ _ _).mono ?_
  rintro e w12 ⟨rfl, hb12⟩
  have B12 := Lib.hid (Below.then_ B11.out hb12)
  clear hb12 B11
  go_wp2_with fail
  refine (at_any _ _ _ _).mono ?_
  rintro e w13 ⟨rfl, hb13⟩
  have B13 := Lib.hid (Below.then_ B12.out hb13)
  clear hb13 B12
  go_wp2_with fail
  refine (at_any _ _ _ _).mono ?_
  rintro e w14 ⟨rfl, hb14⟩
  have B14 := Lib.hid (Below.then_ B13.out hb14)
  clear hb14 B13
  go_wp2_with fail
  refine (at_any _ _ _ _).mono ?_
  rintro e w15 ⟨rfl, hb15⟩
  have B15 := Lib.hid (Below.then_ B14.out hb15)
  clear hb15 B14
  go_wp2_with fail
  refine (at_any _ _ _ _).mono ?_
  rintro e w16 ⟨rfl, hb16⟩
  have B16 := Lib.hid (Below.then_ B15.out hb16)
  clear hb16 B15
  go_wp2_with fail
  go_ret
  exact ⟨rfl, B16.out⟩
set_option maxHeartbeats 1000000 in
set_option maxRecDepth 100000 in
theorem order_any (a b : Int) (w : World) (hg : Glob w) (ha : In64 a) (h0 : ¬ b = 0) (h1 : ¬ b = -1) :
    Calls Tryd.prog 6 #[.int .i64 a, .int .i64 b] w (RetB w true) := by
  have t6 : (b == 0) = false := by simpa using h0
  have t7 : (b == -1) = false := by simpa using h1
  have t8 : (b != -1) = true := by simpa using h1
  have t1 : (wrap64 (wrap64 (atN 10 a b + atN 10 b a) + atN 11 a b) != 1) = false := by rw [order_sum]; rfl
  have t2 : (atN 10 (atN 6 a b) (atN 5 a b) != 0) = false := by rw [order_less]; rfl
  have t3 : (atN 1 (atN 5 a b) (atN 6 a b) != atN 1 a b) = false := by rw [order_add]; simp
  have t4 : (atN 9 (atN 7 a b) (atN 8 a b) != atN 9 a b) = false := by rw [order_xor]; simp
  have t5 : (atN 2 a (atN 3 (atN 4 a b) b) == a.tmod b) = true := by have := rest_b ha h0; unfold restN at this; rw [this]; simp
  have Hg := Lib.hid hg
  clear hg
  go_enter Tryd.func6, Tryd.ntmps6
  go_wp2_with fail
  refine (sane_any _ Hg.out).mono ?_
  rintro e w1 ⟨rfl, hb1⟩
  have B1 := Lib.hid hb1
  clear hb1
  go_wp2_with fail
  refine (at_any _ _ _ _).mono ?_
  rintro e w2 ⟨rfl, hb2⟩
  have B2 := Lib.hid (Below.then_ B1.out hb2)
  clear hb2 B1
  go_wp2_with fail
  refine (at_any _ _ _ _).mono ?_
  rintro e w3 ⟨rfl, hb3⟩
  have B3 := Lib.hid (Below.then_ B2.out hb3)
  clear hb3 B2
  go_wp2_with fail
  refine (at_any _ _ _ _).mono ?_
  rintro e w4 ⟨rfl, hb4⟩
  have B4 := Lib.hid (Below.then_ B3.out hb4)
  clear hb4 B3
  go_wp2_with fail
  refine (at_any _ _ _ _).mono ?_
  rintro e w5 ⟨rfl, hb5⟩
  have B5 := Lib.hid (Below.then_ B4.out hb5)
  clear hb5 B4
  go_wp2_with fail
  refine (at_any _ _ _ _).mono ?_
  rintro e w6 ⟨rfl, hb6⟩
  have B6 := Lib.hid (Below.then_ B5.out hb6)
  clear hb6 B5
  go_wp2_with fail
  refine (at_any _ _ _ _).mono ?_
  rintro e w7 ⟨rfl, hb7⟩
  have B7 := Lib.hid (Below.then_ B6.out hb7)
  clear hb7 B6
  go_wp2_with fail
  refine (at_any _ _ _ _).mono ?_
  rintro e w8 ⟨rfl, hb8⟩
  have B8 := Lib.hid (Below.then_ B7.out hb8)
  clear hb8 B7
  go_wp2_with fail
  refine (at_any _ _ _ _).mono ?_
  rintro e w9 ⟨rfl, hb9⟩
  have B9 := Lib.hid (Below.then_ B8.out hb9)
  clear hb9 B8
  go_wp2_with fail
  refine (at_any _ _ _ _).mono ?_
  rintro e w10 ⟨rfl, hb10⟩
  have B10 := Lib.hid (Below.then_ B9.out hb10)
  clear hb10 B9
  go_wp2_with fail
  refine (at_any _ _ _ _).mono ?_
  rintro e w11 ⟨rfl, hb11⟩
  have B11 := Lib.hid (Below.then_ B10.out hb11)
  clear hb11 B10
  go_wp2_with fail
  refine (at_any _ _ _ _).mono ?_
  rintro e w12 ⟨rfl, hb12⟩
  have B12 := Lib.hid (Below.then_ B11.out hb12)
  clear hb12 B11
  go_wp2_with fail
  refine (at_any _ _ _ _).mono ?_
  rintro e w13 ⟨rfl, hb13⟩
  have B13 := Lib.hid (Below.then_ B12.out hb13)
  clear hb13 B12
  go_wp2_with fail
  refine (at_any _ _ _ _).mono ?_
  rintro e w14 ⟨rfl, hb14⟩
  have B14 := Lib.hid (Below.then_ B13.out hb14)
  clear hb14 B13
  go_wp2_with fail
  refine (at_any _ _ _ _).mono ?_
  rintro e w15 ⟨rfl, hb15⟩
  have B15 := Lib.hid (Below.then_ B14.out hb15)
  clear hb15 B14
  go_wp2_with fail
  refine (at_any _ _ _ _).mono ?_
  rintro e w16 ⟨rfl, hb16⟩
  have B16 := Lib.hid (Below.then_ B15.out hb16)
  clear hb16 B15
  go_wp2_with fail
  go_ret
  exact ⟨rfl, B16.out⟩
theorem valueOrder_walk (a b : Int) (w : World) (hg : Glob w) (ha : In64 a) : Calls Tryd.prog 6 #[.int .i64 a, .int .i64 b] w (RetB w true) := by
  by_cases h0 : b = 0
  · exact order_zero a b w hg h0
  · by_cases h1 : b = -1
    · exact order_m1 a b w hg ha h1
    · exact order_any a b w hg ha h0 h1
end Go.Proofs.YthgefeoklmognaaDoor
