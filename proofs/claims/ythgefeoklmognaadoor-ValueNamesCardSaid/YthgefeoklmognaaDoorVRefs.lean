/- ValueReferences, walked. -/
import Derived.Test.YthgefeoklmognaaDoorVMath
namespace Go.Proofs.YthgefeoklmognaaDoor
open Go.RowKit Go.MapKept

theorem ap_eq_n {o : Int} (h : o = 11) (r s : Bool) (x y : Int) : apN o r x s y = sameN r s x y := by unfold apN; rw [if_pos h]
theorem ap_eq_f {o : Int} (h : o = 11) (r s : Bool) (y : Int) : apF o r s y = 0 := by unfold apF; rw [if_pos h]
theorem ap_ref_n {o : Int} (h : o ≠ 11) (s : Bool) (x y : Int) : apN o true x s y = 0 := by unfold apN; rw [if_neg h, if_pos (by simp)]
theorem ap_ref_f {o : Int} (h : o ≠ 11) (s : Bool) (y : Int) : apF o true s y = -2 := by unfold apF; rw [if_neg h, if_pos (by simp)]
set_option maxHeartbeats 1000000 in
set_option maxRecDepth 100000 in
theorem refs_eq (op a b : Int) (w : World) (hg : Glob w) (_h1 : 0 ≤ op) (_h2 : op ≤ 255) (_t0 : ((1 + op % 11 : Int) == 11) = true) (_t1 : (a == b) = true)
    (hn1 : apN (1 + op % 11) true a true b = 1) (hf1 : apF (1 + op % 11) true true b = 0) (hn2 : apN (1 + op % 11) true a false a = 0) (hf2 : apF (1 + op % 11) true false a = 0) :
    Calls Tryd.prog 7 #[.int .u8 op, .int .i64 a, .int .i64 b] w (RetB w true) := by
  have N1 := Lib.hid hn1
  have F1 := Lib.hid hf1
  have N2 := Lib.hid hn2
  have F2 := Lib.hid hf2
  have Hg := Lib.hid hg
  clear hg hn1 hf1 hn2 hf2
  go_enter Tryd.func7, Tryd.ntmps7
  go_wp2_with fail
  refine (sane_any _ Hg.out).mono ?_
  rintro e w1 ⟨rfl, hb1⟩
  have B1 := Lib.hid (Below.new (Below.new hb1 (.cells #[.bool true, .int .i64 a] 24)) (.cells #[.bool true, .int .i64 b] 24))
  have X1 := Lib.hid ((ValAt.new w1 true a 24).alloc (.cells #[.bool true, .int .i64 b] 24))
  clear hb1
  go_wp2_with fail
  refine (apply_any _ _ _ _ _ _).mono ?_
  rintro e w2 ⟨rfl, hb2⟩
  rw [N1.out, F1.out]
  have B2 := Lib.hid (Below.new (Below.then_ B1.out hb2) (.cells #[.bool false, .int .i64 1] 24))
  have X2 := Lib.hid ((X1.out.below hb2).alloc (.cells #[.bool false, .int .i64 1] 24))
  have V2 := Lib.hid (ValAt.new w2 false 1 24)
  clear hb2 B1 X1
  obtain ⟨x0, x1, _⟩ := X2.out
  go_wp2_with fail
  refine (apply_any _ _ _ _ _ _).mono ?_
  rintro e w3 ⟨rfl, hb3⟩
  rw [N2.out, F2.out]
  clear x0 x1
  have B3 := Lib.hid (Below.new (Below.then_ B2.out hb3) (.cells #[.bool false, .int .i64 0] 24))
  have X3 := Lib.hid ((X2.out.below hb3).alloc (.cells #[.bool false, .int .i64 0] 24))
  have V3 := Lib.hid ((V2.out.below hb3).alloc (.cells #[.bool false, .int .i64 0] 24))
  have U3 := Lib.hid (ValAt.new w3 false 0 24)
  clear hb3 B2 X2 V2
  obtain ⟨x0, x1, _⟩ := X3.out
  go_wp2_with fail
  refine (truthy_any _ _ _).mono ?_
  rintro e w4 ⟨rfl, hb4⟩
  clear x0 x1
  have B4 := Lib.hid (Below.then_ B3.out hb4)
  obtain ⟨v0, v1, _⟩ := V3.out.below hb4
  obtain ⟨u0, u1, _⟩ := U3.out.below hb4
  clear hb4 B3 X3 V3 U3
  go_wp2_with fail
  go_ret
  exact ⟨rfl, B4.out⟩
set_option maxHeartbeats 1000000 in
set_option maxRecDepth 100000 in
theorem refs_ne (op a b : Int) (w : World) (hg : Glob w) (_h1 : 0 ≤ op) (_h2 : op ≤ 255) (_t0 : ((1 + op % 11 : Int) == 11) = true) (_t1 : (a == b) = false)
    (hn1 : apN (1 + op % 11) true a true b = 0) (hf1 : apF (1 + op % 11) true true b = 0) (hn2 : apN (1 + op % 11) true a false a = 0) (hf2 : apF (1 + op % 11) true false a = 0) :
    Calls Tryd.prog 7 #[.int .u8 op, .int .i64 a, .int .i64 b] w (RetB w true) := by
  have N1 := Lib.hid hn1
  have F1 := Lib.hid hf1
  have N2 := Lib.hid hn2
  have F2 := Lib.hid hf2
  have Hg := Lib.hid hg
  clear hg hn1 hf1 hn2 hf2
  go_enter Tryd.func7, Tryd.ntmps7
  go_wp2_with fail
  refine (sane_any _ Hg.out).mono ?_
  rintro e w1 ⟨rfl, hb1⟩
  have B1 := Lib.hid (Below.new (Below.new hb1 (.cells #[.bool true, .int .i64 a] 24)) (.cells #[.bool true, .int .i64 b] 24))
  have X1 := Lib.hid ((ValAt.new w1 true a 24).alloc (.cells #[.bool true, .int .i64 b] 24))
  clear hb1
  go_wp2_with fail
  refine (apply_any _ _ _ _ _ _).mono ?_
  rintro e w2 ⟨rfl, hb2⟩
  rw [N1.out, F1.out]
  have B2 := Lib.hid (Below.new (Below.then_ B1.out hb2) (.cells #[.bool false, .int .i64 0] 24))
  have X2 := Lib.hid ((X1.out.below hb2).alloc (.cells #[.bool false, .int .i64 0] 24))
  have V2 := Lib.hid (ValAt.new w2 false 0 24)
  clear hb2 B1 X1
  obtain ⟨x0, x1, _⟩ := X2.out
  go_wp2_with fail
  refine (apply_any _ _ _ _ _ _).mono ?_
  rintro e w3 ⟨rfl, hb3⟩
  rw [N2.out, F2.out]
  clear x0 x1
  have B3 := Lib.hid (Below.new (Below.then_ B2.out hb3) (.cells #[.bool false, .int .i64 0] 24))
  have X3 := Lib.hid ((X2.out.below hb3).alloc (.cells #[.bool false, .int .i64 0] 24))
  have V3 := Lib.hid ((V2.out.below hb3).alloc (.cells #[.bool false, .int .i64 0] 24))
  have U3 := Lib.hid (ValAt.new w3 false 0 24)
  clear hb3 B2 X2 V2
  obtain ⟨x0, x1, _⟩ := X3.out
  go_wp2_with fail
  refine (truthy_any _ _ _).mono ?_
  rintro e w4 ⟨rfl, hb4⟩
  clear x0 x1
  have B4 := Lib.hid (Below.then_ B3.out hb4)
  obtain ⟨v0, v1, _⟩ := V3.out.below hb4
  obtain ⟨u0, u1, _⟩ := U3.out.below hb4
  clear hb4 B3 X3 V3 U3
  go_wp2_with fail
  go_ret
  exact ⟨rfl, B4.out⟩
set_option maxHeartbeats 1000000 in
set_option maxRecDepth 100000 in
theorem refs_no (op a b : Int) (w : World) (hg : Glob w) (_h1 : 0 ≤ op) (_h2 : op ≤ 255) (_t0 : ((1 + op % 11 : Int) == 11) = false)
    (hn1 : apN (1 + op % 11) true a true b = 0) (hf1 : apF (1 + op % 11) true true b = (-2)) (hn2 : apN (1 + op % 11) true a false a = 0) (hf2 : apF (1 + op % 11) true false a = (-2)) :
    Calls Tryd.prog 7 #[.int .u8 op, .int .i64 a, .int .i64 b] w (RetB w true) := by
  have N1 := Lib.hid hn1
  have F1 := Lib.hid hf1
  have N2 := Lib.hid hn2
  have F2 := Lib.hid hf2
  have Hg := Lib.hid hg
  clear hg hn1 hf1 hn2 hf2
  go_enter Tryd.func7, Tryd.ntmps7
  go_wp2_with fail
  refine (sane_any _ Hg.out).mono ?_
  rintro e w1 ⟨rfl, hb1⟩
  have B1 := Lib.hid (Below.new (Below.new hb1 (.cells #[.bool true, .int .i64 a] 24)) (.cells #[.bool true, .int .i64 b] 24))
  have X1 := Lib.hid ((ValAt.new w1 true a 24).alloc (.cells #[.bool true, .int .i64 b] 24))
  clear hb1
  go_wp2_with fail
  refine (apply_any _ _ _ _ _ _).mono ?_
  rintro e w2 ⟨rfl, hb2⟩
  rw [N1.out, F1.out]
  have B2 := Lib.hid (Below.new (Below.then_ B1.out hb2) (.cells #[.bool false, .int .i64 0] 24))
  have X2 := Lib.hid ((X1.out.below hb2).alloc (.cells #[.bool false, .int .i64 0] 24))
  have V2 := Lib.hid (ValAt.new w2 false 0 24)
  clear hb2 B1 X1
  obtain ⟨x0, x1, _⟩ := X2.out
  go_wp2_with fail
  refine (apply_any _ _ _ _ _ _).mono ?_
  rintro e w3 ⟨rfl, hb3⟩
  rw [N2.out, F2.out]
  clear x0 x1
  have B3 := Lib.hid (Below.new (Below.then_ B2.out hb3) (.cells #[.bool false, .int .i64 0] 24))
  have X3 := Lib.hid ((X2.out.below hb3).alloc (.cells #[.bool false, .int .i64 0] 24))
  have V3 := Lib.hid ((V2.out.below hb3).alloc (.cells #[.bool false, .int .i64 0] 24))
  have U3 := Lib.hid (ValAt.new w3 false 0 24)
  clear hb3 B2 X2 V2
  obtain ⟨x0, x1, _⟩ := X3.out
  go_wp2_with fail
  refine (truthy_any _ _ _).mono ?_
  rintro e w4 ⟨rfl, hb4⟩
  clear x0 x1
  have B4 := Lib.hid (Below.then_ B3.out hb4)
  obtain ⟨v0, v1, _⟩ := V3.out.below hb4
  obtain ⟨u0, u1, _⟩ := U3.out.below hb4
  clear hb4 B3 X3 V3 U3
  go_wp2_with fail
  go_ret
  exact ⟨rfl, B4.out⟩
theorem valueReferences_walk (op a b : Int) (w : World) (hg : Glob w) (h1 : 0 ≤ op) (h2 : op ≤ 255) : Calls Tryd.prog 7 #[.int .u8 op, .int .i64 a, .int .i64 b] w (RetB w true) := by
  by_cases h0 : 1 + op % 11 = 11
  · have t0 : ((1 + op % 11 : Int) == 11) = true := by rw [h0]; rfl
    have hn2 : apN (1 + op % 11) true a false a = 0 := by rw [ap_eq_n h0]; unfold sameN; rw [if_neg (by simp)]
    by_cases hab : a = b
    · exact refs_eq op a b w hg h1 h2 t0 (by simpa using hab) (by rw [ap_eq_n h0]; unfold sameN; rw [if_pos ⟨rfl, hab⟩]) (ap_eq_f h0 _ _ _) hn2 (ap_eq_f h0 _ _ _)
    · exact refs_ne op a b w hg h1 h2 t0 (by simpa using hab) (by rw [ap_eq_n h0]; unfold sameN; rw [if_neg (fun q => hab q.2)]) (ap_eq_f h0 _ _ _) hn2 (ap_eq_f h0 _ _ _)
  · exact refs_no op a b w hg h1 h2 (by simpa using h0) (ap_ref_n h0 _ _ _) (ap_ref_f h0 _ _) (ap_ref_n h0 _ _ _) (ap_ref_f h0 _ _)
end Go.Proofs.YthgefeoklmognaaDoor
