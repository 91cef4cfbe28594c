/- The statements' sanity check. -/
import Derived.Test.YtngjedfoogmbjaaHSem
namespace Go.Proofs.Ytngjedfoogmbjaa
open Go.RowKit

theorem vs_two (w : World) (x1 x2 : V) : VsAt (w.alloc (.cells #[.bool x1.1, .int .i64 x1.2, .bool x2.1, .int .i64 x2.2] 29)) (.slice (some ⟨w.heap.size, 0, none⟩) 2 2) [x1, x2] := by
  refine .inr ⟨_, _, rfl, Nat.le_refl _, rfl, fun j u hj => ?_⟩
  rw [addr_add, Nat.zero_add, cell_of_row _ _ j _ _ _ (heap_alloc_new w _)]
  simpa [vc] using hj
theorem vs_nil (w : World) : VsAt w (.slice none 0 0) [] := .inl ⟨rfl, rfl, rfl⟩
def hA : List Ob := [(5, [(false, 1), (false, 2)])]
def hB : List Ob := [(2, []), (5, [(false, 1), (false, 2)])]
def hC : List Ob := [(2, []), (5, [(false, 1), (false, 9)])]
theorem sA : ShortO [] := ⟨by decide, by intro x hx; cases hx⟩
theorem shA : ShortO hA := shortO_of (by decide)
theorem shB : ShortO hB := shortO_of (by decide)
theorem shC : ShortO hC := shortO_of (by decide)
theorem s1 (w : World) (u : Value) (hu : VsAt w u [(false, 1), (false, 2)]) : Calls Try.prog 15 #[.agg #[.slice none 0 0], .agg #[.int .i64 5, u]] w (RHO w hA) := by
  have := put_ok (O := []) 5 _ (OAt.nil w) hu sA (by decide)
  rw [show putO [] (5, [(false, 1), (false, 2)]) = hA by decide] at this
  exact this
theorem s2 (w : World) (v : Value) (h : OAt w v hA) : Calls Try.prog 15 #[.agg #[v], .agg #[.int .i64 2, .slice none 0 0]] w (RHO w hB) := by
  have := put_ok 2 [] h (vs_nil w) shA (by decide)
  rw [show putO hA (2, []) = hB by decide] at this
  exact this
theorem s3 (w : World) (v : Value) (h : OAt w v hB) : Calls Try.prog 13 #[.agg #[v], .int .i64 5, .int .i64 1, .agg #[.bool false, .int .i64 9]] w (RHB w hC true) := by
  have := write_ok 5 1 false 9 h shB
  rw [show writeO hB 5 1 (false, 9) = hC by decide, show hasO hB 5 1 = true by decide] at this
  exact this
theorem s4 (w : World) (v : Value) (h : OAt w v hC) : Calls Try.prog 11 #[.agg #[v], .int .i64 5, .int .i64 1] w (RV w (false, 9) true) := by
  have := read_ok 5 1 h shC
  rw [show readO hC 5 1 = (false, 9) by decide, show hasO hC 5 1 = true by decide] at this
  exact this
theorem s5 (w : World) (v : Value) (h : OAt w v hC) : Calls Try.prog 9 #[.agg #[v], .int .i64 2] w (RO w (2, []) true) := by
  have := get_ok 2 h shC
  rw [show getO hC 2 = (2, []) by decide, show inO hC 2 = true by decide] at this
  exact this
theorem s6 (w : World) (v : Value) (h : OAt w v hC) : Calls Try.prog 11 #[.agg #[v], .int .i64 5, .int .i64 2] w (RV w (false, 0) false) := by
  have := read_ok 5 2 h shC
  rw [show readO hC 5 2 = (false, 0) by decide, show hasO hC 5 2 = false by decide] at this
  exact this
theorem s7 (w : World) (v : Value) (h : OAt w v hC) : Calls Try.prog 19 #[.agg #[v]] w (RetB w true) := by
  have := valid_ok h shC
  rw [show ascO 0 hC = true by decide] at this
  exact this
theorem s8 (w : World) (v u : Value) (h : OAt w v hC) (h2 : OAt w u hB) : Calls Try.prog 21 #[.agg #[v], .agg #[u]] w (RetB w false) := by
  have := same_ok h h2 shC shB
  rw [show decide (hC = hB) = false by decide] at this
  exact this
theorem s9 (w : World) (v u : Value) (h : OAt w v hB) (h2 : OAt w u hB) : Calls Try.prog 21 #[.agg #[v], .agg #[u]] w (RetB w true) := by
  have := same_ok h h2 shB shB
  rw [show decide (hB = hB) = true by decide] at this
  exact this

set_option maxHeartbeats 2000000 in
set_option maxRecDepth 100000 in
theorem sane_any (w : World) : Calls Try.prog 6 #[] w (RetB w true) := by
  go_enter Try.func6, Try.ntmps6
  go_wp2_with fail
  refine (s1 _ _ (vs_two _ (false, 1) (false, 2))).mono ?_
  rintro e w1 ⟨a1, n1, c1, rfl, h1, hb1⟩
  have B1 := Lib.hid ((below1 w _).then_' hb1)
  have H1 := Lib.hid h1.at_
  clear hb1 h1
  go_wp2_with fail
  refine (s2 _ _ (H1.out.below (below1 _ _))).mono ?_
  rintro e w2 ⟨a2, n2, c2, rfl, h2, hb2⟩
  have hP := (At1.new w1 (.slice a1 n1 c1) 24).below hb2
  have p2 := hP.c0
  have q2 := hP.f0
  have H2 := Lib.hid (h2.set (p := ⟨w1.heap.size, 0, none⟩) (by simp) (.slice a2 n2 c2)).at_
  have P2 := Lib.hid (hP.put (.slice a2 n2 c2))
  have B2 := Lib.hid (((Below.new B1.out (.cells #[.slice a1 n1 c1] 24)).then_' hb2).setCell (p := ⟨w1.heap.size, 0, none⟩) B1.out.size (.slice a2 n2 c2))
  clear hb2 h2 hP
  go_wp2_with fail
  clear p2 q2
  generalize w2.setCell ⟨w1.heap.size, 0, none⟩ (.slice a2 n2 c2) = v2 at *
  refine (s3 _ _ H2.out).mono ?_
  rintro e w3 ⟨a3, n3, c3, rfl, h3, hb3⟩
  obtain rfl : n3 = 2 := h3.len
  have hb3' := hb3.then_' (below1 w3 (.cells #[.slice a3 2 c3] 24))
  have H3 := Lib.hid (h3.below (below1 w3 (.cells #[.slice a3 2 c3] 24)))
  have H23 := Lib.hid (H2.out.below hb3')
  have P23 := Lib.hid (P2.out.below hb3')
  have P3 := Lib.hid (At1.new w3 (.slice a3 2 c3) 24)
  have B3 := Lib.hid (B2.out.then_' hb3')
  have p3 := P3.out.c0
  clear hb3 h3 hb3'
  go_wp2_with fail
  generalize w3.alloc (.cells #[.slice a3 2 c3] 24) = v3 at *
  clear p3
  refine (s4 _ _ H3.out).mono ?_
  rintro e w4 ⟨rfl, hb4⟩
  have hb4' := hb4.then_' (below1 w4 (.cells #[.bool false, .int .i64 9] 29))
  have P4 := Lib.hid (At2.new w4 (.bool false) (.int .i64 9) 29)
  have B4 := Lib.hid (B3.out.then_' hb4')
  have H34 := Lib.hid (H3.out.below hb4')
  have H24 := Lib.hid (H23.out.below hb4')
  have P24 := Lib.hid (P23.out.below hb4')
  have P34 := Lib.hid (P3.out.below hb4')
  have p34 := P34.out.c0
  clear hb4 hb4'
  go_wp2_with fail
  generalize w4.alloc (.cells #[.bool false, .int .i64 9] 29) = v4 at *
  clear p34
  refine (s5 _ _ H34.out).mono ?_
  rintro e w5 ⟨a5, n5, c5, rfl, h5, hb5⟩
  have hb5' := hb5.then_' (below1 w5 (.cells #[.int .i64 2, .slice a5 n5 c5] 27))
  have P5 := Lib.hid (At2.new w5 (.int .i64 2) (.slice a5 n5 c5) 27)
  have B5 := Lib.hid (B4.out.then_' hb5')
  have H35 := Lib.hid (H34.out.below hb5')
  have H25 := Lib.hid (H24.out.below hb5')
  have P25 := Lib.hid (P24.out.below hb5')
  have P35 := Lib.hid (P34.out.below hb5')
  have P45 := Lib.hid (P4.out.below hb5')
  have p35 := P35.out.c0
  clear h5 hb5 hb5'
  go_wp2_with fail
  generalize w5.alloc (.cells #[.int .i64 2, .slice a5 n5 c5] 27) = v5 at *
  clear p35
  refine (s6 _ _ H35.out).mono ?_
  rintro e w6 ⟨rfl, hb6⟩
  have hb6' := hb6.then_' (below1 w6 (.cells #[.bool false, .int .i64 0] 29))
  have B6 := Lib.hid (B5.out.then_' hb6')
  have H36 := Lib.hid (H35.out.below hb6')
  have H26 := Lib.hid (H25.out.below hb6')
  have P26 := Lib.hid (P25.out.below hb6')
  have P36 := Lib.hid (P35.out.below hb6')
  have P46 := Lib.hid (P45.out.below hb6')
  have P56 := Lib.hid (P5.out.below hb6')
  have k1 := P46.out.c1
  have k2 := P56.out.c0
  have k3 := P36.out.c0
  clear hb6 hb6'
  go_wp2_with fail
  generalize w6.alloc (.cells #[.bool false, .int .i64 0] 29) = v6 at *
  clear k1 k2 k3
  refine (s7 _ _ H36.out).mono ?_
  rintro e w7 ⟨rfl, hb7⟩
  have B7 := Lib.hid (B6.out.then_' hb7)
  have H37 := Lib.hid (H36.out.below hb7)
  have H27 := Lib.hid (H26.out.below hb7)
  have P27 := Lib.hid (P26.out.below hb7)
  have P37 := Lib.hid (P36.out.below hb7)
  have k1 := P27.out.c0
  have k2 := P37.out.c0
  clear hb7
  go_wp2_with fail
  clear k1 k2
  refine (s8 _ _ _ H37.out H27.out).mono ?_
  rintro e w8 ⟨rfl, hb8⟩
  have B8 := Lib.hid (B7.out.then_' hb8)
  have H28 := Lib.hid (H27.out.below hb8)
  have P28 := Lib.hid (P27.out.below hb8)
  have k1 := P28.out.c0
  clear hb8
  go_wp2_with fail
  refine (s9 _ _ _ H28.out H28.out).mono ?_
  rintro e w9 ⟨rfl, hb9⟩
  have B9 := Lib.hid (B8.out.then_' hb9)
  clear hb9 k1
  go_wp2
  go_ret
  exact ⟨rfl, B9.out⟩
end Go.Proofs.Ytngjedfoogmbjaa
