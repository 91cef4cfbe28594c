/- The statements' sanity check; a value in a block of its own. -/
import Derived.Test.YthgefeoklmognaaDoorVOp
namespace Go.Proofs.YthgefeoklmognaaDoor
open Go.RowKit Go.MapKept

/-- block b holds a value -/
structure ValAt (w : World) (b : Nat) (r : Bool) (n : Int) : Prop where
  c0 : w.cell? ⟨b, 0, none⟩ = some (.bool r)
  c1 : w.cell? ⟨b, 1, none⟩ = some (.int .i64 n)
  lt : b < w.heap.size
theorem ValAt.new (w : World) (r : Bool) (n : Int) (t : TypeId) : ValAt (w.alloc (.cells #[.bool r, .int .i64 n] t)) w.heap.size r n :=
  ⟨by rw [cell_of_row _ _ 0 _ _ _ (heap_alloc_new w _)]; rfl, by rw [cell_of_row _ _ 1 _ _ _ (heap_alloc_new w _)]; rfl, by simp⟩
theorem ValAt.below {w w' : World} {b : Nat} {r : Bool} {n : Int} (h : ValAt w b r n) (hb : Below w.heap.size w w') : ValAt w' b r n :=
  ⟨(hb.cell (p := ⟨b, 0, none⟩) h.lt).trans h.c0, (hb.cell (p := ⟨b, 1, none⟩) h.lt).trans h.c1, Nat.lt_of_lt_of_le h.lt hb.size⟩
theorem ValAt.alloc {w : World} {b : Nat} {r : Bool} {n : Int} (h : ValAt w b r n) (o : Obj) : ValAt (w.alloc o) b r n := h.below (below1 w o)
theorem Below.new {w w' : World} (hb : Below w.heap.size w w') (o : Obj) : Below w.heap.size w (w'.alloc o) := hb.alloc hb.size o
theorem Below.then_ {w w' w'' : World} (h : Below w.heap.size w w') (h2 : Below w'.heap.size w' w'') : Below w.heap.size w w'' := h.trans (h2.mono h.size)

theorem retV_of {op x y n f : Int} {w : World} (hn : apN op false x false y = n) (hf : apF op false false y = f) : Calls Tryd.prog 9 #[.int .i64 op, .agg #[.bool false, .int .i64 x], .agg #[.bool false, .int .i64 y]] w (RetV w n f) := by
  subst hn hf
  exact apply_any op false false x y w
theorem sane1 (w : World) : Calls Tryd.prog 9 #[.int .i64 1, .agg #[.bool false, .int .i64 2], .agg #[.bool false, .int .i64 3]] w (RetV w 5 0) := retV_of (by decide +kernel) (by decide +kernel)
theorem sane2 (w : World) : Calls Tryd.prog 9 #[.int .i64 10, .agg #[.bool false, .int .i64 2], .agg #[.bool false, .int .i64 3]] w (RetV w 1 0) := retV_of (by decide +kernel) (by decide +kernel)
theorem sane3 (w : World) : Calls Tryd.prog 9 #[.int .i64 4, .agg #[.bool false, .int .i64 2], .agg #[.bool false, .int .i64 0]] w (RetV w 0 (-3)) := retV_of (by decide +kernel) (by decide +kernel)
theorem sane4 (w : World) (hg : Glob w) : Calls Tryd.prog 13 #[.int .i64 3] w (RetS w ⟨#[109, 117, 108]⟩ true) := name_any 3 w hg
theorem sane5 (w : World) : Calls Tryd.prog 15 #[.int .i64 3] w (RetU w 1 true) := unit_any 3 w
theorem sane6 (w : World) : Calls Tryd.prog 11 #[.agg #[.bool false, .int .i64 5]] w (RetB w true) := truthy_any false 5 w
theorem sane7 (w : World) : Calls Tryd.prog 18 #[.int .i64 9] w (RetB w true) := assoc_any 9 w
theorem sane8 (w : World) : Calls Tryd.prog 18 #[.int .i64 2] w (RetB w false) := assoc_any 2 w

set_option maxHeartbeats 1000000 in
set_option maxRecDepth 100000 in
theorem sane_any (w : World) (hg : Glob w) : Calls Tryd.prog 8 #[] w (RetB w true) := by
  have Hg := Lib.hid hg
  clear hg
  go_enter Tryd.func8, Tryd.ntmps8
  go_wp2_with fail
  refine (sane1 _).mono ?_
  rintro e w1 ⟨rfl, hb1⟩
  have B1 := Lib.hid (Below.new hb1 (.cells #[.bool false, .int .i64 5] 24))
  have V1 := Lib.hid (ValAt.new w1 false 5 24)
  clear hb1
  go_wp2_with fail
  refine (sane2 _).mono ?_
  rintro e w2 ⟨rfl, hb2⟩
  have B2 := Lib.hid (Below.new (Below.then_ B1.out hb2) (.cells #[.bool false, .int .i64 1] 24))
  have V2 := Lib.hid (ValAt.new w2 false 1 24)
  have V12 := Lib.hid ((V1.out.below hb2).alloc (.cells #[.bool false, .int .i64 1] 24))
  clear hb2
  go_wp2_with fail
  refine (sane3 _).mono ?_
  rintro e w3 ⟨rfl, hb3⟩
  have B3 := Lib.hid (Below.new (Below.then_ B2.out hb3) (.cells #[.bool false, .int .i64 0] 24))
  have V23 := Lib.hid ((V2.out.below hb3).alloc (.cells #[.bool false, .int .i64 0] 24))
  have V13 := Lib.hid ((V12.out.below hb3).alloc (.cells #[.bool false, .int .i64 0] 24))
  clear hb3
  go_wp2_with fail
  refine (sane4 _ (Hg.out.below B3.out)).mono ?_
  rintro e w4 ⟨rfl, hb4⟩
  have B4 := Lib.hid (Below.then_ B3.out hb4)
  have V24 := Lib.hid (V23.out.below hb4)
  have V14 := Lib.hid (V13.out.below hb4)
  clear hb4
  go_wp2_with fail
  refine (sane5 _).mono ?_
  rintro e w5 ⟨rfl, hb5⟩
  have B5 := Lib.hid (Below.new (Below.then_ B4.out hb5) (.cells #[.bool false, .int .i64 1] 24))
  obtain ⟨c20, c21, _⟩ := V24.out.below hb5
  obtain ⟨c10, c11, _⟩ := V14.out.below hb5
  clear hb5
  go_wp2_with fail
  refine (sane6 _).mono ?_
  rintro e w6 ⟨rfl, hb6⟩
  have B6 := Lib.hid (Below.then_ B5.out hb6)
  clear hb6
  go_wp2_with fail
  refine (sane7 _).mono ?_
  rintro e w7 ⟨rfl, hb7⟩
  have B7 := Lib.hid (Below.then_ B6.out hb7)
  clear hb7
  go_wp2_with fail
  refine (sane8 _).mono ?_
  rintro e w8 ⟨rfl, hb8⟩
  have B8 := Lib.hid (Below.then_ B7.out hb8)
  clear hb8
  go_wp2_with fail
  go_ret
  exact ⟨rfl, B8.out⟩
end Go.Proofs.YthgefeoklmognaaDoor
