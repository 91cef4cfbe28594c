/- Truthy, Unit, Assoc, at. -/
import Derived.Test.YthgefeoklmognaaDoorVRef2
namespace Go.Proofs.YthgefeoklmognaaDoor
open Go.RowKit Go.MapKept

/-- a bool, and nothing old has changed -/
def RetB (w : World) (b : Bool) (e : Ending) (w' : World) : Prop := e = .returned (.bool b) ∧ Below w.heap.size w w'
theorem retB {w w' : World} {a b : Bool} (h : a = b) (hb : Below w.heap.size w w') : RetB w b (.returned (.bool a)) w' := by subst h; exact ⟨rfl, hb⟩
theorem below1 (w : World) (o : Obj) : Below w.heap.size w (w.alloc o) := (Below.refl _ _).alloc (Nat.le_refl _) _
theorem truthy_any (r : Bool) (n : Int) (w : World) : Calls Tryd.prog 11 #[.agg #[.bool r, .int .i64 n]] w (RetB w (n != 0)) := by
  go_enter Tryd.func11, Tryd.ntmps11
  go_wp2
  go_ret
  exact retB rfl (below1 _ _)
theorem rtruthy_any (r : Bool) (n : Int) (w : World) : Calls Tryd.prog 12 #[.agg #[.bool r, .int .i64 n]] w (RetB w (n != 0)) := by
  go_enter Tryd.func12, Tryd.ntmps12
  go_wp2
  go_ret
  exact retB rfl (below1 _ _)

/-- the unit of an operator, and whether it has one -/
def unitN (op : Int) : Int := if op = 3 then 1 else if op = 5 then 9223372036854775807 else if op = 6 then -9223372036854775808 else if op = 7 then -1 else 0
def assocB (op : Int) : Bool := decide (op = 1 ∨ op = 3 ∨ (5 ≤ op ∧ op ≤ 9))
def RetU (w : World) (n : Int) (b : Bool) (e : Ending) (w' : World) : Prop := e = .returned (.tuple #[.agg #[.bool false, .int .i64 n], .bool b]) ∧ Below w.heap.size w w'
theorem retU {w w' : World} {n m : Int} {a b : Bool} (h : m = n) (h2 : a = b) (hb : Below w.heap.size w w') : RetU w n b (.returned (.tuple #[.agg #[.bool false, .int .i64 m], .bool a])) w' := by subst h h2; exact ⟨rfl, hb⟩
theorem assoc_cases {op : Int} (h : assocB op = true) : op = 1 ∨ op = 3 ∨ op = 5 ∨ op = 6 ∨ op = 7 ∨ op = 8 ∨ op = 9 := by
  have := of_decide_eq_true h
  omega
theorem assoc_not {op : Int} (h : assocB op = false) : op ≠ 1 ∧ op ≠ 3 ∧ op ≠ 5 ∧ op ≠ 6 ∧ op ≠ 7 ∧ op ≠ 8 ∧ op ≠ 9 := by
  have := of_decide_eq_false h
  omega
theorem eqb_no {a b : Int} (h : a ≠ b) : (a == b) = false := by simpa using h
set_option maxHeartbeats 1000000 in
set_option maxRecDepth 100000 in
theorem unit_any (op : Int) (w : World) : Calls Tryd.prog 15 #[.int .i64 op] w (RetU w (unitN op) (assocB op)) := by
  cases h : assocB op with
  | true =>
    have hc := assoc_cases h
    clear h
    rcases hc with rfl | rfl | rfl | rfl | rfl | rfl | rfl
    all_goals
      go_enter Tryd.func15, Tryd.ntmps15
      go_wp2
      refine bodyPost_ret (v := .tuple #[.agg #[.bool false, .int .i64 _], .bool true]) (by simp [results, Tryd.results15, go_sem]; rfl) rfl ?_
      exact retU rfl rfl (below1 _ _)
  | false =>
    obtain ⟨h1, h3, h5, h6, h7, h8, h9⟩ := assoc_not h
    have hu : unitN op = 0 := by unfold unitN; rw [if_neg h3, if_neg h5, if_neg h6, if_neg h7]
    rw [hu]
    have _e1 := eqb_no h1
    have _e3 := eqb_no h3
    have _e5 := eqb_no h5
    have _e6 := eqb_no h6
    have _e7 := eqb_no h7
    have _e8 := eqb_no h8
    have _e9 := eqb_no h9
    clear h hu
    go_enter Tryd.func15, Tryd.ntmps15
    go_wp2
    refine bodyPost_ret (v := .tuple #[.agg #[.bool false, .int .i64 0], .bool false]) (by simp [results, Tryd.results15, go_sem]) rfl ?_
    exact retU rfl rfl (below1 _ _)

set_option maxHeartbeats 1000000 in
set_option maxRecDepth 100000 in
theorem runit_any (op : Int) (w : World) : Calls Tryd.prog 16 #[.int .i64 op] w (RetU w (unitN op) (assocB op)) := by
  cases h : assocB op with
  | true =>
    have hc := assoc_cases h
    clear h
    rcases hc with rfl | rfl | rfl | rfl | rfl | rfl | rfl
    all_goals
      go_enter Tryd.func16, Tryd.ntmps16
      go_wp2_with (go_at_call 24; refine (number_any _ _).mono ?_; rintro e w2 ⟨rfl, hb⟩; have hc := old_cells hb; have hf := old_marks hb)
      refine bodyPost_ret (v := .tuple #[.agg #[.bool false, .int .i64 _], .bool true]) (by simp [results, Tryd.results16, go_sem, hc]; rfl) rfl ?_
      exact retU rfl rfl (below_one hb _ _ _ _ (Nat.le_refl _) (Nat.le_refl _))
  | false =>
    obtain ⟨h1, h3, h5, h6, h7, h8, h9⟩ := assoc_not h
    have hu : unitN op = 0 := by unfold unitN; rw [if_neg h3, if_neg h5, if_neg h6, if_neg h7]
    rw [hu]
    have _e1 := eqb_no h1
    have _e3 := eqb_no h3
    have _e5 := eqb_no h5
    have _e6 := eqb_no h6
    have _e7 := eqb_no h7
    have _e8 := eqb_no h8
    have _e9 := eqb_no h9
    clear h hu
    go_enter Tryd.func16, Tryd.ntmps16
    go_wp2
    refine bodyPost_ret (v := .tuple #[.agg #[.bool false, .int .i64 0], .bool false]) (by simp [results, Tryd.results16, go_sem]) rfl ?_
    exact retU rfl rfl (below1 _ _)
theorem assoc_any (op : Int) (w : World) : Calls Tryd.prog 18 #[.int .i64 op] w (RetB w (assocB op)) := by
  go_enter Tryd.func18, Tryd.ntmps18
  go_wp2_with (go_at_call 15; refine (unit_any _ _).mono ?_; rintro e w2 ⟨rfl, hb⟩)
  go_ret
  exact retB rfl (hb.alloc hb.size _)
set_option maxHeartbeats 1000000 in
set_option maxRecDepth 100000 in
theorem rassoc_any (op : Int) (w : World) : Calls Tryd.prog 19 #[.int .i64 op] w (RetB w (assocB op)) := by
  cases h : assocB op with
  | true =>
    have hc := assoc_cases h
    clear h
    rcases hc with rfl | rfl | rfl | rfl | rfl | rfl | rfl
    all_goals
      go_enter Tryd.func19, Tryd.ntmps19
      go_wp2
      go_ret
      exact retB rfl (Below.refl _ _)
  | false =>
    have hn := of_decide_eq_false h
    clear h
    have _e1 : (op == 1) = false := eqb_no (by omega)
    by_cases h3 : op < 3
    · go_enter Tryd.func19, Tryd.ntmps19
      go_wp2
      go_ret
      exact retB rfl (Below.refl _ _)
    · by_cases h9 : 9 < op
      · go_enter Tryd.func19, Tryd.ntmps19
        go_wp2
        go_ret
        exact retB rfl (Below.refl _ _)
      · obtain rfl : op = 4 := by omega
        go_enter Tryd.func19, Tryd.ntmps19
        go_wp2
        go_ret
        exact retB rfl (Below.refl _ _)
/-- what an operator gives for two numbers -/
def atN (op x y : Int) : Int := apN op false x false y
theorem at_any (op x y : Int) (w : World) : Calls Tryd.prog 21 #[.int .i64 op, .int .i64 x, .int .i64 y] w (RetI w (atN op x y)) := by
  go_enter Tryd.func21, Tryd.ntmps21
  go_wp2_with (go_at_call 9; refine (apply_any _ _ _ _ _ _).mono ?_; rintro e w2 ⟨rfl, hb⟩)
  go_ret
  exact retI rfl (hb.alloc hb.size _)
end Go.Proofs.YthgefeoklmognaaDoor
