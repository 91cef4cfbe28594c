/- The reference's Apply. -/
import Derived.Test.YthgefeoklmognaaDoorVApply2
namespace Go.Proofs.YthgefeoklmognaaDoor
open Go.RowKit Go.MapKept

/-- a value that is an integer, and nothing old has changed -/
def RetN (w : World) (n : Int) (e : Ending) (w' : World) : Prop := e = .returned (.agg #[.bool false, .int .i64 n]) ∧ Below w.heap.size w w'
theorem number_any (n : Int) (w : World) : Calls Tryd.prog 24 #[.int .i64 n] w (RetN w n) := by
  go_enter Tryd.func24, Tryd.ntmps24
  go_wp2
  refine bodyPost_ret (v := .agg #[.bool false, .int .i64 n]) (by simp [results, Tryd.results24, go_sem]) rfl ?_
  exact ⟨rfl, (Below.refl _ _).alloc (Nat.le_refl _) _⟩
theorem below_one {w : World} {o : Obj} {w2 : World} (hb : Below (w.alloc o).heap.size (w.alloc o) w2) (a a' : Addr) (v v' : Value) (ha : w.heap.size ≤ a.block) (ha' : w.heap.size ≤ a'.block) : Below w.heap.size w ((w2.setCell a v).setCell a' v') :=
  ((((Below.refl _ _).alloc (Nat.le_refl _) _).trans (hb.mono (by simp))).setCell ha _).setCell ha' _
theorem below_three {w : World} {o1 o2 o3 : Obj} {w2 : World} (hb : Below (((w.alloc o1).alloc o2).alloc o3).heap.size (((w.alloc o1).alloc o2).alloc o3) w2) (a a' : Addr) (v v' : Value) (ha : w.heap.size ≤ a.block) (ha' : w.heap.size ≤ a'.block) :
    Below w.heap.size w ((w2.setCell a v).setCell a' v') :=
  ((((((Below.refl _ _).alloc (Nat.le_refl _) _).alloc (by simp) _).alloc (by simp; omega) _).trans (hb.mono (by simp; omega))).setCell ha _).setCell ha' _
theorem below_drewN {w W : World} {n : Nat} {B : Nat} (h : Below B w W) : Below B w (W.drewN n) := by
  induction n with
  | zero => exact h
  | succ n ih => exact ih.drew
theorem below_draws {w : World} {o1 o2 o3 : Obj} {n : Nat} {w2 : World} (hb : Below ((((w.alloc o1).alloc o2).alloc o3).drewN n).heap.size ((((w.alloc o1).alloc o2).alloc o3).drewN n) w2) (a a' : Addr) (v v' : Value) (ha : w.heap.size ≤ a.block) (ha' : w.heap.size ≤ a'.block) :
    Below w.heap.size w ((w2.setCell a v).setCell a' v') :=
  (((below_drewN ((((Below.refl _ _).alloc (Nat.le_refl _) _).alloc (by simp) _).alloc (by simp; omega) _)).trans (hb.mono (by simp; omega))).setCell ha _).setCell ha' _
theorem below_draws0 {w : World} {o1 o2 o3 : Obj} {n : Nat} : Below w.heap.size w ((((w.alloc o1).alloc o2).alloc o3).drewN n) :=
  below_drewN ((((Below.refl _ _).alloc (Nat.le_refl _) _).alloc (by simp) _).alloc (by simp; omega) _)
theorem below_three0 {w : World} {o1 o2 o3 : Obj} : Below w.heap.size w (((w.alloc o1).alloc o2).alloc o3) :=
  (((Below.refl _ _).alloc (Nat.le_refl _) _).alloc (by simp) _).alloc (by simp; omega) _
def bN (b : Bool) : Int := if b then 1 else 0
theorem flag_any (b : Bool) (w : World) : Calls Tryd.prog 23 #[.bool b] w (RetN w (bN b)) := by
  cases b with
  | true =>
    go_enter Tryd.func23, Tryd.ntmps23
    go_wp2_with (go_at_call 24; refine (number_any _ _).mono ?_; rintro e w2 ⟨rfl, hb⟩; have hc := old_cells hb; have hf := old_marks hb)
    refine bodyPost_ret (v := .agg #[.bool false, .int .i64 1]) (by simp [results, Tryd.results23, go_sem, hc]) rfl ?_
    exact ⟨rfl, below_one hb _ _ _ _ (Nat.le_refl _) (Nat.le_refl _)⟩
  | false =>
    go_enter Tryd.func23, Tryd.ntmps23
    go_wp2_with (go_at_call 24; refine (number_any _ _).mono ?_; rintro e w2 ⟨rfl, hb⟩; have hc := old_cells hb; have hf := old_marks hb)
    refine bodyPost_ret (v := .agg #[.bool false, .int .i64 0]) (by simp [results, Tryd.results23, go_sem, hc]) rfl ?_
    exact ⟨rfl, below_one hb _ _ _ _ (Nat.le_refl _) (Nat.le_refl _)⟩
set_option maxHeartbeats 1000000 in
set_option maxRecDepth 100000 in
theorem rapply1 (x y : Int) (w : World) : Calls Tryd.prog 10 #[.int .i64 1, .agg #[.bool false, .int .i64 x], .agg #[.bool false, .int .i64 y]] w (RetV w (wrap64 (x + y)) 0) := by
  go_enter Tryd.func10, Tryd.ntmps10
  go_wp2_with fail
  go_quiet (fail)
  go_wp2_with (first | (go_at_call 24; refine (number_any _ _).mono ?_; rintro e w2 ⟨rfl, hb⟩; have hc := old_cells hb; have hf := old_marks hb) | (go_at_call 23; refine (flag_any _ _).mono ?_; rintro e w2 ⟨rfl, hb⟩; have hc := old_cells hb; have hf := old_marks hb))
  refine bodyPost_ret (v := .tuple #[.agg #[.bool false, .int .i64 (wrap64 (x + y))], .int .i64 0]) (by simp [results, Tryd.results10, go_sem, hc]) rfl ?_
  exact retV (rfl) (below_draws hb _ _ _ _ (by simp; omega) (by simp; omega))
set_option maxHeartbeats 1000000 in
set_option maxRecDepth 100000 in
theorem rapply2 (x y : Int) (w : World) : Calls Tryd.prog 10 #[.int .i64 2, .agg #[.bool false, .int .i64 x], .agg #[.bool false, .int .i64 y]] w (RetV w (wrap64 (x - y)) 0) := by
  go_enter Tryd.func10, Tryd.ntmps10
  go_wp2_with fail
  go_quiet (fail)
  go_wp2_with (first | (go_at_call 24; refine (number_any _ _).mono ?_; rintro e w2 ⟨rfl, hb⟩; have hc := old_cells hb; have hf := old_marks hb) | (go_at_call 23; refine (flag_any _ _).mono ?_; rintro e w2 ⟨rfl, hb⟩; have hc := old_cells hb; have hf := old_marks hb))
  refine bodyPost_ret (v := .tuple #[.agg #[.bool false, .int .i64 (wrap64 (x - y))], .int .i64 0]) (by simp [results, Tryd.results10, go_sem, hc]) rfl ?_
  exact retV (rfl) (below_draws hb _ _ _ _ (by simp; omega) (by simp; omega))
set_option maxHeartbeats 1000000 in
set_option maxRecDepth 100000 in
theorem rapply3 (x y : Int) (w : World) : Calls Tryd.prog 10 #[.int .i64 3, .agg #[.bool false, .int .i64 x], .agg #[.bool false, .int .i64 y]] w (RetV w (wrap64 (x * y)) 0) := by
  go_enter Tryd.func10, Tryd.ntmps10
  go_wp2_with fail
  go_quiet (fail)
  go_wp2_with (first | (go_at_call 24; refine (number_any _ _).mono ?_; rintro e w2 ⟨rfl, hb⟩; have hc := old_cells hb; have hf := old_marks hb) | (go_at_call 23; refine (flag_any _ _).mono ?_; rintro e w2 ⟨rfl, hb⟩; have hc := old_cells hb; have hf := old_marks hb))
  refine bodyPost_ret (v := .tuple #[.agg #[.bool false, .int .i64 (wrap64 (x * y))], .int .i64 0]) (by simp [results, Tryd.results10, go_sem, hc]) rfl ?_
  exact retV (rfl) (below_draws hb _ _ _ _ (by simp; omega) (by simp; omega))
set_option maxHeartbeats 1000000 in
set_option maxRecDepth 100000 in
theorem rapply4 (x y : Int) (w : World) (hy0 : ¬ y = 0) (hy1 : ¬ y = -1) : Calls Tryd.prog 10 #[.int .i64 4, .agg #[.bool false, .int .i64 x], .agg #[.bool false, .int .i64 y]] w (RetV w (wrap64 (x.tdiv y)) 0) := by
  have _h0 : (y == 0) = false := by simpa using hy0
  have _h1 : (y == -1) = false := by simpa using hy1
  go_enter Tryd.func10, Tryd.ntmps10
  go_wp2_with fail
  go_quiet (fail)
  go_wp2_with (first | (go_at_call 24; refine (number_any _ _).mono ?_; rintro e w2 ⟨rfl, hb⟩; have hc := old_cells hb; have hf := old_marks hb) | (go_at_call 23; refine (flag_any _ _).mono ?_; rintro e w2 ⟨rfl, hb⟩; have hc := old_cells hb; have hf := old_marks hb))
  refine bodyPost_ret (v := .tuple #[.agg #[.bool false, .int .i64 (wrap64 (x.tdiv y))], .int .i64 0]) (by simp [results, Tryd.results10, go_sem, hc]) rfl ?_
  exact retV (rfl) (below_draws hb _ _ _ _ (by simp; omega) (by simp; omega))
set_option maxHeartbeats 1000000 in
set_option maxRecDepth 100000 in
theorem rapply5a (x y : Int) (w : World) (h : y < x) : Calls Tryd.prog 10 #[.int .i64 5, .agg #[.bool false, .int .i64 x], .agg #[.bool false, .int .i64 y]] w (RetV w (minN x y) 0) := by
  go_enter Tryd.func10, Tryd.ntmps10
  go_wp2_with fail
  go_quiet (fail)
  go_wp2_with (first | (go_at_call 24; refine (number_any _ _).mono ?_; rintro e w2 ⟨rfl, hb⟩; have hc := old_cells hb; have hf := old_marks hb) | (go_at_call 23; refine (flag_any _ _).mono ?_; rintro e w2 ⟨rfl, hb⟩; have hc := old_cells hb; have hf := old_marks hb))
  refine bodyPost_ret (v := .tuple #[.agg #[.bool false, .int .i64 (y)], .int .i64 0]) (by simp [results, Tryd.results10, go_sem, hc]) rfl ?_
  exact retV (by unfold minN; rw [if_pos h]) (below_draws hb _ _ _ _ (by simp; omega) (by simp; omega))
set_option maxHeartbeats 1000000 in
set_option maxRecDepth 100000 in
theorem rapply5b (x y : Int) (w : World) (h : x ≤ y) : Calls Tryd.prog 10 #[.int .i64 5, .agg #[.bool false, .int .i64 x], .agg #[.bool false, .int .i64 y]] w (RetV w (minN x y) 0) := by
  go_enter Tryd.func10, Tryd.ntmps10
  go_wp2_with fail
  go_quiet (fail)
  go_wp2_with (first | (go_at_call 24; refine (number_any _ _).mono ?_; rintro e w2 ⟨rfl, hb⟩; have hc := old_cells hb; have hf := old_marks hb) | (go_at_call 23; refine (flag_any _ _).mono ?_; rintro e w2 ⟨rfl, hb⟩; have hc := old_cells hb; have hf := old_marks hb))
  refine bodyPost_ret (v := .tuple #[.agg #[.bool false, .int .i64 (x)], .int .i64 0]) (by simp [results, Tryd.results10, go_sem, hc]) rfl ?_
  exact retV (by unfold minN; rw [if_neg (by omega)]) (below_draws hb _ _ _ _ (by simp; omega) (by simp; omega))
set_option maxHeartbeats 1000000 in
set_option maxRecDepth 100000 in
theorem rapply6a (x y : Int) (w : World) (h : x < y) : Calls Tryd.prog 10 #[.int .i64 6, .agg #[.bool false, .int .i64 x], .agg #[.bool false, .int .i64 y]] w (RetV w (maxN x y) 0) := by
  go_enter Tryd.func10, Tryd.ntmps10
  go_wp2_with fail
  go_quiet (fail)
  go_wp2_with (first | (go_at_call 24; refine (number_any _ _).mono ?_; rintro e w2 ⟨rfl, hb⟩; have hc := old_cells hb; have hf := old_marks hb) | (go_at_call 23; refine (flag_any _ _).mono ?_; rintro e w2 ⟨rfl, hb⟩; have hc := old_cells hb; have hf := old_marks hb))
  refine bodyPost_ret (v := .tuple #[.agg #[.bool false, .int .i64 (y)], .int .i64 0]) (by simp [results, Tryd.results10, go_sem, hc]) rfl ?_
  exact retV (by unfold maxN; rw [if_pos h]) (below_draws hb _ _ _ _ (by simp; omega) (by simp; omega))
set_option maxHeartbeats 1000000 in
set_option maxRecDepth 100000 in
theorem rapply6b (x y : Int) (w : World) (h : y ≤ x) : Calls Tryd.prog 10 #[.int .i64 6, .agg #[.bool false, .int .i64 x], .agg #[.bool false, .int .i64 y]] w (RetV w (maxN x y) 0) := by
  go_enter Tryd.func10, Tryd.ntmps10
  go_wp2_with fail
  go_quiet (fail)
  go_wp2_with (first | (go_at_call 24; refine (number_any _ _).mono ?_; rintro e w2 ⟨rfl, hb⟩; have hc := old_cells hb; have hf := old_marks hb) | (go_at_call 23; refine (flag_any _ _).mono ?_; rintro e w2 ⟨rfl, hb⟩; have hc := old_cells hb; have hf := old_marks hb))
  refine bodyPost_ret (v := .tuple #[.agg #[.bool false, .int .i64 (x)], .int .i64 0]) (by simp [results, Tryd.results10, go_sem, hc]) rfl ?_
  exact retV (by unfold maxN; rw [if_neg (by omega)]) (below_draws hb _ _ _ _ (by simp; omega) (by simp; omega))
set_option maxHeartbeats 1000000 in
set_option maxRecDepth 100000 in
theorem rapply7 (x y : Int) (w : World) : Calls Tryd.prog 10 #[.int .i64 7, .agg #[.bool false, .int .i64 x], .agg #[.bool false, .int .i64 y]] w (RetV w (bits .and .i64 x y) 0) := by
  go_enter Tryd.func10, Tryd.ntmps10
  go_wp2_with fail
  go_quiet (fail)
  go_wp2_with (first | (go_at_call 24; refine (number_any _ _).mono ?_; rintro e w2 ⟨rfl, hb⟩; have hc := old_cells hb; have hf := old_marks hb) | (go_at_call 23; refine (flag_any _ _).mono ?_; rintro e w2 ⟨rfl, hb⟩; have hc := old_cells hb; have hf := old_marks hb))
  refine bodyPost_ret (v := .tuple #[.agg #[.bool false, .int .i64 (bits .and .i64 x y)], .int .i64 0]) (by simp [results, Tryd.results10, go_sem, hc]) rfl ?_
  exact retV (rfl) (below_draws hb _ _ _ _ (by simp; omega) (by simp; omega))
set_option maxHeartbeats 1000000 in
set_option maxRecDepth 100000 in
theorem rapply8 (x y : Int) (w : World) : Calls Tryd.prog 10 #[.int .i64 8, .agg #[.bool false, .int .i64 x], .agg #[.bool false, .int .i64 y]] w (RetV w (bits .or .i64 x y) 0) := by
  go_enter Tryd.func10, Tryd.ntmps10
  go_wp2_with fail
  go_quiet (fail)
  go_wp2_with (first | (go_at_call 24; refine (number_any _ _).mono ?_; rintro e w2 ⟨rfl, hb⟩; have hc := old_cells hb; have hf := old_marks hb) | (go_at_call 23; refine (flag_any _ _).mono ?_; rintro e w2 ⟨rfl, hb⟩; have hc := old_cells hb; have hf := old_marks hb))
  refine bodyPost_ret (v := .tuple #[.agg #[.bool false, .int .i64 (bits .or .i64 x y)], .int .i64 0]) (by simp [results, Tryd.results10, go_sem, hc]) rfl ?_
  exact retV (rfl) (below_draws hb _ _ _ _ (by simp; omega) (by simp; omega))
set_option maxHeartbeats 1000000 in
set_option maxRecDepth 100000 in
theorem rapply9 (x y : Int) (w : World) : Calls Tryd.prog 10 #[.int .i64 9, .agg #[.bool false, .int .i64 x], .agg #[.bool false, .int .i64 y]] w (RetV w (bits .xor .i64 x y) 0) := by
  go_enter Tryd.func10, Tryd.ntmps10
  go_wp2_with fail
  go_quiet (fail)
  go_wp2_with (first | (go_at_call 24; refine (number_any _ _).mono ?_; rintro e w2 ⟨rfl, hb⟩; have hc := old_cells hb; have hf := old_marks hb) | (go_at_call 23; refine (flag_any _ _).mono ?_; rintro e w2 ⟨rfl, hb⟩; have hc := old_cells hb; have hf := old_marks hb))
  refine bodyPost_ret (v := .tuple #[.agg #[.bool false, .int .i64 (bits .xor .i64 x y)], .int .i64 0]) (by simp [results, Tryd.results10, go_sem, hc]) rfl ?_
  exact retV (rfl) (below_draws hb _ _ _ _ (by simp; omega) (by simp; omega))
set_option maxHeartbeats 1000000 in
set_option maxRecDepth 100000 in
theorem rapply10 (x y : Int) (w : World) : Calls Tryd.prog 10 #[.int .i64 10, .agg #[.bool false, .int .i64 x], .agg #[.bool false, .int .i64 y]] w (RetV w (lessN x y) 0) := by
  go_enter Tryd.func10, Tryd.ntmps10
  go_wp2_with fail
  go_quiet (fail)
  go_wp2_with (first | (go_at_call 24; refine (number_any _ _).mono ?_; rintro e w2 ⟨rfl, hb⟩; have hc := old_cells hb; have hf := old_marks hb) | (go_at_call 23; refine (flag_any _ _).mono ?_; rintro e w2 ⟨rfl, hb⟩; have hc := old_cells hb; have hf := old_marks hb))
  refine bodyPost_ret (v := .tuple #[.agg #[.bool false, .int .i64 (bN (decide (x < y)))], .int .i64 0]) (by simp [results, Tryd.results10, go_sem, hc]) rfl ?_
  exact retV (by unfold lessN bN; simp) (below_draws hb _ _ _ _ (by simp; omega) (by simp; omega))
end Go.Proofs.YthgefeoklmognaaDoor
