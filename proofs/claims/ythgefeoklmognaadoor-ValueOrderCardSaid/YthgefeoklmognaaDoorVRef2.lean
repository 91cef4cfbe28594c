/- The reference's Apply: faults, the comparison, every operator. -/
import Derived.Test.YthgefeoklmognaaDoorVRef
namespace Go.Proofs.YthgefeoklmognaaDoor
open Go.RowKit Go.MapKept

set_option maxHeartbeats 1000000 in
set_option maxRecDepth 100000 in
theorem rapply4m (x : Int) (w : World) : Calls Tryd.prog 10 #[.int .i64 4, .agg #[.bool false, .int .i64 x], .agg #[.bool false, .int .i64 (-1)]] w (RetV w (wrap64 (x.tdiv (-1))) 0) := by
  have Hx := Lib.hid (show wrap64 (-x) = wrap64 (x.tdiv (-1)) by rw [Int.tdiv_neg, Int.tdiv_one])
  go_enter Tryd.func10, Tryd.ntmps10
  go_wp2_with fail
  go_quiet (fail)
  go_wp2_with (go_at_call 24; refine (number_any _ _).mono ?_; rintro e w2 ⟨rfl, hb⟩; have hc := old_cells hb; have hf := old_marks hb)
  refine bodyPost_ret (v := .tuple #[.agg #[.bool false, .int .i64 (wrap64 (-x))], .int .i64 0]) (by simp [results, Tryd.results10, go_sem, hc]) rfl ?_
  exact retV Hx.out (below_draws hb _ _ _ _ (by simp; omega) (by simp; omega))
set_option maxHeartbeats 1000000 in
set_option maxRecDepth 100000 in
theorem rapply4z (x : Int) (w : World) : Calls Tryd.prog 10 #[.int .i64 4, .agg #[.bool false, .int .i64 x], .agg #[.bool false, .int .i64 0]] w (RetV w 0 (-3)) := by
  go_enter Tryd.func10, Tryd.ntmps10
  go_wp2_with fail
  go_quiet (fail)
  go_wp2_with fail
  refine bodyPost_ret (v := .tuple #[.agg #[.bool false, .int .i64 0], .int .i64 (-3)]) (by simp [results, Tryd.results10, go_sem]) rfl ?_
  exact retV rfl ((below_draws0.setCell (by simp; omega) _).setCell (by simp; omega) _)
set_option maxHeartbeats 1000000 in
set_option maxRecDepth 100000 in
theorem rapply11a (r s : Bool) (x y : Int) (w : World) (h : r = s ∧ x = y) : Calls Tryd.prog 10 #[.int .i64 11, .agg #[.bool r, .int .i64 x], .agg #[.bool s, .int .i64 y]] w (RetV w 1 0) := by
  obtain ⟨rfl, rfl⟩ := h
  go_enter Tryd.func10, Tryd.ntmps10
  go_wp2_with (go_at_call 23; refine (flag_any _ _).mono ?_; rintro e w2 ⟨rfl, hb⟩; have hc := old_cells hb; have hf := old_marks hb)
  refine bodyPost_ret (v := .tuple #[.agg #[.bool false, .int .i64 1], .int .i64 0]) (by simp [results, Tryd.results10, go_sem, hc, bN]) rfl ?_
  exact retV rfl (below_three hb _ _ _ _ (by simp; omega) (by simp; omega))
set_option maxHeartbeats 1000000 in
set_option maxRecDepth 100000 in
theorem rapply11b (r s : Bool) (x y : Int) (w : World) (h : r = s ∧ ¬ x = y) : Calls Tryd.prog 10 #[.int .i64 11, .agg #[.bool r, .int .i64 x], .agg #[.bool s, .int .i64 y]] w (RetV w 0 0) := by
  obtain ⟨rfl, h⟩ := h
  go_enter Tryd.func10, Tryd.ntmps10
  go_wp2_with (go_at_call 23; refine (flag_any _ _).mono ?_; rintro e w2 ⟨rfl, hb⟩; have hc := old_cells hb; have hf := old_marks hb)
  refine bodyPost_ret (v := .tuple #[.agg #[.bool false, .int .i64 0], .int .i64 0]) (by simp [results, Tryd.results10, go_sem, hc, bN]) rfl ?_
  exact retV rfl (below_three hb _ _ _ _ (by simp; omega) (by simp; omega))
set_option maxHeartbeats 1000000 in
set_option maxRecDepth 100000 in
theorem rapply11c (r s : Bool) (x y : Int) (w : World) (h : ¬ r = s) : Calls Tryd.prog 10 #[.int .i64 11, .agg #[.bool r, .int .i64 x], .agg #[.bool s, .int .i64 y]] w (RetV w 0 0) := by
  go_enter Tryd.func10, Tryd.ntmps10
  go_wp2_with (go_at_call 23; refine (flag_any _ _).mono ?_; rintro e w2 ⟨rfl, hb⟩; have hc := old_cells hb; have hf := old_marks hb)
  refine bodyPost_ret (v := .tuple #[.agg #[.bool false, .int .i64 0], .int .i64 0]) (by simp [results, Tryd.results10, go_sem, hc, bN]) rfl ?_
  exact retV rfl (below_three hb _ _ _ _ (by simp; omega) (by simp; omega))
set_option maxHeartbeats 1000000 in
set_option maxRecDepth 100000 in
theorem rapply_low (op x y : Int) (w : World) (r s : Bool) (hop : op < 1) : Calls Tryd.prog 10 #[.int .i64 op, .agg #[.bool r, .int .i64 x], .agg #[.bool s, .int .i64 y]] w (RetV w 0 (-2)) := by
  have _hn : (op == 11) = false := by rw [beq_eq_false_iff_ne]; omega
  go_enter Tryd.func10, Tryd.ntmps10
  go_wp2_with fail
  refine bodyPost_ret (v := .tuple #[.agg #[.bool false, .int .i64 0], .int .i64 (-2)]) (by simp [results, Tryd.results10, go_sem]) rfl ?_
  exact retV rfl below_three0
set_option maxHeartbeats 1000000 in
set_option maxRecDepth 100000 in
theorem rapply_high (op x y : Int) (w : World) (r s : Bool) (hop : 11 < op) : Calls Tryd.prog 10 #[.int .i64 op, .agg #[.bool r, .int .i64 x], .agg #[.bool s, .int .i64 y]] w (RetV w 0 (-2)) := by
  have _hn : (op == 11) = false := by rw [beq_eq_false_iff_ne]; omega
  go_enter Tryd.func10, Tryd.ntmps10
  go_wp2_with fail
  refine bodyPost_ret (v := .tuple #[.agg #[.bool false, .int .i64 0], .int .i64 (-2)]) (by simp [results, Tryd.results10, go_sem]) rfl ?_
  exact retV rfl below_three0
set_option maxHeartbeats 1000000 in
set_option maxRecDepth 100000 in
theorem rapply_ref1 (op x y : Int) (w : World) (s : Bool) (h1 : 1 ≤ op) (h2 : op ≤ 10) : Calls Tryd.prog 10 #[.int .i64 op, .agg #[.bool true, .int .i64 x], .agg #[.bool s, .int .i64 y]] w (RetV w 0 (-2)) := by
  have _hn : (op == 11) = false := by rw [beq_eq_false_iff_ne]; omega
  go_enter Tryd.func10, Tryd.ntmps10
  go_wp2_with fail
  refine bodyPost_ret (v := .tuple #[.agg #[.bool false, .int .i64 0], .int .i64 (-2)]) (by simp [results, Tryd.results10, go_sem]) rfl ?_
  exact retV rfl below_three0
set_option maxHeartbeats 1000000 in
set_option maxRecDepth 100000 in
theorem rapply_ref2 (op x y : Int) (w : World) (h1 : 1 ≤ op) (h2 : op ≤ 10) : Calls Tryd.prog 10 #[.int .i64 op, .agg #[.bool false, .int .i64 x], .agg #[.bool true, .int .i64 y]] w (RetV w 0 (-2)) := by
  have _hn : (op == 11) = false := by rw [beq_eq_false_iff_ne]; omega
  go_enter Tryd.func10, Tryd.ntmps10
  go_wp2_with fail
  refine bodyPost_ret (v := .tuple #[.agg #[.bool false, .int .i64 0], .int .i64 (-2)]) (by simp [results, Tryd.results10, go_sem]) rfl ?_
  exact retV rfl below_three0

theorem rapply_raw (op x y : Int) (w : World) (h1 : 1 ≤ op) (h2 : op ≤ 10) (hz : ¬ (op = 4 ∧ y = 0)) : Calls Tryd.prog 10 #[.int .i64 op, .agg #[.bool false, .int .i64 x], .agg #[.bool false, .int .i64 y]] w (RetV w (rawN op x y) 0) := by
  have : op = 1 ∨ op = 2 ∨ op = 3 ∨ op = 4 ∨ op = 5 ∨ op = 6 ∨ op = 7 ∨ op = 8 ∨ op = 9 ∨ op = 10 := by omega
  rcases this with rfl | rfl | rfl | rfl | rfl | rfl | rfl | rfl | rfl | rfl
  · exact rapply1 x y w
  · exact rapply2 x y w
  · exact rapply3 x y w
  · by_cases hm : y = -1
    · subst hm
      exact rapply4m x w
    · exact rapply4 x y w (fun h => hz ⟨rfl, h⟩) hm
  · by_cases h : y < x
    · exact rapply5a x y w h
    · exact rapply5b x y w (by omega)
  · by_cases h : x < y
    · exact rapply6a x y w h
    · exact rapply6b x y w (by omega)
  · exact rapply7 x y w
  · exact rapply8 x y w
  · exact rapply9 x y w
  · exact rapply10 x y w
theorem rapply11 (r s : Bool) (x y : Int) (w : World) : Calls Tryd.prog 10 #[.int .i64 11, .agg #[.bool r, .int .i64 x], .agg #[.bool s, .int .i64 y]] w (RetV w (sameN r s x y) 0) := by
  unfold sameN
  by_cases h : r = s
  · by_cases h2 : x = y
    · rw [if_pos ⟨h, h2⟩]
      exact rapply11a r s x y w ⟨h, h2⟩
    · rw [if_neg (fun q => h2 q.2)]
      exact rapply11b r s x y w ⟨h, h2⟩
  · rw [if_neg (fun q => h q.1)]
    exact rapply11c r s x y w h
theorem rapply_any (op : Int) (r s : Bool) (x y : Int) (w : World) : Calls Tryd.prog 10 #[.int .i64 op, .agg #[.bool r, .int .i64 x], .agg #[.bool s, .int .i64 y]] w (RetV w (apN op r x s y) (apF op r s y)) := by
  by_cases h11 : op = 11
  · subst h11
    exact rapply11 r s x y w
  unfold apN apF
  rw [if_neg h11, if_neg h11]
  by_cases ho : op < 1 ∨ 11 < op
  · rw [if_pos (by rcases ho with h | h <;> simp [h]), if_pos (by rcases ho with h | h <;> simp [h])]
    rcases ho with h | h
    · exact rapply_low op x y w r s h
    · exact rapply_high op x y w r s h
  have h1 : 1 ≤ op := by omega
  have h2 : op ≤ 10 := by omega
  cases r with
  | true =>
    rw [if_pos (by simp), if_pos (by simp)]
    exact rapply_ref1 op x y w s h1 h2
  | false =>
    cases s with
    | true =>
      rw [if_pos (by simp), if_pos (by simp)]
      exact rapply_ref2 op x y w h1 h2
    | false =>
      have hno : ¬ (op < 1 ∨ 11 < op ∨ false = true ∨ false = true) := by
        rintro (h | h | h | h)
        · omega
        · omega
        · cases h
        · cases h
      rw [if_neg hno, if_neg hno]
      by_cases hz : op = 4 ∧ y = 0
      · rw [if_pos hz, if_pos hz]
        obtain ⟨rfl, rfl⟩ := hz
        exact rapply4z x w
      · rw [if_neg hz, if_neg hz]
        exact rapply_raw op x y w h1 h2 hz
end Go.Proofs.YthgefeoklmognaaDoor
