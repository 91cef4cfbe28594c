/- The parts that kinds of statements and expressions have (of the code). -/
import Derived.Test.YtilholgbepfopaaDoorSAdd2
namespace Go.Proofs.YtilholgbepfopaaDoor
open Go.RowKit

structure SP where
  name : Bool
  fn : Bool
  op : Bool
  mostN : Int
  least : Int
  most : Int
  body : Bool
  els : Bool
structure EP where
  name : Bool
  op : Bool
  leastN : Int
  mostN : Int
  elements : Int
def sparts (k : Int) : SP × Bool :=
  if k = 1 then (⟨true, false, false, 0, 1, 1, false, false⟩, true) else
  if k = 11 then (⟨true, false, false, 0, 1, 1, false, false⟩, true) else
  if k = 2 then (⟨false, false, false, 15, 2, 2, false, false⟩, true) else
  if k = 3 then (⟨true, true, false, 0, 0, 4, false, false⟩, true) else
  if k = 4 then (⟨false, false, false, 0, 1, 1, true, true⟩, true) else
  if k = 5 then (⟨true, false, false, 0, 2, 2, true, false⟩, true) else
  if k = 6 then (⟨false, false, false, 0, 1, 1, true, false⟩, true) else
  if k = 7 then (⟨false, false, false, 0, 1, 1, false, false⟩, true) else
  if k = 8 then (⟨false, false, false, 0, 1, 1, false, false⟩, true) else
  if k = 10 then (⟨false, false, false, 0, 1, 1, false, false⟩, true) else
  if k = 9 then (⟨true, false, false, 0, 0, 0, true, true⟩, true) else
  if k = 12 then (⟨true, false, true, 0, 1, 1, false, false⟩, true) else
  (⟨false, false, false, 0, 0, 0, false, false⟩, false)
def eparts (k : Int) : EP × Bool :=
  if k = 1 then (⟨false, false, (-9223372036854775808), 9223372036854775807, 0⟩, true) else
  if k = 2 then (⟨false, false, 0, 0, 0⟩, true) else
  if k = 3 then (⟨true, false, 0, 0, 0⟩, true) else
  if k = 4 then (⟨false, false, 0, 15, 1⟩, true) else
  if k = 5 then (⟨false, true, 0, 0, 2⟩, true) else
  if k = 6 then (⟨false, false, 0, 16, 0⟩, true) else
  (⟨false, false, 0, 0, 0⟩, false)
def spV (p : SP) : Value := .agg #[.bool p.name, .bool p.fn, .bool p.op, .int .i64 p.mostN, .int .i64 p.least, .int .i64 p.most, .bool p.body, .bool p.els]
def epV (p : EP) : Value := .agg #[.bool p.name, .bool p.op, .int .i64 p.leastN, .int .i64 p.mostN, .int .i64 p.elements]
set_option maxHeartbeats 1000000 in
set_option maxRecDepth 100000 in
theorem sparts_any (k : Int) (w : World) : Calls Tryd.prog 40 #[.int .i64 k] w (fun e w' => e = .returned (.tuple #[spV (sparts k).1, .bool (sparts k).2]) ∧ Below w.heap.size w w') := by
  by_cases h1 : k = 1
  · subst h1
    go_enter Tryd.func40, Tryd.ntmps40
    go_wp2
    refine bodyPost_ret (v := .tuple #[.agg #[.bool true, .bool false, .bool false, .int .i64 0, .int .i64 1, .int .i64 1, .bool false, .bool false], .bool true]) (by simp [results, Tryd.results40, go_sem]) rfl ?_
    exact ⟨rfl, by first | exact below1 _ _ | exact Below.refl _ _⟩
  by_cases h11 : k = 11
  · subst h11
    go_enter Tryd.func40, Tryd.ntmps40
    go_wp2
    refine bodyPost_ret (v := .tuple #[.agg #[.bool true, .bool false, .bool false, .int .i64 0, .int .i64 1, .int .i64 1, .bool false, .bool false], .bool true]) (by simp [results, Tryd.results40, go_sem]) rfl ?_
    exact ⟨rfl, by first | exact below1 _ _ | exact Below.refl _ _⟩
  by_cases h2 : k = 2
  · subst h2
    go_enter Tryd.func40, Tryd.ntmps40
    go_wp2
    refine bodyPost_ret (v := .tuple #[.agg #[.bool false, .bool false, .bool false, .int .i64 15, .int .i64 2, .int .i64 2, .bool false, .bool false], .bool true]) (by simp [results, Tryd.results40, go_sem]) rfl ?_
    exact ⟨rfl, by first | exact below1 _ _ | exact Below.refl _ _⟩
  by_cases h3 : k = 3
  · subst h3
    go_enter Tryd.func40, Tryd.ntmps40
    go_wp2
    refine bodyPost_ret (v := .tuple #[.agg #[.bool true, .bool true, .bool false, .int .i64 0, .int .i64 0, .int .i64 4, .bool false, .bool false], .bool true]) (by simp [results, Tryd.results40, go_sem]) rfl ?_
    exact ⟨rfl, by first | exact below1 _ _ | exact Below.refl _ _⟩
  by_cases h4 : k = 4
  · subst h4
    go_enter Tryd.func40, Tryd.ntmps40
    go_wp2
    refine bodyPost_ret (v := .tuple #[.agg #[.bool false, .bool false, .bool false, .int .i64 0, .int .i64 1, .int .i64 1, .bool true, .bool true], .bool true]) (by simp [results, Tryd.results40, go_sem]) rfl ?_
    exact ⟨rfl, by first | exact below1 _ _ | exact Below.refl _ _⟩
  by_cases h5 : k = 5
  · subst h5
    go_enter Tryd.func40, Tryd.ntmps40
    go_wp2
    refine bodyPost_ret (v := .tuple #[.agg #[.bool true, .bool false, .bool false, .int .i64 0, .int .i64 2, .int .i64 2, .bool true, .bool false], .bool true]) (by simp [results, Tryd.results40, go_sem]) rfl ?_
    exact ⟨rfl, by first | exact below1 _ _ | exact Below.refl _ _⟩
  by_cases h6 : k = 6
  · subst h6
    go_enter Tryd.func40, Tryd.ntmps40
    go_wp2
    refine bodyPost_ret (v := .tuple #[.agg #[.bool false, .bool false, .bool false, .int .i64 0, .int .i64 1, .int .i64 1, .bool true, .bool false], .bool true]) (by simp [results, Tryd.results40, go_sem]) rfl ?_
    exact ⟨rfl, by first | exact below1 _ _ | exact Below.refl _ _⟩
  by_cases h7 : k = 7
  · subst h7
    go_enter Tryd.func40, Tryd.ntmps40
    go_wp2
    refine bodyPost_ret (v := .tuple #[.agg #[.bool false, .bool false, .bool false, .int .i64 0, .int .i64 1, .int .i64 1, .bool false, .bool false], .bool true]) (by simp [results, Tryd.results40, go_sem]) rfl ?_
    exact ⟨rfl, by first | exact below1 _ _ | exact Below.refl _ _⟩
  by_cases h8 : k = 8
  · subst h8
    go_enter Tryd.func40, Tryd.ntmps40
    go_wp2
    refine bodyPost_ret (v := .tuple #[.agg #[.bool false, .bool false, .bool false, .int .i64 0, .int .i64 1, .int .i64 1, .bool false, .bool false], .bool true]) (by simp [results, Tryd.results40, go_sem]) rfl ?_
    exact ⟨rfl, by first | exact below1 _ _ | exact Below.refl _ _⟩
  by_cases h10 : k = 10
  · subst h10
    go_enter Tryd.func40, Tryd.ntmps40
    go_wp2
    refine bodyPost_ret (v := .tuple #[.agg #[.bool false, .bool false, .bool false, .int .i64 0, .int .i64 1, .int .i64 1, .bool false, .bool false], .bool true]) (by simp [results, Tryd.results40, go_sem]) rfl ?_
    exact ⟨rfl, by first | exact below1 _ _ | exact Below.refl _ _⟩
  by_cases h9 : k = 9
  · subst h9
    go_enter Tryd.func40, Tryd.ntmps40
    go_wp2
    refine bodyPost_ret (v := .tuple #[.agg #[.bool true, .bool false, .bool false, .int .i64 0, .int .i64 0, .int .i64 0, .bool true, .bool true], .bool true]) (by simp [results, Tryd.results40, go_sem]) rfl ?_
    exact ⟨rfl, by first | exact below1 _ _ | exact Below.refl _ _⟩
  by_cases h12 : k = 12
  · subst h12
    go_enter Tryd.func40, Tryd.ntmps40
    go_wp2
    refine bodyPost_ret (v := .tuple #[.agg #[.bool true, .bool false, .bool true, .int .i64 0, .int .i64 1, .int .i64 1, .bool false, .bool false], .bool true]) (by simp [results, Tryd.results40, go_sem]) rfl ?_
    exact ⟨rfl, by first | exact below1 _ _ | exact Below.refl _ _⟩
  have E : sparts k = (⟨false, false, false, 0, 0, 0, false, false⟩, false) := by simp [sparts, h1, h11, h2, h3, h4, h5, h6, h7, h8, h10, h9, h12]
  rw [E]
  clear E
  replace h1 : (k == 1) = false := by rw [beq_eq_false_iff_ne]; exact h1
  replace h11 : (k == 11) = false := by rw [beq_eq_false_iff_ne]; exact h11
  replace h2 : (k == 2) = false := by rw [beq_eq_false_iff_ne]; exact h2
  replace h3 : (k == 3) = false := by rw [beq_eq_false_iff_ne]; exact h3
  replace h4 : (k == 4) = false := by rw [beq_eq_false_iff_ne]; exact h4
  replace h5 : (k == 5) = false := by rw [beq_eq_false_iff_ne]; exact h5
  replace h6 : (k == 6) = false := by rw [beq_eq_false_iff_ne]; exact h6
  replace h7 : (k == 7) = false := by rw [beq_eq_false_iff_ne]; exact h7
  replace h8 : (k == 8) = false := by rw [beq_eq_false_iff_ne]; exact h8
  replace h10 : (k == 10) = false := by rw [beq_eq_false_iff_ne]; exact h10
  replace h9 : (k == 9) = false := by rw [beq_eq_false_iff_ne]; exact h9
  replace h12 : (k == 12) = false := by rw [beq_eq_false_iff_ne]; exact h12
  go_enter Tryd.func40, Tryd.ntmps40
  go_wp2_with fail
  refine bodyPost_ret (v := .tuple #[.agg #[.bool false, .bool false, .bool false, .int .i64 0, .int .i64 0, .int .i64 0, .bool false, .bool false], .bool false]) (by simp [results, Tryd.results40, go_sem]) rfl ?_
  exact ⟨rfl, by first | exact below1 _ _ | exact Below.refl _ _⟩
set_option maxHeartbeats 1000000 in
set_option maxRecDepth 100000 in
theorem eparts_any (k : Int) (w : World) : Calls Tryd.prog 91 #[.int .i64 k] w (fun e w' => e = .returned (.tuple #[epV (eparts k).1, .bool (eparts k).2]) ∧ Below w.heap.size w w') := by
  by_cases h1 : k = 1
  · subst h1
    go_enter Tryd.func91, Tryd.ntmps91
    go_wp2
    refine bodyPost_ret (v := .tuple #[.agg #[.bool false, .bool false, .int .i64 (-9223372036854775808), .int .i64 9223372036854775807, .int .i64 0], .bool true]) (by simp [results, Tryd.results91, go_sem]) rfl ?_
    exact ⟨rfl, by first | exact below1 _ _ | exact Below.refl _ _⟩
  by_cases h2 : k = 2
  · subst h2
    go_enter Tryd.func91, Tryd.ntmps91
    go_wp2
    refine bodyPost_ret (v := .tuple #[.agg #[.bool false, .bool false, .int .i64 0, .int .i64 0, .int .i64 0], .bool true]) (by simp [results, Tryd.results91, go_sem]) rfl ?_
    exact ⟨rfl, by first | exact below1 _ _ | exact Below.refl _ _⟩
  by_cases h3 : k = 3
  · subst h3
    go_enter Tryd.func91, Tryd.ntmps91
    go_wp2
    refine bodyPost_ret (v := .tuple #[.agg #[.bool true, .bool false, .int .i64 0, .int .i64 0, .int .i64 0], .bool true]) (by simp [results, Tryd.results91, go_sem]) rfl ?_
    exact ⟨rfl, by first | exact below1 _ _ | exact Below.refl _ _⟩
  by_cases h4 : k = 4
  · subst h4
    go_enter Tryd.func91, Tryd.ntmps91
    go_wp2
    refine bodyPost_ret (v := .tuple #[.agg #[.bool false, .bool false, .int .i64 0, .int .i64 15, .int .i64 1], .bool true]) (by simp [results, Tryd.results91, go_sem]) rfl ?_
    exact ⟨rfl, by first | exact below1 _ _ | exact Below.refl _ _⟩
  by_cases h5 : k = 5
  · subst h5
    go_enter Tryd.func91, Tryd.ntmps91
    go_wp2
    refine bodyPost_ret (v := .tuple #[.agg #[.bool false, .bool true, .int .i64 0, .int .i64 0, .int .i64 2], .bool true]) (by simp [results, Tryd.results91, go_sem]) rfl ?_
    exact ⟨rfl, by first | exact below1 _ _ | exact Below.refl _ _⟩
  by_cases h6 : k = 6
  · subst h6
    go_enter Tryd.func91, Tryd.ntmps91
    go_wp2
    refine bodyPost_ret (v := .tuple #[.agg #[.bool false, .bool false, .int .i64 0, .int .i64 16, .int .i64 0], .bool true]) (by simp [results, Tryd.results91, go_sem]) rfl ?_
    exact ⟨rfl, by first | exact below1 _ _ | exact Below.refl _ _⟩
  have E : eparts k = (⟨false, false, 0, 0, 0⟩, false) := by simp [eparts, h1, h2, h3, h4, h5, h6]
  rw [E]
  clear E
  replace h1 : (k == 1) = false := by rw [beq_eq_false_iff_ne]; exact h1
  replace h2 : (k == 2) = false := by rw [beq_eq_false_iff_ne]; exact h2
  replace h3 : (k == 3) = false := by rw [beq_eq_false_iff_ne]; exact h3
  replace h4 : (k == 4) = false := by rw [beq_eq_false_iff_ne]; exact h4
  replace h5 : (k == 5) = false := by rw [beq_eq_false_iff_ne]; exact h5
  replace h6 : (k == 6) = false := by rw [beq_eq_false_iff_ne]; exact h6
  go_enter Tryd.func91, Tryd.ntmps91
  go_wp2_with fail
  refine bodyPost_ret (v := .tuple #[.agg #[.bool false, .bool false, .int .i64 0, .int .i64 0, .int .i64 0], .bool false]) (by simp [results, Tryd.results91, go_sem]) rfl ?_
  exact ⟨rfl, by first | exact below1 _ _ | exact Below.refl _ _⟩
end Go.Proofs.YtilholgbepfopaaDoor
