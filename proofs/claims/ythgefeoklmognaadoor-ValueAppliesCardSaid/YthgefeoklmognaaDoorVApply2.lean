/- Apply, at every operator. -/
import Derived.Test.YthgefeoklmognaaDoorVApply
namespace Go.Proofs.YthgefeoklmognaaDoor
open Go.RowKit Go.MapKept

/-- what Apply gives: the number and the fault -/
def rawN (op x y : Int) : Int :=
  if op = 1 then wrap64 (x + y) else if op = 2 then wrap64 (x - y) else if op = 3 then wrap64 (x * y) else if op = 4 then wrap64 (x.tdiv y) else if op = 5 then minN x y else if op = 6 then maxN x y
  else if op = 7 then bits .and .i64 x y else if op = 8 then bits .or .i64 x y else if op = 9 then bits .xor .i64 x y else lessN x y
def apN (op : Int) (r : Bool) (x : Int) (s : Bool) (y : Int) : Int :=
  if op = 11 then sameN r s x y else if op < 1 ∨ 11 < op ∨ r = true ∨ s = true then 0 else if op = 4 ∧ y = 0 then 0 else rawN op x y
def apF (op : Int) (r : Bool) (s : Bool) (y : Int) : Int :=
  if op = 11 then 0 else if op < 1 ∨ 11 < op ∨ r = true ∨ s = true then -2 else if op = 4 ∧ y = 0 then -3 else 0
theorem opEs_keys : opEs.toList.all (fun e => match e.key with | .int .i64 j => decide (1 ≤ j ∧ j ≤ 11) | _ => false) = true := by decide
theorem other_out {op : Int} (h : op < 1 ∨ 11 < op) : Other op opEs.toList := by
  intro x hx
  have := List.all_eq_true.1 opEs_keys x hx
  split at this
  · rename_i j hj
    have := of_decide_eq_true this
    exact ⟨j, hj, by omega⟩
  · cases this
theorem fn_at {op : Int} (h1 : 1 ≤ op) (h2 : op ≤ 11) : ∃ i f, Instr.findNow (.int .i64) (.int .i64 op) opEs.toList 0 = some (some (i, .func (.func f) #[] #[])) := by
  have : op = 1 ∨ op = 2 ∨ op = 3 ∨ op = 4 ∨ op = 5 ∨ op = 6 ∨ op = 7 ∨ op = 8 ∨ op = 9 ∨ op = 10 ∨ op = 11 := by omega
  rcases this with rfl | rfl | rfl | rfl | rfl | rfl | rfl | rfl | rfl | rfl | rfl <;> exact ⟨_, _, rfl⟩
theorem apply_raw (op x y : Int) (w : World) (h1 : 1 ≤ op) (h2 : op ≤ 10) (hz : ¬ (op = 4 ∧ y = 0)) : Calls Tryd.prog 9 #[.int .i64 op, .agg #[.bool false, .int .i64 x], .agg #[.bool false, .int .i64 y]] w (RetV w (rawN op x y) 0) := by
  have : op = 1 ∨ op = 2 ∨ op = 3 ∨ op = 4 ∨ op = 5 ∨ op = 6 ∨ op = 7 ∨ op = 8 ∨ op = 9 ∨ op = 10 := by omega
  rcases this with rfl | rfl | rfl | rfl | rfl | rfl | rfl | rfl | rfl | rfl
  · exact apply1 x y w
  · exact apply2 x y w
  · exact apply3 x y w
  · exact apply4 x y w (fun h => hz ⟨rfl, h⟩)
  · exact apply5 x y w
  · exact apply6 x y w
  · exact apply7 x y w
  · exact apply8 x y w
  · exact apply9 x y w
  · exact apply10 x y w
theorem apply_any (op : Int) (r s : Bool) (x y : Int) (w : World) : Calls Tryd.prog 9 #[.int .i64 op, .agg #[.bool r, .int .i64 x], .agg #[.bool s, .int .i64 y]] w (RetV w (apN op r x s y) (apF op r s y)) := by
  by_cases h11 : op = 11
  · subst h11
    exact apply11 r s x y w
  have hn : (op != 11) = true := by simpa using h11
  unfold apN apF
  rw [if_neg h11, if_neg h11]
  by_cases ho : op < 1 ∨ 11 < op
  · rw [if_pos (by rcases ho with h | h <;> simp [h]), if_pos (by rcases ho with h | h <;> simp [h])]
    exact apply_miss op r s x y w (other_out ho) hn
  have h1 : 1 ≤ op := by omega
  have h2 : op ≤ 11 := by omega
  obtain ⟨i, f, hf⟩ := fn_at h1 h2
  cases r with
  | true =>
    rw [if_pos (by simp), if_pos (by simp)]
    exact apply_ref1 op i f s x y w hf hn
  | false =>
    cases s with
    | true =>
      rw [if_pos (by simp), if_pos (by simp)]
      exact apply_ref2 op i f x y w hf hn
    | false =>
      have hno : ¬ (op < 1 ∨ 11 < op ∨ false = true ∨ false = true) := by
        rintro (h | h | h | h)
        · omega
        · omega
        · cases h
        · cases h
      rw [if_neg hno, if_neg hno]
      by_cases hz : op = 4 ∧ y = 0
      · rw [if_pos hz, if_pos hz]
        obtain ⟨rfl, rfl⟩ := hz
        exact apply_zero x w
      · rw [if_neg hz, if_neg hz]
        exact apply_raw op x y w h1 (by omega) hz
end Go.Proofs.YthgefeoklmognaaDoor
