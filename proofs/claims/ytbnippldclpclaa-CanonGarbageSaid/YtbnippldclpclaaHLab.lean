/- Plain facts: an object put over the one with its identifier. -/
import Derived.Test.YtbnippldclpclaaHMath
import Derived.Test.YtbnippldclpclaaHGetO
namespace Go.Proofs.Ytbnippldclpclaa

theorem idx_lab (s : Int) (O : List Ob) (m : Nat) (h : m < O.length) : idxO (lab s O) (s + m) = m := by
  induction O generalizing s m with
  | nil => simp at h
  | cons y O ih =>
    unfold idxO
    rw [lab, List.findIdx_cons]
    cases m with
    | zero => simp
    | succ m =>
      have h1 : (s == s + ((m + 1 : Nat) : Int)) = false := by rw [beq_eq_false_iff_ne]; omega
      simp only [h1, cond_false]
      have h2 := ih (s + 1) m (by simpa using h)
      unfold idxO at h2
      rw [show s + ((m + 1 : Nat) : Int) = s + 1 + (m : Int) by omega, h2]
theorem lab_set (s : Int) (O : List Ob) (m : Nat) (i : Int) (l : List V) : lab s (O.set m (i, l)) = (lab s O).set m (s + m, l) := by
  induction O generalizing s m with
  | nil => simp [lab]
  | cons y O ih =>
    cases m with
    | zero => simp [lab]
    | succ m =>
      simp only [List.set_cons_succ, lab]
      rw [ih, show s + ((m + 1 : Nat) : Int) = s + 1 + (m : Int) by omega]
theorem in_lab (s : Int) (O : List Ob) (m : Nat) (h : m < O.length) : inO (lab s O) (s + m) = true := by
  unfold inO
  rw [idx_lab s O m h, lab_len]
  exact decide_eq_true h
theorem put_lab (s : Int) (O : List Ob) (m : Nat) (l : List V) (h : m < O.length) : putO (lab s O) (s + m, l) = lab s (O.set m (0, l)) := by
  unfold putO
  rw [in_lab s O m h, if_pos rfl, idx_lab s O m h, lab_set]
theorem get_lab (s : Int) (O : List Ob) (m : Nat) (x : Ob) (h : O[m]? = some x) : getO (lab s O) (s + m) = (s + m, x.2) := by
  unfold getO
  rw [idx_lab s O m (List.getElem?_eq_some_iff.1 h).1, lab_at s O m x h]
theorem short_set {O : List Ob} (h : ShortO O) (m : Nat) (o : Ob) (ho : o.2.length ≤ 1000000) : ShortO (O.set m o) := by
  refine ⟨by simpa using h.1, fun y hy => ?_⟩
  rcases List.mem_or_eq_of_mem_set hy with hy | rfl
  · exact h.2 y hy
  · exact ho
end Go.Proofs.Ytbnippldclpclaa
