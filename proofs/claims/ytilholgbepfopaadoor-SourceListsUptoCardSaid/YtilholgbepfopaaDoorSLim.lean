/- withinLimits (of the code). -/
import Derived.Test.YtilholgbepfopaaDoorSFunc
namespace Go.Proofs.YtilholgbepfopaaDoor
open Go.RowKit

mutual
/-- statements in a statement, and how deep they are -/
def cntS : St → Nat
  | .mk _ _ _ _ _ _ b e => 1 + cntL b + cntL e
def cntL : List St → Nat
  | [] => 0
  | s :: l => cntS s + cntL l
end
mutual
def depS : St → Nat
  | .mk _ _ _ _ _ _ b e => 1 + max (depL b) (depL e)
def depL : List St → Nat
  | [] => 0
  | s :: l => max (depS s) (depL l)
end
mutual
theorem cntS_le : ∀ (s : St), cntS s ≤ s.sz
  | .mk _ _ _ _ _ es b e => by
    rw [cntS, St.sz]
    have h1 := cntL_le b
    have h2 := cntL_le e
    omega
theorem cntL_le : ∀ (l : List St), cntL l ≤ szS l
  | [] => by rw [cntL, szS]; exact Nat.le_refl _
  | s :: l => by
    rw [cntL, szS]
    have h1 := cntS_le s
    have h2 := cntL_le l
    omega
end
def addD (d k : Nat) : Nat := if k = 0 then 0 else d + k
def fL (st : Nat × Nat) (_ : St) (d : Nat) : Nat × Nat := (st.1 + 1, max st.2 d)
theorem arS (x d a b : Nat) : max (max (max x (d + 1)) (addD (d + 1) a)) (addD (d + 1) b) = max x (d + (1 + max a b)) := by
  unfold addD
  by_cases h1 : a = 0 <;> by_cases h2 : b = 0 <;> simp only [h1, h2, if_true, if_false] <;> omega
theorem arL (x d a b : Nat) (ha : 0 < a) : max (max x (d + a)) (addD d b) = max x (addD d (max a b)) := by
  unfold addD
  rw [if_neg (show ¬ max a b = 0 by omega)]
  by_cases h2 : b = 0 <;> simp only [h2, if_true, if_false] <;> omega
theorem depS_pos : ∀ (s : St), 0 < depS s
  | .mk _ _ _ _ _ _ b e => by rw [depS]; omega
mutual
theorem visM : ∀ (s : St) (st : Nat × Nat) (d : Nat), vis fL st (d + 1) s = (st.1 + cntS s, max st.2 (d + depS s))
  | .mk k nm fn n op es b e, st, d => by
    rw [vis, visML b, visML e, cntS, depS]
    refine Prod.ext (by simp only [fL]; omega) ?_
    exact arS _ _ _ _
theorem visML : ∀ (l : List St) (st : Nat × Nat) (d : Nat), visL fL st (d + 1) l = (st.1 + cntL l, max st.2 (addD d (depL l)))
  | [], st, d => by
    rw [visL, cntL, depL]
    refine Prod.ext rfl ?_
    show st.2 = max st.2 (addD d 0)
    unfold addD
    simp
  | s :: l, st, d => by
    rw [visL, visM s, visML l, cntL, depL]
    refine Prod.ext (by simp only; omega) ?_
    exact arL _ _ _ _ (depS_pos s)
end
theorem visM0 (l : List St) (st : Nat × Nat) : visL fL st 1 l = (st.1 + cntL l, max st.2 (depL l)) := by
  rw [visML l st 0]
  refine Prod.ext rfl ?_
  simp only [addD]
  split <;> omega
end Go.Proofs.YtilholgbepfopaaDoor
