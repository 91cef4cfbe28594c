/- Plain facts: a cell that is written, in a sorted heap. -/
import Derived.Test.YtbnippldclpclaaHSane
namespace Go.Proofs.Ytbnippldclpclaa

theorem asc_gt {last : Int} {O : List Ob} (h : ascO last O = true) : ∀ x ∈ O, last < x.1 := by
  induction O generalizing last with
  | nil => intro x hx; cases hx
  | cons y O ih =>
    simp only [ascO, Bool.and_eq_true, decide_eq_true_eq] at h
    intro x hx
    rcases List.mem_cons.1 hx with rfl | hx
    · exact h.1
    · exact Int.lt_trans h.1 (ih h.2 x hx)
theorem idx_asc {last : Int} {O : List Ob} (h : ascO last O = true) {j : Nat} {x : Ob} (hx : O[j]? = some x) : idxO O x.1 = j := by
  induction O generalizing last j with
  | nil => simp at hx
  | cons y O ih =>
    simp only [ascO, Bool.and_eq_true, decide_eq_true_eq] at h
    unfold idxO
    rw [List.findIdx_cons]
    cases j with
    | zero => simp at hx; subst hx; simp
    | succ j =>
      simp only [List.getElem?_cons_succ] at hx
      have h1 := asc_gt h.2 x (List.mem_of_getElem? hx)
      have h2 : (y.1 == x.1) = false := by rw [beq_eq_false_iff_ne]; omega
      simp only [h2, cond_false]
      have h3 := ih h.2 hx
      unfold idxO at h3
      rw [h3]
theorem cell_asc {last : Int} {O : List Ob} (h : ascO last O = true) {j : Nat} {x : Ob} (hx : O[j]? = some x) (f : Nat) : cellO O x.1 (f : Int) = x.2[f]? := by
  unfold cellO
  rw [idx_asc h hx, hx]
  simp only
  rw [if_neg (by omega)]
  rfl
theorem has_asc {last : Int} {O : List Ob} (h : ascO last O = true) {j : Nat} {x : Ob} (hx : O[j]? = some x) {f : Nat} (hf : f < x.2.length) : hasO O x.1 (f : Int) = true := by
  unfold hasO
  rw [cell_asc h hx, List.getElem?_eq_getElem hf]
  rfl
theorem has_none {last : Int} {O : List Ob} (h : ascO last O = true) {j : Nat} {x : Ob} (hx : O[j]? = some x) {f : Nat} (hf : x.2.length ≤ f) : hasO O x.1 (f : Int) = false := by
  unfold hasO
  rw [cell_asc h hx, List.getElem?_eq_none hf]
  rfl
theorem read_asc {last : Int} {O : List Ob} (h : ascO last O = true) {j : Nat} {x : Ob} (hx : O[j]? = some x) {f : Nat} {y : V} (hf : x.2[f]? = some y) : readO O x.1 (f : Int) = y := by
  unfold readO
  rw [cell_asc h hx, hf]
  rfl
theorem write_asc {last : Int} {O : List Ob} (h : ascO last O = true) {j : Nat} {x : Ob} (hx : O[j]? = some x) {f : Nat} (hf : f < x.2.length) (v : V) : writeO O x.1 (f : Int) v = O.set j (x.1, x.2.set f v) := by
  unfold writeO
  rw [has_asc h hx hf, if_pos rfl, idx_asc h hx, hx]
  rfl
theorem asc_set {last : Int} {O : List Ob} {j : Nat} {x : Ob} (hx : O[j]? = some x) (l : List V) : ascO last (O.set j (x.1, l)) = ascO last O := by
  induction O generalizing last j with
  | nil => rfl
  | cons y O ih =>
    cases j with
    | zero => simp at hx; subst hx; rfl
    | succ j =>
      simp only [List.getElem?_cons_succ] at hx
      simp only [List.set_cons_succ, ascO]
      rw [ih hx]
theorem set_back {O : List Ob} {j : Nat} {x : Ob} (hx : O[j]? = some x) {k : Nat} {y : V} (hk : x.2[k]? = some y) (v : V) : (O.set j (x.1, x.2.set k v)).set j (x.1, (x.2.set k v).set k y) = O := by
  rw [List.set_set, List.set_set]
  have e : x.2.set k y = x.2 := by
    obtain ⟨h, rfl⟩ := List.getElem?_eq_some_iff.1 hk
    exact List.set_getElem_self h
  rw [e]
  obtain ⟨h, rfl⟩ := List.getElem?_eq_some_iff.1 hx
  exact List.set_getElem_self h
theorem sl_set0 {w : World} {sz n z : Nat} {v u : Value} {xs : List Value} (h : SlAt w sz v n xs) {a : Option Addr} {m c : Nat} (hz : w.cell? ⟨z, 0, none⟩ = some (.slice a m c)) (hx : ∀ a m c, xs[0]? ≠ some (.slice a m c)) : SlAt (w.setCell ⟨z, 0, none⟩ u) sz v n xs := by
  rcases h with h | ⟨ad, c, hv, hnc, hl, hc⟩
  · exact .inl h
  · refine .inr ⟨ad, c, hv, hnc, hl, fun j x hj => ?_⟩
    have h1 := hc j x hj
    by_cases e : (⟨z, 0, none⟩ : Addr) = ad.add j
    · exfalso
      rw [← e, hz] at h1
      cases j with
      | zero => exact hx _ _ _ (hj.trans h1.symm)
      | succ j =>
        have e' := congrArg Addr.off e
        unfold Addr.add at e'
        rw [if_neg (by omega)] at e'
        dsimp only at e'
        omega
    · exact (World.cell?_setCell_other _ _ _ _ e).trans h1
theorem o_set0 {w : World} {z : Nat} {v u : Value} {O : List Ob} (h : OAt w v O) {a : Option Addr} {m c : Nat} (hz : At1 w z (.slice a m c)) : OAt (w.setCell ⟨z, 0, none⟩ u) v O := by
  obtain ⟨L, ⟨h1, h2⟩, e⟩ := h
  refine ⟨L, ⟨sl_set0 h1 hz.c0 ?_, fun x hx => sl_set0 (h2 x hx) hz.c0 ?_⟩, e⟩
  · cases L <;> simp [oc]
  · cases x.vals <;> simp [vc]
end Go.Proofs.Ytbnippldclpclaa
