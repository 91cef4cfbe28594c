/- Plain facts: objects put in any order. -/
import Derived.Test.YtbnippldclpclaaHSane
namespace Go.Proofs.Ytbnippldclpclaa

/-- the objects with the identifiers s, s + 1, .. -/
def lab (s : Int) : List Ob → List Ob
  | [] => []
  | x :: r => (s, x.2) :: lab (s + 1) r
theorem lab_len (s : Int) (O : List Ob) : (lab s O).length = O.length := by
  induction O generalizing s with
  | nil => rfl
  | cons x r ih => simp [lab, ih]
theorem lab_at (s : Int) (O : List Ob) (k : Nat) (x : Ob) (h : O[k]? = some x) : (lab s O)[k]? = some (s + k, x.2) := by
  induction O generalizing s k with
  | nil => simp at h
  | cons y r ih =>
    cases k with
    | zero => simp at h; subst h; simp [lab]
    | succ k =>
      simp only [List.getElem?_cons_succ] at h
      simp only [lab, List.getElem?_cons_succ]
      rw [ih (s + 1) k h]
      congr 2
      omega
theorem lab_ge (s : Int) (O : List Ob) (x : Ob) (h : x ∈ lab s O) : s ≤ x.1 := by
  induction O generalizing s with
  | nil => cases h
  | cons y r ih =>
    simp only [lab] at h
    rcases List.mem_cons.1 h with rfl | h
    · exact Int.le_refl _
    · have := ih (s + 1) h
      omega
theorem lab_lt (s : Int) (O : List Ob) (x : Ob) (h : x ∈ lab s O) : x.1 < s + O.length := by
  induction O generalizing s with
  | nil => cases h
  | cons y r ih =>
    simp only [lab] at h
    rcases List.mem_cons.1 h with rfl | h
    · simp; omega
    · have := ih (s + 1) h
      simp
      omega
/-- a list without an identifier: where it is put -/
theorem idxO_none {O : List Ob} {id : Int} (h : ∀ x ∈ O, x.1 ≠ id) : inO O id = false := by
  unfold inO idxO
  apply decide_eq_false
  rw [List.findIdx_lt_length]
  rintro ⟨x, hx, e⟩
  exact h x hx (by simpa using e)
theorem posO_split {X Y : List Ob} {id : Int} (hX : ∀ x ∈ X, x.1 ≤ id) (hY : ∀ y ∈ Y, id < y.1) : posO (X ++ Y) id = X.length := by
  unfold posO
  rw [List.findIdx_append]
  have h1 : X.findIdx (fun x => decide (id < x.1)) = X.length := by
    rw [List.findIdx_eq_length]
    intro x hx
    have := hX x hx
    simp
    omega
  rw [if_neg (by rw [h1]; omega)]
  cases Y with
  | nil => simp
  | cons y r =>
    have := hY y (List.mem_cons_self ..)
    rw [List.findIdx_cons, decide_eq_true this]
    simp
theorem putO_split {X Y : List Ob} {o : Ob} (hX : ∀ x ∈ X, x.1 < o.1) (hY : ∀ y ∈ Y, o.1 < y.1) : putO (X ++ Y) o = X ++ o :: Y := by
  unfold putO
  rw [if_neg]
  · rw [posO_split (fun x hx => Int.le_of_lt (hX x hx)) hY, List.take_left, List.drop_left]
  · rw [idxO_none]
    · simp
    · intro x hx
      rcases List.mem_append.1 hx with hx | hx
      · have := hX x hx; omega
      · have := hY x hx; omega
theorem putO_cons (x o : Ob) (O : List Ob) (h : x.1 < o.1) : putO (x :: O) o = x :: putO O o := by
  have h1 : (x.1 == o.1) = false := by rw [beq_eq_false_iff_ne]; omega
  have h2 : decide (o.1 < x.1) = false := decide_eq_false (by omega)
  have e1 : idxO (x :: O) o.1 = idxO O o.1 + 1 := by unfold idxO; rw [List.findIdx_cons, h1]; rfl
  have e2 : posO (x :: O) o.1 = posO O o.1 + 1 := by unfold posO; rw [List.findIdx_cons, h2]; rfl
  have e3 : inO (x :: O) o.1 = inO O o.1 := by unfold inO; rw [e1, List.length_cons]; simp
  unfold putO
  rw [e1, e2, e3]
  split <;> simp
/-- one more object of the list -/
theorem putO_filter (s : Int) (O : List Ob) (P P' : Int → Bool) (k : Nat) (x : Ob) (hk : O[k]? = some x) (hP : P (s + k) = false) (hP' : ∀ i, P' i = (P i || i == s + (k : Int))) :
    putO ((lab s O).filter fun y => P y.1) (s + k, x.2) = (lab s O).filter fun y => P' y.1 := by
  induction O generalizing s k with
  | nil => simp at hk
  | cons y r ih =>
    cases k with
    | zero =>
      simp at hk
      subst hk
      have e1 : ∀ z ∈ lab (s + 1) r, P' z.1 = P z.1 := by
        intro z hz
        have := lab_ge _ _ _ hz
        rw [hP']
        have : (z.1 == s + ((0 : Nat) : Int)) = false := by rw [beq_eq_false_iff_ne]; omega
        rw [this, Bool.or_false]
      have e2 : (lab (s + 1) r).filter (fun z => P' z.1) = (lab (s + 1) r).filter (fun z => P z.1) := List.filter_congr e1
      simp only [lab, List.filter_cons]
      have h0 : P s = false := by simpa using hP
      have h1 : P' s = true := by rw [hP']; simp
      rw [h0, h1, e2]
      simp only [Bool.false_eq_true, if_false, if_true]
      have := putO_split (X := []) (Y := (lab (s + 1) r).filter fun z => P z.1) (o := (s + ((0 : Nat) : Int), y.2)) (by intro x hx; cases hx) (by
        intro z hz
        have := lab_ge _ _ _ (List.mem_filter.1 hz).1
        show s + ((0 : Nat) : Int) < z.1
        omega)
      rw [List.nil_append, List.nil_append] at this
      rw [this]
      simp
    | succ k =>
      simp only [List.getElem?_cons_succ] at hk
      have e : s + ((k + 1 : Nat) : Int) = (s + 1) + (k : Int) := by omega
      rw [e] at hP ⊢
      have hP2 : ∀ i, P' i = (P i || i == (s + 1) + (k : Int)) := by intro i; rw [hP', e]
      have hh := ih (s + 1) k hk hP hP2
      have hs : P' s = P s := by
        rw [hP2]
        have : (s == (s + 1) + (k : Int)) = false := by rw [beq_eq_false_iff_ne]; omega
        rw [this, Bool.or_false]
      simp only [lab, List.filter_cons, hs]
      cases hps : P s with
      | false => simpa using hh
      | true =>
        simp only [if_true]
        rw [← hh]
        -- an object in front with a smaller identifier
        have hlt : s < (s + 1) + (k : Int) := by omega
        exact putO_cons _ _ _ hlt

theorem lab_short (s : Int) {O : List Ob} (h : ShortO O) : ShortO (lab s O) := by
  refine ⟨by rw [lab_len]; exact h.1, fun x hx => ?_⟩
  obtain ⟨k, hk⟩ := List.getElem?_of_mem hx
  have hlt := (List.getElem?_eq_some_iff.1 hk).1
  rw [lab_len] at hlt
  have h1 := lab_at s O k _ (List.getElem?_eq_getElem hlt)
  rw [h1] at hk
  obtain rfl := Option.some.inj hk
  exact h.2 O[k] (List.getElem_mem hlt)
theorem lab_asc (s last : Int) (O : List Ob) (h : last < s) : ascO last (lab s O) = true := by
  induction O generalizing s last with
  | nil => rfl
  | cons x r ih =>
    simp only [lab, ascO]
    rw [decide_eq_true h, ih (s + 1) s (by omega)]
    rfl
/-- the objects that were put: those of the first k places from 'turn' on -/
def putUp (O : List Ob) (turn k : Nat) : List Ob := (lab 1 O).filter fun y => decide (∃ j, j < k ∧ y.1 = 1 + (((j + turn) % O.length : Nat) : Int))
theorem putUp_zero (O : List Ob) (turn : Nat) : putUp O turn 0 = [] := by
  unfold putUp
  rw [List.filter_eq_nil_iff]
  intro x _
  simp
theorem putUp_next {O : List Ob} {turn k : Nat} (hk : k < O.length) {x : Ob} (hx : O[(k + turn) % O.length]? = some x) :
    putO (putUp O turn k) (1 + (((k + turn) % O.length : Nat) : Int), x.2) = putUp O turn (k + 1) := by
  unfold putUp
  refine putO_filter 1 O (fun i => decide (∃ j, j < k ∧ i = 1 + (((j + turn) % O.length : Nat) : Int))) (fun i => decide (∃ j, j < k + 1 ∧ i = 1 + (((j + turn) % O.length : Nat) : Int))) _ x hx ?_ ?_
  · apply decide_eq_false
    rintro ⟨j, hj, e⟩
    have e' : (k + turn) % O.length = (j + turn) % O.length := by omega
    have h1 := Nat.mod_add_div (k + turn) O.length
    have h2 := Nat.mod_add_div (j + turn) O.length
    rw [← e'] at h2
    have h3 : (j + turn) / O.length ≤ (k + turn) / O.length := Nat.div_le_div_right (by omega)
    obtain ⟨d, hd⟩ := Nat.le.dest h3
    rw [← hd, Nat.mul_add] at h1
    cases d with
    | zero => simp at h1; omega
    | succ d =>
      rw [Nat.mul_succ] at h1
      have : 0 ≤ O.length * d := Nat.zero_le _
      omega
  · intro i
    rw [Bool.eq_iff_iff]
    simp only [decide_eq_true_eq, Bool.or_eq_true, beq_iff_eq]
    constructor
    · rintro ⟨j, hj, e⟩
      rcases Nat.lt_succ_iff_lt_or_eq.1 hj with h | rfl
      · exact .inl ⟨j, h, e⟩
      · exact .inr e
    · rintro (⟨j, hj, e⟩ | e)
      · exact ⟨j, by omega, e⟩
      · exact ⟨k, by omega, e⟩
theorem putUp_all (O : List Ob) (turn : Nat) : putUp O turn O.length = lab 1 O := by
  unfold putUp
  rw [List.filter_eq_self]
  intro x hx
  have h1 := lab_ge _ _ _ hx
  have h2 := lab_lt _ _ _ hx
  apply decide_eq_true
  obtain ⟨m, hm⟩ : ∃ m : Nat, x.1 = 1 + (m : Int) := ⟨(x.1 - 1).toNat, by omega⟩
  have hlt : m < O.length := by omega
  have ht := Nat.mod_lt turn (show 0 < O.length by omega)
  refine ⟨(m + (O.length - turn % O.length)) % O.length, Nat.mod_lt _ (by omega), ?_⟩
  rw [hm]
  congr 2
  rw [Nat.mod_add_mod]
  have e : m + (O.length - turn % O.length) + turn = m + (O.length + (turn - turn % O.length)) := by
    have := Nat.mod_le turn O.length
    omega
  have e2 : turn - turn % O.length = O.length * (turn / O.length) := by
    have := Nat.mod_add_div turn O.length
    omega
  have e3 : O.length + O.length * (turn / O.length) = O.length * (1 + turn / O.length) := by rw [Nat.mul_add, Nat.mul_one]
  rw [e, e2, e3, Nat.add_mul_mod_self_left, Nat.mod_eq_of_lt hlt]
theorem putUp_short {O : List Ob} (turn k : Nat) (h : ShortO O) : ShortO (putUp O turn k) := by
  have hl : ShortO (lab 1 O) := lab_short 1 h
  exact ⟨Nat.le_trans (List.length_filter_le _ _) hl.1, fun x hx => hl.2 x (List.mem_filter.1 hx).1⟩
end Go.Proofs.Ytbnippldclpclaa
