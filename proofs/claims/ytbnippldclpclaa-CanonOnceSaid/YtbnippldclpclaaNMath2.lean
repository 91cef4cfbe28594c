/- Plain facts: a normal form's own, a heap with other names, and one with garbage. -/
import Derived.Test.YtbnippldclpclaaNMath
import Derived.Test.YtbnippldclpclaaMHeap
import Derived.Test.YtbnippldclpclaaHKMath
namespace Go.Proofs.Ytbnippldclpclaa

theorem look_lab (s : Int) (X : List Ob) (m : Nat) (x : Ob) (h : X[m]? = some x) : lookO (lab s X) (s + m) = some x.2 := by
  induction X generalizing s m with
  | nil => simp at h
  | cons y X ih =>
    simp only [lab]
    rw [look_cons]
    cases m with
    | zero => simp at h; subst h; simp
    | succ m =>
      rw [List.getElem?_cons_succ] at h
      have := ih (s + 1) m h
      rw [if_neg (by simp only; omega), ← this]
      congr 1
      omega
theorem look_lab_low (s : Int) (X : List Ob) (id : Int) (h : id < s) : lookO (lab s X) id = none :=
  look_none fun x hx e => by have := lab_ge s X x hx; omega
theorem canonL_len (f : Int → List V) (R : List Int) : (canonL f R).length = R.length := by unfold canonL; rw [lab_len, List.length_map]
theorem place_at {R : List Int} {x : Int} (h : x ∈ R) : ∃ m : Nat, place R x = 1 + (m : Int) ∧ R[m]? = some x := by
  refine ⟨R.idxOf x, ?_, ?_⟩
  · unfold place
    rw [if_pos h]
    omega
  · have hlt := List.idxOf_lt_length_of_mem h
    rw [List.getElem?_eq_getElem hlt, List.getElem_idxOf hlt]
/-- a normal form is its own -/
theorem canon_once {O : List Ob} {roots : List V} {R : List Int} (h : Reaches (thereO O) (fldsO O) 0 (findR (thereO O) [] roots) R) :
    Reaches (thereO (canonL (fldsO O) R)) (fldsO (canonL (fldsO O) R)) 0 (findR (thereO (canonL (fldsO O) R)) [] (roots.map (turnV R))) (R.map (place R)) ∧
      canonL (fldsO (canonL (fldsO O) R)) (R.map (place R)) = canonL (fldsO O) R ∧ (roots.map (turnV R)).map (turnV (R.map (place R))) = roots.map (turnV R) := by
  have hC : ∀ id, id ∈ R → lookO (canonL (fldsO O) R) (place R id) = some ((fldsO O id).map (turnV R)) := by
    intro id hid
    obtain ⟨m, e, hm⟩ := place_at hid
    rw [e]
    exact look_lab 1 _ m (0, (fldsO O id).map (turnV R)) (by rw [List.getElem?_map, hm]; rfl)
  have h0 : thereO (canonL (fldsO O) R) 0 = false := by
    unfold thereO canonL
    rw [look_lab_low 1 _ 0 (by decide)]
    rfl
  have good : ∀ v : V, (v.1 = true → thereO O v.2 = true → v.2 ∈ R) → Good (thereO O) (thereO (canonL (fldsO O) R)) (place R) (· ∈ R) (turnV R) v := by
    intro v hv
    have hR : ∀ x ∈ R, thereO O x = true := h.there (findR_there (by simp))
    refine ⟨?_, fun h1 => ⟨fun h2 => ⟨hv h1 h2, ?_, ?_⟩, fun h2 => ?_⟩, fun h1 => ?_⟩
    · unfold turnV
      by_cases hh : v.1 = true
      · rw [if_pos hh, hh]
      · rw [if_neg hh]
    · unfold turnV; rw [if_pos h1]
    · unfold thereO; rw [hC _ (hv h1 h2)]; rfl
    · unfold turnV
      rw [if_pos h1, place_out (fun hm => by rw [hR _ hm] at h2; cases h2)]
      exact h0
    · unfold turnV; rw [if_neg (by rw [h1]; decide)]
  have inj : ∀ a b, a ∈ R → b ∈ R → place R a = place R b → a = b := by
    intro a b ha hb e
    obtain ⟨m, e1, h1⟩ := place_at ha
    obtain ⟨k, e2, h2⟩ := place_at hb
    have : m = k := by omega
    subst this
    rw [h1] at h2
    exact Option.some.inj h2
  refine canon_sim (q := (· ∈ R)) inj (fun id hid => ⟨?_, fun v hv => good v fun h1 h2 => ?_⟩) (fun v hv => good v fun h1 h2 => ?_) h
  · show ((lookO (canonL (fldsO O) R) (place R id)).getD []) = _
    rw [hC id hid]
    rfl
  · obtain ⟨m, hm⟩ := List.getElem?_of_mem hid
    exact h.closed m (Nat.zero_le _) id hm v hv h1 h2
  · exact h.pre.subset (findR_has hv h1 h2)

/-- names anew -/
def newV (nm : Int → Int) (v : V) : V := if v.1 = true ∧ v.2 ≠ 0 then (v.1, nm v.2) else v
def newO (nm : Int → Int) (o : Ob) : Ob := (nm o.1, o.2.map (newV nm))
def putAll (nm : Int → Int) (acc : List Ob) (O : List Ob) : List Ob := O.foldl (fun x o => putO x (newO nm o)) acc
theorem look_putAll (nm : Int → Int) (inj : ∀ a b, nm a = nm b → a = b) (O acc : List Ob) {last : Int} (ha : ascO last O = true) (id : Int) :
    lookO (putAll nm acc O) (nm id) = match lookO O id with | some l => some (l.map (newV nm)) | none => lookO acc (nm id) := by
  induction O generalizing last acc with
  | nil => rfl
  | cons y O ih =>
    simp only [ascO, Bool.and_eq_true, decide_eq_true_eq] at ha
    show lookO (putAll nm (putO acc (newO nm y)) O) (nm id) = _
    rw [ih _ ha.2, look_cons, look_put]
    by_cases h : y.1 = id
    · rw [if_pos h]
      have hn : lookO O id = none := look_none fun x hx e => by have := asc_gt ha.2 x hx; omega
      rw [hn]
      simp only
      rw [if_pos (by show nm y.1 = nm id; rw [h])]
      rfl
    · rw [if_neg h]
      cases lookO O id with
      | some l => rfl
      | none =>
        simp only
        rw [if_neg (show ¬ (newO nm y).1 = nm id from fun e => h (inj _ _ e))]
theorem look_putAll_out (nm : Int → Int) (O acc : List Ob) (x : Int) (h : ∀ o ∈ O, nm o.1 ≠ x) : lookO (putAll nm acc O) x = lookO acc x := by
  induction O generalizing acc with
  | nil => rfl
  | cons y O ih =>
    show lookO (putAll nm (putO acc (newO nm y)) O) x = _
    rw [ih _ (fun o ho => h o (List.mem_cons_of_mem _ ho)), look_put, if_neg (show ¬ (newO nm y).1 = x from h y (List.mem_cons_self ..))]
theorem look_mem {O : List Ob} {id : Int} {l : List V} (h : lookO O id = some l) : (id, l) ∈ O := by
  induction O with
  | nil => cases h
  | cons y O ih =>
    rw [look_cons] at h
    by_cases e : y.1 = id
    · rw [if_pos e] at h
      have h2 := Option.some.inj h
      rw [← e, ← h2]
      exact List.mem_cons_self ..
    · rw [if_neg e] at h
      exact List.mem_cons_of_mem _ (ih h)
theorem flds_mem {O : List Ob} {id : Int} {v : V} (h : v ∈ fldsO O id) : ∃ x ∈ O, v ∈ x.2 := by
  unfold fldsO at h
  cases e : lookO O id with
  | none => rw [e] at h; cases h
  | some l =>
    rw [e] at h
    exact ⟨_, look_mem e, h⟩
/-- the normal form does not depend on names -/
theorem canon_renamed {O : List Ob} {roots : List V} {R : List Int} (nm : Int → Int) (inj : ∀ a b, nm a = nm b → a = b) (h0 : ∀ o ∈ O, nm o.1 ≠ 0) (ha : ascO 0 O = true) (h : Reaches (thereO O) (fldsO O) 0 (findR (thereO O) [] roots) R) :
    Reaches (thereO (putAll nm [] O)) (fldsO (putAll nm [] O)) 0 (findR (thereO (putAll nm [] O)) [] (roots.map (newV nm))) (R.map nm) ∧
      canonL (fldsO (putAll nm [] O)) (R.map nm) = canonL (fldsO O) R ∧ (roots.map (newV nm)).map (turnV (R.map nm)) = roots.map (turnV R) := by
  have hth : ∀ id, thereO (putAll nm [] O) (nm id) = thereO O id := by
    intro id
    unfold thereO
    rw [look_putAll nm inj O [] ha id]
    cases lookO O id <;> rfl
  have h00 : thereO (putAll nm [] O) 0 = false := by
    unfold thereO
    rw [look_putAll_out nm O [] 0 h0]
    rfl
  have good : ∀ v : V, Good (thereO O) (thereO (putAll nm [] O)) nm (fun _ => True) (newV nm) v := by
    intro v
    refine ⟨?_, fun h1 => ⟨fun h2 => ⟨trivial, ?_, by rw [hth]; exact h2⟩, fun h2 => ?_⟩, fun h1 => ?_⟩
    · unfold newV; split <;> rfl
    · have hv : v.2 ≠ 0 := by
        intro e
        rw [e] at h2
        unfold thereO at h2
        rw [look_none (fun x hx e => by have := asc_gt ha x hx; omega)] at h2
        cases h2
      unfold newV
      rw [if_pos ⟨h1, hv⟩]
    · by_cases hv : v.2 = 0
      · unfold newV
        rw [if_neg (fun hh => hh.2 hv), hv]
        exact h00
      · unfold newV
        rw [if_pos ⟨h1, hv⟩, hth]
        exact h2
    · unfold newV
      rw [if_neg (fun hh => by rw [h1] at hh; cases hh.1)]
  refine canon_sim (q := fun _ => True) (fun a b _ _ e => inj a b e) (fun id _ => ⟨?_, fun v _ => good v⟩) (fun v _ => good v) h
  unfold fldsO
  rw [look_putAll nm inj O [] ha id]
  cases lookO O id <;> rfl
/-- an object that nothing refers to does not matter -/
theorem canon_garbage {O : List Ob} {roots : List V} {R : List Int} (k : Int) (l : List V) (hO : ∀ x ∈ O, ∀ v ∈ x.2, v.2 ≠ k) (hr : ∀ v ∈ roots, v.2 ≠ k) (h : Reaches (thereO O) (fldsO O) 0 (findR (thereO O) [] roots) R) :
    Reaches (thereO (putO O (k, l))) (fldsO (putO O (k, l))) 0 (findR (thereO (putO O (k, l))) [] roots) R ∧ canonL (fldsO (putO O (k, l))) R = canonL (fldsO O) R := by
  have hl : ∀ id, id ≠ k → lookO (putO O (k, l)) id = lookO O id := fun id hid => by rw [look_put, if_neg (fun e => hid e.symm)]
  have good : ∀ v : V, v.2 ≠ k → Good (thereO O) (thereO (putO O (k, l))) id (fun x => x ≠ k) id v := by
    intro v hv
    have e : thereO (putO O (k, l)) v.2 = thereO O v.2 := by unfold thereO; rw [hl _ hv]
    exact ⟨rfl, fun h1 => ⟨fun h2 => ⟨hv, rfl, e.trans h2⟩, fun h2 => e.trans h2⟩, fun _ => rfl⟩
  have := canon_sim (r := id) (g := id) (p' := thereO (putO O (k, l))) (f' := fldsO (putO O (k, l))) (q := fun x => x ≠ k) (fun a b _ _ e => e) (fun id hid => ⟨by unfold fldsO; rw [show lookO (putO O (k, l)) (_root_.id id) = _ from hl id hid, List.map_id], fun v hv => good v (by obtain ⟨x, hx, hv⟩ := flds_mem hv; exact hO x hx v hv)⟩) (fun v hv => good v (hr v hv)) h
  simp only [List.map_id] at this
  exact ⟨this.1, this.2.1⟩
theorem nodup_len {O : List Ob} {R : List Int} (hn : R.Nodup) (h : ∀ x ∈ R, thereO O x = true) : R.length ≤ O.length := by
  induction O generalizing R with
  | nil =>
    cases R with
    | nil => exact Nat.le_refl _
    | cons x R => have := h x (List.mem_cons_self ..); cases this
  | cons y O ih =>
    have h1 : (R.erase y.1).length ≤ O.length := by
      refine ih (hn.erase _) fun x hx => ?_
      have hx2 := (List.Nodup.mem_erase_iff hn).1 hx
      have := h x hx2.2
      unfold thereO at this ⊢
      rw [look_cons, if_neg (fun e => hx2.1 e.symm)] at this
      exact this
    rw [List.length_erase] at h1
    simp only [List.length_cons]
    split at h1 <;> omega
theorem reach_len {O : List Ob} {l : List V} {R : List Int} (h : Reaches (thereO O) (fldsO O) 0 (findR (thereO O) [] l) R) : R.length ≤ O.length :=
  nodup_len (h.nodup (findR_nodup (by simp))) (h.there (findR_there (by simp)))
theorem canonL_short {O : List Ob} (h : ShortO O) {R : List Int} (hR : R.length ≤ O.length) : ShortO (canonL (fldsO O) R) := by
  unfold canonL
  refine lab_short 1 ⟨by rw [List.length_map]; have := h.1; omega, fun x hx => ?_⟩
  obtain ⟨id, _, rfl⟩ := List.mem_map.1 hx
  simp only [List.length_map]
  unfold fldsO
  cases e : lookO O id with
  | none => simp
  | some l => exact h.2 _ (look_mem e)
theorem canonL_asc (f : Int → List V) (R : List Int) : ascO 0 (canonL f R) = true := lab_asc 1 0 _ (by decide)
end Go.Proofs.Ytbnippldclpclaa
