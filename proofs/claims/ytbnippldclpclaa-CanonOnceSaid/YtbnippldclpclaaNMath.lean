/- Plain facts: what is reached, and its normal form. -/
import Derived.Test.YtbnippldclpclaaHLab
namespace Go.Proofs.Ytbnippldclpclaa

/-- the values of an object, if it is there -/
def lookO (O : List Ob) (id : Int) : Option (List V) := (O.find? fun x => x.1 == id).map Prod.snd
def thereO (O : List Ob) (id : Int) : Bool := (lookO O id).isSome
def fldsO (O : List Ob) (id : Int) : List V := (lookO O id).getD []
theorem idxO_cons (y : Ob) (O : List Ob) (id : Int) : idxO (y :: O) id = if y.1 = id then 0 else idxO O id + 1 := by
  unfold idxO
  rw [List.findIdx_cons]
  by_cases h : y.1 = id
  · simp [h]
  · have h2 : (y.1 == id) = false := by rw [beq_eq_false_iff_ne]; exact h
    simp [h, h2]
theorem look_cons (y : Ob) (O : List Ob) (id : Int) : lookO (y :: O) id = if y.1 = id then some y.2 else lookO O id := by
  unfold lookO
  rw [List.find?_cons]
  by_cases h : y.1 = id
  · simp [h]
  · have h2 : (y.1 == id) = false := by rw [beq_eq_false_iff_ne]; exact h
    simp [h, h2]
theorem look_in (O : List Ob) (id : Int) : inO O id = thereO O id := by
  unfold thereO
  induction O with
  | nil => rfl
  | cons y O ih =>
    unfold inO at ih ⊢
    rw [idxO_cons, look_cons]
    by_cases h : y.1 = id
    · simp [h]
    · rw [if_neg h, if_neg h, ← ih]
      simp
theorem look_get (O : List Ob) (id : Int) : (getO O id).2 = fldsO O id := by
  unfold fldsO
  induction O with
  | nil => rfl
  | cons y O ih =>
    unfold getO at ih ⊢
    rw [idxO_cons, look_cons]
    by_cases h : y.1 = id
    · simp [h]
    · rw [if_neg h, if_neg h, ← ih]
      simp
theorem look_append (X Y : List Ob) (id : Int) : lookO (X ++ Y) id = (lookO X id).or (lookO Y id) := by
  unfold lookO
  rw [List.find?_append]
  cases List.find? (fun x => x.1 == id) X <;> simp
theorem look_take_drop (O : List Ob) (k : Nat) (id : Int) : lookO O id = (lookO (O.take k) id).or (lookO (O.drop k) id) := by
  rw [← look_append, List.take_append_drop]
theorem look_none {O : List Ob} {id : Int} (h : ∀ x ∈ O, x.1 ≠ id) : lookO O id = none := by
  unfold lookO
  rw [List.find?_eq_none.2 (fun x hx => by simpa using h x hx)]
  rfl
theorem look_put (O : List Ob) (o : Ob) (id : Int) : lookO (putO O o) id = if o.1 = id then some o.2 else lookO O id := by
  unfold putO
  by_cases hin : inO O o.1 = true
  · rw [if_pos hin]
    have hlt : idxO O o.1 < O.length := of_decide_eq_true hin
    clear hin
    induction O with
    | nil => simp at hlt
    | cons y O ih =>
      rw [idxO_cons] at hlt ⊢
      by_cases hy : y.1 = o.1
      · rw [if_pos hy, List.set_cons_zero, look_cons, look_cons]
        by_cases h : o.1 = id
        · rw [if_pos h, if_pos h]
        · rw [if_neg h, if_neg h, if_neg (by rw [hy]; exact h)]
      · rw [if_neg hy] at hlt ⊢
        rw [List.set_cons_succ, look_cons, look_cons, ih (by simpa using hlt)]
        by_cases h : o.1 = id
        · rw [if_pos h, if_neg (by rw [← h]; exact hy), if_pos h]
        · rw [if_neg h, if_neg h]
  · rw [if_neg hin, look_append, look_cons]
    have hno : lookO O o.1 = none := by
      have := look_in O o.1
      unfold thereO at this
      rw [Bool.not_eq_true] at hin
      rw [hin] at this
      cases h : lookO O o.1 with
      | none => rfl
      | some _ => rw [h] at this; simp at this
    by_cases h : o.1 = id
    · subst h
      rw [look_take_drop O (posO O o.1)] at hno
      have h1 : lookO (O.take (posO O o.1)) o.1 = none := by
        cases h : lookO (O.take (posO O o.1)) o.1 with
        | none => rfl
        | some _ => rw [h] at hno; simp at hno
      rw [h1]
      simp
    · rw [if_neg h, if_neg h, look_take_drop O (posO O o.1)]

section
variable {p p' : Int → Bool} {f f' : Int → List V}
def stepR (p : Int → Bool) (out : List Int) (v : V) : List Int := if v.1 = true ∧ p v.2 = true ∧ v.2 ∉ out then out ++ [v.2] else out
def findR (p : Int → Bool) (out : List Int) (l : List V) : List Int := l.foldl (stepR p) out
/-- from the place i on, the list out grows to R -/
inductive Reaches (p : Int → Bool) (f : Int → List V) : Nat → List Int → List Int → Prop
  | done {i : Nat} {out : List Int} : out.length ≤ i → Reaches p f i out out
  | step {i : Nat} {out R : List Int} {id : Int} : out[i]? = some id → Reaches p f (i + 1) (findR p out (f id)) R → Reaches p f i out R

theorem Reaches.det {i : Nat} {out R R' : List Int} (h : Reaches p f i out R) (h' : Reaches p f i out R') : R = R' := by
  induction h with
  | done hle =>
    cases h' with
    | done _ => rfl
    | step h1 _ => rw [List.getElem?_eq_none hle] at h1; cases h1
  | step h1 _ ih =>
    cases h' with
    | done hle => rw [List.getElem?_eq_none hle] at h1; cases h1
    | step h2 h3 =>
      rw [h1] at h2
      obtain rfl := Option.some.inj h2
      exact ih h3
theorem stepR_cases (p : Int → Bool) (out : List Int) (v : V) : (stepR p out v = out ++ [v.2] ∧ v.1 = true ∧ p v.2 = true ∧ v.2 ∉ out) ∨ (stepR p out v = out ∧ ¬(v.1 = true ∧ p v.2 = true ∧ v.2 ∉ out)) := by
  unfold stepR
  by_cases h : v.1 = true ∧ p v.2 = true ∧ v.2 ∉ out
  · rw [if_pos h]; exact .inl ⟨rfl, h⟩
  · rw [if_neg h]; exact .inr ⟨rfl, h⟩
theorem findR_pre (p : Int → Bool) (out : List Int) (l : List V) : out <+: findR p out l := by
  induction l generalizing out with
  | nil => exact List.prefix_refl _
  | cons v l ih =>
    refine List.IsPrefix.trans ?_ (ih (stepR p out v))
    rcases stepR_cases p out v with ⟨h, _⟩ | ⟨h, _⟩
    · rw [h]; exact List.prefix_append _ _
    · rw [h]; exact List.prefix_refl _
theorem findR_there {p : Int → Bool} {out : List Int} {l : List V} (h : ∀ x ∈ out, p x = true) : ∀ x ∈ findR p out l, p x = true := by
  induction l generalizing out with
  | nil => exact h
  | cons v l ih =>
    refine ih (out := stepR p out v) ?_
    rcases stepR_cases p out v with ⟨h1, _, h2, _⟩ | ⟨h1, _⟩
    · rw [h1]
      intro x hx
      rcases List.mem_append.1 hx with hx | hx
      · exact h x hx
      · simp at hx; subst hx; exact h2
    · rw [h1]; exact h
theorem findR_has {p : Int → Bool} {out : List Int} {l : List V} {v : V} (hv : v ∈ l) (h1 : v.1 = true) (h2 : p v.2 = true) : v.2 ∈ findR p out l := by
  induction l generalizing out with
  | nil => cases hv
  | cons u l ih =>
    rcases List.mem_cons.1 hv with rfl | hv
    · refine (findR_pre p (stepR p out v) l).subset ?_
      rcases stepR_cases p out v with ⟨h, _⟩ | ⟨h, hn⟩
      · rw [h]; simp
      · rw [h]
        exact Classical.byContradiction fun hm => hn ⟨h1, h2, hm⟩
    · exact ih hv
theorem findR_nodup {p : Int → Bool} {out : List Int} {l : List V} (h : out.Nodup) : (findR p out l).Nodup := by
  induction l generalizing out with
  | nil => exact h
  | cons v l ih =>
    refine ih (out := stepR p out v) ?_
    rcases stepR_cases p out v with ⟨h1, _, _, h2⟩ | ⟨h1, _⟩
    · rw [h1, List.nodup_append]
      refine ⟨h, by simp, ?_⟩
      intro a ha b hb
      simp at hb
      subst hb
      exact fun e => h2 (e ▸ ha)
    · rw [h1]; exact h
theorem Reaches.pre {i : Nat} {out R : List Int} (h : Reaches p f i out R) : out <+: R := by
  induction h with
  | done _ => exact List.prefix_refl _
  | step _ _ ih => exact (findR_pre _ _ _).trans ih
theorem Reaches.there {i : Nat} {out R : List Int} (h : Reaches p f i out R) (ho : ∀ x ∈ out, p x = true) : ∀ x ∈ R, p x = true := by
  induction h with
  | done _ => exact ho
  | step _ _ ih => exact ih (findR_there ho)
theorem Reaches.nodup {i : Nat} {out R : List Int} (h : Reaches p f i out R) (ho : out.Nodup) : R.Nodup := by
  induction h with
  | done _ => exact ho
  | step _ _ ih => exact ih (findR_nodup ho)
theorem Reaches.closed {i : Nat} {out R : List Int} (h : Reaches p f i out R) : ∀ j, i ≤ j → ∀ id, R[j]? = some id → ∀ v ∈ f id, v.1 = true → p v.2 = true → v.2 ∈ R := by
  induction h with
  | done hle =>
    intro j hj id hid
    rw [List.getElem?_eq_none (by omega)] at hid
    cases hid
  | step h1 h2 ih =>
    rename_i i out R id0
    intro j hj id hid v hv hv1 hv2
    by_cases hji : j = i
    · subst hji
      have hp := h2.pre
      have : R[j]? = some id0 := by
        obtain ⟨s, hs⟩ := (findR_pre p out (f id0)).trans hp
        rw [← hs, List.getElem?_append_left (List.getElem?_eq_some_iff.1 h1).1]
        exact h1
      rw [this] at hid
      obtain rfl := Option.some.inj hid
      exact hp.subset (findR_has hv hv1 hv2)
    · exact ih j (by omega) id hid v hv hv1 hv2

/-- the place of an identifier, from 1 on, or 0 -/
def place (R : List Int) (x : Int) : Int := if x ∈ R then (R.idxOf x : Int) + 1 else 0
def turnV (R : List Int) (v : V) : V := if v.1 = true then (true, place R v.2) else v
def canonL (f : Int → List V) (R : List Int) : List Ob := lab 1 (R.map fun id => ((0 : Int), (f id).map (turnV R)))

/-- what becomes of a value, where the identifiers that count (q) are named anew by r -/
def Good (p p' : Int → Bool) (r : Int → Int) (q : Int → Prop) (g : V → V) (v : V) : Prop :=
  (g v).1 = v.1 ∧ (v.1 = true → (p v.2 = true → q v.2 ∧ (g v).2 = r v.2 ∧ p' (r v.2) = true) ∧ (p v.2 = false → p' (g v).2 = false)) ∧ (v.1 = false → (g v).2 = v.2)

variable {r : Int → Int} {q : Int → Prop} {g : V → V}
theorem stepR_sim (inj : ∀ a b, q a → q b → r a = r b → a = b) {out : List Int} (ho : ∀ x ∈ out, q x) {v : V} (hg : Good p p' r q g v) :
    stepR p' (out.map r) (g v) = (stepR p out v).map r ∧ ∀ x ∈ stepR p out v, q x := by
  obtain ⟨h1, h2, h3⟩ := hg
  rcases stepR_cases p out v with ⟨e, a1, a2, a3⟩ | ⟨e, hn⟩
  · obtain ⟨b1, b2, b3⟩ := (h2 a1).1 a2
    rw [e]
    refine ⟨?_, fun x hx => ?_⟩
    · have hnm : r v.2 ∉ out.map r := fun hm => a3 (by
        obtain ⟨y, hy, e2⟩ := List.mem_map.1 hm
        exact inj y v.2 (ho y hy) b1 e2 ▸ hy)
      unfold stepR
      rw [b2, if_pos ⟨by rw [h1, a1], b3, hnm⟩, List.map_append]
      rfl
    · rcases List.mem_append.1 hx with hx | hx
      · exact ho x hx
      · simp at hx; subst hx; exact b1
  · rw [e]
    refine ⟨?_, ho⟩
    unfold stepR
    rw [if_neg]
    rintro ⟨c1, c2, c3⟩
    rw [h1] at c1
    cases hp : p v.2 with
    | false => rw [(h2 c1).2 hp] at c2; cases c2
    | true =>
      obtain ⟨b1, b2, b3⟩ := (h2 c1).1 hp
      refine hn ⟨c1, hp, fun hm => c3 ?_⟩
      rw [b2]
      exact List.mem_map.2 ⟨_, hm, rfl⟩
theorem findR_sim (inj : ∀ a b, q a → q b → r a = r b → a = b) {out : List Int} (ho : ∀ x ∈ out, q x) {l : List V} (hg : ∀ v ∈ l, Good p p' r q g v) :
    findR p' (out.map r) (l.map g) = (findR p out l).map r ∧ ∀ x ∈ findR p out l, q x := by
  induction l generalizing out with
  | nil => exact ⟨rfl, ho⟩
  | cons v l ih =>
    obtain ⟨h1, h2⟩ := stepR_sim inj ho (hg v (List.mem_cons_self ..))
    obtain ⟨h3, h4⟩ := ih h2 (fun u hu => hg u (List.mem_cons_of_mem _ hu))
    refine ⟨?_, h4⟩
    show findR p' (stepR p' (out.map r) (g v)) (l.map g) = _
    rw [h1, h3]
    rfl
theorem Reaches.sim (inj : ∀ a b, q a → q b → r a = r b → a = b) (hf : ∀ id, q id → f' (r id) = (f id).map g ∧ ∀ v ∈ f id, Good p p' r q g v) {i : Nat} {out R : List Int} (h : Reaches p f i out R) (ho : ∀ x ∈ out, q x) :
    Reaches p' f' i (out.map r) (R.map r) ∧ ∀ x ∈ R, q x := by
  induction h with
  | done hle => exact ⟨.done (by simpa using hle), ho⟩
  | step h1 _ ih =>
    obtain ⟨e, hg⟩ := hf _ (ho _ (List.mem_of_getElem? h1))
    obtain ⟨h3, h4⟩ := findR_sim inj ho hg
    obtain ⟨h5, h6⟩ := ih h4
    refine ⟨.step (by rw [List.getElem?_map, h1]; rfl) ?_, h6⟩
    rw [e, h3]
    exact h5
theorem place_map (inj : ∀ a b, q a → q b → r a = r b → a = b) {R : List Int} (hR : ∀ x ∈ R, q x) {x : Int} (hx : q x) : place (R.map r) (r x) = place R x := by
  unfold place
  have hm : r x ∈ R.map r ↔ x ∈ R := ⟨fun h => by obtain ⟨y, hy, e⟩ := List.mem_map.1 h; exact inj y x (hR y hy) hx e ▸ hy, fun h => List.mem_map.2 ⟨x, h, rfl⟩⟩
  by_cases h : x ∈ R
  · rw [if_pos h, if_pos (hm.2 h)]
    congr 1
    have : ∀ (S : List Int), (∀ y ∈ S, q y) → (S.map r).idxOf (r x) = S.idxOf x := by
      intro S
      induction S with
      | nil => intro _; rfl
      | cons y S ih =>
        intro hS
        rw [List.map_cons, List.idxOf_cons, List.idxOf_cons, ih (fun z hz => hS z (List.mem_cons_of_mem _ hz))]
        by_cases e : y = x
        · subst e; rw [cond_eq_ite, cond_eq_ite, if_pos (by simp), if_pos (by simp)]
        · have e2 : r y ≠ r x := fun e2 => e (inj y x (hS y (List.mem_cons_self ..)) hx e2)
          rw [cond_eq_ite, cond_eq_ite, if_neg (by simpa using e2), if_neg (by simpa using e)]
    rw [this R hR]
  · rw [if_neg h, if_neg (fun h2 => h (hm.1 h2))]
theorem place_out {R : List Int} {x : Int} (h : x ∉ R) : place R x = 0 := by unfold place; rw [if_neg h]
theorem turn_sim (inj : ∀ a b, q a → q b → r a = r b → a = b) {R : List Int} (hq : ∀ x ∈ R, q x) (hp : ∀ x ∈ R, p x = true) (hp' : ∀ x ∈ R.map r, p' x = true) {v : V} (hg : Good p p' r q g v) : turnV (R.map r) (g v) = turnV R v := by
  obtain ⟨h1, h2, h3⟩ := hg
  unfold turnV
  rw [h1]
  by_cases hv : v.1 = true
  · rw [if_pos hv, if_pos hv]
    congr 1
    cases hpv : p v.2 with
    | true =>
      obtain ⟨b1, b2, _⟩ := (h2 hv).1 hpv
      rw [b2, place_map inj hq b1]
    | false =>
      have b := (h2 hv).2 hpv
      rw [place_out (fun hm => by rw [hp' _ hm] at b; cases b), place_out (fun hm => by rw [hp _ hm] at hpv; cases hpv)]
  · rw [if_neg hv, if_neg hv]
    rw [Bool.not_eq_true] at hv
    exact Prod.ext h1 (h3 hv)
/-- heaps that differ in names alone have one normal form -/
theorem canon_sim (inj : ∀ a b, q a → q b → r a = r b → a = b) (hf : ∀ id, q id → f' (r id) = (f id).map g ∧ ∀ v ∈ f id, Good p p' r q g v) {roots : List V} (hr : ∀ v ∈ roots, Good p p' r q g v) {R : List Int} (h : Reaches p f 0 (findR p [] roots) R) :
    Reaches p' f' 0 (findR p' [] (roots.map g)) (R.map r) ∧ canonL f' (R.map r) = canonL f R ∧ (roots.map g).map (turnV (R.map r)) = roots.map (turnV R) := by
  obtain ⟨h1, h2⟩ := findR_sim (out := []) inj (by simp) hr
  obtain ⟨h3, h4⟩ := Reaches.sim inj hf h h2
  rw [← h1] at h3
  have hp : ∀ x ∈ R, p x = true := h.there (findR_there (by simp))
  have hp' : ∀ x ∈ R.map r, p' x = true := h3.there (findR_there (by simp))
  refine ⟨h3, ?_, ?_⟩
  · unfold canonL
    rw [List.map_map]
    congr 1
    refine List.map_congr_left fun id hid => ?_
    obtain ⟨e, hg⟩ := hf id (h4 id hid)
    show ((0 : Int), (f' (r id)).map (turnV (R.map r))) = ((0 : Int), (f id).map (turnV R))
    rw [e, List.map_map]
    congr 1
    exact List.map_congr_left fun v hv => turn_sim inj h4 hp hp' (hg v hv)
  · rw [List.map_map]
    exact List.map_congr_left fun v hv => turn_sim inj h4 hp hp' (hr v hv)
end
end Go.Proofs.Ytbnippldclpclaa
