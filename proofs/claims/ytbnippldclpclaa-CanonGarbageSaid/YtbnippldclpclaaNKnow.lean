/- What the map of identifiers knows; what the walk of add keeps. -/
import Derived.Test.YtbnippldclpclaaNHalf
import Derived.Test.YtbnippldclpclaaMHeap
import Derived.Test.YtbnippldclpclaaNMath2
namespace Go.Proofs.Ytbnippldclpclaa
open Go.RowKit

structure Known (O : List Ob) (out : List Int) (E : List (Int × Int)) : Prop where
  num : ∀ x, (mlook E x).getD 0 = place out x
  known : ∀ x, (mlook E x).isSome = true → x ∈ out ∨ thereO O x = false
  has : ∀ x ∈ out, (mlook E x).isSome = true
  there : ∀ x ∈ out, thereO O x = true
  nodup : out.Nodup
theorem Known.nil (O : List Ob) : Known O [] [] := ⟨fun x => by simp [mlook, place], fun x h => by simp [mlook] at h, by simp, by simp, List.nodup_nil⟩
theorem Known.skip {O : List Ob} {out : List Int} {E : List (Int × Int)} (h : Known O out E) {v : V} (hv : (mlook E v.2).isSome = true ∨ v.1 = false) : stepR (thereO O) out v = out := by
  unfold stepR
  rw [if_neg]
  rintro ⟨h1, h2, h3⟩
  rcases hv with hv | hv
  · rcases h.known _ hv with h4 | h4
    · exact h3 h4
    · rw [h2] at h4; cases h4
  · rw [h1] at hv; cases hv
theorem Known.not_mem {O : List Ob} {out : List Int} {E : List (Int × Int)} (h : Known O out E) {x : Int} (hx : (mlook E x).isSome = false) : x ∉ out := fun hm => by rw [h.has x hm] at hx; cases hx
theorem Known.miss {O : List Ob} {out : List Int} {E : List (Int × Int)} (h : Known O out E) {x : Int} (hx : (mlook E x).isSome = false) (ht : thereO O x = false) : Known O out (mput E x 0) ∧ stepR (thereO O) out (true, x) = out := by
  refine ⟨⟨fun y => ?_, fun y hy => ?_, fun y hy => ?_, h.there, h.nodup⟩, ?_⟩
  · rw [mlook_put]
    by_cases e : x = y
    · subst e
      rw [if_pos rfl, place_out (h.not_mem hx)]
      rfl
    · rw [if_neg e]; exact h.num y
  · rw [mlook_put] at hy
    by_cases e : x = y
    · subst e; exact .inr ht
    · rw [if_neg e] at hy; exact h.known y hy
  · rw [mlook_put]
    split
    · rfl
    · exact h.has y hy
  · unfold stepR
    rw [if_neg]
    rintro ⟨_, h2, _⟩
    simp only at h2
    rw [ht] at h2
    cases h2
theorem place_snoc (out : List Int) (x y : Int) (hx : x ∉ out) : place (out ++ [x]) y = if x = y then (out.length : Int) + 1 else place out y := by
  unfold place
  by_cases e : x = y
  · subst e
    rw [if_pos rfl, if_pos (by simp), List.idxOf_append, if_neg hx]
    simp
  · rw [if_neg e]
    by_cases hy : y ∈ out
    · rw [if_pos hy, if_pos (by simp [hy]), List.idxOf_append, if_pos hy]
    · rw [if_neg hy, if_neg (by simp [hy]; exact fun e2 => e e2.symm)]
theorem Known.hit {O : List Ob} {out : List Int} {E : List (Int × Int)} (h : Known O out E) {x : Int} (hx : (mlook E x).isSome = false) (ht : thereO O x = true) :
    Known O (out ++ [x]) (mput (mput E x 0) x (out.length + 1)) ∧ stepR (thereO O) out (true, x) = out ++ [x] := by
  have hn := h.not_mem hx
  have e1 : ∀ y, mlook (mput (mput E x 0) x (out.length + 1)) y = if x = y then some ((out.length : Int) + 1) else mlook E y := fun y => by
    rw [mlook_put, mlook_put]
    split <;> rfl
  refine ⟨⟨fun y => ?_, fun y hy => ?_, fun y hy => ?_, fun y hy => ?_, ?_⟩, ?_⟩
  · rw [e1, place_snoc _ _ _ hn]
    by_cases e : x = y
    · rw [if_pos e, if_pos e]; rfl
    · rw [if_neg e, if_neg e]; exact h.num y
  · rw [e1] at hy
    by_cases e : x = y
    · exact .inl (by simp [e])
    · rw [if_neg e] at hy
      rcases h.known y hy with h1 | h1
      · exact .inl (by simp [h1])
      · exact .inr h1
  · rw [e1]
    split
    · rfl
    · rename_i e
      rcases List.mem_append.1 hy with h1 | h1
      · exact h.has y h1
      · simp at h1; exact absurd h1.symm e
  · rcases List.mem_append.1 hy with h1 | h1
    · exact h.there y h1
    · simp at h1; rw [h1]; exact ht
  · rw [List.nodup_append]
    exact ⟨h.nodup, by simp, fun a ha b hb e => by simp at hb; subst e; subst hb; exact hn ha⟩
  · unfold stepR
    rw [if_pos ⟨rfl, ht, hn⟩]
theorem in_there (O : List Ob) (x : Int) : inO O x = thereO O x := look_in O x
theorem there_mem {O : List Ob} {x : Int} (h : thereO O x = true) : x ∈ O.map Prod.fst := by
  apply Classical.byContradiction
  intro hn
  unfold thereO at h
  rw [look_none (fun y hy e => hn (List.mem_map.2 ⟨y, hy, e⟩))] at h
  cases h
theorem nodup_le {l m : List Int} (hn : l.Nodup) (h : ∀ x ∈ l, x ∈ m) : l.length ≤ m.length := by
  induction l generalizing m with
  | nil => simp
  | cons x l ih =>
    have hx := h x (List.mem_cons_self ..)
    rw [List.nodup_cons] at hn
    have h1 := ih (m := m.erase x) hn.2 (fun y hy => by
      have e : y ≠ x := by rintro rfl; exact hn.1 hy
      rw [List.mem_erase_of_ne e]
      exact h y (List.mem_cons_of_mem _ hy))
    rw [List.length_erase_of_mem hx] at h1
    have := List.length_pos_of_mem hx
    simp only [List.length_cons]
    omega
theorem Known.le {O : List Ob} {out : List Int} {E : List (Int × Int)} (h : Known O out E) : out.length ≤ O.length := by
  have := nodup_le h.nodup (fun x hx => there_mem (h.there x hx))
  simpa using this
theorem get_id {O : List Ob} {x : Int} (h : thereO O x = true) : (getO O x).1 = x := by
  rw [← in_there] at h
  have hlt : idxO O x < O.length := of_decide_eq_true h
  have h1 := List.findIdx_getElem (p := fun y : Ob => y.1 == x) (xs := O) (w := hlt)
  unfold getO
  rw [List.getElem?_eq_getElem hlt]
  exact eq_of_beq h1

/-- nothing old has changed but two blocks -/
structure Keep (B rb bm : Nat) (w w' : World) : Prop where
  size : w.heap.size ≤ w'.heap.size
  block : ∀ k, k < B → k < w.heap.size → k ≠ rb → k ≠ bm → w'.heap[k]? = w.heap[k]?
theorem Keep.refl (B rb bm : Nat) (w : World) : Keep B rb bm w w := ⟨Nat.le_refl _, fun _ _ _ _ _ => rfl⟩
theorem Keep.trans {B rb bm : Nat} {w w1 w2 : World} (h : Keep B rb bm w w1) (h2 : Keep B rb bm w1 w2) : Keep B rb bm w w2 :=
  ⟨Nat.le_trans h.size h2.size, fun k h1 h3 h4 h5 => (h2.block k h1 (Nat.lt_of_lt_of_le h3 h.size) h4 h5).trans (h.block k h1 h3 h4 h5)⟩
theorem Keep.below {B rb bm : Nat} {w w1 w2 : World} (h : Keep B rb bm w w1) (hb : Below w1.heap.size w1 w2) : Keep B rb bm w w2 :=
  h.trans ⟨hb.size, fun k _ h3 _ _ => hb.block k h3⟩
theorem Keep.grown {B rb bm : Nat} {w w1 w2 : World} {r : Option Nat} (h : Keep B rb bm w w1) (hg : w1.grownBy w2 r) (hr : ∀ k, r = some k → B ≤ k ∨ k = rb ∨ k = bm) : Keep B rb bm w w2 :=
  h.trans ⟨hg.size, fun k h1 h3 h4 h5 => hg.block k h3 (fun e => by rcases hr k e.symm with h | h | h <;> omega)⟩
theorem Keep.set {B rb bm : Nat} {w w1 : World} (h : Keep B rb bm w w1) {p : Addr} (hp : p.block = rb) (u : Value) : Keep B rb bm w (w1.setCell p u) :=
  h.trans ⟨by simp [World.setCell], fun k _ _ h4 _ => Below.heap_setCell w1 p u k (by rw [hp]; exact h4)⟩
theorem At1.keep {B rb bm : Nat} {w w' : World} {b : Nat} {u : Value} (h : At1 w b u) (hk : Keep B rb bm w w') (h1 : b < B) (h2 : b ≠ rb) (h3 : b ≠ bm) : At1 w' b u :=
  have hb := hk.block b h1 h.lt h2 h3
  ⟨(World.cell?_of_block (a := ⟨b, 0, none⟩) hb).trans h.c0, (World.frozen?_of_block (a := ⟨b, 0, none⟩) hb).trans h.f0, Nat.lt_of_lt_of_le h.lt hk.size⟩
theorem At2.keep {B rb bm : Nat} {w w' : World} {b : Nat} {u v : Value} (h : At2 w b u v) (hk : Keep B rb bm w w') (h1 : b < B) (h2 : b ≠ rb) (h3 : b ≠ bm) : At2 w' b u v :=
  have hb := hk.block b h1 h.lt h2 h3
  ⟨(World.cell?_of_block (a := ⟨b, 0, none⟩) hb).trans h.c0, (World.cell?_of_block (a := ⟨b, 1, none⟩) hb).trans h.c1, (World.frozen?_of_block (a := ⟨b, 0, none⟩) hb).trans h.f0, (World.frozen?_of_block (a := ⟨b, 1, none⟩) hb).trans h.f1, Nat.lt_of_lt_of_le h.lt hk.size⟩
/-- values that lie below all that changes, or in a row of their own -/
def Vals (w0 w : World) (B : Nat) (v : Value) (l : List V) : Prop := VsAt w0 v l ∨ VsOwn w B v l
theorem Vals.at_ {w0 w : World} {B : Nat} {v : Value} {l : List V} (h : Vals w0 w B v l) (hb : Below w0.heap.size w0 w) : VsAt w v l := by
  rcases h with h | h
  · exact h.below hb
  · exact h.at_
theorem Vals.below {w0 w w' : World} {B : Nat} {v : Value} {l : List V} (h : Vals w0 w B v l) (hb : Below w.heap.size w w') : Vals w0 w' B v l := h.imp id (fun h => h.below hb)
theorem Vals.set {w0 w : World} {B : Nat} {v : Value} {l : List V} (h : Vals w0 w B v l) {p : Addr} (hp : p.block < B) (u : Value) : Vals w0 (w.setCell p u) B v l := h.imp id (fun h => h.set hp u)
theorem Vals.low {w0 w w' : World} {B b : Nat} {v : Value} {l : List V} (h : Vals w0 w B v l) (hg : w.grownBy w' (some b)) (hb : b < B) : Vals w0 w' B v l :=
  h.imp id (fun h => World.ownsRow.kept h hg (by
    cases e : v.ownBlock with
    | none => exact .inl rfl
    | some g => exact .inr (fun e2 => by have := (World.ownsRow.lt h g e).1; have := Option.some.inj e2; omega)))
theorem Vals.row {w0 w w' : World} {B B' n s : Nat} {v u : Value} {l : List V} {xs : List Value} (h : Vals w0 w B v l) (hr : w.ownsRow B' 43 s u n xs) (hg : w.grownBy w' u.ownBlock) : Vals w0 w' B v l :=
  h.imp id (fun h => World.ownsRow.kept h hg (rows_apart h hr (by decide)))
end Go.Proofs.Ytbnippldclpclaa
