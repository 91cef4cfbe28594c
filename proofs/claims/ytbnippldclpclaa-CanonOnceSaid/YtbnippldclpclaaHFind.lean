/- Where an object is: at, find, findCell. -/
import Derived.Test.YtbnippldclpclaaHCopy
import Derived.LoopTactic
import Derived.WalkMore
import Derived.Deep.LoopGhost
namespace Go.Proofs.Ytbnippldclpclaa
open Go.RowKit

/-- the first place of an identifier; the number of objects if there is none -/
def idx (L : List Lob) (id : Int) : Nat := L.findIdx fun x => x.id == id
/-- the first place of a greater identifier -/
def pos (L : List Lob) (id : Int) : Nat := L.findIdx fun x => decide (id < x.id)

/-- the walk's facts on element k of a slice of objects -/
theorem OsAt.elem {w : World} {v : Value} {L : List Lob} (h : OsAt w v L) {k : Nat} {x : Lob} (hk : L[k]? = some x) :
    ∃ b o c, v = .slice (some ⟨b, o, none⟩) L.length c ∧ b < w.heap.size ∧ w.cell? ⟨b, o + k * 2, none⟩ = some (.int .i64 x.id) ∧ w.cell? ⟨b, o + k * 2 + 1, none⟩ = some x.fv := by
  have hlt := (List.getElem?_eq_some_iff.1 hk).1
  obtain ⟨b, o, c, hv, hb, hc⟩ := h.1.pos (by omega) (by decide)
  obtain ⟨h0, h1⟩ := oc_at L k x hk
  exact ⟨b, o, c, hv, hb, hc _ _ h0, by rw [Nat.add_assoc]; exact hc _ _ h1⟩
theorem OsAt.shape {w : World} {v : Value} {L : List Lob} (h : OsAt w v L) : ∃ a n c, v = .slice a n c ∧ Hid (n = L.length) := by
  obtain ⟨a, c, e⟩ := SlAt.shape h.1
  exact ⟨a, _, c, e, rfl⟩

/-- what 'at' of the reference gives -/
def atI (L : List Lob) (id : Int) : Int := if idx L id < L.length then (idx L id : Int) else -1
def RetI (w : World) (n : Int) (e : Ending) (w' : World) : Prop := e = .returned (.int .i64 n) ∧ Below w.heap.size w w'
theorem idx_here {L : List Lob} {id : Int} {k : Nat} {x : Lob} (hk : L[k]? = some x) (hi : k ≤ idx L id) (he : (x.id == id) = true) : idx L id = k := by
  obtain ⟨hlt, hx⟩ := List.getElem?_eq_some_iff.1 hk
  refine Nat.le_antisymm ?_ hi
  unfold idx at *
  apply Nat.le_of_not_lt
  intro hgt
  have := List.not_of_lt_findIdx hgt
  rw [hx] at this
  rw [this] at he
  cases he
theorem idx_next {L : List Lob} {id : Int} {k : Nat} {x : Lob} (hk : L[k]? = some x) (hi : k ≤ idx L id) (he : (x.id == id) = false) : k + 1 ≤ idx L id := by
  obtain ⟨hlt, hx⟩ := List.getElem?_eq_some_iff.1 hk
  refine Nat.lt_of_le_of_ne hi ?_
  intro e
  unfold idx at e
  have := List.findIdx_getElem (p := fun x : Lob => x.id == id) (xs := L) (w := by rw [← e]; exact hlt)
  simp only [← e, hx] at this
  rw [this] at he
  cases he
theorem idx_le (L : List Lob) (id : Int) : idx L id ≤ L.length := List.findIdx_le_length

set_option maxHeartbeats 1000000 in
set_option maxRecDepth 100000 in
theorem rat_any (v : Value) (L : List Lob) (id : Int) (w : World) (h : OsAt w v L) (hl : L.length ≤ 1000000000) :
    Calls Try.prog 22 #[.agg #[v], .int .i64 id] w (RetI w (atI L id)) := by
  obtain ⟨a, n, c, rfl, hn⟩ := h.shape
  have H := Lib.hid h
  rw [← hn.out] at hl
  clear h
  go_enter Try.func22, Try.ntmps22
  go_wp2
  go_loopw [5, 6, 10] (fun _ _ i wr => ∃ k : Nat, k ≤ n ∧ i = .int .i64 k ∧ Below w.heap.size w wr ∧ Hid (k ≤ idx L id)) (fun _ _ i _ => n - (intOf i).toNat)
  case atStart => exact ⟨0, Nat.zero_le _, rfl, below1 _ _, Nat.zero_le _⟩
  case round =>
    obtain ⟨k, hk, rfl, hb, hi⟩ := hrel
    by_cases hlt : k < n
    · obtain ⟨x, hx⟩ : ∃ x, L[k]? = some x := ⟨_, List.getElem?_eq_getElem (by rw [← hn.out]; exact hlt)⟩
      obtain ⟨b, o, c', hv, hbl, hc0, hc1⟩ := (H.out.below hb).elem hx
      obtain ⟨rfl, hv2, rfl⟩ := Value.slice.inj hv
      clear hv hv2
      have HX := Lib.hid hx
      have HB := Lib.hid hb
      clear hb hx
      obtain ⟨fa, fc, hf⟩ := SlAt.shape (H.out.2 x (List.mem_of_getElem? HX.out))
      rw [hf] at hc1
      clear hf
      cases ht : (x.id == id) with
      | true =>
        have HI := Lib.hid (idx_here HX.out hi ht)
        go_wp2
        go_ret
        refine ⟨?_, Below.new HB.out _⟩
        unfold atI
        rw [HI.out, if_pos (by rw [← hn.out]; exact hlt)]
        rfl
      | false =>
        have HI := Lib.hid (idx_next HX.out hi ht)
        go_wp2
        go_roundw
        case rel => exact ⟨k + 1, by omega, by go_num, Below.new HB.out _, HI.out⟩
        case measure => simp [intOf]; omega
    · obtain rfl : k = n := by omega
      go_wp2
      go_ret
      refine ⟨?_, hb⟩
      have h1 : k ≤ idx L id := hi.out
      have h2 : k = L.length := hn.out
      unfold atI
      rw [if_neg (by omega)]
      rfl

theorem pos_le (L : List Lob) (id : Int) : pos L id ≤ L.length := List.findIdx_le_length
theorem pos_here {L : List Lob} {id : Int} {k : Nat} {x : Lob} (hk : L[k]? = some x) (h : id < x.id) : pos L id ≤ k := by
  obtain ⟨hlt, hx⟩ := List.getElem?_eq_some_iff.1 hk
  apply Nat.le_of_not_lt
  intro hgt
  have := List.not_of_lt_findIdx hgt
  rw [hx] at this
  simp at this
  omega
theorem pos_not {L : List Lob} {id : Int} {k : Nat} {x : Lob} (hk : L[k]? = some x) (h : x.id ≤ id) : pos L id ≠ k := by
  obtain ⟨hlt, hx⟩ := List.getElem?_eq_some_iff.1 hk
  intro e
  unfold pos at e
  have := List.findIdx_getElem (p := fun x : Lob => decide (id < x.id)) (xs := L) (w := by rw [e]; exact hlt)
  simp only [e, hx] at this
  simp at this
  omega
/-- the place to insert, as far as it is known before element k -/
def upTo (L : List Lob) (id : Int) (k : Nat) : Nat := if pos L id < k then pos L id else L.length
theorem upTo_all (L : List Lob) (id : Int) : upTo L id L.length = pos L id := by
  unfold upTo
  have := pos_le L id
  split <;> omega
theorem upTo_more {L : List Lob} {id : Int} {k : Nat} {x : Lob} (hk : L[k]? = some x) (h : id < x.id) : upTo L id (k + 1) = min (upTo L id k) k := by
  have h1 := pos_here hk h
  have h2 := (List.getElem?_eq_some_iff.1 hk).1
  unfold upTo
  split <;> split <;> omega
theorem upTo_same {L : List Lob} {id : Int} {k : Nat} {x : Lob} (hk : L[k]? = some x) (h : x.id ≤ id) : upTo L id (k + 1) = upTo L id k := by
  have h1 := pos_not hk h
  unfold upTo
  split <;> split <;> omega
theorem upTo_le (L : List Lob) (id : Int) (k : Nat) : upTo L id k ≤ L.length := by
  have := pos_le L id
  unfold upTo
  split <;> omega
/-- what 'find' gives -/
def findI (L : List Lob) (id : Int) : Nat := if idx L id < L.length then idx L id else pos L id
def RetF (w : World) (n : Int) (b : Bool) (e : Ending) (w' : World) : Prop := e = .returned (.tuple #[.int .i64 n, .bool b]) ∧ Below w.heap.size w w'
def isIn (L : List Lob) (id : Int) : Bool := decide (idx L id < L.length)

set_option maxHeartbeats 1000000 in
set_option maxRecDepth 100000 in
theorem find_any (v : Value) (L : List Lob) (id : Int) (w : World) (h : OsAt w v L) (hl : L.length ≤ 1000000000) :
    Calls Try.prog 33 #[.agg #[v], .int .i64 id] w (RetF w (findI L id) (isIn L id)) := by
  obtain ⟨a, n, c, rfl, hn⟩ := h.shape
  have H := Lib.hid h
  rw [← hn.out] at hl
  have HU0 : Hid (upTo L id 0 = n) := Lib.hid (by unfold upTo; rw [if_neg (by omega)]; exact hn.out.symm)
  have hUle : ∀ k, upTo L id k ≤ n := fun k => by rw [hn.out]; exact upTo_le L id k
  have HUle := Lib.hid hUle
  clear h hUle
  go_enter Try.func33, Try.ntmps33
  go_wp2
  go_step3
  go_wp2
  go_step3
  go_wp2
  go_loopw [6, 7, 8, 9, 16] (fun at_ fd _ _ i wr => ∃ k m : Nat, k ≤ n ∧ i = .int .i64 k ∧ at_ = .int .i64 m ∧ m ≤ n ∧ fd = .bool false ∧ Below w.heap.size w wr ∧ Hid (k ≤ idx L id) ∧ Hid (m = upTo L id k)) (fun _ _ _ _ i _ => n - (intOf i).toNat)
  case atStart => exact ⟨0, n, Nat.zero_le _, rfl, rfl, Nat.le_refl _, rfl, below1 _ _, Nat.zero_le _, HU0.out.symm⟩
  case round =>
    obtain ⟨k, m, hk, rfl, rfl, hm, rfl, hb, hi, hu⟩ := hrel
    by_cases hlt : k < n
    · obtain ⟨x, hx⟩ : ∃ x, L[k]? = some x := ⟨_, List.getElem?_eq_getElem (by rw [← hn.out]; exact hlt)⟩
      obtain ⟨b, o, c', hv, hbl, hc0, hc1⟩ := (H.out.below hb).elem hx
      obtain ⟨rfl, hv2, rfl⟩ := Value.slice.inj hv
      clear hv hv2
      have HX := Lib.hid hx
      have HB := Lib.hid hb
      clear hb hx
      obtain ⟨fa, fc, hf⟩ := SlAt.shape (H.out.2 x (List.mem_of_getElem? HX.out))
      rw [hf] at hc1
      clear hf
      cases ht : (x.id == id) with
      | true =>
        have HI := Lib.hid (idx_here HX.out hi ht)
        have hkn : Hid (k < L.length) := Lib.hid (by rw [← hn.out]; exact hlt)
        go_wp2
        rw [Exit.noGoto_ret]
        go_ret2
        have e1 : findI L id = k := by unfold findI; rw [HI.out, if_pos hkn.out]
        have e2 : isIn L id = true := by unfold isIn; rw [HI.out]; exact decide_eq_true hkn.out
        rw [e1, e2]
        exact ⟨rfl, Below.new HB.out _⟩
      | false =>
        have HI := Lib.hid (idx_next HX.out hi ht)
        by_cases hgt : id < x.id
        · have HU := Lib.hid (upTo_more HX.out hgt)
          go_wp2
          have e : Value.int .i64 (if k < m then (k : Int) else (m : Int)) = .int .i64 ((min m k : Nat) : Int) := by
            congr 1
            split <;> omega
          refine ⟨⟨k + 1, min m k, by omega, rfl, e, by omega, rfl, Below.new HB.out _, HI.out, ?_⟩, ?_⟩
          · show min m k = _
            rw [HU.out, ← hu.out]
          · simp [intOf]; omega
        · have HU := Lib.hid (upTo_same (id := id) HX.out (by omega))
          go_wp2
          refine ⟨⟨k + 1, m, by omega, rfl, rfl, by omega, rfl, Below.new HB.out _, HI.out, ?_⟩, ?_⟩
          · show m = _
            rw [HU.out, ← hu.out]
          · simp [intOf]; omega
    · obtain rfl : k = n := by omega
      go_wp2
      rw [Exit.noGoto_ret]
      go_ret2
      have h1 : k ≤ idx L id := hi.out
      have h2 : k = L.length := hn.out
      have e1 : findI L id = m := by
        unfold findI
        rw [if_neg (by omega), hu.out, h2, upTo_all]
      have e2 : isIn L id = false := by unfold isIn; exact decide_eq_false (by omega)
      rw [e1, e2]
      exact ⟨rfl, hb⟩

/-- whether a cell exists, and its value -/
def cellOf (L : List Lob) (id f : Int) : Option V := match L[idx L id]? with
  | some x => if f < 0 then none else x.vals[f.toNat]?
  | none => none
def hasCell (L : List Lob) (id f : Int) : Bool := (cellOf L id f).isSome
theorem hasCell_none {L : List Lob} {id f : Int} (h : isIn L id = false) : hasCell L id f = false := by
  have : ¬ idx L id < L.length := of_decide_eq_false h
  unfold hasCell cellOf
  rw [List.getElem?_eq_none (by omega)]
  rfl
theorem hasCell_in {L : List Lob} {id f : Int} {x : Lob} (h : L[idx L id]? = some x) : hasCell L id f = !(decide (f < 0) || decide ((x.vals.length : Int) ≤ f)) := by
  unfold hasCell cellOf
  rw [h]
  by_cases h0 : f < 0
  · simp [h0]
  · by_cases h1 : (x.vals.length : Int) ≤ f
    · simp only [h0, h1, if_false, decide_false, decide_true, Bool.false_or, Bool.not_true]
      rw [List.getElem?_eq_none (by omega)]
      rfl
    · simp only [h0, h1, if_false, decide_false, Bool.or_false, Bool.not_false]
      rw [List.getElem?_eq_getElem (by omega)]
      rfl
theorem findI_in {L : List Lob} {id : Int} (h : isIn L id = true) : findI L id = idx L id ∧ ∃ x, L[idx L id]? = some x := by
  have h' : idx L id < L.length := of_decide_eq_true h
  exact ⟨by unfold findI; rw [if_pos h'], _, List.getElem?_eq_getElem h'⟩

def cellI (L : List Lob) (id f : Int) : Int := if hasCell L id f then (idx L id : Int) else 0
theorem cellI_no {L : List Lob} {id f : Int} (h : hasCell L id f = false) : cellI L id f = 0 := by unfold cellI; rw [h]; rfl
theorem cellI_yes {L : List Lob} {id f : Int} (h : hasCell L id f = true) : cellI L id f = idx L id := by unfold cellI; rw [h]; rfl
end Go.Proofs.Ytbnippldclpclaa
