/- Halving: where an object with an identifier is, in ascending order. -/
import Derived.Test.YtbnippldclpclaaNGet
namespace Go.Proofs.Ytbnippldclpclaa
open Go.RowKit

def cmpI (x y : Int) : Int := if x < y then -1 else if y < x then 1 else 0
set_option maxRecDepth 100000 in
theorem nan_any (x : Int) (w : World) : Calls Try.prog 36 #[.int .i64 x] w (fun e w' => e = .returned (.bool false) ∧ w' = w) := by
  have hx : (x != x) = false := by simp
  go_enter Try.func36, Try.ntmps36
  go_wp2
  go_ret
  exact ⟨by simp, rfl⟩
set_option maxRecDepth 100000 in
theorem compare_any (x y : Int) (w : World) : Calls Try.prog 35 #[.int .i64 x, .int .i64 y] w (fun e w' => e = .returned (.int .i64 (cmpI x y)) ∧ w' = w) := by
  go_enter Try.func35, Try.ntmps35
  go_wp2_with fail
  refine (nan_any x w).mono ?_
  rintro e w' ⟨rfl, rfl⟩
  go_wp2_with fail
  refine (nan_any y w').mono ?_
  rintro e w' ⟨rfl, rfl⟩
  by_cases h : x < y
  · go_wp2
    go_ret
    exact ⟨by simp [cmpI, h], rfl⟩
  · by_cases h2 : y < x
    · go_wp2
      go_ret
      exact ⟨by simp [cmpI, h, h2], rfl⟩
    · have hz : cmpI x y = 0 := by unfold cmpI; rw [if_neg h, if_neg h2]
      go_wp2
      go_ret
      exact ⟨by rw [hz]; rfl, rfl⟩
set_option maxRecDepth 100000 in
theorem compareID_any (x y : Int) (v : Value) (l : List V) (w : World) (hv : VsAt w v l) : Calls Try.prog 32 #[.agg #[.int .i64 x, v], .int .i64 y] w (fun e w' => e = .returned (.int .i64 (cmpI x y)) ∧ Below w.heap.size w w') := by
  obtain ⟨a, c, rfl⟩ := SlAt.shape hv
  have B := Lib.hid (below1 w (.cells #[.int .i64 x, .slice a l.length c] 43))
  clear hv
  go_enter Try.func32, Try.ntmps32
  go_wp2_with fail
  refine (compare_any x y _).mono ?_
  rintro e w' ⟨rfl, rfl⟩
  go_wp2
  go_ret
  exact ⟨rfl, B.out⟩

/-- the first place whose identifier is not below id -/
def lowI (L : List Lob) (id : Int) : Nat := L.findIdx fun x => decide (id ≤ x.id)
def RBin (w : World) (L : List Lob) (id : Int) (e : Ending) (w' : World) : Prop := ∃ b, e = .returned (.tuple #[.int .i64 (lowI L id : Int), .bool b]) ∧ Below w.heap.size w w'
theorem binR {w w' : World} {L : List Lob} {id : Int} {i : Nat} {b : Bool} (h : i = lowI L id) (hb : Below w.heap.size w w') : RBin w L id (.returned (.tuple #[.int .i64 (i : Int), .bool b])) w' := ⟨b, by rw [h], hb⟩
theorem asc_le {last : Int} {L : List Lob} (h : asc last L = true) : ∀ x ∈ L, last < x.id := by
  induction L generalizing last with
  | nil => simp
  | cons y L ih =>
    simp only [asc, Bool.and_eq_true, decide_eq_true_eq] at h
    intro x hx
    rcases List.mem_cons.1 hx with rfl | hx
    · exact h.1
    · have := ih h.2 x hx; omega
theorem asc_lt {last : Int} {L : List Lob} (h : asc last L = true) : ∀ (i j : Nat) (x y : Lob), i < j → L[i]? = some x → L[j]? = some y → x.id < y.id := by
  induction L generalizing last with
  | nil => simp
  | cons z L ih =>
    simp only [asc, Bool.and_eq_true, decide_eq_true_eq] at h
    intro i j x y hij hx hy
    cases j with
    | zero => omega
    | succ j =>
      cases i with
      | zero =>
        simp at hx
        subst hx
        exact asc_le h.2 y (List.mem_of_getElem? (by simpa using hy))
      | succ i => exact ih h.2 i j x y (by omega) (by simpa using hx) (by simpa using hy)
theorem low_le (L : List Lob) (id : Int) : lowI L id ≤ L.length := List.findIdx_le_length
theorem low_at {L : List Lob} {id : Int} (hl : lowI L id < L.length) : ∃ y, L[lowI L id]? = some y ∧ id ≤ y.id := by
  have h1 := List.findIdx_getElem (p := fun x : Lob => decide (id ≤ x.id)) (xs := L) (w := hl)
  exact ⟨_, List.getElem?_eq_getElem hl, of_decide_eq_true h1⟩
theorem low_above {last : Int} {L : List Lob} (h : asc last L = true) {id : Int} {k : Nat} {x : Lob} (hk : L[k]? = some x) (hx : x.id < id) : k + 1 ≤ lowI L id := by
  apply Nat.le_of_not_lt
  intro hlt
  have hl : lowI L id < L.length := by have := (List.getElem?_eq_some_iff.1 hk).1; omega
  obtain ⟨y, h2, h3⟩ := low_at hl
  by_cases he : lowI L id = k
  · rw [he, hk] at h2
    rw [← Option.some.inj h2] at h3
    omega
  · have := asc_lt h _ _ _ _ (show lowI L id < k by omega) h2 hk
    omega
theorem low_below {L : List Lob} {id : Int} {k : Nat} {x : Lob} (hk : L[k]? = some x) (hx : id ≤ x.id) : lowI L id ≤ k := by
  apply Nat.le_of_not_lt
  intro hgt
  obtain ⟨hlt, e⟩ := List.getElem?_eq_some_iff.1 hk
  have := List.not_of_lt_findIdx hgt
  rw [e] at this
  simp at this
  omega

set_option maxHeartbeats 1000000 in
set_option maxRecDepth 100000 in
theorem bin_any (v : Value) (L : List Lob) (id : Int) (w : World) (h : OsAt w v L) (hl : L.length ≤ 1000000000) (ha : asc 0 L = true) :
    Calls Try.prog 31 #[v, .int .i64 id, .func (.func 32) #[] #[]] w (RBin w L id) := by
  obtain ⟨a, n, c, rfl, hn⟩ := h.shape
  have H := Lib.hid h
  have HA := Lib.hid ha
  rw [← hn.out] at hl
  have hle : lowI L id ≤ n := by rw [hn.out]; exact low_le L id
  clear h ha
  go_enter Try.func31, Try.ntmps31
  go_wp2
  go_loopw [9, 10] (fun iv jv wr => ∃ i j : Nat, iv = .int .i64 i ∧ jv = .int .i64 j ∧ i ≤ lowI L id ∧ lowI L id ≤ j ∧ j ≤ n ∧ Below w.heap.size w wr) (fun iv jv _ => (intOf jv - intOf iv).toNat)
  case atStart => exact ⟨0, n, rfl, rfl, Nat.zero_le _, hle, Nat.le_refl _, Below.refl _ _⟩
  case round =>
    obtain ⟨i, j, rfl, rfl, h1, h2, h3, hb⟩ := hrel
    by_cases hij : i < j
    · have hd : (i : Int) < (j : Int) := by omega
      obtain ⟨m, hm⟩ : ∃ m : Nat, ((i : Int) + (j : Int)) / 2 = (m : Int) := ⟨(i + j) / 2, by omega⟩
      have hmi : i ≤ m := by omega
      have hmj : m < j := by omega
      obtain ⟨x, hx⟩ : ∃ x, L[m]? = some x := ⟨_, List.getElem?_eq_getElem (by rw [← hn.out]; omega)⟩
      obtain ⟨b, o, c', hv, hbl, hc0, hc1⟩ := (H.out.below hb).elem hx
      obtain ⟨rfl, hv2, rfl⟩ := Value.slice.inj hv
      have HX := Lib.hid hx
      have HB := Lib.hid hb
      have HV := Lib.hid ((H.out.below hb).2 x (List.mem_of_getElem? hx))
      clear hv hv2 hb hx
      obtain ⟨xi, xv, xl⟩ := x
      simp only at hc0 hc1 HV
      obtain ⟨fa, fc, rfl⟩ := SlAt.shape HV.out
      have hmn : (m : Int) < (n : Int) := by omega
      go_wp2_with fail
      refine (compareID_any xi id _ xl wr HV.out).mono ?_
      rintro e w1 ⟨rfl, hb⟩
      have HB1 := Lib.hid (HB.out.then_' hb)
      clear hb
      by_cases hlt : xi < id
      · have hc : cmpI xi id = -1 := by unfold cmpI; rw [if_pos hlt]
        rw [hc]
        have hlow := low_above HA.out HX.out hlt
        go_wp2_with fail
        go_roundw
        case rel => exact ⟨m + 1, j, by go_num, rfl, hlow, h2, h3, HB1.out⟩
        case measure => simp [intOf]; omega
      · have hc : ¬ cmpI xi id < 0 := by unfold cmpI; rw [if_neg hlt]; split <;> omega
        have hlow := low_below HX.out (show id ≤ xi by omega)
        go_wp2_with fail
        go_roundw
        case rel => exact ⟨i, m, rfl, rfl, h1, hlow, by omega, HB1.out⟩
        case measure => simp [intOf]; omega
    · obtain rfl : i = j := by omega
      have he : i = lowI L id := by omega
      have HE := Lib.hid he
      have HB := Lib.hid hb
      clear hb he
      by_cases hin : i < n
      · obtain ⟨x, hx⟩ : ∃ x, L[i]? = some x := ⟨_, List.getElem?_eq_getElem (by rw [← hn.out]; omega)⟩
        obtain ⟨b, o, c', hv, hbl, hc0, hc1⟩ := (H.out.below HB.out).elem hx
        obtain ⟨rfl, hv2, rfl⟩ := Value.slice.inj hv
        have HX := Lib.hid hx
        have HV := Lib.hid ((H.out.below HB.out).2 x (List.mem_of_getElem? hx))
        clear hv hv2 hx
        obtain ⟨xi, xv, xl⟩ := x
        simp only at hc0 hc1 HV
        obtain ⟨fa, fc, rfl⟩ := SlAt.shape HV.out
        have hin' : (i : Int) < (n : Int) := by omega
        go_wp2_with fail
        refine (compareID_any xi id _ xl wr HV.out).mono ?_
        rintro e w1 ⟨rfl, hb⟩
        have HB1 := Lib.hid (HB.out.then_' hb)
        clear hb
        go_wp2
        go_ret2
        exact binR HE.out HB1.out
      · have hin' : ¬ (i : Int) < (n : Int) := by omega
        go_wp2
        go_ret2
        exact binR HE.out HB.out

/-- the object at the first place that is not below, alone, answers as the whole -/
theorem low_one {L : List Lob} (ha : asc 0 L = true) (id : Int) : idx L id = (if (∃ x, L[lowI L id]? = some x ∧ x.id = id) then lowI L id else L.length) := by
  split
  · rename_i h
    obtain ⟨x, hx, he⟩ := h
    apply Nat.le_antisymm
    · apply Nat.le_of_not_lt
      intro hgt
      obtain ⟨hlt, e⟩ := List.getElem?_eq_some_iff.1 hx
      have := List.not_of_lt_findIdx (p := fun x : Lob => x.id == id) (xs := L) hgt
      rw [e] at this
      simp [he] at this
    · apply Nat.le_of_not_lt
      intro hlt
      have hl : idx L id < L.length := Nat.lt_of_lt_of_le hlt (low_le L id)
      have h1 := List.findIdx_getElem (p := fun x : Lob => x.id == id) (xs := L) (w := hl)
      have h2 : (L[idx L id]'hl).id = id := eq_of_beq h1
      have := low_below (id := id) (List.getElem?_eq_getElem hl) (by rw [h2]; exact Int.le_refl _)
      omega
  · rename_i h
    apply Nat.le_antisymm (idx_le L id)
    apply Nat.le_of_not_lt
    intro hl
    have h1 := List.findIdx_getElem (p := fun x : Lob => x.id == id) (xs := L) (w := hl)
    have h2 : (L[idx L id]'hl).id = id := eq_of_beq h1
    have h3 := low_below (id := id) (List.getElem?_eq_getElem hl) (by rw [h2]; exact Int.le_refl _)
    have hl2 : lowI L id < L.length := Nat.lt_of_le_of_lt h3 hl
    obtain ⟨y, hy, hy2⟩ := low_at hl2
    by_cases he : lowI L id = idx L id
    · exact h ⟨_, List.getElem?_eq_getElem hl2, by simp only [he]; exact h2⟩
    · have := asc_lt ha _ _ _ _ (show lowI L id < idx L id by omega) hy (List.getElem?_eq_getElem hl)
      omega
end Go.Proofs.Ytbnippldclpclaa
