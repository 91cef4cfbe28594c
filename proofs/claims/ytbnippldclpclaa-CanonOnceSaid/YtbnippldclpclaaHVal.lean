/- Valid, of the program and of the reference; big. -/
import Derived.Test.YtbnippldclpclaaHCmp
namespace Go.Proofs.Ytbnippldclpclaa
open Go.RowKit

/-- the identifiers are greater than a number, and ascend -/
def asc (last : Int) : List Lob → Bool
  | [] => true
  | x :: r => decide (last < x.id) && asc x.id r
theorem asc_at {L : List Lob} {k : Nat} {x : Lob} (hk : L[k]? = some x) (last : Int) : asc last (L.drop k) = (decide (last < x.id) && asc x.id (L.drop (k + 1))) := by
  obtain ⟨hlt, hx⟩ := List.getElem?_eq_some_iff.1 hk
  rw [List.drop_eq_getElem_cons hlt, hx]
  rfl
theorem asc_end (L : List Lob) (k : Nat) (last : Int) (h : L.length ≤ k) : asc last (L.drop k) = true := by
  rw [List.drop_eq_nil_of_le h]
  rfl

set_option maxHeartbeats 1000000 in
set_option maxRecDepth 100000 in
theorem valid_any (v : Value) (L : List Lob) (w : World) (h : OsAt w v L) (hl : L.length ≤ 1000000000) :
    Calls Try.prog 27 #[.agg #[v]] w (RetB w (asc 0 L)) := by
  obtain ⟨a, n, c, rfl, hn⟩ := h.shape
  have H := Lib.hid h
  rw [← hn.out] at hl
  have HE : ∀ last, asc last (L.drop n) = true := fun last => asc_end L n last (by rw [← hn.out]; exact Nat.le_refl _)
  have HEnd := Lib.hid HE
  generalize hg : asc 0 L = g
  have HG : Hid (g = asc 0 (L.drop 0)) := Lib.hid (by rw [← hg]; rfl)
  clear h HE hg
  go_enter Try.func27, Try.ntmps27
  go_wp2
  go_loopw [3, 5, 9] (fun la _ i wr => ∃ (k : Nat) (last : Int), k ≤ n ∧ i = .int .i64 k ∧ la = .int .i64 last ∧ Below w.heap.size w wr ∧ Hid (g = asc last (L.drop k))) (fun _ _ i _ => n - (intOf i).toNat)
  case atStart => exact ⟨0, 0, Nat.zero_le _, rfl, rfl, below1 _ _, HG.out⟩
  case round =>
    obtain ⟨k, last, hk, rfl, rfl, hb, hi⟩ := hrel
    by_cases hlt : k < n
    · obtain ⟨x, hx⟩ : ∃ x, L[k]? = some x := ⟨_, List.getElem?_eq_getElem (by rw [← hn.out]; exact hlt)⟩
      obtain ⟨b, o, c', hv, hbl, hc0, hc1⟩ := (H.out.below hb).elem hx
      obtain ⟨rfl, hv2, rfl⟩ := Value.slice.inj hv
      clear hv hv2
      have HA := Lib.hid (asc_at hx last)
      have HB := Lib.hid hb
      obtain ⟨fa, fc, hf⟩ := SlAt.shape (H.out.2 x (List.mem_of_getElem? hx))
      rw [hf] at hc1
      clear hf hb hx
      by_cases ht : x.id ≤ last
      · have HF : Hid (asc last (L.drop k) = false) := Lib.hid (by rw [HA.out, decide_eq_false (by omega)]; rfl)
        go_wp2
        go_ret
        refine ⟨?_, Below.new HB.out _⟩
        rw [hi.out, HF.out]
        rfl
      · have HF : Hid (asc last (L.drop k) = asc x.id (L.drop (k + 1))) := Lib.hid (by rw [HA.out, decide_eq_true (by omega)]; rfl)
        go_wp2
        go_roundw
        case rel => exact ⟨k + 1, x.id, by omega, by go_num, rfl, Below.new HB.out _, by rw [hi.out]; exact HF.out⟩
        case measure => simp [intOf]; omega
    · obtain rfl : k = n := by omega
      go_wp2
      go_ret
      refine ⟨?_, hb⟩
      rw [hi.out, HEnd.out]
      rfl

/-- the last identifier before place k -/
def lastOf (L : List Lob) (k : Nat) : Int := if k = 0 then 0 else match L[k - 1]? with | some x => x.id | none => 0
theorem lastOf_succ {L : List Lob} {k : Nat} {x : Lob} (hk : L[k]? = some x) : lastOf L (k + 1) = x.id := by unfold lastOf; simp [hk]

set_option maxHeartbeats 1000000 in
set_option maxRecDepth 100000 in
theorem rvalid_any (v : Value) (L : List Lob) (w : World) (h : OsAt w v L) (hl : L.length ≤ 1000000000) :
    Calls Try.prog 13 #[.agg #[v]] w (RetB w (asc 0 L)) := by
  obtain ⟨a, n, c, rfl, hn⟩ := h.shape
  have H := Lib.hid h
  rw [← hn.out] at hl
  have HE : ∀ last, asc last (L.drop n) = true := fun last => asc_end L n last (by rw [← hn.out]; exact Nat.le_refl _)
  have HEnd := Lib.hid HE
  generalize hg : asc 0 L = g
  have HG : Hid (g = asc (lastOf L 0) (L.drop 0)) := Lib.hid (by rw [← hg]; rfl)
  clear h HE hg
  go_enter Try.func13, Try.ntmps13
  go_wp2
  go_loopw [3, 4, 8] (fun _ _ i wr => ∃ (k : Nat), k ≤ n ∧ i = .int .i64 k ∧ Below w.heap.size w wr ∧ w.heap.size < wr.heap.size ∧ At1 wr w.heap.size (.slice a n c) ∧ Hid (g = asc (lastOf L k) (L.drop k) ∧ 0 ≤ lastOf L k)) (fun _ _ i _ => n - (intOf i).toNat)
  case atStart => exact ⟨0, Nat.zero_le _, rfl, below1 _ _, by simp, At1.new _ _ _, HG.out, Int.le_refl _⟩
  case round =>
    obtain ⟨k, hk, rfl, hb, hz, hp, hi⟩ := hrel
    by_cases hlt : k < n
    · obtain ⟨x, hx⟩ : ∃ x, L[k]? = some x := ⟨_, List.getElem?_eq_getElem (by rw [← hn.out]; exact hlt)⟩
      obtain ⟨b, o, c', hv, hbl, hc0, hc1⟩ := (H.out.below hb).elem hx
      obtain ⟨rfl, hv2, rfl⟩ := Value.slice.inj hv
      clear hv hv2
      have HA := Lib.hid (asc_at hx (lastOf L k))
      have HB := Lib.hid hb
      have HX := Lib.hid hx
      have HP := Lib.hid hp
      obtain ⟨fa, fc, hf⟩ := SlAt.shape (H.out.2 x (List.mem_of_getElem? hx))
      rw [hf] at hc1
      have hz2 : ((w.heap.size : Nat) < wr.heap.size) := hz
      clear hf hb hx hp
      have HP2 := Lib.hid (HP.out.alloc (.cells #[.int .i64 x.id, .slice fa x.vals.length fc] 43))
      have hp0 := HP.out.c0
      have hp1 := HP2.out.c0
      have HB2 := Lib.hid (Below.new HB.out (.cells #[.int .i64 x.id, .slice fa x.vals.length fc] 43))
      by_cases h1 : x.id < 1
      · have HF : Hid (asc (lastOf L k) (L.drop k) = false) := Lib.hid (by have := hi.out.2; rw [HA.out, decide_eq_false (by omega)]; rfl)
        have d1 : decide (x.id < 1) = true := by simpa using h1
        go_wp2_with fail
        go_quiet (fail)
        go_wp2
        go_ret
        refine ⟨?_, Below.drewN HB2.out _⟩
        rw [hi.out.1, HF.out]
        rfl
      · have d1 : decide (x.id < 1) = false := by simpa using h1
        by_cases h2 : 0 < k
        · obtain ⟨j, rfl⟩ : ∃ j, k = j + 1 := ⟨k - 1, by omega⟩
          have d2 : decide ((0 : Int) < ((j + 1 : Nat) : Int)) = true := by simp
          have d2' : decide ((0 : Int) < (j : Int) + 1) = true := decide_eq_true (by omega)
          obtain ⟨y, hy⟩ : ∃ y, L[j]? = some y := ⟨_, List.getElem?_eq_getElem (by rw [← hn.out]; omega)⟩
          have hLast : lastOf L (j + 1) = y.id := lastOf_succ hy
          have HLast := Lib.hid hLast
          obtain ⟨b', o', c', hv, _, hd0, _⟩ := (H.out.below HB.out).elem hy
          obtain ⟨hv1, hv3, hv4⟩ := Value.slice.inj hv
          obtain ⟨hv1, hv2, hv5⟩ := Addr.mk.inj (Option.some.inj hv1)
          subst hv1 hv2
          clear hv hy hLast hv3 hv4 hv5 hv1
          have i1 : (j : Int) < (n : Int) := by omega
          have i2 : (j : Int) + 1 < (n : Int) := by omega
          by_cases h3 : x.id ≤ y.id
          · have HF : Hid (asc (lastOf L (j + 1)) (L.drop (j + 1)) = false) := Lib.hid (by rw [HA.out, HLast.out, decide_eq_false (by omega)]; rfl)
            have d3 : decide (x.id ≤ y.id) = true := by simpa using h3
            go_wp2_with fail
            go_quiet (fail)
            go_wp2
            go_ret
            refine ⟨?_, Below.drewN HB2.out _⟩
            rw [hi.out.1, HF.out]
            rfl
          · have HF : Hid (asc (lastOf L (j + 1)) (L.drop (j + 1)) = asc x.id (L.drop (j + 1 + 1))) := Lib.hid (by rw [HA.out, HLast.out, decide_eq_true (by omega)]; rfl)
            have d3 : decide (x.id ≤ y.id) = false := by simpa using h3
            go_wp2_with fail
            go_quiet (fail)
            go_wp2
            go_roundw
            case rel => exact ⟨j + 1 + 1, by omega, by go_num, Below.drewN HB2.out _, by simp; omega, ⟨HP2.out.c0, HP2.out.f0, HP2.out.lt⟩, by rw [hi.out.1, lastOf_succ HX.out]; exact HF.out, by rw [lastOf_succ HX.out]; omega⟩
            case measure => simp [intOf]; omega
        · obtain rfl : k = 0 := by omega
          simp only [Nat.zero_mul, Nat.add_zero] at hc0 hc1
          have d2 : decide ((0 : Int) < ((0 : Nat) : Int)) = false := by simp
          have HF : Hid (asc (lastOf L 0) (L.drop 0) = asc x.id (L.drop (0 + 1))) := Lib.hid (by rw [HA.out, decide_eq_true (by simp [lastOf]; omega)]; rfl)
          go_wp2_with fail
          go_quiet (fail)
          go_wp2
          go_roundw
          case rel => exact ⟨0 + 1, by omega, by go_num, Below.drewN HB2.out _, by simp; omega, ⟨HP2.out.c0, HP2.out.f0, HP2.out.lt⟩, by rw [hi.out.1, lastOf_succ HX.out]; exact HF.out, by rw [lastOf_succ HX.out]; omega⟩
          case measure => simp [intOf]; omega
    · obtain rfl : k = n := by omega
      go_wp2
      go_ret
      refine ⟨?_, hb⟩
      rw [hi.out.1, HEnd.out]
      rfl

/-- objects and fields -/
def total : List Lob → Nat
  | [] => 0
  | x :: r => 1 + x.vals.length + total r
theorem total_take {L : List Lob} {k : Nat} {x : Lob} (hk : L[k]? = some x) : total (L.take (k + 1)) = total (L.take k) + (1 + x.vals.length) := by
  induction L generalizing k with
  | nil => simp at hk
  | cons y L ih =>
    cases k with
    | zero => simp at hk; subst hk; simp [total]
    | succ k =>
      simp only [List.getElem?_cons_succ] at hk
      simp only [List.take_succ_cons, total, ih hk]
      omega
theorem total_le (L : List Lob) (k : Nat) : total (L.take k) ≤ total L := by
  induction L generalizing k with
  | nil => simp [total]
  | cons y L ih =>
    cases k with
    | zero => simp [total]
    | succ k =>
      simp only [List.take_succ_cons, total]
      have := ih k
      omega
theorem total_len (L : List Lob) : L.length ≤ total L := by
  induction L with
  | nil => simp [total]
  | cons y L ih => simp only [List.length_cons, total]; omega
theorem total_mem {L : List Lob} {x : Lob} (h : x ∈ L) : x.vals.length ≤ total L := by
  induction L with
  | nil => cases h
  | cons y L ih =>
    simp only [total]
    rcases List.mem_cons.1 h with rfl | h
    · omega
    · have := ih h
      omega
theorem short_of {L : List Lob} (h : total L ≤ 1000000000) : Short L := ⟨Nat.le_trans (total_len L) h, fun _ hx => Nat.le_trans (total_mem hx) h⟩
def bigL (L : List Lob) : Bool := decide (300 < total L)

end Go.Proofs.Ytbnippldclpclaa
