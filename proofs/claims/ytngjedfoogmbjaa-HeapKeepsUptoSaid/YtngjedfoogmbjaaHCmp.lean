/- Comparing: lists of values, objects, heaps. -/
import Derived.Test.YtngjedfoogmbjaaHEq
namespace Go.Proofs.Ytngjedfoogmbjaa
open Go.RowKit

def RetB (w : World) (b : Bool) (e : Ending) (w' : World) : Prop := e = .returned (.bool b) ∧ Below w.heap.size w w'
theorem VsAt.elem {w : World} {v : Value} {L : List V} (h : VsAt w v L) {k : Nat} {x : V} (hk : L[k]? = some x) :
    ∃ b o c, v = .slice (some ⟨b, o, none⟩) L.length c ∧ b < w.heap.size ∧ w.cell? ⟨b, o + k * 2, none⟩ = some (.bool x.1) ∧ w.cell? ⟨b, o + k * 2 + 1, none⟩ = some (.int .i64 x.2) := by
  have hlt := (List.getElem?_eq_some_iff.1 hk).1
  obtain ⟨b, o, c, hv, hb, hc⟩ := SlAt.pos h (by omega) (by decide)
  obtain ⟨h0, h1⟩ := vc_at L k x hk
  exact ⟨b, o, c, hv, hb, hc _ _ h0, by rw [Nat.add_assoc]; exact hc _ _ h1⟩
theorem VsAt.shape {w : World} {v : Value} {L : List V} (h : VsAt w v L) : ∃ a n c, v = .slice a n c ∧ Hid (n = L.length) := by
  obtain ⟨a, c, e⟩ := SlAt.shape h
  exact ⟨a, _, c, e, rfl⟩
/-- two lists from place k on -/
def eqFrom {α : Type} [DecidableEq α] (A B : List α) (k : Nat) : Bool := decide (A.drop k = B.drop k)
theorem eqFrom_zero {α : Type} [DecidableEq α] (A B : List α) : eqFrom A B 0 = decide (A = B) := by unfold eqFrom; simp
theorem eqFrom_end {α : Type} [DecidableEq α] (A B : List α) (k : Nat) (h : A.length ≤ k) (h2 : B.length ≤ k) : eqFrom A B k = true := by
  unfold eqFrom
  rw [List.drop_eq_nil_of_le h, List.drop_eq_nil_of_le h2]
  rfl
theorem eqFrom_same {α : Type} [DecidableEq α] {A B : List α} {k : Nat} {x : α} (h : A[k]? = some x) (h2 : B[k]? = some x) : eqFrom A B k = eqFrom A B (k + 1) := by
  obtain ⟨h1, e1⟩ := List.getElem?_eq_some_iff.1 h
  obtain ⟨h3, e3⟩ := List.getElem?_eq_some_iff.1 h2
  unfold eqFrom
  rw [List.drop_eq_getElem_cons h1, List.drop_eq_getElem_cons h3, e1, e3]
  simp
theorem eqFrom_other {α : Type} [DecidableEq α] {A B : List α} {k : Nat} {x y : α} (h : A[k]? = some x) (h2 : B[k]? = some y) (hn : x ≠ y) : eqFrom A B k = false := by
  obtain ⟨h1, e1⟩ := List.getElem?_eq_some_iff.1 h
  obtain ⟨h3, e3⟩ := List.getElem?_eq_some_iff.1 h2
  unfold eqFrom
  rw [List.drop_eq_getElem_cons h1, List.drop_eq_getElem_cons h3, e1, e3]
  simp [hn]
theorem eq_lens {α : Type} [DecidableEq α] {A B : List α} (h : A.length ≠ B.length) : decide (A = B) = false := by
  apply decide_eq_false
  rintro rfl
  exact h rfl

theorem Below.drewN {B : Nat} {w w' : World} (h : Below B w w') (n : Nat) : Below B w (w'.drewN n) := ⟨h.os, h.tape, h.output, h.size, h.block⟩

set_option maxHeartbeats 1000000 in
set_option maxRecDepth 100000 in
theorem equalV_any (v u : Value) (l m : List V) (w : World) (hv : VsAt w v l) (hu : VsAt w u m) (hl : l.length ≤ 1000000000) (hm : m.length ≤ 1000000000) :
    Calls Try.prog 36 #[v, u] w (RetB w (decide (l = m))) := by
  obtain ⟨a, n, c, rfl, hn⟩ := hv.shape
  obtain ⟨a2, n2, c2, rfl, hn2⟩ := hu.shape
  have H := Lib.hid hv
  have H2 := Lib.hid hu
  rw [← hn.out] at hl
  rw [← hn2.out] at hm
  clear hv hu
  by_cases he : n = n2
  · subst he
    rw [← eqFrom_zero]
    have HG : Hid (eqFrom l m n = true) := Lib.hid (eqFrom_end l m n (by rw [← hn.out]; exact Nat.le_refl _) (by rw [← hn2.out]; exact Nat.le_refl _))
    generalize hg : eqFrom l m 0 = g
    have HG0 := Lib.hid hg
    clear hg
    go_enter Try.func36, Try.ntmps36
    go_wp2
    go_loopw [5, 13] (fun _ i wr => ∃ k : Nat, k ≤ n ∧ i = .int .i64 k ∧ Below w.heap.size w wr ∧ Hid (g = eqFrom l m k)) (fun _ i _ => n - (intOf i).toNat)
    case atStart => exact ⟨0, Nat.zero_le _, rfl, Below.refl _ _, HG0.out.symm⟩
    case round =>
      obtain ⟨k, hk, rfl, hb, hi⟩ := hrel
      by_cases hlt : k < n
      · obtain ⟨x, hx⟩ : ∃ x, l[k]? = some x := ⟨_, List.getElem?_eq_getElem (by rw [← hn.out]; exact hlt)⟩
        obtain ⟨y, hy⟩ : ∃ x, m[k]? = some x := ⟨_, List.getElem?_eq_getElem (by rw [← hn2.out]; exact hlt)⟩
        obtain ⟨b, o, c', hv, _, hc0, hc1⟩ := (H.out.below hb).elem hx
        obtain ⟨rfl, hv2, rfl⟩ := Value.slice.inj hv
        obtain ⟨b2, o2, c2', hw, _, hd0, hd1⟩ := (H2.out.below hb).elem hy
        obtain ⟨rfl, hw2, rfl⟩ := Value.slice.inj hw
        clear hv hv2 hw hw2
        have HX := Lib.hid hx
        have HY := Lib.hid hy
        have HB := Lib.hid hb
        clear hb hx hy
        obtain ⟨x1, x2⟩ := x
        obtain ⟨y1, y2⟩ := y
        have hki : (k : Int) < (n : Int) := by omega
        have hne := run_neq_V x1 y1 x2 y2
        have hgu := run_guard_V
        cases hq : (x1 == y1 && x2 == y2) with
        | true =>
          rw [hq] at hne
          have HE : Hid (eqFrom l m k = eqFrom l m (k + 1)) := Lib.hid (eqFrom_same HX.out (by rw [HY.out]; simp at hq; rw [hq.1, hq.2]))
          clear hq
          go_wp2_with fail
          go_quiet (fail)
          go_wp2
          go_roundw
          case rel => exact ⟨k + 1, by omega, by go_num, Below.drewN HB.out _, by rw [hi.out]; exact HE.out⟩
          case measure => simp [intOf]; omega
        | false =>
          rw [hq] at hne
          have HE : Hid (eqFrom l m k = false) := Lib.hid (eqFrom_other HX.out HY.out (by intro e; cases e; simp at hq))
          clear hq
          go_wp2_with fail
          go_quiet (fail)
          go_wp2
          go_ret
          refine ⟨?_, Below.drewN HB.out _⟩
          rw [hi.out, HE.out]
          rfl
      · obtain rfl : k = n := by omega
        go_wp2
        go_ret
        refine ⟨?_, hb⟩
        rw [hi.out, HG.out]
        rfl
  · rw [eq_lens (by rw [← hn.out, ← hn2.out]; exact he)]
    have he' : ((n : Int) == (n2 : Int)) = false := by rw [beq_eq_false_iff_ne]; omega
    go_enter Try.func36, Try.ntmps36
    go_wp2
    go_ret
    exact ⟨rfl, Below.refl _ _⟩

def obs (L : List Lob) : List Ob := L.map Lob.ob
theorem obs_at {L : List Lob} {k : Nat} {x : Lob} (h : L[k]? = some x) : (obs L)[k]? = some x.ob := by unfold obs; rw [List.getElem?_map, h]; rfl
theorem obs_len (L : List Lob) : (obs L).length = L.length := by simp [obs]

def sameO (x y : Lob) : Bool := x.id == y.id && decide (x.vals = y.vals)
theorem sameO_iff (x y : Lob) : sameO x y = true ↔ x.ob = y.ob := by unfold sameO Lob.ob; simp
theorem sameO_false {x y : Lob} (h : sameO x y = false) : x.ob ≠ y.ob := by
  intro e
  rw [(sameO_iff x y).2 e] at h
  cases h

set_option maxHeartbeats 1000000 in
set_option maxRecDepth 100000 in
theorem sameObject_any (x y : Lob) (w : World) (hv : VsAt w x.fv x.vals) (hu : VsAt w y.fv y.vals) (hl : x.vals.length ≤ 1000000000) (hm : y.vals.length ≤ 1000000000) :
    Calls Try.prog 32 #[ov x, ov y] w (RetB w (sameO x y)) := by
  obtain ⟨i, v, l⟩ := x
  obtain ⟨j, u, m⟩ := y
  simp only [ov] at *
  obtain ⟨a, n, c, rfl, hn⟩ := hv.shape
  obtain ⟨a2, n2, c2, rfl, hn2⟩ := hu.shape
  have H := Lib.hid hv
  have H2 := Lib.hid hu
  clear hv hu
  cases hij : (i == j) with
  | true =>
    have HD : Hid (sameO ⟨i, .slice a n c, l⟩ ⟨j, .slice a2 n2 c2, m⟩ = decide (l = m)) := Lib.hid (by
      unfold sameO
      simp only [hij, Bool.true_and])
    go_enter Try.func32, Try.ntmps32
    go_wp2_with fail
    refine (equalV_any _ _ l m _ (H.out.below (Below.new (below1 _ _) _)) (H2.out.below (Below.new (below1 _ _) _)) hl hm).mono ?_
    rintro e w1 ⟨rfl, hb⟩
    have HB := Lib.hid (Below.then_ (Below.new (below1 w _) _) hb)
    clear hb
    go_wp2
    go_ret
    refine ⟨?_, HB.out⟩
    rw [HD.out]
    rfl
  | false =>
    have HD : Hid (sameO ⟨i, .slice a n c, l⟩ ⟨j, .slice a2 n2 c2, m⟩ = false) := Lib.hid (by
      unfold sameO
      simp only [hij, Bool.false_and])
    go_enter Try.func32, Try.ntmps32
    go_wp2
    go_ret
    refine ⟨?_, Below.new (below1 _ _) _⟩
    rw [HD.out]
    rfl

set_option maxHeartbeats 1000000 in
set_option maxRecDepth 100000 in
theorem equalF_any (v u : Value) (L M : List Lob) (w : World) (hv : OsAt w v L) (hu : OsAt w u M) (hl : L.length ≤ 1000000000) (hm : M.length ≤ 1000000000) (hL : ∀ x ∈ L, x.vals.length ≤ 1000000000) (hM : ∀ x ∈ M, x.vals.length ≤ 1000000000) :
    Calls Try.prog 31 #[v, u, .func (.func 32) #[] #[]] w (RetB w (decide (obs L = obs M))) := by
  obtain ⟨a, n, c, rfl, hn⟩ := hv.shape
  obtain ⟨a2, n2, c2, rfl, hn2⟩ := hu.shape
  have H := Lib.hid hv
  have H2 := Lib.hid hu
  rw [← hn.out] at hl
  rw [← hn2.out] at hm
  have HL := Lib.hid hL
  have HM := Lib.hid hM
  clear hv hu hL hM
  by_cases he : n = n2
  · subst he
    rw [← eqFrom_zero]
    have HG : Hid (eqFrom (obs L) (obs M) n = true) := Lib.hid (eqFrom_end _ _ n (by rw [obs_len, ← hn.out]; exact Nat.le_refl _) (by rw [obs_len, ← hn2.out]; exact Nat.le_refl _))
    generalize hg : eqFrom (obs L) (obs M) 0 = g
    have HG0 := Lib.hid hg
    clear hg
    go_enter Try.func31, Try.ntmps31
    go_wp2
    go_loopw [7, 8, 9, 17] (fun _ _ _ i wr => ∃ k : Nat, k ≤ n ∧ i = .int .i64 k ∧ Below w.heap.size w wr ∧ Hid (g = eqFrom (obs L) (obs M) k)) (fun _ _ _ i _ => n - (intOf i).toNat)
    case atStart => exact ⟨0, Nat.zero_le _, rfl, Below.refl _ _, HG0.out.symm⟩
    case round =>
      obtain ⟨k, hk, rfl, hb, hi⟩ := hrel
      by_cases hlt : k < n
      · obtain ⟨x, hx⟩ : ∃ x, L[k]? = some x := ⟨_, List.getElem?_eq_getElem (by rw [← hn.out]; exact hlt)⟩
        obtain ⟨y, hy⟩ : ∃ x, M[k]? = some x := ⟨_, List.getElem?_eq_getElem (by rw [← hn2.out]; exact hlt)⟩
        obtain ⟨b, o, c', hv, hbl, hc0, hc1⟩ := (H.out.below hb).elem hx
        obtain ⟨rfl, hv2, rfl⟩ := Value.slice.inj hv
        obtain ⟨b2, o2, c2', hw, hbl2, hd0, hd1⟩ := (H2.out.below hb).elem hy
        obtain ⟨rfl, hw2, rfl⟩ := Value.slice.inj hw
        clear hv hv2 hw hw2
        have HX := Lib.hid hx
        have HY := Lib.hid hy
        have HB := Lib.hid hb
        have HS := sameObject_any x y
        obtain ⟨i, xv, l⟩ := x
        obtain ⟨j, yv, m⟩ := y
        have hxv := (H.out.below hb).2 _ (List.mem_of_getElem? hx)
        have hyv := (H2.out.below hb).2 _ (List.mem_of_getElem? hy)
        have hxl := HL.out _ (List.mem_of_getElem? hx)
        have hyl := HM.out _ (List.mem_of_getElem? hy)
        simp only [ov] at *
        obtain ⟨fa, fn, fc, rfl, _⟩ := hxv.shape
        obtain ⟨ga, gn, gc, rfl, _⟩ := hyv.shape
        have HXV := Lib.hid hxv
        have HYV := Lib.hid hyv
        have HS' := Lib.hid HS
        clear hb hx hy hxv hyv HS
        have hki : (k : Int) < (n : Int) := by omega
        have HQ : Hid (sameO ⟨i, .slice fa fn fc, l⟩ ⟨j, .slice ga gn gc, m⟩ = true → eqFrom (obs L) (obs M) k = eqFrom (obs L) (obs M) (k + 1)) := Lib.hid (fun h => eqFrom_same (obs_at HX.out) (by rw [obs_at HY.out, (sameO_iff _ _).1 h]))
        have HN : Hid (sameO ⟨i, .slice fa fn fc, l⟩ ⟨j, .slice ga gn gc, m⟩ = false → eqFrom (obs L) (obs M) k = false) := Lib.hid (fun h => eqFrom_other (obs_at HX.out) (obs_at HY.out) (sameO_false h))
        generalize sameO ⟨i, .slice fa fn fc, l⟩ ⟨j, .slice ga gn gc, m⟩ = q at *
        go_wp2_with fail
        refine (HS'.out _ (HXV.out.below (Below.new (below1 _ _) _)) (HYV.out.below (Below.new (below1 _ _) _)) hxl hyl).mono ?_
        rintro e w1 ⟨rfl, hb⟩
        have HB2 := Lib.hid (Below.then_ (Below.new (Below.new HB.out _) _) hb)
        clear hb
        cases hq : q with
        | true =>
          have HE := Lib.hid (HQ.out hq)
          clear HQ HN hq
          go_wp2
          go_roundw
          case rel => exact ⟨k + 1, by omega, by go_num, HB2.out, by rw [hi.out]; exact HE.out⟩
          case measure => simp [intOf]; omega
        | false =>
          have HE := Lib.hid (HN.out hq)
          clear HQ HN hq
          go_wp2
          go_ret
          refine ⟨?_, HB2.out⟩
          rw [hi.out, HE.out]
          rfl
      · obtain rfl : k = n := by omega
        go_wp2
        go_ret
        refine ⟨?_, hb⟩
        rw [hi.out, HG.out]
        rfl
  · rw [eq_lens (by rw [obs_len, obs_len, ← hn.out, ← hn2.out]; exact he)]
    have he' : ((n : Int) == (n2 : Int)) = false := by rw [beq_eq_false_iff_ne]; omega
    go_enter Try.func31, Try.ntmps31
    go_wp2
    go_ret
    exact ⟨rfl, Below.refl _ _⟩

def sameL (L M : List Lob) : Bool := decide (obs L = obs M)
def Short (L : List Lob) : Prop := L.length ≤ 1000000000 ∧ ∀ x ∈ L, x.vals.length ≤ 1000000000
set_option maxHeartbeats 1000000 in
set_option maxRecDepth 100000 in
theorem same_any (v u : Value) (L M : List Lob) (w : World) (hv : OsAt w v L) (hu : OsAt w u M) (hL : Short L) (hM : Short M) :
    Calls Try.prog 21 #[.agg #[v], .agg #[u]] w (RetB w (sameL L M)) := by
  obtain ⟨a, n, c, rfl, hn⟩ := hv.shape
  obtain ⟨a2, n2, c2, rfl, hn2⟩ := hu.shape
  have H := Lib.hid hv
  have H2 := Lib.hid hu
  have HL := Lib.hid hL
  have HM := Lib.hid hM
  clear hv hu hL hM
  go_enter Try.func21, Try.ntmps21
  go_wp2_with fail
  refine (equalF_any _ _ L M _ (H.out.below (Below.new (below1 _ _) _)) (H2.out.below (Below.new (below1 _ _) _)) HL.out.1 HM.out.1 HL.out.2 HM.out.2).mono ?_
  rintro e w1 ⟨rfl, hb⟩
  have HB := Lib.hid (Below.then_ (Below.new (below1 w _) _) hb)
  clear hb
  go_wp2
  go_ret
  exact ⟨rfl, HB.out⟩
end Go.Proofs.Ytngjedfoogmbjaa
