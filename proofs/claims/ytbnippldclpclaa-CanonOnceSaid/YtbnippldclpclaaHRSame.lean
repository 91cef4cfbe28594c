/- SameObject, SameObjects, Same of the reference. -/
import Derived.Test.YtbnippldclpclaaHVal
namespace Go.Proofs.Ytbnippldclpclaa
open Go.RowKit

set_option maxHeartbeats 1000000 in
set_option maxRecDepth 100000 in
theorem rsameObject_any (x y : Lob) (w : World) (hv : VsAt w x.fv x.vals) (hu : VsAt w y.fv y.vals) (hl : x.vals.length ≤ 1000000000) (hm : y.vals.length ≤ 1000000000) :
    Calls Try.prog 26 #[ov x, ov y] w (RetB w (sameO x y)) := by
  obtain ⟨i, v, l⟩ := x
  obtain ⟨j, u, m⟩ := y
  simp only [ov] at *
  obtain ⟨a, n, c, rfl, hn⟩ := hv.shape
  obtain ⟨a2, n2, c2, rfl, hn2⟩ := hu.shape
  have H := Lib.hid hv
  have H2 := Lib.hid hu
  rw [← hn.out] at hl
  rw [← hn2.out] at hm
  clear hv hu
  generalize hq : sameO _ _ = q
  have HQ := Lib.hid hq
  clear hq
  obtain ⟨W, hW, hB, hP, hR⟩ := two_new w (.int .i64 i) (.slice a n c) (.int .i64 j) (.slice a2 n2 c2) 43 43
  have HW := Lib.hid hW
  have HB := Lib.hid hB
  have HR := Lib.hid hR
  have HP := Lib.hid hP
  clear hW hB hR hP
  by_cases hij : i = j
  · subst hij
    by_cases he : n = n2
    · subst he
      have HD : Hid (q = eqFrom l m 0) := Lib.hid (by rw [← HQ.out, eqFrom_zero]; unfold sameO; simp)
      have HG : Hid (eqFrom l m n = true) := Lib.hid (eqFrom_end l m n (by rw [← hn.out]; exact Nat.le_refl _) (by rw [← hn2.out]; exact Nat.le_refl _))
      clear HQ
      go_enter Try.func26, Try.ntmps26
      go_wp2
      rw [HW.out]
      go_loopw [5, 23] (fun _ k_ wr => ∃ k : Nat, k ≤ n ∧ k_ = .int .i64 k ∧ Below w.heap.size w wr ∧ At2 wr w.heap.size (.int .i64 i) (.slice a n c) ∧ At2 wr (w.heap.size + 1) (.int .i64 i) (.slice a2 n c2) ∧ Hid (q = eqFrom l m k)) (fun _ k_ _ => n - (intOf k_).toNat)
      case atStart => exact ⟨0, Nat.zero_le _, rfl, HB.out, HP.out, HR.out, HD.out⟩
      case round =>
        obtain ⟨k, hk, rfl, hb, hp, hr, hi⟩ := hrel
        by_cases hlt : k < n
        · obtain ⟨x, hx⟩ : ∃ x, l[k]? = some x := ⟨_, List.getElem?_eq_getElem (by rw [← hn.out]; exact hlt)⟩
          obtain ⟨y, hy⟩ : ∃ x, m[k]? = some x := ⟨_, List.getElem?_eq_getElem (by rw [← hn2.out]; exact hlt)⟩
          obtain ⟨b, o, c', hv, _, hc0, hc1⟩ := (H.out.below hb).elem hx
          obtain ⟨rfl, hv2, rfl⟩ := Value.slice.inj hv
          obtain ⟨b2, o2, c2', hw, _, hd0, hd1⟩ := (H2.out.below hb).elem hy
          obtain ⟨rfl, hw2, rfl⟩ := Value.slice.inj hw
          clear hv hv2 hw hw2
          have HX := Lib.hid hx
          have HY := Lib.hid hy
          have HB := Lib.hid hb
          have hp1 := hp.c1
          have hr1 := hr.c1
          have HP := Lib.hid hp
          have HR := Lib.hid hr
          clear hb hx hy hp hr
          obtain ⟨x1, x2⟩ := x
          obtain ⟨y1, y2⟩ := y
          have hki : (k : Int) < (n : Int) := by omega
          have hne := run_neq_V x1 y1 x2 y2
          have hgu := run_guard_V
          cases hq : (x1 == y1 && x2 == y2) with
          | true =>
            rw [hq] at hne
            have HE : Hid (eqFrom l m k = eqFrom l m (k + 1)) := Lib.hid (eqFrom_same HX.out (by rw [HY.out]; simp at hq; rw [hq.1, hq.2]))
            clear hq
            go_wp2_with fail
            go_quiet (fail)
            go_wp2
            go_roundw
            case rel => exact ⟨k + 1, by omega, by go_num, Below.drewN HB.out _, ⟨HP.out.c0, HP.out.c1, HP.out.f0, HP.out.f1, HP.out.lt⟩, ⟨HR.out.c0, HR.out.c1, HR.out.f0, HR.out.f1, HR.out.lt⟩, by rw [hi.out]; exact HE.out⟩
            case measure => simp [intOf]; omega
          | false =>
            rw [hq] at hne
            have HE : Hid (eqFrom l m k = false) := Lib.hid (eqFrom_other HX.out HY.out (by intro e; cases e; simp at hq))
            clear hq
            go_wp2_with fail
            go_quiet (fail)
            go_wp2
            go_ret
            refine ⟨?_, Below.drewN HB.out _⟩
            rw [hi.out, HE.out]
            rfl
        · obtain rfl : k = n := by omega
          go_wp2
          go_ret
          refine ⟨?_, hb⟩
          rw [hi.out, HG.out]
          rfl
    · have HD : Hid (q = false) := Lib.hid (by
        rw [← HQ.out]
        unfold sameO
        rw [eq_lens (by rw [← hn.out, ← hn2.out]; exact he), Bool.and_false])
      have he' : ((n : Int) == (n2 : Int)) = false := by rw [beq_eq_false_iff_ne]; omega
      clear HQ
      go_enter Try.func26, Try.ntmps26
      go_wp2
      go_ret
      refine ⟨?_, Below.new (below1 _ _) _⟩
      rw [HD.out]
      rfl
  · have hij' : (i == j) = false := by rw [beq_eq_false_iff_ne]; exact hij
    have HD : Hid (q = false) := Lib.hid (by rw [← HQ.out]; unfold sameO; simp only [hij', Bool.false_and])
    clear HQ hij
    go_enter Try.func26, Try.ntmps26
    go_wp2
    go_ret
    refine ⟨?_, Below.new (below1 _ _) _⟩
    rw [HD.out]
    rfl

set_option maxHeartbeats 1000000 in
set_option maxRecDepth 100000 in
theorem rsameObjects_any (v u : Value) (L M : List Lob) (w : World) (hv : OsAt w v L) (hu : OsAt w u M) (hL : Short L) (hM : Short M) :
    Calls Try.prog 21 #[v, u] w (RetB w (sameL L M)) := by
  obtain ⟨a, n, c, rfl, hn⟩ := hv.shape
  obtain ⟨a2, n2, c2, rfl, hn2⟩ := hu.shape
  have H := Lib.hid hv
  have H2 := Lib.hid hu
  have hl := hL.1
  have hm := hM.1
  rw [← hn.out] at hl
  rw [← hn2.out] at hm
  have HL := Lib.hid hL.2
  have HM := Lib.hid hM.2
  clear hv hu hL hM
  unfold sameL
  by_cases he : n = n2
  · subst he
    rw [← eqFrom_zero]
    have HG : Hid (eqFrom (obs L) (obs M) n = true) := Lib.hid (eqFrom_end _ _ n (by rw [obs_len, ← hn.out]; exact Nat.le_refl _) (by rw [obs_len, ← hn2.out]; exact Nat.le_refl _))
    generalize hg : eqFrom (obs L) (obs M) 0 = g
    have HG0 := Lib.hid hg
    clear hg
    go_enter Try.func21, Try.ntmps21
    go_wp2
    go_loopw [5, 13] (fun _ i wr => ∃ k : Nat, k ≤ n ∧ i = .int .i64 k ∧ Below w.heap.size w wr ∧ Hid (g = eqFrom (obs L) (obs M) k)) (fun _ i _ => n - (intOf i).toNat)
    case atStart => exact ⟨0, Nat.zero_le _, rfl, Below.refl _ _, HG0.out.symm⟩
    case round =>
      obtain ⟨k, hk, rfl, hb, hi⟩ := hrel
      by_cases hlt : k < n
      · obtain ⟨x, hx⟩ : ∃ x, L[k]? = some x := ⟨_, List.getElem?_eq_getElem (by rw [← hn.out]; exact hlt)⟩
        obtain ⟨y, hy⟩ : ∃ x, M[k]? = some x := ⟨_, List.getElem?_eq_getElem (by rw [← hn2.out]; exact hlt)⟩
        obtain ⟨b, o, c', hv, hbl, hc0, hc1⟩ := (H.out.below hb).elem hx
        obtain ⟨rfl, hv2, rfl⟩ := Value.slice.inj hv
        obtain ⟨b2, o2, c2', hw, hbl2, hd0, hd1⟩ := (H2.out.below hb).elem hy
        obtain ⟨rfl, hw2, rfl⟩ := Value.slice.inj hw
        clear hv hv2 hw hw2
        have HX := Lib.hid hx
        have HY := Lib.hid hy
        have HB := Lib.hid hb
        have HS := rsameObject_any x y
        obtain ⟨i, xv, l⟩ := x
        obtain ⟨j, yv, m⟩ := y
        have hxv := (H.out.below hb).2 _ (List.mem_of_getElem? hx)
        have hyv := (H2.out.below hb).2 _ (List.mem_of_getElem? hy)
        have hxl := HL.out _ (List.mem_of_getElem? hx)
        have hyl := HM.out _ (List.mem_of_getElem? hy)
        simp only [ov] at *
        obtain ⟨fa, fn, fc, rfl, _⟩ := hxv.shape
        obtain ⟨ga, gn, gc, rfl, _⟩ := hyv.shape
        have HXV := Lib.hid hxv.drew
        have HYV := Lib.hid hyv.drew
        have HS' := Lib.hid HS
        clear hb hx hy hxv hyv HS
        have hki : (k : Int) < (n : Int) := by omega
        have HQ : Hid (sameO ⟨i, .slice fa fn fc, l⟩ ⟨j, .slice ga gn gc, m⟩ = true → eqFrom (obs L) (obs M) k = eqFrom (obs L) (obs M) (k + 1)) := Lib.hid (fun h => eqFrom_same (obs_at HX.out) (by rw [obs_at HY.out, (sameO_iff _ _).1 h]))
        have HN : Hid (sameO ⟨i, .slice fa fn fc, l⟩ ⟨j, .slice ga gn gc, m⟩ = false → eqFrom (obs L) (obs M) k = false) := Lib.hid (fun h => eqFrom_other (obs_at HX.out) (obs_at HY.out) (sameO_false h))
        generalize sameO ⟨i, .slice fa fn fc, l⟩ ⟨j, .slice ga gn gc, m⟩ = q at *
        go_wp2_with fail
        go_region_held3 (fun wx => wx.cell? ⟨b, o + k * 2, none⟩ = some (.int .i64 i) ∧ wx.cell? ⟨b, o + k * 2 + 1, none⟩ = some (.slice fa fn fc) ∧ wx.cell? ⟨b2, o2 + k * 2, none⟩ = some (.int .i64 j) ∧ wx.cell? ⟨b2, o2 + k * 2 + 1, none⟩ = some (.slice ga gn gc)) (first | exact ⟨hc0, hc1, hd0, hd1⟩ | exact ⟨e0, e1, e2, e3⟩) (first | (go_at_call 26; refine (HS'.out _ HXV.out HYV.out hxl hyl).mono ?_; rintro e w1 ⟨rfl, hb⟩; have HB2 := Lib.hid (Below.then_ HB.out.drew hb); have e0 := (hb.cell (p := ⟨b, o + k * 2, none⟩) hbl).trans hc0; have e1 := (hb.cell (p := ⟨b, o + k * 2 + 1, none⟩) hbl).trans hc1; have e2 := (hb.cell (p := ⟨b2, o2 + k * 2, none⟩) hbl2).trans hd0; have e3 := (hb.cell (p := ⟨b2, o2 + k * 2 + 1, none⟩) hbl2).trans hd1; clear hb))
        cases hq : q with
        | true =>
          have HE := Lib.hid (HQ.out hq)
          clear HQ HN hq
          go_wp2
          go_roundw
          case rel => exact ⟨k + 1, by omega, by go_num, HB2.out, by rw [hi.out]; exact HE.out⟩
          case measure => simp [intOf]; omega
        | false =>
          have HE := Lib.hid (HN.out hq)
          clear HQ HN hq
          go_wp2
          go_ret
          refine ⟨?_, HB2.out⟩
          rw [hi.out, HE.out]
          rfl
      · obtain rfl : k = n := by omega
        go_wp2
        go_ret
        refine ⟨?_, hb⟩
        rw [hi.out, HG.out]
        rfl
  · rw [eq_lens (by rw [obs_len, obs_len, ← hn.out, ← hn2.out]; exact he)]
    have he' : ((n : Int) == (n2 : Int)) = false := by rw [beq_eq_false_iff_ne]; omega
    go_enter Try.func21, Try.ntmps21
    go_wp2
    go_ret
    exact ⟨rfl, Below.refl _ _⟩

set_option maxHeartbeats 1000000 in
set_option maxRecDepth 100000 in
theorem rsame_any (v u : Value) (L M : List Lob) (w : World) (hv : OsAt w v L) (hu : OsAt w u M) (hL : Short L) (hM : Short M) :
    Calls Try.prog 11 #[.agg #[v], .agg #[u]] w (RetB w (sameL L M)) := by
  obtain ⟨a, n, c, rfl, hn⟩ := hv.shape
  obtain ⟨a2, n2, c2, rfl, hn2⟩ := hu.shape
  have H := Lib.hid hv
  have H2 := Lib.hid hu
  have HL := Lib.hid hL
  have HM := Lib.hid hM
  clear hv hu hL hM
  go_enter Try.func11, Try.ntmps11
  go_wp2_with fail
  refine (rsameObjects_any _ _ L M _ (H.out.below (Below.new (below1 _ _) _)) (H2.out.below (Below.new (below1 _ _) _)) HL.out HM.out).mono ?_
  rintro e w1 ⟨rfl, hb⟩
  have HB := Lib.hid (Below.then_ (Below.new (below1 w _) _) hb)
  clear hb
  go_wp2
  go_ret
  exact ⟨rfl, HB.out⟩
end Go.Proofs.Ytbnippldclpclaa
