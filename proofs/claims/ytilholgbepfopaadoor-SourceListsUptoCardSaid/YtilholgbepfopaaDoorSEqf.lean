/- Same (of the code): slices.Equal, slices.EqualFunc for any function value. -/
import Derived.Test.YtilholgbepfopaaDoorSLim2
import Derived.Test.YtilholgbepfopaaDoorTBox
namespace Go.Proofs.YtilholgbepfopaaDoor
open Go.RowKit

set_option maxHeartbeats 1000000 in
set_option maxRecDepth 100000 in
theorem slEqual_any (v u : Value) (l m : List ByteArray) (w : World) (hv : NmsAt w v l) (hu : NmsAt w u m) (hl : l.length ≤ 1000000000) :
    Calls Tryd.prog 67 #[v, u] w (RetB w (decide (l = m))) := by
  obtain ⟨a, c, rfl⟩ := hv.shape
  obtain ⟨a2, c2, rfl⟩ := hu.shape
  have H := Lib.hid hv
  have H2 := Lib.hid hu
  clear hv hu
  by_cases he : l.length = m.length
  · have hd : decide (l = m) = eqFrom l m 0 := by rw [eqFrom_zero]
    generalize decide (l = m) = q at *
    have HD := Lib.hid hd
    clear hd
    obtain ⟨n, hn⟩ : ∃ n, n = l.length := ⟨_, rfl⟩
    have HN := Lib.hid hn
    have HM : Hid (n = m.length) := Lib.hid (by rw [hn]; exact he)
    rw [← he, ← hn] at H2 ⊢
    rw [← hn] at H hl
    have HG : Hid (eqFrom l m n = true) := Lib.hid (eqFrom_end l m n (Nat.le_of_eq HN.out.symm) (Nat.le_of_eq HM.out.symm))
    clear he hn
    go_enter Tryd.func67, Tryd.ntmps67
    go_wp2
    go_loopw [5, 13] (fun _ k_ wr => ∃ k : Nat, k ≤ n ∧ k_ = .int .i64 k ∧ Below w.heap.size w wr ∧ Hid (q = eqFrom l m k)) (fun _ k_ _ => n - (intOf k_).toNat)
    case atStart => exact ⟨0, Nat.zero_le _, rfl, Below.refl _ _, HD.out⟩
    case round =>
      obtain ⟨k, hk, rfl, hb, hi⟩ := hrel
      by_cases hlt : k < n
      · obtain ⟨x, hx⟩ : ∃ x, l[k]? = some x := ⟨_, List.getElem?_eq_getElem (by rw [← HN.out]; exact hlt)⟩
        obtain ⟨y, hy⟩ : ∃ x, m[k]? = some x := ⟨_, List.getElem?_eq_getElem (by rw [← HM.out]; exact hlt)⟩
        obtain ⟨b, o, c', hv, _, hc0⟩ := (H.out.below hb).elem hx
        obtain ⟨rfl, -, rfl⟩ := Value.slice.inj hv
        obtain ⟨b2, o2, c2', hw, _, hd0⟩ := (H2.out.below hb).elem hy
        obtain ⟨rfl, -, rfl⟩ := Value.slice.inj hw
        clear hv hw
        have HX := Lib.hid hx
        have HY := Lib.hid hy
        have HB := Lib.hid hb
        clear hb hx hy
        have hki : (k : Int) < (n : Int) := by omega
        by_cases hq : x = y
        · have HE : Hid (eqFrom l m k = eqFrom l m (k + 1)) := Lib.hid (eqFrom_same HX.out (by rw [hq]; exact HY.out))
          have hs := tstr_eq hq
          clear hq
          go_wp2_with fail
          go_quiet (fail)
          go_wp2
          go_roundw
          case rel => exact ⟨k + 1, by omega, by go_num, Below.drewN HB.out _, by rw [hi.out]; exact HE.out⟩
          case measure => simp [intOf]; omega
        · have HE : Hid (eqFrom l m k = false) := Lib.hid (eqFrom_other HX.out HY.out hq)
          have hs := tstr_ne hq
          clear hq
          go_wp2_with fail
          go_quiet (fail)
          go_wp2
          go_ret
          exact ⟨by rw [hi.out, HE.out]; rfl, Below.drewN HB.out _⟩
      · obtain rfl : k = n := by omega
        go_wp2
        go_ret
        exact ⟨by rw [hi.out, HG.out]; rfl, hb⟩
  · have he' : ((l.length : Int) == (m.length : Int)) = false := by rw [beq_eq_false_iff_ne]; omega
    rw [eq_lens he]
    go_enter Tryd.func67, Tryd.ntmps67
    go_wp2
    go_ret
    exact ⟨rfl, Below.refl _ _⟩

set_option maxHeartbeats 4000000 in
set_option maxRecDepth 100000 in
theorem eqfE_any (N : FuncId) (caps : Array Value) (w0 : World) (A B : List Ex) (hN : ∀ args w, (callFunc N args).run Tryd.prog w = .ok (.enter N args) w)
    (hg : ∀ x ∈ A, ∀ (y : Ex) (u v : Value) (w : World), Below w0.heap.size w0 w → ExsAt w u x.l → ExsAt w v y.l → Calls Tryd.prog N (#[exV x u, exV y v] ++ caps) w (RetB w (decide (x = y))))
    (va vb : Value) (w : World) (hl : A.length ≤ 1000000000) (hva : ExsAt w0 va A) (hvb : ExsAt w0 vb B) (hb0 : Below w0.heap.size w0 w) :
    Calls Tryd.prog 87 #[va, vb, .func (.func N) #[] caps] w (RetB w (decide (A = B))) := by
  obtain ⟨a, c, rfl⟩ := hva.shape
  obtain ⟨a2, c2, rfl⟩ := hvb.shape
  have H := Lib.hid hva
  have H2 := Lib.hid hvb
  have B0 := Lib.hid hb0
  have HG := Lib.hid hg
  clear hva hvb hb0 hg
  by_cases he : A.length = B.length
  · have hd : decide (A = B) = eqFrom A B 0 := by rw [eqFrom_zero]
    generalize decide (A = B) = q at *
    have HD := Lib.hid hd
    clear hd
    obtain ⟨n, hn⟩ : ∃ n, n = A.length := ⟨_, rfl⟩
    have HN := Lib.hid hn
    have HM : Hid (n = B.length) := Lib.hid (by rw [hn]; exact he)
    rw [← he, ← hn] at H2 ⊢
    rw [← hn] at H hl
    have HE0 : Hid (eqFrom A B n = true) := Lib.hid (eqFrom_end A B n (Nat.le_of_eq HN.out.symm) (Nat.le_of_eq HM.out.symm))
    clear he hn
    go_enter Tryd.func87, Tryd.ntmps87
    go_wp2_with fail
    go_loopw [7, 17] (fun _ k_ wr => ∃ k : Nat, k ≤ n ∧ k_ = .int .i64 k ∧ Below w.heap.size w wr ∧ Hid (q = eqFrom A B k)) (fun _ k_ _ => n - (intOf k_).toNat)
    case atStart => exact ⟨0, Nat.zero_le _, rfl, Below.refl _ _, HD.out⟩
    case round =>
      obtain ⟨k, hk, rfl, hb, hi⟩ := hrel
      by_cases hlt : k < n
      · obtain ⟨x, hx⟩ : ∃ x, A[k]? = some x := ⟨_, List.getElem?_eq_getElem (by rw [← HN.out]; exact hlt)⟩
        obtain ⟨y, hy⟩ : ∃ x, B[k]? = some x := ⟨_, List.getElem?_eq_getElem (by rw [← HM.out]; exact hlt)⟩
        have hb0 : Below w0.heap.size w0 wr := B0.out.then_' hb
        obtain ⟨b, o, c', u, hv, hbl, f0, f1, f2, f3, f4, hu⟩ := H.out.elem hx
        obtain ⟨rfl, -, rfl⟩ := Value.slice.inj hv
        obtain ⟨b2, o2, c2', v, hw, hbl2, g0, g1, g2, g3, g4, hv2⟩ := H2.out.elem hy
        obtain ⟨rfl, -, rfl⟩ := Value.slice.inj hw
        replace f0 := (hb0.cell (p := ⟨b, o + k * 5, none⟩) hbl).trans f0
        replace g0 := (hb0.cell (p := ⟨b2, o2 + k * 5, none⟩) hbl2).trans g0
        replace f1 := (hb0.cell (p := ⟨b, o + k * 5 + 1, none⟩) hbl).trans f1
        replace g1 := (hb0.cell (p := ⟨b2, o2 + k * 5 + 1, none⟩) hbl2).trans g1
        replace f2 := (hb0.cell (p := ⟨b, o + k * 5 + 2, none⟩) hbl).trans f2
        replace g2 := (hb0.cell (p := ⟨b2, o2 + k * 5 + 2, none⟩) hbl2).trans g2
        replace f3 := (hb0.cell (p := ⟨b, o + k * 5 + 3, none⟩) hbl).trans f3
        replace g3 := (hb0.cell (p := ⟨b2, o2 + k * 5 + 3, none⟩) hbl2).trans g3
        replace f4 := (hb0.cell (p := ⟨b, o + k * 5 + 4, none⟩) hbl).trans f4
        replace g4 := (hb0.cell (p := ⟨b2, o2 + k * 5 + 4, none⟩) hbl2).trans g4
        obtain ⟨ua, uc, rfl⟩ := hu.shape
        obtain ⟨ya, yc, rfl⟩ := hv2.shape
        have HU := Lib.hid hu
        have HV := Lib.hid hv2
        clear hu hv2
        have HX := Lib.hid hx
        have HY := Lib.hid hy
        have HB := Lib.hid hb
        have hki : (k : Int) < (n : Int) := by omega
        obtain ⟨W, hW, hBW, hP, hR⟩ := two_boxes wr [.int .i64 x.kind, .int .i64 x.n, .string x.name, .int .i64 x.op, .slice ua x.l.length uc] [.int .i64 y.kind, .int .i64 y.n, .string y.name, .int .i64 y.op, .slice ya y.l.length yc] 42
        have b1 := below1 wr (.cells ([.int .i64 x.kind, .int .i64 x.n, .string x.name, .int .i64 x.op, .slice ua x.l.length uc]).toArray 42)
        have l0 := (b1.cell (p := ⟨b2, o2 + k * 5, none⟩) (World.block_lt_of_cell? wr _ g0)).trans g0
        have l1 := (b1.cell (p := ⟨b2, o2 + k * 5 + 1, none⟩) (World.block_lt_of_cell? wr _ g1)).trans g1
        have l2 := (b1.cell (p := ⟨b2, o2 + k * 5 + 2, none⟩) (World.block_lt_of_cell? wr _ g2)).trans g2
        have l3 := (b1.cell (p := ⟨b2, o2 + k * 5 + 3, none⟩) (World.block_lt_of_cell? wr _ g3)).trans g3
        have l4 := (b1.cell (p := ⟨b2, o2 + k * 5 + 4, none⟩) (World.block_lt_of_cell? wr _ g4)).trans g4
        have p0 := hP.cell 0 _ rfl
        have r0 := hR.cell 0 _ rfl
        have p1 := hP.cell 1 _ rfl
        have r1 := hR.cell 1 _ rfl
        have p2 := hP.cell 2 _ rfl
        have r2 := hR.cell 2 _ rfl
        have p3 := hP.cell 3 _ rfl
        have r3 := hR.cell 3 _ rfl
        have p4 := hP.cell 4 _ rfl
        have r4 := hR.cell 4 _ rfl
        have HW := Lib.hid hW
        have BW := Lib.hid hBW
        have HB0 := Lib.hid (hb0.then_' hBW)
        clear hv hw hb hx hy hb0 hW hBW hP hR b1
        go_wp2_with fail
        rw [HW.out]
        refine (HG.out x (List.mem_of_getElem? HX.out) y _ _ W HB0.out (HU.out.below HB0.out) (HV.out.below HB0.out)).mono ?_
        rintro e w4 ⟨rfl, hb4⟩
        have B4 := Lib.hid (HB.out.then_' (BW.out.then_' hb4))
        clear hb4
        by_cases hq : x = y
        · have HE : Hid (eqFrom A B k = eqFrom A B (k + 1)) := Lib.hid (eqFrom_same HX.out (by rw [hq]; exact HY.out))
          rw [decide_eq_true hq]
          clear hq
          go_wp2_with fail
          go_roundw
          case rel => exact ⟨k + 1, by omega, by go_num, B4.out, by rw [hi.out]; exact HE.out⟩
          case measure => simp [intOf]; omega
        · have HE : Hid (eqFrom A B k = false) := Lib.hid (eqFrom_other HX.out HY.out hq)
          rw [decide_eq_false hq]
          clear hq
          go_wp2_with fail
          go_ret
          exact ⟨by rw [hi.out, HE.out]; rfl, B4.out⟩
      · obtain rfl : k = n := by omega
        go_wp2
        go_ret
        exact ⟨by rw [hi.out, HE0.out]; rfl, hb⟩
  · have he' : ((A.length : Int) == (B.length : Int)) = false := by rw [beq_eq_false_iff_ne]; omega
    rw [eq_lens he]
    go_enter Tryd.func87, Tryd.ntmps87
    go_wp2
    go_ret
    exact ⟨rfl, Below.refl _ _⟩

set_option maxHeartbeats 4000000 in
set_option maxRecDepth 100000 in
theorem eqfS_any (N : FuncId) (caps : Array Value) (w0 : World) (A B : List St) (hN : ∀ args w, (callFunc N args).run Tryd.prog w = .ok (.enter N args) w)
    (hg : ∀ x ∈ A, ∀ (y : St) (u1 u2 u3 v1 v2 v3 : Value) (w : World), Below w0.heap.size w0 w → ExsAt w u1 x.exprs → StsAt w u2 x.body → StsAt w u3 x.els → ExsAt w v1 y.exprs → StsAt w v2 y.body → StsAt w v3 y.els → Calls Tryd.prog N (#[stV x u1 u2 u3, stV y v1 v2 v3] ++ caps) w (RetB w (decide (x = y))))
    (va vb : Value) (w : World) (hl : A.length ≤ 1000000000) (hva : StsAt w0 va A) (hvb : StsAt w0 vb B) (hb0 : Below w0.heap.size w0 w) :
    Calls Tryd.prog 80 #[va, vb, .func (.func N) #[] caps] w (RetB w (decide (A = B))) := by
  obtain ⟨a, c, rfl⟩ := hva.shape
  obtain ⟨a2, c2, rfl⟩ := hvb.shape
  have H := Lib.hid hva
  have H2 := Lib.hid hvb
  have B0 := Lib.hid hb0
  have HG := Lib.hid hg
  clear hva hvb hb0 hg
  by_cases he : A.length = B.length
  · have hd : decide (A = B) = eqFrom A B 0 := by rw [eqFrom_zero]
    generalize decide (A = B) = q at *
    have HD := Lib.hid hd
    clear hd
    obtain ⟨n, hn⟩ : ∃ n, n = A.length := ⟨_, rfl⟩
    have HN := Lib.hid hn
    have HM : Hid (n = B.length) := Lib.hid (by rw [hn]; exact he)
    rw [← he, ← hn] at H2 ⊢
    rw [← hn] at H hl
    have HE0 : Hid (eqFrom A B n = true) := Lib.hid (eqFrom_end A B n (Nat.le_of_eq HN.out.symm) (Nat.le_of_eq HM.out.symm))
    clear he hn
    go_enter Tryd.func80, Tryd.ntmps80
    go_wp2_with fail
    go_loopw [7, 17] (fun _ k_ wr => ∃ k : Nat, k ≤ n ∧ k_ = .int .i64 k ∧ Below w.heap.size w wr ∧ Hid (q = eqFrom A B k)) (fun _ k_ _ => n - (intOf k_).toNat)
    case atStart => exact ⟨0, Nat.zero_le _, rfl, Below.refl _ _, HD.out⟩
    case round =>
      obtain ⟨k, hk, rfl, hb, hi⟩ := hrel
      by_cases hlt : k < n
      · obtain ⟨x, hx⟩ : ∃ x, A[k]? = some x := ⟨_, List.getElem?_eq_getElem (by rw [← HN.out]; exact hlt)⟩
        obtain ⟨y, hy⟩ : ∃ x, B[k]? = some x := ⟨_, List.getElem?_eq_getElem (by rw [← HM.out]; exact hlt)⟩
        have hb0 : Below w0.heap.size w0 wr := B0.out.then_' hb
        obtain ⟨b, o, c', u1, u2, u3, hv, hbl, f0, f1, f2, f3, f4, f5, f6, f7, hu1, hu2, hu3⟩ := H.out.elem hx
        obtain ⟨rfl, -, rfl⟩ := Value.slice.inj hv
        obtain ⟨b2, o2, c2', v1, v2, v3, hw, hbl2, g0, g1, g2, g3, g4, g5, g6, g7, hv1, hv2, hv3⟩ := H2.out.elem hy
        obtain ⟨rfl, -, rfl⟩ := Value.slice.inj hw
        replace f0 := (hb0.cell (p := ⟨b, o + k * 8, none⟩) hbl).trans f0
        replace g0 := (hb0.cell (p := ⟨b2, o2 + k * 8, none⟩) hbl2).trans g0
        replace f1 := (hb0.cell (p := ⟨b, o + k * 8 + 1, none⟩) hbl).trans f1
        replace g1 := (hb0.cell (p := ⟨b2, o2 + k * 8 + 1, none⟩) hbl2).trans g1
        replace f2 := (hb0.cell (p := ⟨b, o + k * 8 + 2, none⟩) hbl).trans f2
        replace g2 := (hb0.cell (p := ⟨b2, o2 + k * 8 + 2, none⟩) hbl2).trans g2
        replace f3 := (hb0.cell (p := ⟨b, o + k * 8 + 3, none⟩) hbl).trans f3
        replace g3 := (hb0.cell (p := ⟨b2, o2 + k * 8 + 3, none⟩) hbl2).trans g3
        replace f4 := (hb0.cell (p := ⟨b, o + k * 8 + 4, none⟩) hbl).trans f4
        replace g4 := (hb0.cell (p := ⟨b2, o2 + k * 8 + 4, none⟩) hbl2).trans g4
        replace f5 := (hb0.cell (p := ⟨b, o + k * 8 + 5, none⟩) hbl).trans f5
        replace g5 := (hb0.cell (p := ⟨b2, o2 + k * 8 + 5, none⟩) hbl2).trans g5
        replace f6 := (hb0.cell (p := ⟨b, o + k * 8 + 6, none⟩) hbl).trans f6
        replace g6 := (hb0.cell (p := ⟨b2, o2 + k * 8 + 6, none⟩) hbl2).trans g6
        replace f7 := (hb0.cell (p := ⟨b, o + k * 8 + 7, none⟩) hbl).trans f7
        replace g7 := (hb0.cell (p := ⟨b2, o2 + k * 8 + 7, none⟩) hbl2).trans g7
        obtain ⟨p1a, p1c, rfl⟩ := hu1.shape
        obtain ⟨q1a, q1c, rfl⟩ := hv1.shape
        have HU1 := Lib.hid hu1
        have HV1 := Lib.hid hv1
        clear hu1 hv1
        obtain ⟨p2a, p2c, rfl⟩ := hu2.shape
        obtain ⟨q2a, q2c, rfl⟩ := hv2.shape
        have HU2 := Lib.hid hu2
        have HV2 := Lib.hid hv2
        clear hu2 hv2
        obtain ⟨p3a, p3c, rfl⟩ := hu3.shape
        obtain ⟨q3a, q3c, rfl⟩ := hv3.shape
        have HU3 := Lib.hid hu3
        have HV3 := Lib.hid hv3
        clear hu3 hv3
        have HX := Lib.hid hx
        have HY := Lib.hid hy
        have HB := Lib.hid hb
        have hki : (k : Int) < (n : Int) := by omega
        obtain ⟨W, hW, hBW, hP, hR⟩ := two_boxes wr [.int .i64 x.kind, .string x.name, .string x.fn, .int .i64 x.n, .int .i64 x.op, .slice p1a x.exprs.length p1c, .slice p2a x.body.length p2c, .slice p3a x.els.length p3c] [.int .i64 y.kind, .string y.name, .string y.fn, .int .i64 y.n, .int .i64 y.op, .slice q1a y.exprs.length q1c, .slice q2a y.body.length q2c, .slice q3a y.els.length q3c] 40
        have b1 := below1 wr (.cells ([.int .i64 x.kind, .string x.name, .string x.fn, .int .i64 x.n, .int .i64 x.op, .slice p1a x.exprs.length p1c, .slice p2a x.body.length p2c, .slice p3a x.els.length p3c]).toArray 40)
        have l0 := (b1.cell (p := ⟨b2, o2 + k * 8, none⟩) (World.block_lt_of_cell? wr _ g0)).trans g0
        have l1 := (b1.cell (p := ⟨b2, o2 + k * 8 + 1, none⟩) (World.block_lt_of_cell? wr _ g1)).trans g1
        have l2 := (b1.cell (p := ⟨b2, o2 + k * 8 + 2, none⟩) (World.block_lt_of_cell? wr _ g2)).trans g2
        have l3 := (b1.cell (p := ⟨b2, o2 + k * 8 + 3, none⟩) (World.block_lt_of_cell? wr _ g3)).trans g3
        have l4 := (b1.cell (p := ⟨b2, o2 + k * 8 + 4, none⟩) (World.block_lt_of_cell? wr _ g4)).trans g4
        have l5 := (b1.cell (p := ⟨b2, o2 + k * 8 + 5, none⟩) (World.block_lt_of_cell? wr _ g5)).trans g5
        have l6 := (b1.cell (p := ⟨b2, o2 + k * 8 + 6, none⟩) (World.block_lt_of_cell? wr _ g6)).trans g6
        have l7 := (b1.cell (p := ⟨b2, o2 + k * 8 + 7, none⟩) (World.block_lt_of_cell? wr _ g7)).trans g7
        have p0 := hP.cell 0 _ rfl
        have r0 := hR.cell 0 _ rfl
        have p1 := hP.cell 1 _ rfl
        have r1 := hR.cell 1 _ rfl
        have p2 := hP.cell 2 _ rfl
        have r2 := hR.cell 2 _ rfl
        have p3 := hP.cell 3 _ rfl
        have r3 := hR.cell 3 _ rfl
        have p4 := hP.cell 4 _ rfl
        have r4 := hR.cell 4 _ rfl
        have p5 := hP.cell 5 _ rfl
        have r5 := hR.cell 5 _ rfl
        have p6 := hP.cell 6 _ rfl
        have r6 := hR.cell 6 _ rfl
        have p7 := hP.cell 7 _ rfl
        have r7 := hR.cell 7 _ rfl
        have HW := Lib.hid hW
        have BW := Lib.hid hBW
        have HB0 := Lib.hid (hb0.then_' hBW)
        clear hv hw hb hx hy hb0 hW hBW hP hR b1
        go_wp2_with fail
        rw [HW.out]
        refine (HG.out x (List.mem_of_getElem? HX.out) y _ _ _ _ _ _ W HB0.out (HU1.out.below HB0.out) (HU2.out.below HB0.out) (HU3.out.below HB0.out) (HV1.out.below HB0.out) (HV2.out.below HB0.out) (HV3.out.below HB0.out)).mono ?_
        rintro e w4 ⟨rfl, hb4⟩
        have B4 := Lib.hid (HB.out.then_' (BW.out.then_' hb4))
        clear hb4
        by_cases hq : x = y
        · have HE : Hid (eqFrom A B k = eqFrom A B (k + 1)) := Lib.hid (eqFrom_same HX.out (by rw [hq]; exact HY.out))
          rw [decide_eq_true hq]
          clear hq
          go_wp2_with fail
          go_roundw
          case rel => exact ⟨k + 1, by omega, by go_num, B4.out, by rw [hi.out]; exact HE.out⟩
          case measure => simp [intOf]; omega
        · have HE : Hid (eqFrom A B k = false) := Lib.hid (eqFrom_other HX.out HY.out hq)
          rw [decide_eq_false hq]
          clear hq
          go_wp2_with fail
          go_ret
          exact ⟨by rw [hi.out, HE.out]; rfl, B4.out⟩
      · obtain rfl : k = n := by omega
        go_wp2
        go_ret
        exact ⟨by rw [hi.out, HE0.out]; rfl, hb⟩
  · have he' : ((A.length : Int) == (B.length : Int)) = false := by rw [beq_eq_false_iff_ne]; omega
    rw [eq_lens he]
    go_enter Tryd.func80, Tryd.ntmps80
    go_wp2
    go_ret
    exact ⟨rfl, Below.refl _ _⟩

set_option maxHeartbeats 4000000 in
set_option maxRecDepth 100000 in
theorem eqfF_any (N : FuncId) (caps : Array Value) (w0 : World) (A B : List Fn) (hN : ∀ args w, (callFunc N args).run Tryd.prog w = .ok (.enter N args) w)
    (hg : ∀ x ∈ A, ∀ (y : Fn) (u1 u2 v1 v2 : Value) (w : World), Below w0.heap.size w0 w → NmsAt w u1 x.params → StsAt w u2 x.body → NmsAt w v1 y.params → StsAt w v2 y.body → Calls Tryd.prog N (#[.agg #[.string x.name, u1, u2], .agg #[.string y.name, v1, v2]] ++ caps) w (RetB w (decide (x = y))))
    (va vb : Value) (w : World) (hl : A.length ≤ 1000000000) (hva : FnsAt w0 va A) (hvb : FnsAt w0 vb B) (hb0 : Below w0.heap.size w0 w) :
    Calls Tryd.prog 45 #[va, vb, .func (.func N) #[] caps] w (RetB w (decide (A = B))) := by
  obtain ⟨a, c, rfl⟩ := hva.shape
  obtain ⟨a2, c2, rfl⟩ := hvb.shape
  have H := Lib.hid hva
  have H2 := Lib.hid hvb
  have B0 := Lib.hid hb0
  have HG := Lib.hid hg
  clear hva hvb hb0 hg
  by_cases he : A.length = B.length
  · have hd : decide (A = B) = eqFrom A B 0 := by rw [eqFrom_zero]
    generalize decide (A = B) = q at *
    have HD := Lib.hid hd
    clear hd
    obtain ⟨n, hn⟩ : ∃ n, n = A.length := ⟨_, rfl⟩
    have HN := Lib.hid hn
    have HM : Hid (n = B.length) := Lib.hid (by rw [hn]; exact he)
    rw [← he, ← hn] at H2 ⊢
    rw [← hn] at H hl
    have HE0 : Hid (eqFrom A B n = true) := Lib.hid (eqFrom_end A B n (Nat.le_of_eq HN.out.symm) (Nat.le_of_eq HM.out.symm))
    clear he hn
    go_enter Tryd.func45, Tryd.ntmps45
    go_wp2_with fail
    go_loopw [7, 17] (fun _ k_ wr => ∃ k : Nat, k ≤ n ∧ k_ = .int .i64 k ∧ Below w.heap.size w wr ∧ Hid (q = eqFrom A B k)) (fun _ k_ _ => n - (intOf k_).toNat)
    case atStart => exact ⟨0, Nat.zero_le _, rfl, Below.refl _ _, HD.out⟩
    case round =>
      obtain ⟨k, hk, rfl, hb, hi⟩ := hrel
      by_cases hlt : k < n
      · obtain ⟨x, hx⟩ : ∃ x, A[k]? = some x := ⟨_, List.getElem?_eq_getElem (by rw [← HN.out]; exact hlt)⟩
        obtain ⟨y, hy⟩ : ∃ x, B[k]? = some x := ⟨_, List.getElem?_eq_getElem (by rw [← HM.out]; exact hlt)⟩
        have hb0 : Below w0.heap.size w0 wr := B0.out.then_' hb
        obtain ⟨b, o, c', u1, u2, hv, hbl, f0, f1, f2, hu1, hu2⟩ := H.out.elem hx
        obtain ⟨rfl, -, rfl⟩ := Value.slice.inj hv
        obtain ⟨b2, o2, c2', v1, v2, hw, hbl2, g0, g1, g2, hv1, hv2⟩ := H2.out.elem hy
        obtain ⟨rfl, -, rfl⟩ := Value.slice.inj hw
        replace f0 := (hb0.cell (p := ⟨b, o + k * 3, none⟩) hbl).trans f0
        replace g0 := (hb0.cell (p := ⟨b2, o2 + k * 3, none⟩) hbl2).trans g0
        replace f1 := (hb0.cell (p := ⟨b, o + k * 3 + 1, none⟩) hbl).trans f1
        replace g1 := (hb0.cell (p := ⟨b2, o2 + k * 3 + 1, none⟩) hbl2).trans g1
        replace f2 := (hb0.cell (p := ⟨b, o + k * 3 + 2, none⟩) hbl).trans f2
        replace g2 := (hb0.cell (p := ⟨b2, o2 + k * 3 + 2, none⟩) hbl2).trans g2
        obtain ⟨p1a, p1c, rfl⟩ := hu1.shape
        obtain ⟨q1a, q1c, rfl⟩ := hv1.shape
        have HU1 := Lib.hid hu1
        have HV1 := Lib.hid hv1
        clear hu1 hv1
        obtain ⟨p2a, p2c, rfl⟩ := hu2.shape
        obtain ⟨q2a, q2c, rfl⟩ := hv2.shape
        have HU2 := Lib.hid hu2
        have HV2 := Lib.hid hv2
        clear hu2 hv2
        have HX := Lib.hid hx
        have HY := Lib.hid hy
        have HB := Lib.hid hb
        have hki : (k : Int) < (n : Int) := by omega
        obtain ⟨W, hW, hBW, hP, hR⟩ := two_boxes wr [.string x.name, .slice p1a x.params.length p1c, .slice p2a x.body.length p2c] [.string y.name, .slice q1a y.params.length q1c, .slice q2a y.body.length q2c] 35
        have b1 := below1 wr (.cells ([.string x.name, .slice p1a x.params.length p1c, .slice p2a x.body.length p2c]).toArray 35)
        have l0 := (b1.cell (p := ⟨b2, o2 + k * 3, none⟩) (World.block_lt_of_cell? wr _ g0)).trans g0
        have l1 := (b1.cell (p := ⟨b2, o2 + k * 3 + 1, none⟩) (World.block_lt_of_cell? wr _ g1)).trans g1
        have l2 := (b1.cell (p := ⟨b2, o2 + k * 3 + 2, none⟩) (World.block_lt_of_cell? wr _ g2)).trans g2
        have p0 := hP.cell 0 _ rfl
        have r0 := hR.cell 0 _ rfl
        have p1 := hP.cell 1 _ rfl
        have r1 := hR.cell 1 _ rfl
        have p2 := hP.cell 2 _ rfl
        have r2 := hR.cell 2 _ rfl
        have HW := Lib.hid hW
        have BW := Lib.hid hBW
        have HB0 := Lib.hid (hb0.then_' hBW)
        clear hv hw hb hx hy hb0 hW hBW hP hR b1
        go_wp2_with fail
        rw [HW.out]
        refine (HG.out x (List.mem_of_getElem? HX.out) y _ _ _ _ W HB0.out (HU1.out.below HB0.out) (HU2.out.below HB0.out) (HV1.out.below HB0.out) (HV2.out.below HB0.out)).mono ?_
        rintro e w4 ⟨rfl, hb4⟩
        have B4 := Lib.hid (HB.out.then_' (BW.out.then_' hb4))
        clear hb4
        by_cases hq : x = y
        · have HE : Hid (eqFrom A B k = eqFrom A B (k + 1)) := Lib.hid (eqFrom_same HX.out (by rw [hq]; exact HY.out))
          rw [decide_eq_true hq]
          clear hq
          go_wp2_with fail
          go_roundw
          case rel => exact ⟨k + 1, by omega, by go_num, B4.out, by rw [hi.out]; exact HE.out⟩
          case measure => simp [intOf]; omega
        · have HE : Hid (eqFrom A B k = false) := Lib.hid (eqFrom_other HX.out HY.out hq)
          rw [decide_eq_false hq]
          clear hq
          go_wp2_with fail
          go_ret
          exact ⟨by rw [hi.out, HE.out]; rfl, B4.out⟩
      · obtain rfl : k = n := by omega
        go_wp2
        go_ret
        exact ⟨by rw [hi.out, HE0.out]; rfl, hb⟩
  · have he' : ((A.length : Int) == (B.length : Int)) = false := by rw [beq_eq_false_iff_ne]; omega
    rw [eq_lens he]
    go_enter Tryd.func45, Tryd.ntmps45
    go_wp2
    go_ret
    exact ⟨rfl, Below.refl _ _⟩
end Go.Proofs.YtilholgbepfopaaDoor
