import Derived.Test.YtilholgbepfopaaDoorCards
import Derived.Test.YtilholgbepfopaaDoorTie
import Derived.ProofKit
import Derived.OpenShut
import Derived.LaidMore
import Derived.Deep.DeepHandedRow
import Derived.Deep.DeepWitnessRowRef
import Derived.Lib.LaidTab
import Derived.Lib.SmallJoins
import Derived.Deep.Slices
import Derived.Test.YtilholgbepfopaaDoorZ6
import Derived.Test.YtilholgbepfopaaDoorZ1
/- Same (of the code): slices.Equal, slices.EqualFunc for any function value. -/
namespace Go.Proofs.YtilholgbepfopaaDoor
open Go.RowKit

set_option maxHeartbeats 1000000 in
set_option maxRecDepth 100000 in
theorem slEqual_any (v u : Value) (l m : List ByteArray) (w : World) (hv : NmsAt w v l) (hu : NmsAt w u m) (hl : l.length ≤ 1000000000) :
    Calls Tryd.prog 67 #[v, u] w (RetB w (decide (l = m))) := by
  obtain ⟨a, c, rfl⟩ := hv.shape
  obtain ⟨a2, c2, rfl⟩ := hu.shape
  have H := Lib.hid hv
  have H2 := Lib.hid hu
  clear hv hu
  by_cases he : l.length = m.length
  · have hd : decide (l = m) = eqFrom l m 0 := by rw [eqFrom_zero]
    generalize decide (l = m) = q at *
    have HD := Lib.hid hd
    clear hd
    obtain ⟨n, hn⟩ : ∃ n, n = l.length := ⟨_, rfl⟩
    have HN := Lib.hid hn
    have HM : Hid (n = m.length) := Lib.hid (by rw [hn]; exact he)
    rw [← he, ← hn] at H2 ⊢
    rw [← hn] at H hl
    have HG : Hid (eqFrom l m n = true) := Lib.hid (eqFrom_end l m n (Nat.le_of_eq HN.out.symm) (Nat.le_of_eq HM.out.symm))
    clear he hn
    go_enter Tryd.func67, Tryd.ntmps67
    go_wp2
    go_loopw [5, 13] (fun _ k_ wr => ∃ k : Nat, k ≤ n ∧ k_ = .int .i64 k ∧ Below w.heap.size w wr ∧ Hid (q = eqFrom l m k)) (fun _ k_ _ => n - (intOf k_).toNat)
    case atStart => exact ⟨0, Nat.zero_le _, rfl, Below.refl _ _, HD.out⟩
    case round =>
      obtain ⟨k, hk, rfl, hb, hi⟩ := hrel
      by_cases hlt : k < n
      · obtain ⟨x, hx⟩ : ∃ x, l[k]? = some x := ⟨_, List.getElem?_eq_getElem (by rw [← HN.out]; exact hlt)⟩
        obtain ⟨y, hy⟩ : ∃ x, m[k]? = some x := ⟨_, List.getElem?_eq_getElem (by rw [← HM.out]; exact hlt)⟩
        obtain ⟨b, o, c', hv, _, hc0⟩ := (H.out.below hb).elem hx
        obtain ⟨rfl, -, rfl⟩ := Value.slice.inj hv
        obtain ⟨b2, o2, c2', hw, _, hd0⟩ := (H2.out.below hb).elem hy
        obtain ⟨rfl, -, rfl⟩ := Value.slice.inj hw
        clear hv hw
        have HX := Lib.hid hx
        have HY := Lib.hid hy
        have HB := Lib.hid hb
        clear hb hx hy
        have hki : (k : Int) < (n : Int) := by omega
        by_cases hq : x = y
        · have HE : Hid (eqFrom l m k = eqFrom l m (k + 1)) := Lib.hid (eqFrom_same HX.out (by rw [hq]; exact HY.out))
          have hs := tstr_eq hq
          clear hq
          go_wp2_with fail
          go_quiet (fail)
          go_wp2
          go_roundw
          case rel => exact ⟨k + 1, by omega, by go_num, Below.drewN HB.out _, by rw [hi.out]; exact HE.out⟩
          case measure => simp [intOf]; omega
        · have HE : Hid (eqFrom l m k = false) := Lib.hid (eqFrom_other HX.out HY.out hq)
          have hs := tstr_ne hq
          clear hq
          go_wp2_with fail
          go_quiet (fail)
          go_wp2
          go_ret
          exact ⟨by rw [hi.out, HE.out]; rfl, Below.drewN HB.out _⟩
      · obtain rfl : k = n := by omega
        go_wp2
        go_ret
        exact ⟨by rw [hi.out, HG.out]; rfl, hb⟩
  · have he' : ((l.length : Int) == (m.length : Int)) = false := by rw [beq_eq_false_iff_ne]; omega
    rw [eq_lens he]
    go_enter Tryd.func67, Tryd.ntmps67
    go_wp2
    go_ret
    exact ⟨rfl, Below.refl _ _⟩

set_option maxHeartbeats 4000000 in
set_option maxRecDepth 100000 in
theorem eqfE_any (N : FuncId) (caps : Array Value) (w0 : World) (A B : List Ex) (hN : ∀ args w, (callFunc N args).run Tryd.prog w = .ok (.enter N args) w)
    (hg : ∀ x ∈ A, ∀ (y : Ex) (u v : Value) (w : World), Below w0.heap.size w0 w → ExsAt w u x.l → ExsAt w v y.l → Calls Tryd.prog N (#[exV x u, exV y v] ++ caps) w (RetB w (decide (x = y))))
    (va vb : Value) (w : World) (hl : A.length ≤ 1000000000) (hva : ExsAt w0 va A) (hvb : ExsAt w0 vb B) (hb0 : Below w0.heap.size w0 w) :
    Calls Tryd.prog 87 #[va, vb, .func (.func N) #[] caps] w (RetB w (decide (A = B))) := by
  obtain ⟨a, c, rfl⟩ := hva.shape
  obtain ⟨a2, c2, rfl⟩ := hvb.shape
  have H := Lib.hid hva
  have H2 := Lib.hid hvb
  have B0 := Lib.hid hb0
  have HG := Lib.hid hg
  clear hva hvb hb0 hg
  by_cases he : A.length = B.length
  · have hd : decide (A = B) = eqFrom A B 0 := by rw [eqFrom_zero]
    generalize decide (A = B) = q at *
    have HD := Lib.hid hd
    clear hd
    obtain ⟨n, hn⟩ : ∃ n, n = A.length := ⟨_, rfl⟩
    have HN := Lib.hid hn
    have HM : Hid (n = B.length) := Lib.hid (by rw [hn]; exact he)
    rw [← he, ← hn] at H2 ⊢
    rw [← hn] at H hl
    have HE0 : Hid (eqFrom A B n = true) := Lib.hid (eqFrom_end A B n (Nat.le_of_eq HN.out.symm) (Nat.le_of_eq HM.out.symm))
    clear he hn
    go_enter Tryd.func87, Tryd.ntmps87
    go_wp2_with fail
    go_loopw [7, 17] (fun _ k_ wr => ∃ k : Nat, k ≤ n ∧ k_ = .int .i64 k ∧ Below w.heap.size w wr ∧ Hid (q = eqFrom A B k)) (fun _ k_ _ => n - (intOf k_).toNat)
    case atStart => exact ⟨0, Nat.zero_le _, rfl, Below.refl _ _, HD.out⟩
    case round =>
      obtain ⟨k, hk, rfl, hb, hi⟩ := hrel
      by_cases hlt : k < n
      · obtain ⟨x, hx⟩ : ∃ x, A[k]? = some x := ⟨_, List.getElem?_eq_getElem (by rw [← HN.out]; exact hlt)⟩
        obtain ⟨y, hy⟩ : ∃ x, B[k]? = some x := ⟨_, List.getElem?_eq_getElem (by rw [← HM.out]; exact hlt)⟩
        have hb0 : Below w0.heap.size w0 wr := B0.out.then_' hb
        obtain ⟨b, o, c', u, hv, hbl, f0, f1, f2, f3, f4, hu⟩ := H.out.elem hx
        obtain ⟨rfl, -, rfl⟩ := Value.slice.inj hv
        obtain ⟨b2, o2, c2', v, hw, hbl2, g0, g1, g2, g3, g4, hv2⟩ := H2.out.elem hy
        obtain ⟨rfl, -, rfl⟩ := Value.slice.inj hw
        replace f0 := (hb0.cell (p := ⟨b, o + k * 5, none⟩) hbl).trans f0
        replace g0 := (hb0.cell (p := ⟨b2, o2 + k * 5, none⟩) hbl2).trans g0
        replace f1 := (hb0.cell (p := ⟨b, o + k * 5 + 1, none⟩) hbl).trans f1
        replace g1 := (hb0.cell (p := ⟨b2, o2 + k * 5 + 1, none⟩) hbl2).trans g1
        replace f2 := (hb0.cell (p := ⟨b, o + k * 5 + 2, none⟩) hbl).trans f2
        replace g2 := (hb0.cell (p := ⟨b2, o2 + k * 5 + 2, none⟩) hbl2).trans g2
        replace f3 := (hb0.cell (p := ⟨b, o + k * 5 + 3, none⟩) hbl).trans f3
        replace g3 := (hb0.cell (p := ⟨b2, o2 + k * 5 + 3, none⟩) hbl2).trans g3
        replace f4 := (hb0.cell (p := ⟨b, o + k * 5 + 4, none⟩) hbl).trans f4
        replace g4 := (hb0.cell (p := ⟨b2, o2 + k * 5 + 4, none⟩) hbl2).trans g4
        obtain ⟨ua, uc, rfl⟩ := hu.shape
        obtain ⟨ya, yc, rfl⟩ := hv2.shape
        have HU := Lib.hid hu
        have HV := Lib.hid hv2
        clear hu hv2
        have HX := Lib.hid hx
        have HY := Lib.hid hy
        have HB := Lib.hid hb
        have hki : (k : Int) < (n : Int) := by omega
        obtain ⟨W, hW, hBW, hP, hR⟩ := two_boxes wr [.int .i64 x.kind, .int .i64 x.n, .string x.name, .int .i64 x.op, .slice ua x.l.length uc] [.int .i64 y.kind, .int .i64 y.n, .string y.name, .int .i64 y.op, .slice ya y.l.length yc] 42
        have b1 := below1 wr (.cells ([.int .i64 x.kind, .int .i64 x.n, .string x.name, .int .i64 x.op, .slice ua x.l.length uc]).toArray 42)
        have l0 := (b1.cell (p := ⟨b2, o2 + k * 5, none⟩) (World.block_lt_of_cell? wr _ g0)).trans g0
        have l1 := (b1.cell (p := ⟨b2, o2 + k * 5 + 1, none⟩) (World.block_lt_of_cell? wr _ g1)).trans g1
        have l2 := (b1.cell (p := ⟨b2, o2 + k * 5 + 2, none⟩) (World.block_lt_of_cell? wr _ g2)).trans g2
        have l3 := (b1.cell (p := ⟨b2, o2 + k * 5 + 3, none⟩) (World.block_lt_of_cell? wr _ g3)).trans g3
        have l4 := (b1.cell (p := ⟨b2, o2 + k * 5 + 4, none⟩) (World.block_lt_of_cell? wr _ g4)).trans g4
        have p0 := hP.cell 0 _ rfl
        have r0 := hR.cell 0 _ rfl
        have p1 := hP.cell 1 _ rfl
        have r1 := hR.cell 1 _ rfl
        have p2 := hP.cell 2 _ rfl
        have r2 := hR.cell 2 _ rfl
        have p3 := hP.cell 3 _ rfl
        have r3 := hR.cell 3 _ rfl
        have p4 := hP.cell 4 _ rfl
        have r4 := hR.cell 4 _ rfl
        have HW := Lib.hid hW
        have BW := Lib.hid hBW
        have HB0 := Lib.hid (hb0.then_' hBW)
        clear hv hw hb hx hy hb0 hW hBW hP hR b1
        go_wp2_with fail
        rw [HW.out]
        refine (HG.out x (List.mem_of_getElem? HX.out) y _ _ W HB0.out (HU.out.below HB0.out) (HV.out.below HB0.out)).mono ?_
        rintro e w4 ⟨rfl, hb4⟩
        have B4 := Lib.hid (HB.out.then_' (BW.out.then_' hb4))
        clear hb4
        by_cases hq : x = y
        · have HE : Hid (eqFrom A B k = eqFrom A B (k + 1)) := Lib.hid (eqFrom_same HX.out (by rw [hq]; exact HY.out))
          rw [decide_eq_true hq]
          clear hq
          go_wp2_with fail
          go_roundw
          case rel => exact ⟨k + 1, by omega, by go_num, B4.out, by rw [hi.out]; exact HE.out⟩
          case measure => simp [intOf]; omega
        · have HE : Hid (eqFrom A B k = false) := Lib.hid (eqFrom_other HX.out HY.out hq)
          rw [decide_eq_false hq]
          clear hq
          go_wp2_with fail
          go_ret
          exact ⟨by rw [hi.out, HE.out]; rfl, B4.out⟩
      · obtain rfl : k = n := by omega
        go_wp2
        go_ret
        exact ⟨by rw [hi.out, HE0.out]; rfl, hb⟩
  · have he' : ((A.length : Int) == (B.length : Int)) = false := by rw [beq_eq_false_iff_ne]; omega
    rw [eq_lens he]
    go_enter Tryd.func87, Tryd.ntmps87
    go_wp2
    go_ret
    exact ⟨rfl, Below.refl _ _⟩

set_option maxHeartbeats 4000000 in
set_option maxRecDepth 100000 in
theorem eqfS_any (N : FuncId) (caps : Array Value) (w0 : World) (A B : List St) (hN : ∀ args w, (callFunc N args).run Tryd.prog w = .ok (.enter N args) w)
    (hg : ∀ x ∈ A, ∀ (y : St) (u1 u2 u3 v1 v2 v3 : Value) (w : World), Below w0.heap.size w0 w → ExsAt w u1 x.exprs → StsAt w u2 x.body → StsAt w u3 x.els → ExsAt w v1 y.exprs → StsAt w v2 y.body → StsAt w v3 y.els → Calls Tryd.prog N (#[stV x u1 u2 u3, stV y v1 v2 v3] ++ caps) w (RetB w (decide (x = y))))
    (va vb : Value) (w : World) (hl : A.length ≤ 1000000000) (hva : StsAt w0 va A) (hvb : StsAt w0 vb B) (hb0 : Below w0.heap.size w0 w) :
    Calls Tryd.prog 80 #[va, vb, .func (.func N) #[] caps] w (RetB w (decide (A = B))) := by
  obtain ⟨a, c, rfl⟩ := hva.shape
  obtain ⟨a2, c2, rfl⟩ := hvb.shape
  have H := Lib.hid hva
  have H2 := Lib.hid hvb
  have B0 := Lib.hid hb0
  have HG := Lib.hid hg
  clear hva hvb hb0 hg
  by_cases he : A.length = B.length
  · have hd : decide (A = B) = eqFrom A B 0 := by rw [eqFrom_zero]
    generalize decide (A = B) = q at *
    have HD := Lib.hid hd
    clear hd
    obtain ⟨n, hn⟩ : ∃ n, n = A.length := ⟨_, rfl⟩
    have HN := Lib.hid hn
    have HM : Hid (n = B.length) := Lib.hid (by rw [hn]; exact he)
    rw [← he, ← hn] at H2 ⊢
    rw [← hn] at H hl
    have HE0 : Hid (eqFrom A B n = true) := Lib.hid (eqFrom_end A B n (Nat.le_of_eq HN.out.symm) (Nat.le_of_eq HM.out.symm))
    clear he hn
    go_enter Tryd.func80, Tryd.ntmps80
    go_wp2_with fail
    go_loopw [7, 17] (fun _ k_ wr => ∃ k : Nat, k ≤ n ∧ k_ = .int .i64 k ∧ Below w.heap.size w wr ∧ Hid (q = eqFrom A B k)) (fun _ k_ _ => n - (intOf k_).toNat)
    case atStart => exact ⟨0, Nat.zero_le _, rfl, Below.refl _ _, HD.out⟩
    case round =>
      obtain ⟨k, hk, rfl, hb, hi⟩ := hrel
      by_cases hlt : k < n
      · obtain ⟨x, hx⟩ : ∃ x, A[k]? = some x := ⟨_, List.getElem?_eq_getElem (by rw [← HN.out]; exact hlt)⟩
        obtain ⟨y, hy⟩ : ∃ x, B[k]? = some x := ⟨_, List.getElem?_eq_getElem (by rw [← HM.out]; exact hlt)⟩
        have hb0 : Below w0.heap.size w0 wr := B0.out.then_' hb
        obtain ⟨b, o, c', u1, u2, u3, hv, hbl, f0, f1, f2, f3, f4, f5, f6, f7, hu1, hu2, hu3⟩ := H.out.elem hx
        obtain ⟨rfl, -, rfl⟩ := Value.slice.inj hv
        obtain ⟨b2, o2, c2', v1, v2, v3, hw, hbl2, g0, g1, g2, g3, g4, g5, g6, g7, hv1, hv2, hv3⟩ := H2.out.elem hy
        obtain ⟨rfl, -, rfl⟩ := Value.slice.inj hw
        replace f0 := (hb0.cell (p := ⟨b, o + k * 8, none⟩) hbl).trans f0
        replace g0 := (hb0.cell (p := ⟨b2, o2 + k * 8, none⟩) hbl2).trans g0
        replace f1 := (hb0.cell (p := ⟨b, o + k * 8 + 1, none⟩) hbl).trans f1
        replace g1 := (hb0.cell (p := ⟨b2, o2 + k * 8 + 1, none⟩) hbl2).trans g1
        replace f2 := (hb0.cell (p := ⟨b, o + k * 8 + 2, none⟩) hbl).trans f2
        replace g2 := (hb0.cell (p := ⟨b2, o2 + k * 8 + 2, none⟩) hbl2).trans g2
        replace f3 := (hb0.cell (p := ⟨b, o + k * 8 + 3, none⟩) hbl).trans f3
        replace g3 := (hb0.cell (p := ⟨b2, o2 + k * 8 + 3, none⟩) hbl2).trans g3
        replace f4 := (hb0.cell (p := ⟨b, o + k * 8 + 4, none⟩) hbl).trans f4
        replace g4 := (hb0.cell (p := ⟨b2, o2 + k * 8 + 4, none⟩) hbl2).trans g4
        replace f5 := (hb0.cell (p := ⟨b, o + k * 8 + 5, none⟩) hbl).trans f5
        replace g5 := (hb0.cell (p := ⟨b2, o2 + k * 8 + 5, none⟩) hbl2).trans g5
        replace f6 := (hb0.cell (p := ⟨b, o + k * 8 + 6, none⟩) hbl).trans f6
        replace g6 := (hb0.cell (p := ⟨b2, o2 + k * 8 + 6, none⟩) hbl2).trans g6
        replace f7 := (hb0.cell (p := ⟨b, o + k * 8 + 7, none⟩) hbl).trans f7
        replace g7 := (hb0.cell (p := ⟨b2, o2 + k * 8 + 7, none⟩) hbl2).trans g7
        obtain ⟨p1a, p1c, rfl⟩ := hu1.shape
        obtain ⟨q1a, q1c, rfl⟩ := hv1.shape
        have HU1 := Lib.hid hu1
        have HV1 := Lib.hid hv1
        clear hu1 hv1
        obtain ⟨p2a, p2c, rfl⟩ := hu2.shape
        obtain ⟨q2a, q2c, rfl⟩ := hv2.shape
        have HU2 := Lib.hid hu2
        have HV2 := Lib.hid hv2
        clear hu2 hv2
        obtain ⟨p3a, p3c, rfl⟩ := hu3.shape
        obtain ⟨q3a, q3c, rfl⟩ := hv3.shape
        have HU3 := Lib.hid hu3
        have HV3 := Lib.hid hv3
        clear hu3 hv3
        have HX := Lib.hid hx
        have HY := Lib.hid hy
        have HB := Lib.hid hb
        have hki : (k : Int) < (n : Int) := by omega
        obtain ⟨W, hW, hBW, hP, hR⟩ := two_boxes wr [.int .i64 x.kind, .string x.name, .string x.fn, .int .i64 x.n, .int .i64 x.op, .slice p1a x.exprs.length p1c, .slice p2a x.body.length p2c, .slice p3a x.els.length p3c] [.int .i64 y.kind, .string y.name, .string y.fn, .int .i64 y.n, .int .i64 y.op, .slice q1a y.exprs.length q1c, .slice q2a y.body.length q2c, .slice q3a y.els.length q3c] 40
        have b1 := below1 wr (.cells ([.int .i64 x.kind, .string x.name, .string x.fn, .int .i64 x.n, .int .i64 x.op, .slice p1a x.exprs.length p1c, .slice p2a x.body.length p2c, .slice p3a x.els.length p3c]).toArray 40)
        have l0 := (b1.cell (p := ⟨b2, o2 + k * 8, none⟩) (World.block_lt_of_cell? wr _ g0)).trans g0
        have l1 := (b1.cell (p := ⟨b2, o2 + k * 8 + 1, none⟩) (World.block_lt_of_cell? wr _ g1)).trans g1
        have l2 := (b1.cell (p := ⟨b2, o2 + k * 8 + 2, none⟩) (World.block_lt_of_cell? wr _ g2)).trans g2
        have l3 := (b1.cell (p := ⟨b2, o2 + k * 8 + 3, none⟩) (World.block_lt_of_cell? wr _ g3)).trans g3
        have l4 := (b1.cell (p := ⟨b2, o2 + k * 8 + 4, none⟩) (World.block_lt_of_cell? wr _ g4)).trans g4
        have l5 := (b1.cell (p := ⟨b2, o2 + k * 8 + 5, none⟩) (World.block_lt_of_cell? wr _ g5)).trans g5
        have l6 := (b1.cell (p := ⟨b2, o2 + k * 8 + 6, none⟩) (World.block_lt_of_cell? wr _ g6)).trans g6
        have l7 := (b1.cell (p := ⟨b2, o2 + k * 8 + 7, none⟩) (World.block_lt_of_cell? wr _ g7)).trans g7
        have p0 := hP.cell 0 _ rfl
        have r0 := hR.cell 0 _ rfl
        have p1 := hP.cell 1 _ rfl
        have r1 := hR.cell 1 _ rfl
        have p2 := hP.cell 2 _ rfl
        have r2 := hR.cell 2 _ rfl
        have p3 := hP.cell 3 _ rfl
        have r3 := hR.cell 3 _ rfl
        have p4 := hP.cell 4 _ rfl
        have r4 := hR.cell 4 _ rfl
        have p5 := hP.cell 5 _ rfl
        have r5 := hR.cell 5 _ rfl
        have p6 := hP.cell 6 _ rfl
        have r6 := hR.cell 6 _ rfl
        have p7 := hP.cell 7 _ rfl
        have r7 := hR.cell 7 _ rfl
        have HW := Lib.hid hW
        have BW := Lib.hid hBW
        have HB0 := Lib.hid (hb0.then_' hBW)
        clear hv hw hb hx hy hb0 hW hBW hP hR b1
        go_wp2_with fail
        rw [HW.out]
        refine (HG.out x (List.mem_of_getElem? HX.out) y _ _ _ _ _ _ W HB0.out (HU1.out.below HB0.out) (HU2.out.below HB0.out) (HU3.out.below HB0.out) (HV1.out.below HB0.out) (HV2.out.below HB0.out) (HV3.out.below HB0.out)).mono ?_
        rintro e w4 ⟨rfl, hb4⟩
        have B4 := Lib.hid (HB.out.then_' (BW.out.then_' hb4))
        clear hb4
        by_cases hq : x = y
        · have HE : Hid (eqFrom A B k = eqFrom A B (k + 1)) := Lib.hid (eqFrom_same HX.out (by rw [hq]; exact HY.out))
          rw [decide_eq_true hq]
          clear hq
          go_wp2_with fail
          go_roundw
          case rel => exact ⟨k + 1, by omega, by go_num, B4.out, by rw [hi.out]; exact HE.out⟩
          case measure => simp [intOf]; omega
        · have HE : Hid (eqFrom A B k = false) := Lib.hid (eqFrom_other HX.out HY.out hq)
          rw [decide_eq_false hq]
          clear hq
          go_wp2_with fail
          go_ret
          exact ⟨by rw [hi.out, HE.out]; rfl, B4.out⟩
      · obtain rfl : k = n := by omega
        go_wp2
        go_ret
        exact ⟨by rw [hi.out, HE0.out]; rfl, hb⟩
  · have he' : ((A.length : Int) == (B.length : Int)) = false := by rw [beq_eq_false_iff_ne]; omega
    rw [eq_lens he]
    go_enter Tryd.func80, Tryd.ntmps80
    go_wp2
    go_ret
    exact ⟨rfl, Below.refl _ _⟩

set_option maxHeartbeats 4000000 in
set_option maxRecDepth 100000 in
theorem eqfF_any (N : FuncId) (caps : Array Value) (w0 : World) (A B : List Fn) (hN : ∀ args w, (callFunc N args).run Tryd.prog w = .ok (.enter N args) w)
    (hg : ∀ x ∈ A, ∀ (y : Fn) (u1 u2 v1 v2 : Value) (w : World), Below w0.heap.size w0 w → NmsAt w u1 x.params → StsAt w u2 x.body → NmsAt w v1 y.params → StsAt w v2 y.body → Calls Tryd.prog N (#[.agg #[.string x.name, u1, u2], .agg #[.string y.name, v1, v2]] ++ caps) w (RetB w (decide (x = y))))
    (va vb : Value) (w : World) (hl : A.length ≤ 1000000000) (hva : FnsAt w0 va A) (hvb : FnsAt w0 vb B) (hb0 : Below w0.heap.size w0 w) :
    Calls Tryd.prog 45 #[va, vb, .func (.func N) #[] caps] w (RetB w (decide (A = B))) := by
  obtain ⟨a, c, rfl⟩ := hva.shape
  obtain ⟨a2, c2, rfl⟩ := hvb.shape
  have H := Lib.hid hva
  have H2 := Lib.hid hvb
  have B0 := Lib.hid hb0
  have HG := Lib.hid hg
  clear hva hvb hb0 hg
  by_cases he : A.length = B.length
  · have hd : decide (A = B) = eqFrom A B 0 := by rw [eqFrom_zero]
    generalize decide (A = B) = q at *
    have HD := Lib.hid hd
    clear hd
    obtain ⟨n, hn⟩ : ∃ n, n = A.length := ⟨_, rfl⟩
    have HN := Lib.hid hn
    have HM : Hid (n = B.length) := Lib.hid (by rw [hn]; exact he)
    rw [← he, ← hn] at H2 ⊢
    rw [← hn] at H hl
    have HE0 : Hid (eqFrom A B n = true) := Lib.hid (eqFrom_end A B n (Nat.le_of_eq HN.out.symm) (Nat.le_of_eq HM.out.symm))
    clear he hn
    go_enter Tryd.func45, Tryd.ntmps45
    go_wp2_with fail
    go_loopw [7, 17] (fun _ k_ wr => ∃ k : Nat, k ≤ n ∧ k_ = .int .i64 k ∧ Below w.heap.size w wr ∧ Hid (q = eqFrom A B k)) (fun _ k_ _ => n - (intOf k_).toNat)
    case atStart => exact ⟨0, Nat.zero_le _, rfl, Below.refl _ _, HD.out⟩
    case round =>
      obtain ⟨k, hk, rfl, hb, hi⟩ := hrel
      by_cases hlt : k < n
      · obtain ⟨x, hx⟩ : ∃ x, A[k]? = some x := ⟨_, List.getElem?_eq_getElem (by rw [← HN.out]; exact hlt)⟩
        obtain ⟨y, hy⟩ : ∃ x, B[k]? = some x := ⟨_, List.getElem?_eq_getElem (by rw [← HM.out]; exact hlt)⟩
        have hb0 : Below w0.heap.size w0 wr := B0.out.then_' hb
        obtain ⟨b, o, c', u1, u2, hv, hbl, f0, f1, f2, hu1, hu2⟩ := H.out.elem hx
        obtain ⟨rfl, -, rfl⟩ := Value.slice.inj hv
        obtain ⟨b2, o2, c2', v1, v2, hw, hbl2, g0, g1, g2, hv1, hv2⟩ := H2.out.elem hy
        obtain ⟨rfl, -, rfl⟩ := Value.slice.inj hw
        replace f0 := (hb0.cell (p := ⟨b, o + k * 3, none⟩) hbl).trans f0
        replace g0 := (hb0.cell (p := ⟨b2, o2 + k * 3, none⟩) hbl2).trans g0
        replace f1 := (hb0.cell (p := ⟨b, o + k * 3 + 1, none⟩) hbl).trans f1
        replace g1 := (hb0.cell (p := ⟨b2, o2 + k * 3 + 1, none⟩) hbl2).trans g1
        replace f2 := (hb0.cell (p := ⟨b, o + k * 3 + 2, none⟩) hbl).trans f2
        replace g2 := (hb0.cell (p := ⟨b2, o2 + k * 3 + 2, none⟩) hbl2).trans g2
        obtain ⟨p1a, p1c, rfl⟩ := hu1.shape
        obtain ⟨q1a, q1c, rfl⟩ := hv1.shape
        have HU1 := Lib.hid hu1
        have HV1 := Lib.hid hv1
        clear hu1 hv1
        obtain ⟨p2a, p2c, rfl⟩ := hu2.shape
        obtain ⟨q2a, q2c, rfl⟩ := hv2.shape
        have HU2 := Lib.hid hu2
        have HV2 := Lib.hid hv2
        clear hu2 hv2
        have HX := Lib.hid hx
        have HY := Lib.hid hy
        have HB := Lib.hid hb
        have hki : (k : Int) < (n : Int) := by omega
        obtain ⟨W, hW, hBW, hP, hR⟩ := two_boxes wr [.string x.name, .slice p1a x.params.length p1c, .slice p2a x.body.length p2c] [.string y.name, .slice q1a y.params.length q1c, .slice q2a y.body.length q2c] 35
        have b1 := below1 wr (.cells ([.string x.name, .slice p1a x.params.length p1c, .slice p2a x.body.length p2c]).toArray 35)
        have l0 := (b1.cell (p := ⟨b2, o2 + k * 3, none⟩) (World.block_lt_of_cell? wr _ g0)).trans g0
        have l1 := (b1.cell (p := ⟨b2, o2 + k * 3 + 1, none⟩) (World.block_lt_of_cell? wr _ g1)).trans g1
        have l2 := (b1.cell (p := ⟨b2, o2 + k * 3 + 2, none⟩) (World.block_lt_of_cell? wr _ g2)).trans g2
        have p0 := hP.cell 0 _ rfl
        have r0 := hR.cell 0 _ rfl
        have p1 := hP.cell 1 _ rfl
        have r1 := hR.cell 1 _ rfl
        have p2 := hP.cell 2 _ rfl
        have r2 := hR.cell 2 _ rfl
        have HW := Lib.hid hW
        have BW := Lib.hid hBW
        have HB0 := Lib.hid (hb0.then_' hBW)
        clear hv hw hb hx hy hb0 hW hBW hP hR b1
        go_wp2_with fail
        rw [HW.out]
        refine (HG.out x (List.mem_of_getElem? HX.out) y _ _ _ _ W HB0.out (HU1.out.below HB0.out) (HU2.out.below HB0.out) (HV1.out.below HB0.out) (HV2.out.below HB0.out)).mono ?_
        rintro e w4 ⟨rfl, hb4⟩
        have B4 := Lib.hid (HB.out.then_' (BW.out.then_' hb4))
        clear hb4
        by_cases hq : x = y
        · have HE : Hid (eqFrom A B k = eqFrom A B (k + 1)) := Lib.hid (eqFrom_same HX.out (by rw [hq]; exact HY.out))
          rw [decide_eq_true hq]
          clear hq
          go_wp2_with fail
          go_roundw
          case rel => exact ⟨k + 1, by omega, by go_num, B4.out, by rw [hi.out]; exact HE.out⟩
          case measure => simp [intOf]; omega
        · have HE : Hid (eqFrom A B k = false) := Lib.hid (eqFrom_other HX.out HY.out hq)
          rw [decide_eq_false hq]
          clear hq
          go_wp2_with fail
          go_ret
          exact ⟨by rw [hi.out, HE.out]; rfl, B4.out⟩
      · obtain rfl : k = n := by omega
        go_wp2
        go_ret
        exact ⟨by rw [hi.out, HE0.out]; rfl, hb⟩
  · have he' : ((A.length : Int) == (B.length : Int)) = false := by rw [beq_eq_false_iff_ne]; omega
    rw [eq_lens he]
    go_enter Tryd.func45, Tryd.ntmps45
    go_wp2
    go_ret
    exact ⟨rfl, Below.refl _ _⟩
end Go.Proofs.YtilholgbepfopaaDoor
/- Same (of the code), walked. -/
namespace Go.Proofs.YtilholgbepfopaaDoor
open Go.RowKit

theorem enter_se (args : Array Value) (w : World) : (callFunc 88 args).run Tryd.prog w = .ok (.enter 88 args) w := call_enter Tryd.func88 (by kernel_rfl) (by kernel_rfl) args w
theorem enter_ss (args : Array Value) (w : World) : (callFunc 81 args).run Tryd.prog w = .ok (.enter 81 args) w := call_enter Tryd.func81 (by kernel_rfl) (by kernel_rfl) args w
theorem enter_sf (args : Array Value) (w : World) : (callFunc 46 args).run Tryd.prog w = .ok (.enter 46 args) w := call_enter Tryd.func46 (by kernel_rfl) (by kernel_rfl) args w

set_option maxHeartbeats 4000000 in
set_option maxRecDepth 100000 in
theorem ssExpr_any (m : Nat) (hm : m ≤ 1000000000) : ∀ (a b : Ex) (va vb : Value) (w : World), a.sz ≤ m → ExsAt w va a.l → ExsAt w vb b.l →
    Calls Tryd.prog 88 #[exV a va, exV b vb] w (RetB w (decide (a = b))) := by
  induction m with
  | zero => intro a _ _ _ _ h; have := a.sz_pos; omega
  | succ m ih =>
  intro a b va vb w hsz hva hvb
  obtain ⟨a0, c0, rfl⟩ := hva.shape
  obtain ⟨a1, c1, rfl⟩ := hvb.shape
  have HA := Lib.hid hva
  have HB := Lib.hid hvb
  have HSZ : Hid (szE a.l ≤ m) := Lib.hid (by have := a.sz_l; omega)
  have HLA : Hid (a.l.length ≤ 1000000000) := Lib.hid (by have := szE_len a.l; have := HSZ.out; omega)
  have IH := Lib.hid (ih (by omega))
  clear ih hsz hva hvb
  obtain ⟨W, hW, hB, hP, hR⟩ := two_boxes w (exC a (.slice a0 a.l.length c0)) (exC b (.slice a1 b.l.length c1)) 42
  have HBB : Hid (Below w.heap.size w _) := Lib.hid (hW ▸ hB)
  have HW := Lib.hid hW
  have BW := Lib.hid hB
  unfold exC at HBB HW
  have PW := Lib.hid hP
  have RW := Lib.hid hR
  clear hW hB hP hR
  unfold exV
  go_enter Tryd.func88, Tryd.ntmps88
  by_cases h : a.kind = b.kind
  rotate_left
  · have HD := Lib.hid (decide_eq_false (fun e : a = b => h (by rw [e])))
    have q : (a.kind == b.kind) = false := by rw [beq_eq_false_iff_ne]; exact h
    clear h
    go_wp2_with fail
    go_ret
    exact retB HD.out.symm HBB.out
  have e1 := Lib.hid h
  have q0 : (a.kind == b.kind) = true := by rw [beq_iff_eq]; exact h
  clear h
  by_cases h : a.n = b.n
  rotate_left
  · have HD := Lib.hid (decide_eq_false (fun e : a = b => h (by rw [e])))
    have q : (a.n == b.n) = false := by rw [beq_eq_false_iff_ne]; exact h
    clear h
    go_wp2_with fail
    go_ret
    exact retB HD.out.symm HBB.out
  have e2 := Lib.hid h
  have q1 : (a.n == b.n) = true := by rw [beq_iff_eq]; exact h
  clear h
  by_cases h : a.name = b.name
  rotate_left
  · have HD := Lib.hid (decide_eq_false (fun e : a = b => h (by rw [e])))
    have q := tstr_ne h
    clear h
    go_wp2_with fail
    go_ret
    exact retB HD.out.symm HBB.out
  have e3 := Lib.hid h
  have q2 := tstr_eq h
  clear h
  by_cases h : a.op = b.op
  rotate_left
  · have HD := Lib.hid (decide_eq_false (fun e : a = b => h (by rw [e])))
    have q : (a.op == b.op) = false := by rw [beq_eq_false_iff_ne]; exact h
    clear h
    go_wp2_with fail
    go_ret
    exact retB HD.out.symm HBB.out
  have e4 := Lib.hid h
  have q3 : (a.op == b.op) = true := by rw [beq_iff_eq]; exact h
  clear h
  have HD : Hid (decide (a = b) = decide (a.l = b.l)) := Lib.hid (decide_eq_decide.2 ⟨fun e => by rw [e], fun e => Ex.ext' e1.out e2.out e3.out e4.out e⟩)
  go_wp2_with fail
  rw [HW.out]
  refine (eqfE_any 88 #[] W a.l b.l enter_se (fun x hx y u v w' hb hu hv => (IH.out x y u v w' (Nat.le_trans (szE_mem hx) HSZ.out) (hu) (hv))) _ _ W HLA.out (HA.out.below BW.out) (HB.out.below BW.out) (Below.refl _ _)).mono ?_
  rintro e w2 ⟨rfl, hb⟩
  have B2 := Lib.hid (BW.out.then_' hb)
  rw [← HD.out]
  clear hb
  go_wp2_with fail
  go_ret
  exact ⟨rfl, B2.out⟩

/-- sameStmt, given sameStmts of all that is smaller -/
def SSL (m : Nat) : Prop := ∀ (A B : List St) (va vb : Value) (w : World), szS A < m → StsAt w va A → StsAt w vb B → Calls Tryd.prog 68 #[va, vb] w (RetB w (decide (A = B)))
set_option maxHeartbeats 4000000 in
set_option maxRecDepth 100000 in
theorem ssStmt_of (m : Nat) (hm : m ≤ 100000000) (ih : SSL m) (a b : St) (u1 u2 u3 v1 v2 v3 : Value) (w : World) (hsz : a.sz ≤ m) (hu1 : ExsAt w u1 a.exprs) (hu2 : StsAt w u2 a.body) (hu3 : StsAt w u3 a.els) (hv1 : ExsAt w v1 b.exprs) (hv2 : StsAt w v2 b.body) (hv3 : StsAt w v3 b.els) :
    Calls Tryd.prog 81 #[stV a u1 u2 u3, stV b v1 v2 v3] w (RetB w (decide (a = b))) := by
  obtain ⟨p1a, p1c, rfl⟩ := hu1.shape
  obtain ⟨p2a, p2c, rfl⟩ := hu2.shape
  obtain ⟨p3a, p3c, rfl⟩ := hu3.shape
  obtain ⟨q1a, q1c, rfl⟩ := hv1.shape
  obtain ⟨q2a, q2c, rfl⟩ := hv2.shape
  obtain ⟨q3a, q3c, rfl⟩ := hv3.shape
  have U1 := Lib.hid hu1
  have U2 := Lib.hid hu2
  have U3 := Lib.hid hu3
  have V1 := Lib.hid hv1
  have V2 := Lib.hid hv2
  have V3 := Lib.hid hv3
  have IH := Lib.hid ih
  have HSZ : Hid (szE a.exprs ≤ 100000000 ∧ szS a.body < m ∧ szS a.els < m ∧ a.exprs.length ≤ 1000000000) := Lib.hid (by have := a.sz_parts; have := szE_len a.exprs; omega)
  clear hu1 hu2 hu3 hv1 hv2 hv3 ih hsz
  obtain ⟨W, hW, hB, hP, hR⟩ := two_boxes w (stC a (.slice p1a a.exprs.length p1c) (.slice p2a a.body.length p2c) (.slice p3a a.els.length p3c)) (stC b (.slice q1a b.exprs.length q1c) (.slice q2a b.body.length q2c) (.slice q3a b.els.length q3c)) 40
  have HBB : Hid (Below w.heap.size w _) := Lib.hid (hW ▸ hB)
  have HW := Lib.hid hW
  have BW := Lib.hid hB
  unfold stC at HBB HW
  have PW := Lib.hid hP
  have RW := Lib.hid hR
  clear hW hB hP hR
  unfold stV
  go_enter Tryd.func81, Tryd.ntmps81
  by_cases h : a.kind = b.kind
  rotate_left
  · have HD := Lib.hid (decide_eq_false (fun e : a = b => h (by rw [e])))
    have q : (a.kind == b.kind) = false := by rw [beq_eq_false_iff_ne]; exact h
    clear h
    go_wp2_with fail
    go_ret
    exact retB HD.out.symm HBB.out
  have e1 := Lib.hid h
  have q0 : (a.kind == b.kind) = true := by rw [beq_iff_eq]; exact h
  clear h
  by_cases h : a.name = b.name
  rotate_left
  · have HD := Lib.hid (decide_eq_false (fun e : a = b => h (by rw [e])))
    have q := tstr_ne h
    clear h
    go_wp2_with fail
    go_ret
    exact retB HD.out.symm HBB.out
  have e2 := Lib.hid h
  have q1 := tstr_eq h
  clear h
  by_cases h : a.fn = b.fn
  rotate_left
  · have HD := Lib.hid (decide_eq_false (fun e : a = b => h (by rw [e])))
    have q := tstr_ne h
    clear h
    go_wp2_with fail
    go_ret
    exact retB HD.out.symm HBB.out
  have e3 := Lib.hid h
  have q2 := tstr_eq h
  clear h
  by_cases h : a.n = b.n
  rotate_left
  · have HD := Lib.hid (decide_eq_false (fun e : a = b => h (by rw [e])))
    have q : (a.n == b.n) = false := by rw [beq_eq_false_iff_ne]; exact h
    clear h
    go_wp2_with fail
    go_ret
    exact retB HD.out.symm HBB.out
  have e4 := Lib.hid h
  have q3 : (a.n == b.n) = true := by rw [beq_iff_eq]; exact h
  clear h
  by_cases h : a.op = b.op
  rotate_left
  · have HD := Lib.hid (decide_eq_false (fun e : a = b => h (by rw [e])))
    have q : (a.op == b.op) = false := by rw [beq_eq_false_iff_ne]; exact h
    clear h
    go_wp2_with fail
    go_ret
    exact retB HD.out.symm HBB.out
  have e5 := Lib.hid h
  have q4 : (a.op == b.op) = true := by rw [beq_iff_eq]; exact h
  clear h
  have HD : Hid (decide (a = b) = (decide (a.exprs = b.exprs) && (decide (a.body = b.body) && decide (a.els = b.els)))) := Lib.hid (by
    rw [← Bool.decide_and, ← Bool.decide_and]
    exact decide_eq_decide.2 ⟨fun e => by rw [e]; exact ⟨rfl, rfl, rfl⟩, fun e => St.ext' e1.out e2.out e3.out e4.out e5.out e.1 e.2.1 e.2.2⟩)
  go_wp2_with fail
  rw [HW.out]
  refine (eqfE_any 88 #[] W a.exprs b.exprs enter_se (fun x hx y u v w' hb hu hv => (ssExpr_any 100000000 (by decide) x y u v w' (Nat.le_trans (szE_mem hx) HSZ.out.1) hu hv)) _ _ W HSZ.out.2.2.2 (U1.out.below BW.out) (V1.out.below BW.out) (Below.refl _ _)).mono ?_
  rintro e w2 ⟨rfl, hb⟩
  have B2 := Lib.hid (BW.out.then_' hb)
  have P2 := Lib.hid (PW.out.below hb)
  have R2 := Lib.hid (RW.out.below hb)
  clear hb HBB BW PW RW HW
  generalize decide (a.exprs = b.exprs) = d1 at *
  cases d1 with
  | false =>
    go_wp2_with fail
    go_ret
    exact retB (by rw [HD.out]; rfl) B2.out
  | true =>
  have p6 := P2.out.cell 6 _ rfl
  have r6 := R2.out.cell 6 _ rfl
  go_wp2_with fail
  refine (IH.out a.body b.body _ _ w2 HSZ.out.2.1 (U2.out.below B2.out) (V2.out.below B2.out)).mono ?_
  rintro e w3 ⟨rfl, hb⟩
  have B3 := Lib.hid (B2.out.then_' hb)
  have P3 := Lib.hid (P2.out.below hb)
  have R3 := Lib.hid (R2.out.below hb)
  clear hb B2 P2 R2 p6 r6
  generalize decide (a.body = b.body) = d2 at *
  cases d2 with
  | false =>
    go_wp2_with fail
    go_ret
    exact retB (by rw [HD.out]; rfl) B3.out
  | true =>
  have p7 := P3.out.cell 7 _ rfl
  have r7 := R3.out.cell 7 _ rfl
  go_wp2_with fail
  refine (IH.out a.els b.els _ _ w3 HSZ.out.2.2.1 (U3.out.below B3.out) (V3.out.below B3.out)).mono ?_
  rintro e w4 ⟨rfl, hb⟩
  have B4 := Lib.hid (B3.out.then_' hb)
  clear hb B3 P3 R3 p7 r7
  generalize decide (a.els = b.els) = d3 at *
  go_wp2_with fail
  go_ret
  exact retB (by rw [HD.out]; rfl) B4.out
theorem ssStmts_any (m : Nat) (hm : m ≤ 100000000) : SSL m := by
  induction m with
  | zero => intro _ _ _ _ _ h; omega
  | succ m ih =>
  intro A B va vb w hsz hva hvb
  have IH := Lib.hid (ih (by omega))
  have HA := Lib.hid hva
  have HB := Lib.hid hvb
  have HSZ := Lib.hid hsz
  have HL : Hid (A.length ≤ 1000000000) := Lib.hid (by have := szS_len A; omega)
  clear ih hva hvb hsz
  go_enter Tryd.func68, Tryd.ntmps68
  go_wp2_with fail
  refine (eqfS_any 81 #[] w A B enter_ss (fun x hx y u1 u2 u3 v1 v2 v3 w' hb h1 h2 h3 h4 h5 h6 => ssStmt_of m (by omega) IH.out x y u1 u2 u3 v1 v2 v3 w' (by have := szS_mem hx; have := HSZ.out; omega) h1 h2 h3 h4 h5 h6) _ _ w HL.out HA.out HB.out (Below.refl _ _)).mono ?_
  rintro e w2 ⟨rfl, hb⟩
  go_wp2_with fail
  go_ret
  exact ⟨rfl, hb⟩

set_option maxHeartbeats 4000000 in
set_option maxRecDepth 100000 in
theorem ssFunc_any (a b : Fn) (u1 u2 v1 v2 : Value) (w : World) (hsz : szF a ≤ 50000000) (hu1 : NmsAt w u1 a.params) (hu2 : StsAt w u2 a.body) (hv1 : NmsAt w v1 b.params) (hv2 : StsAt w v2 b.body) :
    Calls Tryd.prog 46 #[.agg #[.string a.name, u1, u2], .agg #[.string b.name, v1, v2]] w (RetB w (decide (a = b))) := by
  obtain ⟨p1a, p1c, rfl⟩ := hu1.shape
  obtain ⟨p2a, p2c, rfl⟩ := hu2.shape
  obtain ⟨q1a, q1c, rfl⟩ := hv1.shape
  obtain ⟨q2a, q2c, rfl⟩ := hv2.shape
  have U1 := Lib.hid hu1
  have U2 := Lib.hid hu2
  have V1 := Lib.hid hv1
  have V2 := Lib.hid hv2
  have HSZ : Hid (a.params.length ≤ 1000000000 ∧ szS a.body < 100000000) := Lib.hid (by unfold szF at hsz; omega)
  clear hu1 hu2 hv1 hv2 hsz
  obtain ⟨W, hW, hB, hP, hR⟩ := two_boxes w [.string a.name, .slice p1a a.params.length p1c, .slice p2a a.body.length p2c] [.string b.name, .slice q1a b.params.length q1c, .slice q2a b.body.length q2c] 35
  have HBB : Hid (Below w.heap.size w _) := Lib.hid (hW ▸ hB)
  have HW := Lib.hid hW
  have BW := Lib.hid hB
  have PW := Lib.hid hP
  have RW := Lib.hid hR
  clear hW hB hP hR
  go_enter Tryd.func46, Tryd.ntmps46
  by_cases h : a.name = b.name
  rotate_left
  · have HD := Lib.hid (decide_eq_false (fun e : a = b => h (by rw [e])))
    have q := tstr_ne h
    clear h
    go_wp2_with fail
    go_ret
    exact retB HD.out.symm HBB.out
  have e1 := Lib.hid h
  have q0 := tstr_eq h
  clear h
  have HD : Hid (decide (a = b) = (decide (a.params = b.params) && decide (a.body = b.body))) := Lib.hid (by
    rw [← Bool.decide_and]
    exact decide_eq_decide.2 ⟨fun e => by rw [e]; exact ⟨rfl, rfl⟩, fun e => Fn.ext' e1.out e.1 e.2⟩)
  go_wp2_with fail
  rw [HW.out]
  refine (slEqual_any _ _ a.params b.params W (U1.out.below BW.out) (V1.out.below BW.out) HSZ.out.1).mono ?_
  rintro e w2 ⟨rfl, hb⟩
  have B2 := Lib.hid (BW.out.then_' hb)
  have P2 := Lib.hid (PW.out.below hb)
  have R2 := Lib.hid (RW.out.below hb)
  clear hb HBB BW PW RW HW
  generalize decide (a.params = b.params) = d1 at *
  cases d1 with
  | false =>
    go_wp2_with fail
    go_ret
    exact retB (by rw [HD.out]; rfl) B2.out
  | true =>
  have p2 := P2.out.cell 2 _ rfl
  have r2 := R2.out.cell 2 _ rfl
  go_wp2_with fail
  refine (ssStmts_any 100000000 (by decide) a.body b.body _ _ w2 HSZ.out.2 (U2.out.below B2.out) (V2.out.below B2.out)).mono ?_
  rintro e w3 ⟨rfl, hb⟩
  have B3 := Lib.hid (B2.out.then_' hb)
  clear hb B2 P2 R2 p2 r2
  generalize decide (a.body = b.body) = d2 at *
  go_wp2_with fail
  go_ret
  exact retB (by rw [HD.out]; rfl) B3.out
set_option maxHeartbeats 4000000 in
set_option maxRecDepth 100000 in
/-- Same -/
theorem ssame_any (A B : List Fn) (va vb : Value) (w : World) (hsz : szP A ≤ 50000000) (hva : FnsAt w va A) (hvb : FnsAt w vb B) : Calls Tryd.prog 22 #[.agg #[va], .agg #[vb]] w (RetB w (decide (A = B))) := by
  obtain ⟨a0, c0, rfl⟩ := hva.shape
  obtain ⟨a1, c1, rfl⟩ := hvb.shape
  have HA := Lib.hid hva
  have HB := Lib.hid hvb
  have HSZ := Lib.hid hsz
  have HL : Hid (A.length ≤ 1000000000) := Lib.hid (by have := szP_len A; omega)
  obtain ⟨W, hW, hBW, hP, hR⟩ := two_b1 w (.slice a0 A.length c0) (.slice a1 B.length c1) 26
  have HW := Lib.hid hW
  have BW := Lib.hid hBW
  clear hva hvb hsz hW hBW hP hR
  go_enter Tryd.func22, Tryd.ntmps22
  go_wp2_with fail
  rw [HW.out]
  refine (eqfF_any 46 #[] W A B enter_sf (fun x hx y u1 u2 v1 v2 w' hb h1 h2 h3 h4 => ssFunc_any x y u1 u2 v1 v2 w' (Nat.le_trans (szP_mem hx) HSZ.out) h1 h2 h3 h4) _ _ W HL.out (HA.out.below BW.out) (HB.out.below BW.out) (Below.refl _ _)).mono ?_
  rintro e w2 ⟨rfl, hb⟩
  have B2 := Lib.hid (BW.out.then_' hb)
  clear hb
  go_wp2_with fail
  go_ret
  exact ⟨rfl, B2.out⟩
end Go.Proofs.YtilholgbepfopaaDoor
/- Lists of one: what a fresh block holds. -/
namespace Go.Proofs.YtilholgbepfopaaDoor
open Go.RowKit

theorem sl_one (w : World) (cs : List Value) (t : TypeId) : SlAt (w.alloc (.cells cs.toArray t)) cs.length (.slice (some ⟨w.heap.size, 0, none⟩) 1 1) 1 cs := by
  refine .inr ⟨_, _, rfl, Nat.le_refl _, by rw [Nat.one_mul], fun j u hj => ?_⟩
  rw [addr_add, Nat.zero_add, cell_of_row _ _ j _ _ _ (heap_alloc_new w _)]
  simpa using hj
theorem ExsAt.nil (w : World) : ExsAt w (.slice none 0 0) [] := ⟨[], .inl ⟨rfl, rfl, rfl⟩, rfl⟩
theorem StsAt.nil (w : World) : StsAt w (.slice none 0 0) [] := ⟨[], .inl ⟨rfl, rfl, rfl⟩, rfl⟩
theorem FnsAt.nil (w : World) : FnsAt w (.slice none 0 0) [] := ⟨[], .inl ⟨rfl, rfl, rfl⟩, rfl⟩
theorem NmsAt.nil (w : World) : NmsAt w (.slice none 0 0) [] := .inl ⟨rfl, rfl, rfl⟩
theorem exs_one (w : World) (e : Ex) (v : Value) (h : ExsAt w v e.l) : ExsAt (w.alloc (.cells #[.int .i64 e.kind, .int .i64 e.n, .string e.name, .int .i64 e.op, v] 42)) (.slice (some ⟨w.heap.size, 0, none⟩) 1 1) [e] := by
  refine ⟨[exC e v], sl_one w (exC e v) 42, ?_⟩
  have h2 := h.below (below1 w (.cells #[.int .i64 e.kind, .int .i64 e.n, .string e.name, .int .i64 e.op, v] 42))
  unfold ExL
  refine ⟨_, [], rfl, ?_, by unfold ExL; rfl⟩
  cases e
  unfold ExAt
  exact ⟨v, rfl, h2⟩
theorem sts_one (w : World) (s : St) (u x y : Value) (hu : ExsAt w u s.exprs) (hx : StsAt w x s.body) (hy : StsAt w y s.els) : StsAt (w.alloc (.cells #[.int .i64 s.kind, .string s.name, .string s.fn, .int .i64 s.n, .int .i64 s.op, u, x, y] 40)) (.slice (some ⟨w.heap.size, 0, none⟩) 1 1) [s] := by
  refine ⟨[stC s u x y], sl_one w (stC s u x y) 40, ?_⟩
  have b := below1 w (.cells #[.int .i64 s.kind, .string s.name, .string s.fn, .int .i64 s.n, .int .i64 s.op, u, x, y] 40)
  have h1 := hu.below b
  have h2 := hx.below b
  have h3 := hy.below b
  unfold StL
  refine ⟨_, [], rfl, ?_, by unfold StL; rfl⟩
  cases s
  unfold StAt
  exact ⟨u, x, y, rfl, h1, h2, h3⟩
theorem fns_one (w : World) (f : Fn) (u x : Value) (hu : NmsAt w u f.params) (hx : StsAt w x f.body) : FnsAt (w.alloc (.cells #[.string f.name, u, x] 35)) (.slice (some ⟨w.heap.size, 0, none⟩) 1 1) [f] := by
  refine ⟨[[.string f.name, u, x]], sl_one w [.string f.name, u, x] 35, ?_⟩
  have b := below1 w (.cells #[.string f.name, u, x] 35)
  unfold FnL
  exact ⟨_, [], rfl, ⟨u, x, rfl, hu.below b, hx.below b⟩, by unfold FnL; rfl⟩
end Go.Proofs.YtilholgbepfopaaDoor
/- The sanity check of the statements on layer 5. -/
namespace Go.Proofs.YtilholgbepfopaaDoor
open Go.RowKit

def sP : Fn := ⟨⟨#[102]⟩, [⟨#[97]⟩], [.mk 1 ⟨#[98]⟩ ⟨#[]⟩ 0 0 [.mk 3 0 ⟨#[97]⟩ 0 []] [] []]⟩
theorem sP_vars : varsO sP = [⟨#[97]⟩, ⟨#[98]⟩] := by kernel_rfl
theorem sP_shp : shp [sP] = 0 := by kernel_rfl
theorem sP_shp0 : shp [] = 3 := by kernel_rfl
theorem nm_end : isNm ⟨#[101, 110, 100]⟩ = false := by kernel_rfl
theorem nm_x1 : isNm ⟨#[120, 49]⟩ = true := by kernel_rfl
theorem sP_sz : szP [sP] ≤ 5000000 := by decide
theorem sP_szF : szF sP ≤ 5000000 := by decide
theorem sP_ne : decide ([sP] = ([] : List Fn)) = false := decide_eq_false (fun e => by cases e)
theorem sP_eq : decide ([sP] = [sP]) = true := decide_eq_true rfl
theorem sP_new (w : World) : ∃ W, (((((w.alloc (.cells #[.string ⟨#[97]⟩] 9)).alloc (.cells #[.int .i64 3, .int .i64 0, .string ⟨#[97]⟩, .int .i64 0, .slice none 0 0] 42)).alloc
      (.cells #[.int .i64 1, .string ⟨#[98]⟩, .string ⟨#[]⟩, .int .i64 0, .int .i64 0, .slice (some ⟨w.heap.size + 1, 0, none⟩) 1 1, .slice none 0 0, .slice none 0 0] 40)).alloc
      (.cells #[.string ⟨#[102]⟩, .slice (some ⟨w.heap.size, 0, none⟩) 1 1, .slice (some ⟨w.heap.size + 1 + 1, 0, none⟩) 1 1] 35)).alloc (.cells #[.slice (some ⟨w.heap.size + 1 + 1 + 1, 0, none⟩) 1 1] 26)) = W ∧
    Below w.heap.size w W ∧ NmsAt W (.slice (some ⟨w.heap.size, 0, none⟩) 1 1) sP.params ∧ StsAt W (.slice (some ⟨w.heap.size + 1 + 1, 0, none⟩) 1 1) sP.body ∧ FnsAt W (.slice (some ⟨w.heap.size + 1 + 1 + 1, 0, none⟩) 1 1) [sP] ∧
    CsT W (w.heap.size + 1 + 1 + 1 + 1) [.slice (some ⟨w.heap.size + 1 + 1 + 1, 0, none⟩) 1 1] 26 := by
  have b1 := below1 w (.cells #[.string ⟨#[97]⟩] 9)
  have h1 : NmsAt _ _ sP.params := nms_at1 w ⟨#[97]⟩
  have z1 : (w.alloc (.cells #[.string ⟨#[97]⟩] 9)).heap.size = w.heap.size + 1 := by simp
  generalize w.alloc (.cells #[.string ⟨#[97]⟩] 9) = w1 at *
  have b2 := below1 w1 (.cells #[.int .i64 3, .int .i64 0, .string ⟨#[97]⟩, .int .i64 0, .slice none 0 0] 42)
  have h2 := exs_one w1 (.mk 3 0 ⟨#[97]⟩ 0 []) (.slice none 0 0) (ExsAt.nil _)
  simp only [Ex.kind, Ex.n, Ex.name, Ex.op] at h2
  have z2 : (w1.alloc (.cells #[.int .i64 3, .int .i64 0, .string ⟨#[97]⟩, .int .i64 0, .slice none 0 0] 42)).heap.size = w1.heap.size + 1 := by simp
  generalize w1.alloc (.cells #[.int .i64 3, .int .i64 0, .string ⟨#[97]⟩, .int .i64 0, .slice none 0 0] 42) = w2 at *
  rw [z1] at h2 z2
  have b3 := below1 w2 (.cells #[.int .i64 1, .string ⟨#[98]⟩, .string ⟨#[]⟩, .int .i64 0, .int .i64 0, .slice (some ⟨w.heap.size + 1, 0, none⟩) 1 1, .slice none 0 0, .slice none 0 0] 40)
  have h3 := sts_one w2 (.mk 1 ⟨#[98]⟩ ⟨#[]⟩ 0 0 [.mk 3 0 ⟨#[97]⟩ 0 []] [] []) _ (.slice none 0 0) (.slice none 0 0) h2 (StsAt.nil _) (StsAt.nil _)
  simp only [St.kind, St.name, St.fn, St.n, St.op] at h3
  have z3 : (w2.alloc (.cells #[.int .i64 1, .string ⟨#[98]⟩, .string ⟨#[]⟩, .int .i64 0, .int .i64 0, .slice (some ⟨w.heap.size + 1, 0, none⟩) 1 1, .slice none 0 0, .slice none 0 0] 40)).heap.size = w2.heap.size + 1 := by simp
  generalize w2.alloc (.cells #[.int .i64 1, .string ⟨#[98]⟩, .string ⟨#[]⟩, .int .i64 0, .int .i64 0, .slice (some ⟨w.heap.size + 1, 0, none⟩) 1 1, .slice none 0 0, .slice none 0 0] 40) = w3 at *
  rw [z2] at h3 z3
  have b4 := below1 w3 (.cells #[.string ⟨#[102]⟩, .slice (some ⟨w.heap.size, 0, none⟩) 1 1, .slice (some ⟨w.heap.size + 1 + 1, 0, none⟩) 1 1] 35)
  have h4 := fns_one w3 sP (.slice (some ⟨w.heap.size, 0, none⟩) 1 1) (.slice (some ⟨w.heap.size + 1 + 1, 0, none⟩) 1 1) ((h1.below b2).below b3) h3
  have z4 : (w3.alloc (.cells #[.string ⟨#[102]⟩, .slice (some ⟨w.heap.size, 0, none⟩) 1 1, .slice (some ⟨w.heap.size + 1 + 1, 0, none⟩) 1 1] 35)).heap.size = w3.heap.size + 1 := by simp
  simp only [sP] at h4
  generalize w3.alloc (.cells #[.string ⟨#[102]⟩, .slice (some ⟨w.heap.size, 0, none⟩) 1 1, .slice (some ⟨w.heap.size + 1 + 1, 0, none⟩) 1 1] 35) = w4 at *
  rw [z3] at h4 z4
  have b5 := below1 w4 (.cells #[.slice (some ⟨w.heap.size + 1 + 1 + 1, 0, none⟩) 1 1] 26)
  have h5 := CsT.new w4 [.slice (some ⟨w.heap.size + 1 + 1 + 1, 0, none⟩) 1 1] 26
  rw [z4] at h5
  exact ⟨_, rfl, (((b1.then_' b2).then_' b3).then_' b4).then_' b5, (((h1.below b2).below b3).below b4).below b5, (h3.below b4).below b5, h4.below b5, h5⟩

set_option maxHeartbeats 4000000 in
set_option maxRecDepth 100000 in
theorem sane5_any (w : World) (hg : Glob w) : Calls Tryd.prog 9 #[] w (RetB w true) := by
  obtain ⟨W, hW, hB, hN, hS, hF, hP⟩ := sP_new w
  have HW := Lib.hid hW
  have B1 := Lib.hid hB
  have N1 := Lib.hid hN
  have S1 := Lib.hid hS
  have F1 := Lib.hid hF
  have P1 := Lib.hid hP
  have HG := Lib.hid (hg.below hB)
  have HSV := Lib.hid sP_vars
  have HSS := Lib.hid sP_shp
  clear hg hW hB hN hS hF hP
  go_enter Tryd.func9, Tryd.ntmps9
  go_wp2_with fail
  rw [HW.out]
  refine (svars_any sP _ _ W sP_szF N1.out S1.out).mono ?_
  rw [HSV.out]
  rintro e w2 ⟨a2, n2, c2, rfl, hown, hb⟩
  have hn2 : n2 = 2 := by obtain ⟨a', c', e1⟩ := hown.at_.shape; exact (Value.slice.inj e1).2.1
  subst hn2
  have OW := Lib.hid hown
  have B2 := Lib.hid hb
  have F2 := Lib.hid (F1.out.below hb)
  have P2 := Lib.hid (P1.out.below hb)
  have p0 := P2.out.at_.cell 0 _ rfl
  have BB2 := Lib.hid (B1.out.then_' hb)
  clear hown hb
  go_wp2_with fail
  refine (shaped_any [sP] _ w2 sP_sz F2.out (HG.out.below B2.out)).mono ?_
  rw [HSS.out]
  rintro e w3 ⟨rfl, hb⟩
  have BB3 := Lib.hid (BB2.out.then_' hb)
  have G3 := Lib.hid (HG.out.below (B2.out.then_' hb))
  have F3 := Lib.hid (F2.out.below hb)
  have P3 := Lib.hid (P2.out.below hb)
  obtain ⟨b, o, c', hv, _, hcell⟩ := (OW.out.at_.below hb).elem (k := 1) (s := ⟨#[98]⟩) rfl
  obtain ⟨rfl, -, rfl⟩ := Value.slice.inj hv
  clear hb hv p0
  go_wp2_with fail
  refine (sname_any _ w3 G3.out).mono ?_
  rw [nm_end]
  rintro e w4 ⟨rfl, hb⟩
  have BB4 := Lib.hid (BB3.out.then_' hb)
  have G4 := Lib.hid (G3.out.below hb)
  have F4 := Lib.hid (F3.out.below hb)
  have P4 := Lib.hid (P3.out.below hb)
  clear hb hcell BB3 G3 F3 P3
  go_wp2_with fail
  refine (sname_any _ w4 G4.out).mono ?_
  rw [nm_x1]
  rintro e w5 ⟨rfl, hb⟩
  have BB5 := Lib.hid (BB4.out.then_' hb)
  have G5 := Lib.hid (G4.out.below hb)
  have F5 := Lib.hid (F4.out.below hb)
  have P5 := Lib.hid (P4.out.below hb)
  clear hb BB4 G4 F4 P4
  go_wp2_with fail
  refine (shaped_any [] _ w5 (by decide) (FnsAt.nil _) G5.out).mono ?_
  rw [sP_shp0]
  rintro e w6 ⟨rfl, hb⟩
  have BB6 := Lib.hid (BB5.out.then_' hb)
  have F6 := Lib.hid (F5.out.below hb)
  have P6 := Lib.hid (P5.out.below hb)
  have p0 := P6.out.at_.cell 0 _ rfl
  clear hb BB5 G5 F5 P5
  go_wp2_with fail
  refine (ssame_any [sP] [sP] _ _ w6 (by decide) F6.out F6.out).mono ?_
  rw [sP_eq]
  rintro e w7 ⟨rfl, hb⟩
  have BB7 := Lib.hid (BB6.out.then_' hb)
  have F7 := Lib.hid (F6.out.below hb)
  have P7 := Lib.hid (P6.out.below hb)
  have p1 := P7.out.at_.cell 0 _ rfl
  clear hb BB6 F6 P6 p0
  go_wp2_with fail
  refine (ssame_any [sP] [] _ _ w7 (by decide) F7.out (FnsAt.nil _)).mono ?_
  rw [sP_ne]
  rintro e w8 ⟨rfl, hb⟩
  have BB8 := Lib.hid (BB7.out.then_' hb)
  clear hb BB7 F7 P7 p1
  go_wp2_with fail
  go_ret
  exact ⟨rfl, BB8.out⟩
end Go.Proofs.YtilholgbepfopaaDoor
/- The names that the rows' list lays. -/
namespace Go.Proofs.YtilholgbepfopaaDoor
open Go.ChangeShapes Go.WideShapes Go.ChangeAt Go.RowKit

theorem own_knob : ownKnob Tryd.prog.godebug = none := by kernel_rfl
theorem laid_out : laidOutB Tryd.prog = true := by kernel_rfl
theorem gNames : Tryd.prog.globalNamed "speculate/value.names" = some 0 := by kernel_rfl
theorem gNamesType : (Tryd.prog.globals[0]?).map (·.type) = some 102 := by kernel_rfl
theorem cellsNames : Tryd.prog.cellsOf 102 = 11 := by kernel_rfl
theorem cellsStr : Tryd.prog.cellsOf 9 = 1 := by kernel_rfl

set_option maxRecDepth 100000 in
theorem string_cells {H : Type} {enc : TypeId × Value → H} {W : World} {base : Nat} {sp : Nat → Bool} {held : Bool} {fuel : Nat} {cs : List Value} {parts : List (DataW H)} {p : List MemPlace}
    (h : DataW.trod enc Tryd.prog W base sp held fuel 102 cs = some (.agg parts, p)) : cs.length = 11 ∧ ∀ i, i < 11 → ∃ s : ByteArray, cs[i]? = some (.string s) ∧ parts[i]? = some (.lit (.string s.data.toList)) := by
  obtain _ | n := fuel
  · cases h
  · unfold DataW.trod at h
    rw [Tryd.underlying102] at h
    dsimp only at h
    rw [cellsNames, cellsStr] at h
    by_cases hl : cs.length = 11
    · refine ⟨hl, fun i hi => ?_⟩
      simp only [hl, if_pos, Option.map_eq_some_iff] at h
      obtain ⟨ys, hys, he⟩ := h
      obtain ⟨y, hy, hread⟩ := Lib.mapM_at hys i i (by simp [hi])
      obtain ⟨s, hcell, rfl, _⟩ := DataW.trod_string Tryd.underlying9 hread
      obtain ⟨hp, _⟩ := Prod.mk.inj he
      injection hp with hp
      subst hp
      refine ⟨s, ?_, by rw [List.getElem?_map, hy]; rfl⟩
      have := congrArg List.head? hcell
      rw [List.head?_take, if_neg (by decide), List.head?_drop] at this
      simpa using this
    · rw [if_neg hl] at h
      cases h

theorem bl_same {a b : ByteArray} (h : a.data.toList = b.data.toList) : a = b := by
  cases a
  cases b
  exact congrArg ByteArray.mk (Array.toList_inj.1 h)
set_option maxRecDepth 100000 in
theorem glob_of_list {W : World} {L : List (String × DataW Unit)} (hL : L = [("speculate/value.names", .agg (nmL.map fun z => .lit (.string z.data.toList)))]) (h : laidMetH Tryd.prog L W) : Glob W := by
  subst hL
  rw [MakeChecks.laidMetH_plain _ _ _ (by kernel_rfl)] at h
  obtain ⟨ps, ⟨g', t', cs, fuel, p, q, hg', ht', hvar, hd, _, _⟩, _⟩ := h
  obtain rfl := Option.some.inj (gNames.symm.trans hg')
  obtain rfl := Option.some.inj (gNamesType.symm.trans ht')
  obtain ⟨hlen, hcell⟩ := string_cells hd
  have hcs : cs.toList = nmL.map Value.string := by
    apply List.ext_getElem?
    intro i
    rcases Nat.lt_or_ge i 11 with hi | hi
    · obtain ⟨s, h1, h2⟩ := hcell i hi
      rw [h1]
      rw [List.getElem?_map] at h2 ⊢
      cases hz : nmL[i]? with
      | none => rw [hz] at h2; cases h2
      | some z =>
        rw [hz] at h2
        have hs : z.data.toList = s.data.toList := by simpa using h2
        have : z = s := bl_same hs
        rw [this]
        rfl
    · rw [List.getElem?_eq_none (by omega), List.getElem?_eq_none (by simp [nmL]; omega)]
  simp only [World.var?, gNames, Option.bind_some] at hvar
  split at hvar
  · rename_i cs' t fr hb
    obtain rfl := Option.some.inj hvar
    refine ⟨t, fr, ?_⟩
    rw [hb]
    congr 2
    apply Array.ext'
    rw [hcs]
    rfl
  · cases hvar
theorem u8_nat {n : Int} (h : (Lit.int .u8 n).wf = true) : ∃ k : Nat, n = (k : Int) ∧ k ≤ 255 := by
  obtain ⟨h0, h1⟩ := bounds_u8 h
  exact ⟨n.toNat, by omega, by omega⟩
theorem upto_of {H : Type} {ds : List (DataW H)} (h : Rows.uptoSmall H ds = true) : Rows.uptoBulkAll ds ≤ 1048576 := of_decide_eq_true h
section
variable {H : Type} {enc : TypeId × Value → H} {W : World} {v : Value} {d : DataW H} {p : List MemPlace}
theorem back {t : TypeId} (hr : Tryd.prog.readableRec t = true) (hrow : t < Tryd.prog.types.size) {W' : World} (h : DataW.Trod enc Tryd.prog W 0 (fun _ => true) true t v d p) (hb : Below W.heap.size W W') (hlt : ∀ x ∈ p, x.block < W.heap.size) : DataW.Trod enc Tryd.prog W' 0 (fun b => decide (b < W.heap.size)) true t v d p :=
  Below.trod laid_out hr hrow h hb hlt
end
end Go.Proofs.YtilholgbepfopaaDoor
/- Rows of trees that a call owns; what stands though other blocks change. -/
namespace Go.Proofs.YtilholgbepfopaaDoor
open Go.RowKit

/-- w' has the blocks P of w as they were -/
def Agree (P : Nat → Prop) (w w' : World) : Prop := w.heap.size ≤ w'.heap.size ∧ ∀ k, P k → k < w.heap.size → w'.heap[k]? = w.heap[k]?
theorem Agree.refl (P : Nat → Prop) (w : World) : Agree P w w := ⟨Nat.le_refl _, fun _ _ _ => rfl⟩
theorem Agree.trans {P : Nat → Prop} {w w1 w2 : World} (h : Agree P w w1) (h2 : Agree P w1 w2) : Agree P w w2 := ⟨Nat.le_trans h.1 h2.1, fun k hp hk => (h2.2 k hp (Nat.lt_of_lt_of_le hk h.1)).trans (h.2 k hp hk)⟩
theorem Agree.of_below {P : Nat → Prop} {w w' : World} (h : Below w.heap.size w w') : Agree P w w' := ⟨h.size, fun k _ hk => h.block k hk⟩
theorem Agree.of_grown {P : Nat → Prop} {w w' : World} {r : Option Nat} (h : w.grownBy w' r) (hr : ∀ g, r = some g → ¬ P g) : Agree P w w' := ⟨h.size, fun k hp hk => h.block k hk (fun e => hr k e.symm hp)⟩
theorem Agree.mono {P Q : Nat → Prop} {w w' : World} (h : Agree Q w w') (hp : ∀ k, k < w.heap.size → P k → Q k) : Agree P w w' := ⟨h.1, fun k h1 hk => h.2 k (hp k hk h1) hk⟩
theorem Agree.set {P : Nat → Prop} (w : World) {p : Addr} (hp : ¬ P p.block) (u : Value) : Agree P w (w.setCell p u) := ⟨by simp [World.setCell], fun k h1 _ => Below.heap_setCell w p u k (by rintro rfl; exact hp h1)⟩
/-- T holds, and in all worlds that have the blocks P as they are -/
def InP (P : Nat → Prop) (w : World) (T : World → Prop) : Prop := ∀ w', Agree P w w' → T w'
theorem InP.here {P : Nat → Prop} {w : World} {T : World → Prop} (h : InP P w T) : T w := h w (Agree.refl _ _)
theorem InP.step {P : Nat → Prop} {w w' : World} {T : World → Prop} (h : InP P w T) (ha : Agree P w w') : InP P w' T := fun w2 h2 => h w2 (ha.trans h2)
theorem InP.mono {P Q : Nat → Prop} {w : World} {T : World → Prop} (h : InP P w T) (hp : ∀ k, k < w.heap.size → P k → Q k) : InP Q w T := fun w2 h2 => h w2 (h2.mono hp)
theorem SlAt.agree {P : Nat → Prop} {w w' : World} {sz : Nat} {v : Value} {n : Nat} {xs : List Value} (h : SlAt w sz v n xs) (ha : Agree P w w') (hp : ∀ a n c, v = .slice (some a) n c → P a.block) : SlAt w' sz v n xs := by
  rcases h with h | ⟨ad, c, rfl, hnc, hl, hc⟩
  · exact .inl h
  · refine .inr ⟨ad, c, rfl, hnc, hl, fun j u hj => ?_⟩
    have hlt := World.block_lt_of_cell? w _ (hc j u hj)
    have hb : (ad.add j).block = ad.block := by unfold Addr.add; split <;> rfl
    refine (World.cell?_of_block ?_).trans (hc j u hj)
    rw [hb] at hlt ⊢
    exact ha.2 _ (hp _ _ _ rfl) hlt
theorem own_block {w : World} {base : Nat} {e : TypeId} {sz n : Nat} {v : Value} {xs : List Value} (h : w.ownsRow base e sz v n xs) : ∀ a n' c, v = .slice (some a) n' c → v.ownBlock = some a.block ∧ base ≤ a.block := by
  rintro a n' c rfl
  rcases h.2 with ⟨e1, _⟩ | ⟨g, cap, cur, e1, hbg, _⟩
  · cases e1
  · obtain ⟨e2, -, -⟩ := Value.slice.inj e1
    obtain rfl := Option.some.inj e2
    exact ⟨rfl, hbg⟩

theorem ExL_append {w : World} {l m : List Ex} {c d : List (List Value)} (h : ExL w l c) (h2 : ExL w m d) : ExL w (l ++ m) (c ++ d) := by
  induction l generalizing c with
  | nil => unfold ExL at h; subst h; exact h2
  | cons x l ih =>
    unfold ExL at h
    obtain ⟨c0, r, rfl, h3, h4⟩ := h
    show ExL w (x :: (l ++ m)) (c0 :: (r ++ d))
    unfold ExL
    exact ⟨c0, _, rfl, h3, ih h4⟩
/-- the list l, in a row that the call owns; all that it refers to lies from block B on, and not in the row -/
def ExsOwn (w : World) (B : Nat) (v : Value) (l : List Ex) : Prop := ∃ css : List (List Value), w.ownsRow B 42 5 v l.length css.flatten ∧ InP (fun k => B ≤ k ∧ v.ownBlock ≠ some k) w (fun w => ExL w l css)
theorem ExsOwn.nil (w : World) (B : Nat) : ExsOwn w B (.slice none 0 0) [] := ⟨[], World.ownsRow_nil w B 42 5, fun _ _ => by unfold ExL; rfl⟩
theorem ExsOwn.in_ {w : World} {B : Nat} {v : Value} {l : List Ex} (h : ExsOwn w B v l) : InP (fun k => B ≤ k) w (fun w => ExsAt w v l) := by
  obtain ⟨css, h1, h2⟩ := h
  exact fun w' ha => ⟨css, (own_sl h1).agree ha (fun a n c e => (own_block h1 a n c e).2), h2 w' (ha.mono (fun k _ h => h.1))⟩
theorem ExsOwn.at_ {w : World} {B : Nat} {v : Value} {l : List Ex} (h : ExsOwn w B v l) : ExsAt w v l := h.in_.here
theorem ExsOwn.below {w w' : World} {B : Nat} {v : Value} {l : List Ex} (h : ExsOwn w B v l) (hb : Below w.heap.size w w') : ExsOwn w' B v l := by
  obtain ⟨css, h1, h2⟩ := h
  exact ⟨css, own_below h1 hb, h2.step (.of_below hb)⟩
/-- the row stays where neither it nor what lies from B on is touched -/
theorem ExsOwn.agree {w w' : World} {B : Nat} {v : Value} {l : List Ex} (h : ExsOwn w B v l) (ha : Agree (fun k => B ≤ k) w w') : ExsOwn w' B v l := by
  obtain ⟨css, h1, h2⟩ := h
  refine ⟨css, ⟨h1.1, ?_⟩, h2.step (ha.mono (fun k _ h => h.1))⟩
  rcases h1.2 with hn | ⟨g, cap, cur, rfl, hbg, hgg, rest⟩
  · exact .inl hn
  · exact .inr ⟨g, cap, cur, rfl, hbg, by rw [ha.2 g hbg (Array.getElem?_eq_some_iff.1 hgg).1]; exact hgg, rest⟩
theorem info_Ex : (Tryd.prog.info? 42).map (fun i => (i.zero, i.size, i.bytes)) = some (some (.agg #[.int .i64 0, .int .i64 0, .string ⟨#[]⟩, .int .i64 0, .slice none 0 0]), 5, 64) := by kernel_rfl
theorem ExL_one {w : World} {l : List Ex} {css : List (List Value)} (h : ExL w l css) : ∀ u ∈ css.flatten, u.oneCell' = true := by
  induction l generalizing css with
  | nil => unfold ExL at h; subst h; simp
  | cons x l ih =>
    unfold ExL at h
    obtain ⟨c0, r, rfl, h3, h4⟩ := h
    intro u hu
    rw [List.flatten_cons] at hu
    rcases List.mem_append.1 hu with hu | hu
    · cases x
      unfold ExAt at h3
      obtain ⟨v, rfl, css', h5, _⟩ := h3
      obtain ⟨a', c', rfl⟩ := h5.shape
      simp only [List.mem_cons, List.not_mem_nil, or_false] at hu
      rcases hu with rfl | rfl | rfl | rfl | rfl <;> rfl
    · exact ih h4 u hu
section
variable {w : World} {ops : Array Oper} {rest : List Oper} {o : Oper} {a : Act} {Q : Exit → Act → World → Prop}
/-- append(l, m...) -/
theorem appE (hgd : o.guard = none) (s x : Operand) (ho : o.op = .call { callee := .builtin .append, args := #[s, x], argTypes := #[38, 38] })
    (B : Nat) (v : Value) (l : List Ex) (hs : a.eval s = v) (hown : ExsOwn w B v l) (xv : Value) (m : List Ex) (hxe : a.eval x = xv) (hxl : ∃ css, SlAt w 5 xv m.length css.flatten ∧ InP (fun k => B ≤ k ∧ v.ownBlock ≠ some k) w (fun w => ExL w m css)) (hn : l.length + m.length ≤ 1000000000) (hbase : B ≤ w.heap.size)
    (h : ∀ v' w', ExsOwn w' B v' (l ++ m) → w.grownBy w' v.ownBlock → (v'.ownBlock = v.ownBlock ∨ v'.ownBlock = some w.heap.size) → wpList Tryd.prog ops Q rest (a.put o.dst v') w') :
    wpList Tryd.prog ops Q (o :: rest) a w := by
  obtain ⟨css, h1, h2⟩ := hown
  obtain ⟨dss, h3, h4⟩ := hxl
  refine wpList_append_sl hgd s x 38 ho B 42 _ 5 64 Tryd.underlying38 info_Ex rfl (by decide) v l.length _ hs h1 xv m.length _ hxe h3 (ExL_one h4.here) (by unfold maxLen; omega) (by omega) hbase ?_
  intro v' w' h5 h6 h7
  refine h v' w' ⟨css ++ dss, ?_, ?_⟩ h6 h7
  · rw [List.length_append, List.flatten_append]
    exact h5
  · have hag : ∀ w2, Agree (fun k => B ≤ k ∧ v'.ownBlock ≠ some k) w' w2 → Agree (fun k => B ≤ k ∧ v.ownBlock ≠ some k) w w2 := fun w2 h8 => by
      refine ⟨Nat.le_trans h6.size h8.1, fun k hk hkw => ?_⟩
      have e1 := h6.block k hkw (fun e => hk.2 e.symm)
      refine (h8.2 k ⟨hk.1, fun e => ?_⟩ (Nat.lt_of_lt_of_le hkw h6.size)).trans e1
      rcases h7 with h7 | h7
      · rw [h7] at e; exact hk.2 e
      · rw [h7] at e; have := Option.some.inj e; omega
    exact fun w2 h8 => ExL_append (h2 w2 (hag w2 h8)) (h4 w2 (hag w2 h8))
end

theorem StL_append {w : World} {l m : List St} {c d : List (List Value)} (h : StL w l c) (h2 : StL w m d) : StL w (l ++ m) (c ++ d) := by
  induction l generalizing c with
  | nil => unfold StL at h; subst h; exact h2
  | cons x l ih =>
    unfold StL at h
    obtain ⟨c0, r, rfl, h3, h4⟩ := h
    show StL w (x :: (l ++ m)) (c0 :: (r ++ d))
    unfold StL
    exact ⟨c0, _, rfl, h3, ih h4⟩
/-- the list l, in a row that the call owns; all that it refers to lies from block B on, and not in the row -/
def StsOwn (w : World) (B : Nat) (v : Value) (l : List St) : Prop := ∃ css : List (List Value), w.ownsRow B 40 8 v l.length css.flatten ∧ InP (fun k => B ≤ k ∧ v.ownBlock ≠ some k) w (fun w => StL w l css)
theorem StsOwn.nil (w : World) (B : Nat) : StsOwn w B (.slice none 0 0) [] := ⟨[], World.ownsRow_nil w B 40 8, fun _ _ => by unfold StL; rfl⟩
theorem StsOwn.in_ {w : World} {B : Nat} {v : Value} {l : List St} (h : StsOwn w B v l) : InP (fun k => B ≤ k) w (fun w => StsAt w v l) := by
  obtain ⟨css, h1, h2⟩ := h
  exact fun w' ha => ⟨css, (own_sl h1).agree ha (fun a n c e => (own_block h1 a n c e).2), h2 w' (ha.mono (fun k _ h => h.1))⟩
theorem StsOwn.at_ {w : World} {B : Nat} {v : Value} {l : List St} (h : StsOwn w B v l) : StsAt w v l := h.in_.here
theorem StsOwn.below {w w' : World} {B : Nat} {v : Value} {l : List St} (h : StsOwn w B v l) (hb : Below w.heap.size w w') : StsOwn w' B v l := by
  obtain ⟨css, h1, h2⟩ := h
  exact ⟨css, own_below h1 hb, h2.step (.of_below hb)⟩
/-- the row stays where neither it nor what lies from B on is touched -/
theorem StsOwn.agree {w w' : World} {B : Nat} {v : Value} {l : List St} (h : StsOwn w B v l) (ha : Agree (fun k => B ≤ k) w w') : StsOwn w' B v l := by
  obtain ⟨css, h1, h2⟩ := h
  refine ⟨css, ⟨h1.1, ?_⟩, h2.step (ha.mono (fun k _ h => h.1))⟩
  rcases h1.2 with hn | ⟨g, cap, cur, rfl, hbg, hgg, rest⟩
  · exact .inl hn
  · exact .inr ⟨g, cap, cur, rfl, hbg, by rw [ha.2 g hbg (Array.getElem?_eq_some_iff.1 hgg).1]; exact hgg, rest⟩
theorem info_St : (Tryd.prog.info? 40).map (fun i => (i.zero, i.size, i.bytes)) = some (some (.agg #[.int .i64 0, .string ⟨#[]⟩, .string ⟨#[]⟩, .int .i64 0, .int .i64 0, .slice none 0 0, .slice none 0 0, .slice none 0 0]), 8, 128) := by kernel_rfl
theorem StL_one {w : World} {l : List St} {css : List (List Value)} (h : StL w l css) : ∀ u ∈ css.flatten, u.oneCell' = true := by
  induction l generalizing css with
  | nil => unfold StL at h; subst h; simp
  | cons x l ih =>
    unfold StL at h
    obtain ⟨c0, r, rfl, h3, h4⟩ := h
    intro u hu
    rw [List.flatten_cons] at hu
    rcases List.mem_append.1 hu with hu | hu
    · cases x
      unfold StAt at h3
      obtain ⟨v1, v2, v3, rfl, h5, ⟨c2, h6, _⟩, ⟨c3, h7, _⟩⟩ := h3
      obtain ⟨a', c', rfl⟩ := h5.shape
      obtain ⟨a', c', rfl⟩ := h6.shape
      obtain ⟨a', c', rfl⟩ := h7.shape
      simp only [List.mem_cons, List.not_mem_nil, or_false] at hu
      rcases hu with rfl | rfl | rfl | rfl | rfl | rfl | rfl | rfl <;> rfl
    · exact ih h4 u hu
section
variable {w : World} {ops : Array Oper} {rest : List Oper} {o : Oper} {a : Act} {Q : Exit → Act → World → Prop}
/-- append(l, m...) -/
theorem appS (hgd : o.guard = none) (s x : Operand) (ho : o.op = .call { callee := .builtin .append, args := #[s, x], argTypes := #[33, 33] })
    (B : Nat) (v : Value) (l : List St) (hs : a.eval s = v) (hown : StsOwn w B v l) (xv : Value) (m : List St) (hxe : a.eval x = xv) (hxl : ∃ css, SlAt w 8 xv m.length css.flatten ∧ InP (fun k => B ≤ k ∧ v.ownBlock ≠ some k) w (fun w => StL w m css)) (hn : l.length + m.length ≤ 1000000000) (hbase : B ≤ w.heap.size)
    (h : ∀ v' w', StsOwn w' B v' (l ++ m) → w.grownBy w' v.ownBlock → (v'.ownBlock = v.ownBlock ∨ v'.ownBlock = some w.heap.size) → wpList Tryd.prog ops Q rest (a.put o.dst v') w') :
    wpList Tryd.prog ops Q (o :: rest) a w := by
  obtain ⟨css, h1, h2⟩ := hown
  obtain ⟨dss, h3, h4⟩ := hxl
  refine wpList_append_sl hgd s x 33 ho B 40 _ 8 128 Tryd.underlying33 info_St rfl (by decide) v l.length _ hs h1 xv m.length _ hxe h3 (StL_one h4.here) (by unfold maxLen; omega) (by omega) hbase ?_
  intro v' w' h5 h6 h7
  refine h v' w' ⟨css ++ dss, ?_, ?_⟩ h6 h7
  · rw [List.length_append, List.flatten_append]
    exact h5
  · have hag : ∀ w2, Agree (fun k => B ≤ k ∧ v'.ownBlock ≠ some k) w' w2 → Agree (fun k => B ≤ k ∧ v.ownBlock ≠ some k) w w2 := fun w2 h8 => by
      refine ⟨Nat.le_trans h6.size h8.1, fun k hk hkw => ?_⟩
      have e1 := h6.block k hkw (fun e => hk.2 e.symm)
      refine (h8.2 k ⟨hk.1, fun e => ?_⟩ (Nat.lt_of_lt_of_le hkw h6.size)).trans e1
      rcases h7 with h7 | h7
      · rw [h7] at e; exact hk.2 e
      · rw [h7] at e; have := Option.some.inj e; omega
    exact fun w2 h8 => StL_append (h2 w2 (hag w2 h8)) (h4 w2 (hag w2 h8))
end

theorem FnL_append {w : World} {l m : List Fn} {c d : List (List Value)} (h : FnL w l c) (h2 : FnL w m d) : FnL w (l ++ m) (c ++ d) := by
  induction l generalizing c with
  | nil => unfold FnL at h; subst h; exact h2
  | cons x l ih =>
    unfold FnL at h
    obtain ⟨c0, r, rfl, h3, h4⟩ := h
    show FnL w (x :: (l ++ m)) (c0 :: (r ++ d))
    unfold FnL
    exact ⟨c0, _, rfl, h3, ih h4⟩
/-- the list l, in a row that the call owns; all that it refers to lies from block B on, and not in the row -/
def FnsOwn (w : World) (B : Nat) (v : Value) (l : List Fn) : Prop := ∃ css : List (List Value), w.ownsRow B 35 3 v l.length css.flatten ∧ InP (fun k => B ≤ k ∧ v.ownBlock ≠ some k) w (fun w => FnL w l css)
theorem FnsOwn.nil (w : World) (B : Nat) : FnsOwn w B (.slice none 0 0) [] := ⟨[], World.ownsRow_nil w B 35 3, fun _ _ => by unfold FnL; rfl⟩
theorem FnsOwn.in_ {w : World} {B : Nat} {v : Value} {l : List Fn} (h : FnsOwn w B v l) : InP (fun k => B ≤ k) w (fun w => FnsAt w v l) := by
  obtain ⟨css, h1, h2⟩ := h
  exact fun w' ha => ⟨css, (own_sl h1).agree ha (fun a n c e => (own_block h1 a n c e).2), h2 w' (ha.mono (fun k _ h => h.1))⟩
theorem FnsOwn.at_ {w : World} {B : Nat} {v : Value} {l : List Fn} (h : FnsOwn w B v l) : FnsAt w v l := h.in_.here
theorem FnsOwn.below {w w' : World} {B : Nat} {v : Value} {l : List Fn} (h : FnsOwn w B v l) (hb : Below w.heap.size w w') : FnsOwn w' B v l := by
  obtain ⟨css, h1, h2⟩ := h
  exact ⟨css, own_below h1 hb, h2.step (.of_below hb)⟩
/-- the row stays where neither it nor what lies from B on is touched -/
theorem FnsOwn.agree {w w' : World} {B : Nat} {v : Value} {l : List Fn} (h : FnsOwn w B v l) (ha : Agree (fun k => B ≤ k) w w') : FnsOwn w' B v l := by
  obtain ⟨css, h1, h2⟩ := h
  refine ⟨css, ⟨h1.1, ?_⟩, h2.step (ha.mono (fun k _ h => h.1))⟩
  rcases h1.2 with hn | ⟨g, cap, cur, rfl, hbg, hgg, rest⟩
  · exact .inl hn
  · exact .inr ⟨g, cap, cur, rfl, hbg, by rw [ha.2 g hbg (Array.getElem?_eq_some_iff.1 hgg).1]; exact hgg, rest⟩
theorem info_Fn : (Tryd.prog.info? 35).map (fun i => (i.zero, i.size, i.bytes)) = some (some (.agg #[.string ⟨#[]⟩, .slice none 0 0, .slice none 0 0]), 3, 64) := by kernel_rfl
theorem FnL_one {w : World} {l : List Fn} {css : List (List Value)} (h : FnL w l css) : ∀ u ∈ css.flatten, u.oneCell' = true := by
  induction l generalizing css with
  | nil => unfold FnL at h; subst h; simp
  | cons x l ih =>
    unfold FnL at h
    obtain ⟨c0, r, rfl, h3, h4⟩ := h
    intro u hu
    rw [List.flatten_cons] at hu
    rcases List.mem_append.1 hu with hu | hu
    · obtain ⟨v1, v2, rfl, h5, h6⟩ := h3
      obtain ⟨a', c', rfl⟩ := h5.shape
      obtain ⟨a', c', rfl⟩ := h6.shape
      simp only [List.mem_cons, List.not_mem_nil, or_false] at hu
      rcases hu with rfl | rfl | rfl <;> rfl
    · exact ih h4 u hu
section
variable {w : World} {ops : Array Oper} {rest : List Oper} {o : Oper} {a : Act} {Q : Exit → Act → World → Prop}
/-- append(l, m...) -/
theorem appF (hgd : o.guard = none) (s x : Operand) (ho : o.op = .call { callee := .builtin .append, args := #[s, x], argTypes := #[24, 24] })
    (B : Nat) (v : Value) (l : List Fn) (hs : a.eval s = v) (hown : FnsOwn w B v l) (xv : Value) (m : List Fn) (hxe : a.eval x = xv) (hxl : ∃ css, SlAt w 3 xv m.length css.flatten ∧ InP (fun k => B ≤ k ∧ v.ownBlock ≠ some k) w (fun w => FnL w m css)) (hn : l.length + m.length ≤ 1000000000) (hbase : B ≤ w.heap.size)
    (h : ∀ v' w', FnsOwn w' B v' (l ++ m) → w.grownBy w' v.ownBlock → (v'.ownBlock = v.ownBlock ∨ v'.ownBlock = some w.heap.size) → wpList Tryd.prog ops Q rest (a.put o.dst v') w') :
    wpList Tryd.prog ops Q (o :: rest) a w := by
  obtain ⟨css, h1, h2⟩ := hown
  obtain ⟨dss, h3, h4⟩ := hxl
  refine wpList_append_sl hgd s x 24 ho B 35 _ 3 64 Tryd.underlying24 info_Fn rfl (by decide) v l.length _ hs h1 xv m.length _ hxe h3 (FnL_one h4.here) (by unfold maxLen; omega) (by omega) hbase ?_
  intro v' w' h5 h6 h7
  refine h v' w' ⟨css ++ dss, ?_, ?_⟩ h6 h7
  · rw [List.length_append, List.flatten_append]
    exact h5
  · have hag : ∀ w2, Agree (fun k => B ≤ k ∧ v'.ownBlock ≠ some k) w' w2 → Agree (fun k => B ≤ k ∧ v.ownBlock ≠ some k) w w2 := fun w2 h8 => by
      refine ⟨Nat.le_trans h6.size h8.1, fun k hk hkw => ?_⟩
      have e1 := h6.block k hkw (fun e => hk.2 e.symm)
      refine (h8.2 k ⟨hk.1, fun e => ?_⟩ (Nat.lt_of_lt_of_le hkw h6.size)).trans e1
      rcases h7 with h7 | h7
      · rw [h7] at e; exact hk.2 e
      · rw [h7] at e; have := Option.some.inj e; omega
    exact fun w2 h8 => FnL_append (h2 w2 (hag w2 h8)) (h4 w2 (hag w2 h8))
end
theorem CsT.agree {P : Nat → Prop} {w w' : World} {b : Nat} {cs : List Value} {t : TypeId} (h : CsT w b cs t) (ha : Agree P w w') (hp : P b) : CsT w' b cs t := (ha.2 b hp h.lt).trans h
theorem sl_cst {w : World} {b : Nat} {cs : List Value} {t : TypeId} (h : CsT w b cs t) : SlAt w cs.length (.slice (some ⟨b, 0, none⟩) 1 1) 1 cs :=
  .inr ⟨_, _, rfl, Nat.le_refl _, by rw [Nat.one_mul], fun j u hj => by rw [addr_add, Nat.zero_add]; exact h.at_.cell j u hj⟩
theorem exl_one {w : World} (e : Ex) {v : Value} (h : ExsAt w v e.l) : ExL w [e] [exC e v] := by
  unfold ExL
  refine ⟨_, [], rfl, ?_, by unfold ExL; rfl⟩
  cases e
  unfold ExAt
  exact ⟨v, rfl, h⟩
theorem stl_one {w : World} (s : St) {u x y : Value} (hu : ExsAt w u s.exprs) (hx : StsAt w x s.body) (hy : StsAt w y s.els) : StL w [s] [stC s u x y] := by
  unfold StL
  refine ⟨_, [], rfl, ?_, by unfold StL; rfl⟩
  cases s
  unfold StAt
  exact ⟨u, x, y, rfl, hu, hx, hy⟩
theorem fnl_one {w : World} (f : Fn) {u x : Value} (hu : NmsAt w u f.params) (hx : StsAt w x f.body) : FnL w [f] [[.string f.name, u, x]] := by
  unfold FnL
  exact ⟨_, [], rfl, ⟨u, x, rfl, hu, hx⟩, by unfold FnL; rfl⟩
section
variable {P : Nat → Prop} {w : World} {b : Nat}
theorem exs_in (e : Ex) {v : Value} (h : CsT w b (exC e v) 42) (hp : P b) (hv : InP P w (fun w => ExsAt w v e.l)) : InP P w (fun w => ExsAt w (.slice (some ⟨b, 0, none⟩) 1 1) [e]) :=
  fun w' ha => ⟨[exC e v], sl_cst (h.agree ha hp), exl_one e (hv w' ha)⟩
theorem sts_in (s : St) {u x y : Value} (h : CsT w b (stC s u x y) 40) (hp : P b) (hu : InP P w (fun w => ExsAt w u s.exprs)) (hx : InP P w (fun w => StsAt w x s.body)) (hy : InP P w (fun w => StsAt w y s.els)) : InP P w (fun w => StsAt w (.slice (some ⟨b, 0, none⟩) 1 1) [s]) :=
  fun w' ha => ⟨[stC s u x y], sl_cst (h.agree ha hp), stl_one s (hu w' ha) (hx w' ha) (hy w' ha)⟩
theorem exs_nil_in : InP P w (fun w => ExsAt w (.slice none 0 0) []) := fun _ _ => ExsAt.nil _
theorem sts_nil_in : InP P w (fun w => StsAt w (.slice none 0 0) []) := fun _ _ => StsAt.nil _
end
end Go.Proofs.YtilholgbepfopaaDoor
/- A program that comes in. -/
namespace Go.Proofs.YtilholgbepfopaaDoor
open Go.RowKit Go.ChangeShapes Go.WideShapes

theorem bulk_pos {H : Type} (d : DataW H) : 1 ≤ Rows.uptoBulk d := by
  cases d with
  | lit l => cases l <;> simp [Rows.uptoBulk]
  | _ => simp [Rows.uptoBulk]
theorem bulkAll_append {H : Type} (l m : List (DataW H)) : Rows.uptoBulkAll (l ++ m) = Rows.uptoBulkAll l + Rows.uptoBulkAll m := by
  induction l with
  | nil => simp [Rows.uptoBulkAll]
  | cons x l ih => simp only [List.cons_append, Rows.uptoBulkAll, ih]; omega
theorem bulkAll_mem {H : Type} {l : List (DataW H)} {d : DataW H} (h : d ∈ l) : Rows.uptoBulk d ≤ Rows.uptoBulkAll l := by
  induction l with
  | nil => cases h
  | cons x l ih =>
    simp only [Rows.uptoBulkAll]
    rcases List.mem_cons.1 h with rfl | h
    · omega
    · have := ih h; omega
mutual
/-- no name of a tree is longer than this -/
def okE (B : Nat) : Ex → Prop
  | .mk _ _ nm _ l => nm.size ≤ B ∧ okEL B l
def okEL (B : Nat) : List Ex → Prop
  | [] => True
  | e :: l => okE B e ∧ okEL B l
end
mutual
def okS (B : Nat) : St → Prop
  | .mk _ nm fn _ _ es b e => nm.size ≤ B ∧ fn.size ≤ B ∧ okEL B es ∧ okSL B b ∧ okSL B e
def okSL (B : Nat) : List St → Prop
  | [] => True
  | s :: l => okS B s ∧ okSL B l
end
def okF (B : Nat) (f : Fn) : Prop := f.name.size ≤ B ∧ (∀ s ∈ f.params, s.size ≤ B) ∧ okSL B f.body
def okFL (B : Nat) : List Fn → Prop
  | [] => True
  | f :: l => okF B f ∧ okFL B l
/-- cells of a slice of structs, from each one's -/
theorem sl_flat {w : World} {a : Addr} {len cap sz : Nat} (hs : 0 < sz) (hl : len ≤ cap) (css : List (List Value)) (hc : css.length = len) (h5 : ∀ c ∈ css, c.length = sz) (h : ∀ i c, css[i]? = some c → ∀ j u, c[j]? = some u → w.cell? (a.add (i * sz + j)) = some u) :
    SlAt w sz (.slice (some a) len cap) len css.flatten := by
  refine .inr ⟨a, cap, rfl, hl, by rw [flatten_len h5, hc], fun j u hj => ?_⟩
  have hjl : j < css.length * sz := by
    have := (List.getElem?_eq_some_iff.1 hj).1
    rwa [flatten_len h5] at this
  have hk : j / sz < css.length := Nat.div_lt_of_lt_mul (by rw [Nat.mul_comm]; exact hjl)
  have hm := Nat.mod_lt j hs
  have e0 : j / sz * sz + j % sz = j := by rw [Nat.mul_comm]; exact Nat.div_add_mod j sz
  have hcc : css[j / sz]? = some css[j / sz] := List.getElem?_eq_getElem hk
  have := h _ _ hcc (j % sz) u (by rw [← flatten_at h5 hcc hm, e0]; exact hj)
  rwa [e0] at this
section
variable {H : Type} {enc : TypeId × Value → H} {w : World} {base : Nat} {spare : Nat → Bool} {held : Bool}
theorem trod_s5 {P : Program} {t : TypeId} {f0 f1 f2 f3 f4 : Field} {fuel : Nat} {cs : List Value} {x : DataW H × List MemPlace} (ht : P.underlying t = some (.struct #[f0, f1, f2, f3, f4])) (h : DataW.trod enc P w base spare held fuel t cs = some x) :
    ∃ y0 y1 y2 y3 y4 n, x.1 = .agg [y0.1, y1.1, y2.1, y3.1, y4.1] ∧ cs.length = P.cellsOf t ∧ DataW.trod enc P w base spare held n f0.type ((cs.drop f0.offset).take (P.cellsOf f0.type)) = some y0 ∧ DataW.trod enc P w base spare held n f1.type ((cs.drop f1.offset).take (P.cellsOf f1.type)) = some y1 ∧ DataW.trod enc P w base spare held n f2.type ((cs.drop f2.offset).take (P.cellsOf f2.type)) = some y2 ∧ DataW.trod enc P w base spare held n f3.type ((cs.drop f3.offset).take (P.cellsOf f3.type)) = some y3 ∧ DataW.trod enc P w base spare held n f4.type ((cs.drop f4.offset).take (P.cellsOf f4.type)) = some y4 := by
  obtain ⟨xs, n, _, rfl, hl, hlen, hf⟩ := DataW.trod_struct ht h
  match xs, hlen with
  | [y0, y1, y2, y3, y4], _ => exact ⟨y0, y1, y2, y3, y4, n, by simp, hl, by simpa using hf 0 f0 rfl, by simpa using hf 1 f1 rfl, by simpa using hf 2 f2 rfl, by simpa using hf 3 f3 rfl, by simpa using hf 4 f4 rfl⟩
theorem trod_s3 {P : Program} {t : TypeId} {f0 f1 f2 : Field} {fuel : Nat} {cs : List Value} {x : DataW H × List MemPlace} (ht : P.underlying t = some (.struct #[f0, f1, f2])) (h : DataW.trod enc P w base spare held fuel t cs = some x) :
    ∃ y0 y1 y2 n, x.1 = .agg [y0.1, y1.1, y2.1] ∧ cs.length = P.cellsOf t ∧ DataW.trod enc P w base spare held n f0.type ((cs.drop f0.offset).take (P.cellsOf f0.type)) = some y0 ∧ DataW.trod enc P w base spare held n f1.type ((cs.drop f1.offset).take (P.cellsOf f1.type)) = some y1 ∧ DataW.trod enc P w base spare held n f2.type ((cs.drop f2.offset).take (P.cellsOf f2.type)) = some y2 := by
  obtain ⟨xs, n, _, rfl, hl, hlen, hf⟩ := DataW.trod_struct ht h
  match xs, hlen with
  | [y0, y1, y2], _ => exact ⟨y0, y1, y2, n, by simp, hl, by simpa using hf 0 f0 rfl, by simpa using hf 1 f1 rfl, by simpa using hf 2 f2 rfl⟩
theorem trod_s8 {P : Program} {t : TypeId} {f0 f1 f2 f3 f4 f5 f6 f7 : Field} {fuel : Nat} {cs : List Value} {x : DataW H × List MemPlace} (ht : P.underlying t = some (.struct #[f0, f1, f2, f3, f4, f5, f6, f7])) (h : DataW.trod enc P w base spare held fuel t cs = some x) :
    ∃ y0 y1 y2 y3 y4 y5 y6 y7 n, x.1 = .agg [y0.1, y1.1, y2.1, y3.1, y4.1, y5.1, y6.1, y7.1] ∧ cs.length = P.cellsOf t ∧ DataW.trod enc P w base spare held n f0.type ((cs.drop f0.offset).take (P.cellsOf f0.type)) = some y0 ∧ DataW.trod enc P w base spare held n f1.type ((cs.drop f1.offset).take (P.cellsOf f1.type)) = some y1 ∧ DataW.trod enc P w base spare held n f2.type ((cs.drop f2.offset).take (P.cellsOf f2.type)) = some y2 ∧ DataW.trod enc P w base spare held n f3.type ((cs.drop f3.offset).take (P.cellsOf f3.type)) = some y3 ∧ DataW.trod enc P w base spare held n f4.type ((cs.drop f4.offset).take (P.cellsOf f4.type)) = some y4 ∧ DataW.trod enc P w base spare held n f5.type ((cs.drop f5.offset).take (P.cellsOf f5.type)) = some y5 ∧ DataW.trod enc P w base spare held n f6.type ((cs.drop f6.offset).take (P.cellsOf f6.type)) = some y6 ∧ DataW.trod enc P w base spare held n f7.type ((cs.drop f7.offset).take (P.cellsOf f7.type)) = some y7 := by
  obtain ⟨xs, n, _, rfl, hl, hlen, hf⟩ := DataW.trod_struct ht h
  match xs, hlen with
  | [y0, y1, y2, y3, y4, y5, y6, y7], _ => exact ⟨y0, y1, y2, y3, y4, y5, y6, y7, n, by simp, hl, by simpa using hf 0 f0 rfl, by simpa using hf 1 f1 rfl, by simpa using hf 2 f2 rfl, by simpa using hf 3 f3 rfl, by simpa using hf 4 f4 rfl, by simpa using hf 5 f5 rfl, by simpa using hf 6 f6 rfl, by simpa using hf 7 f7 rfl⟩

/-- cells that stand in memory, one by one -/
theorem cells_at {a : Addr} {i sz : Nat} {cs : List Value} (h : w.cells? base (a.add (i * sz)) sz = some cs) : cs.length = sz ∧ ∀ j u, cs[j]? = some u → w.cell? (a.add (i * sz + j)) = some u := by
  obtain ⟨_, h1, hat⟩ := World.cells?_some h
  refine ⟨h1, fun j u hj => ?_⟩
  have hlt : j < sz := by have := (List.getElem?_eq_some_iff.1 hj).1; omega
  have := hat j hlt
  rw [Deep.add_add, hj] at this
  exact this

/-- a slice, opened at every index: each element with its cells and what is told of it -/
theorem open_sl {t e : TypeId} {sz : Nat} (ht : Tryd.prog.underlying t = some (.slice e)) (hC : Tryd.prog.cellsOf e = sz) (hs : 0 < sz) {α : Type} [Inhabited α] (Q : α → List Value → DataW H → Prop) (M : Nat)
    (hel : ∀ (n : Nat) (cs : List Value) (x : DataW H × List MemPlace), Rows.uptoBulk x.1 + 1 ≤ M → DataW.trod enc Tryd.prog w base spare held n e cs = some x → ∃ a, Q a cs x.1)
    {fuel : Nat} {cs : List Value} {x : DataW H × List MemPlace} (h : DataW.trod enc Tryd.prog w base spare held fuel t cs = some x) (hb : Rows.uptoBulk x.1 ≤ M) :
    ∃ (ad : Option Addr) (c : Nat) (T : List (α × List Value × DataW H)), cs = [.slice ad T.length c] ∧ SlAt w sz (.slice ad T.length c) T.length (T.map (·.2.1)).flatten ∧ (∀ t ∈ T, Q t.1 t.2.1 t.2.2) ∧ (∀ t ∈ T, t.2.1.length = sz) ∧ Rows.uptoBulkAll (T.map (·.2.2)) + 1 ≤ Rows.uptoBulk x.1 := by
  rcases Deep.open_slice ht h with ⟨rfl, hx⟩ | ⟨a, len, cap, m, n, D, Pl, rfl, _, hl, _, hm, hx, hat⟩
  · exact ⟨none, 0, [], rfl, .inl ⟨rfl, rfl, rfl⟩, by simp, by simp, by rw [hx]; simp [Rows.uptoBulk, Rows.uptoBulkAll]⟩
  · have hlm : len ≤ m := by rw [hm]; split <;> omega
    have hxb : Rows.uptoBulkAll ((List.range len).map D) + 1 ≤ Rows.uptoBulk x.1 := by rw [hx]; simp only [Rows.uptoBulk]; omega
    have hD : ∀ i, i < len → Rows.uptoBulk (D i) + 1 ≤ M := fun i hi => by
      have := bulkAll_mem (List.mem_map.2 ⟨i, List.mem_range.2 hi, rfl⟩ : D i ∈ (List.range len).map D)
      omega
    obtain ⟨F, hF⟩ := Deep.choose_lt (α := α × List Value) (n := len) (p := fun i y => Q y.1 y.2 (D i) ∧ y.2.length = sz ∧ ∀ j u, y.2[j]? = some u → w.cell? (a.add (i * sz + j)) = some u) (fun i hi => by
      obtain ⟨cs', h1, h2⟩ := hat i (by omega)
      rw [hC] at h1
      obtain ⟨h3, h4⟩ := cells_at h1
      obtain ⟨y, hy⟩ := hel n cs' (D i, Pl i) (hD i hi) h2
      exact ⟨(y, cs'), hy, h3, h4⟩)
    have hT : ((List.range len).map fun i => ((F i).1, (F i).2, D i)).length = len := by simp
    refine ⟨some a, cap, (List.range len).map fun i => ((F i).1, (F i).2, D i), by rw [hT], ?_, ?_, ?_, ?_⟩
    · rw [hT]
      refine sl_flat hs hl _ (by simp) ?_ ?_
      · intro c hc
        simp only [List.map_map, List.mem_map, List.mem_range, Function.comp] at hc
        obtain ⟨i, hi, rfl⟩ := hc
        exact (hF i hi).2.1
      · intro i c hc j u hj
        rw [List.map_map, List.getElem?_map] at hc
        rcases Nat.lt_or_ge i len with hi | hi
        · rw [List.getElem?_range hi] at hc
          obtain rfl := Option.some.inj hc
          exact (hF i hi).2.2 j u hj
        · rw [List.getElem?_eq_none (by simpa using hi)] at hc
          cases hc
    · intro t ht
      obtain ⟨i, hi, rfl⟩ := List.mem_map.1 ht
      exact (hF i (List.mem_range.1 hi)).1
    · intro t ht
      obtain ⟨i, hi, rfl⟩ := List.mem_map.1 ht
      exact (hF i (List.mem_range.1 hi)).2.1
    · rw [List.map_map]
      exact hxb
theorem five {cs : List Value} (hl : cs.length = 5) {u0 u1 u2 u3 u4 : Value} (e0 : (cs.drop 0).take 1 = [u0]) (e1 : (cs.drop 1).take 1 = [u1]) (e2 : (cs.drop 2).take 1 = [u2]) (e3 : (cs.drop 3).take 1 = [u3]) (e4 : (cs.drop 4).take 1 = [u4]) : cs = [u0, u1, u2, u3, u4] := by
  match cs, hl with
  | [c0, c1, c2, c3, c4], _ => simp at e0 e1 e2 e3 e4; rw [e0, e1, e2, e3, e4]
theorem eight {cs : List Value} (hl : cs.length = 8) {u0 u1 u2 u3 u4 u5 u6 u7 : Value} (e0 : (cs.drop 0).take 1 = [u0]) (e1 : (cs.drop 1).take 1 = [u1]) (e2 : (cs.drop 2).take 1 = [u2]) (e3 : (cs.drop 3).take 1 = [u3]) (e4 : (cs.drop 4).take 1 = [u4])
    (e5 : (cs.drop 5).take 1 = [u5]) (e6 : (cs.drop 6).take 1 = [u6]) (e7 : (cs.drop 7).take 1 = [u7]) : cs = [u0, u1, u2, u3, u4, u5, u6, u7] := by
  match cs, hl with
  | [c0, c1, c2, c3, c4, c5, c6, c7], _ => simp at e0 e1 e2 e3 e4 e5 e6 e7; rw [e0, e1, e2, e3, e4, e5, e6, e7]
theorem three {cs : List Value} (hl : cs.length = 3) {u0 u1 u2 : Value} (e0 : (cs.drop 0).take 1 = [u0]) (e1 : (cs.drop 1).take 1 = [u1]) (e2 : (cs.drop 2).take 1 = [u2]) : cs = [u0, u1, u2] := by
  match cs, hl with
  | [c0, c1, c2], _ => simp at e0 e1 e2; rw [e0, e1, e2]
instance : Inhabited Ex := ⟨.mk 0 0 ⟨#[]⟩ 0 []⟩
instance : Inhabited St := ⟨.mk 0 ⟨#[]⟩ ⟨#[]⟩ 0 0 [] [] []⟩
instance : Inhabited Fn := ⟨⟨⟨#[]⟩, [], []⟩⟩
theorem c_int : Tryd.prog.cellsOf 3 = 1 := by kernel_rfl
theorem c_i64 : Tryd.prog.cellsOf 2 = 1 := by kernel_rfl
theorem c_str : Tryd.prog.cellsOf 9 = 1 := by kernel_rfl
theorem c_exs : Tryd.prog.cellsOf 38 = 1 := by kernel_rfl
theorem c_sts : Tryd.prog.cellsOf 33 = 1 := by kernel_rfl
theorem c_nms : Tryd.prog.cellsOf 32 = 1 := by kernel_rfl
theorem c_fns : Tryd.prog.cellsOf 24 = 1 := by kernel_rfl
/-- an expression's cells and what is told of it -/
def QE (w : World) (B : Nat) (e : Ex) (cs : List Value) (d : DataW H) : Prop := ExAt w e cs ∧ e.sz ≤ Rows.uptoBulk d ∧ okE B e
theorem exl_of {B : Nat} {T : List (Ex × List Value × DataW H)} (h : ∀ t ∈ T, QE w B t.1 t.2.1 t.2.2) : ExL w (T.map (·.1)) (T.map (·.2.1)) ∧ szE (T.map (·.1)) ≤ Rows.uptoBulkAll (T.map (·.2.2)) ∧ okEL B (T.map (·.1)) := by
  induction T with
  | nil => simp [ExL, szE, okEL]
  | cons t T ih =>
    obtain ⟨h1, h2, h3⟩ := ih (fun x hx => h x (List.mem_cons_of_mem _ hx))
    obtain ⟨h4, h5, h6⟩ := h t (List.mem_cons_self ..)
    simp only [List.map_cons]
    refine ⟨?_, ?_, ?_⟩
    · unfold ExL; exact ⟨_, _, rfl, h4, h1⟩
    · unfold szE; simp only [Rows.uptoBulkAll]; omega
    · unfold okEL; exact ⟨h6, h3⟩
theorem open_es_of {M B : Nat} (hel : ∀ (n : Nat) (cs : List Value) (x : DataW H × List MemPlace), Rows.uptoBulk x.1 + 1 ≤ M → DataW.trod enc Tryd.prog w base spare held n 42 cs = some x → ∃ e, QE w B e cs x.1)
    {fuel : Nat} {cs : List Value} {x : DataW H × List MemPlace} (h : DataW.trod enc Tryd.prog w base spare held fuel 38 cs = some x) (hb : Rows.uptoBulk x.1 ≤ M) : ∃ v l, cs = [v] ∧ ExsAt w v l ∧ szE l + 1 ≤ Rows.uptoBulk x.1 ∧ okEL B l := by
  obtain ⟨ad, c, T, e1, h1, h2, h3, h4⟩ := open_sl Tryd.underlying38 (show Tryd.prog.cellsOf 42 = 5 by kernel_rfl) (by decide) (fun e cs d => QE w B e cs d) M hel h hb
  obtain ⟨h5, h6, h7⟩ := exl_of h2
  refine ⟨_, T.map (·.1), e1, ⟨_, ?_, h5⟩, by omega, h7⟩
  rw [List.length_map]
  exact h1
theorem open_E (B m : Nat) (hB : m ≤ B) : ∀ (fuel : Nat) (cs : List Value) (x : DataW H × List MemPlace), Rows.uptoBulk x.1 ≤ m → DataW.trod enc Tryd.prog w base spare held fuel 42 cs = some x → ∃ e, QE w B e cs x.1 := by
  induction m with
  | zero => intro _ _ x h; have := bulk_pos x.1; omega
  | succ m ih =>
    intro fuel cs x hm h
    obtain ⟨y0, y1, y2, y3, y4, n, hx, hl, h0, h1, h2, h3, h4⟩ := trod_s5 Tryd.underlying42 h
    obtain ⟨k, e0, d0, _⟩ := DataW.trod_int Tryd.underlying3 h0
    obtain ⟨i, e1, d1, _⟩ := DataW.trod_int Tryd.underlying2 h1
    obtain ⟨s, e2, d2, _⟩ := DataW.trod_string Tryd.underlying9 h2
    obtain ⟨o, e3, d3, _⟩ := DataW.trod_int Tryd.underlying3 h3
    rw [c_int] at e0 e3
    rw [c_i64] at e1
    rw [c_str] at e2
    have hb : Rows.uptoBulk x.1 = Rows.uptoBulk y0.1 + (Rows.uptoBulk y1.1 + (Rows.uptoBulk y2.1 + (Rows.uptoBulk y3.1 + Rows.uptoBulk y4.1))) + 1 := by rw [hx]; simp only [Rows.uptoBulk, Rows.uptoBulkAll, Nat.add_zero]
    have hs : s.size + 1 ≤ Rows.uptoBulk y2.1 := by rw [d2]; simp [Rows.uptoBulk]
    obtain ⟨v, l, e4, hv, hz, hok⟩ := open_es_of (M := m) (B := B) (fun n cs x hx h => ih (by omega) n cs x (by omega) h) h4 (by have := bulk_pos y0.1; omega)
    rw [c_exs] at e4
    refine ⟨.mk k i s o l, ?_, ?_, ?_⟩
    · rw [five (hl.trans (by kernel_rfl)) e0 e1 e2 e3 e4]
      unfold ExAt
      exact ⟨v, rfl, hv⟩
    · rw [Ex.sz]; omega
    · unfold okE; exact ⟨by omega, hok⟩
theorem open_es (B m : Nat) (hB : m ≤ B) {fuel : Nat} {cs : List Value} {x : DataW H × List MemPlace} (hm : Rows.uptoBulk x.1 ≤ m) (h : DataW.trod enc Tryd.prog w base spare held fuel 38 cs = some x) : ∃ v l, cs = [v] ∧ ExsAt w v l ∧ szE l + 1 ≤ Rows.uptoBulk x.1 ∧ okEL B l :=
  open_es_of (fun n cs x hx h => open_E B m hB n cs x (by omega) h) h hm
/-- a statement's cells and what is told of it -/
def QS (w : World) (B : Nat) (s : St) (cs : List Value) (d : DataW H) : Prop := StAt w s cs ∧ s.sz ≤ Rows.uptoBulk d ∧ okS B s
theorem stl_of {B : Nat} {T : List (St × List Value × DataW H)} (h : ∀ t ∈ T, QS w B t.1 t.2.1 t.2.2) : StL w (T.map (·.1)) (T.map (·.2.1)) ∧ szS (T.map (·.1)) ≤ Rows.uptoBulkAll (T.map (·.2.2)) ∧ okSL B (T.map (·.1)) := by
  induction T with
  | nil => simp [StL, szS, okSL]
  | cons t T ih =>
    obtain ⟨h1, h2, h3⟩ := ih (fun x hx => h x (List.mem_cons_of_mem _ hx))
    obtain ⟨h4, h5, h6⟩ := h t (List.mem_cons_self ..)
    simp only [List.map_cons]
    refine ⟨?_, ?_, ?_⟩
    · unfold StL; exact ⟨_, _, rfl, h4, h1⟩
    · unfold szS; simp only [Rows.uptoBulkAll]; omega
    · unfold okSL; exact ⟨h6, h3⟩
theorem open_ss_of {M B : Nat} (hel : ∀ (n : Nat) (cs : List Value) (x : DataW H × List MemPlace), Rows.uptoBulk x.1 + 1 ≤ M → DataW.trod enc Tryd.prog w base spare held n 40 cs = some x → ∃ s, QS w B s cs x.1)
    {fuel : Nat} {cs : List Value} {x : DataW H × List MemPlace} (h : DataW.trod enc Tryd.prog w base spare held fuel 33 cs = some x) (hb : Rows.uptoBulk x.1 ≤ M) : ∃ v l, cs = [v] ∧ StsAt w v l ∧ szS l + 1 ≤ Rows.uptoBulk x.1 ∧ okSL B l := by
  obtain ⟨ad, c, T, e1, h1, h2, h3, h4⟩ := open_sl Tryd.underlying33 (show Tryd.prog.cellsOf 40 = 8 by kernel_rfl) (by decide) (fun e cs d => QS w B e cs d) M hel h hb
  obtain ⟨h5, h6, h7⟩ := stl_of h2
  refine ⟨_, T.map (·.1), e1, ⟨_, ?_, h5⟩, by omega, h7⟩
  rw [List.length_map]
  exact h1
theorem open_S (B m : Nat) (hB : m ≤ B) : ∀ (fuel : Nat) (cs : List Value) (x : DataW H × List MemPlace), Rows.uptoBulk x.1 ≤ m → DataW.trod enc Tryd.prog w base spare held fuel 40 cs = some x → ∃ s, QS w B s cs x.1 := by
  induction m with
  | zero => intro _ _ x h; have := bulk_pos x.1; omega
  | succ m ih =>
    intro fuel cs x hm h
    obtain ⟨y0, y1, y2, y3, y4, y5, y6, y7, n, hx, hl, h0, h1, h2, h3, h4, h5, h6, h7⟩ := trod_s8 Tryd.underlying40 h
    obtain ⟨k, e0, d0, _⟩ := DataW.trod_int Tryd.underlying3 h0
    obtain ⟨s, e1, d1, _⟩ := DataW.trod_string Tryd.underlying9 h1
    obtain ⟨f, e2, d2, _⟩ := DataW.trod_string Tryd.underlying9 h2
    obtain ⟨i, e3, d3, _⟩ := DataW.trod_int Tryd.underlying2 h3
    obtain ⟨o, e4, d4, _⟩ := DataW.trod_int Tryd.underlying3 h4
    rw [c_int] at e0 e4
    rw [c_i64] at e3
    rw [c_str] at e1 e2
    have hb : Rows.uptoBulk x.1 = Rows.uptoBulk y0.1 + (Rows.uptoBulk y1.1 + (Rows.uptoBulk y2.1 + (Rows.uptoBulk y3.1 + (Rows.uptoBulk y4.1 + (Rows.uptoBulk y5.1 + (Rows.uptoBulk y6.1 + Rows.uptoBulk y7.1)))))) + 1 := by rw [hx]; simp only [Rows.uptoBulk, Rows.uptoBulkAll, Nat.add_zero]
    have hs : s.size + 1 ≤ Rows.uptoBulk y1.1 := by rw [d1]; simp [Rows.uptoBulk]
    have hf : f.size + 1 ≤ Rows.uptoBulk y2.1 := by rw [d2]; simp [Rows.uptoBulk]
    obtain ⟨v5, l5, e5, hv5, hz5, hok5⟩ := open_es B B (Nat.le_refl _) (by omega) h5
    obtain ⟨v6, l6, e6, hv6, hz6, hok6⟩ := open_ss_of (M := m) (B := B) (fun n cs x hx h => ih (by omega) n cs x (by omega) h) h6 (by have := bulk_pos y0.1; omega)
    obtain ⟨v7, l7, e7, hv7, hz7, hok7⟩ := open_ss_of (M := m) (B := B) (fun n cs x hx h => ih (by omega) n cs x (by omega) h) h7 (by have := bulk_pos y0.1; omega)
    rw [c_exs] at e5
    rw [c_sts] at e6 e7
    refine ⟨.mk k s f i o l5 l6 l7, ?_, ?_, ?_⟩
    · rw [eight (hl.trans (by kernel_rfl)) e0 e1 e2 e3 e4 e5 e6 e7]
      unfold StAt
      exact ⟨v5, v6, v7, rfl, hv5, hv6, hv7⟩
    · rw [St.sz]; omega
    · unfold okS; exact ⟨by omega, by omega, hok5, hok6, hok7⟩
theorem open_ss (B m : Nat) (hB : m ≤ B) {fuel : Nat} {cs : List Value} {x : DataW H × List MemPlace} (hm : Rows.uptoBulk x.1 ≤ m) (h : DataW.trod enc Tryd.prog w base spare held fuel 33 cs = some x) : ∃ v l, cs = [v] ∧ StsAt w v l ∧ szS l + 1 ≤ Rows.uptoBulk x.1 ∧ okSL B l :=
  open_ss_of (fun n cs x hx h => open_S B m hB n cs x (by omega) h) h hm
theorem nms_of {T : List (ByteArray × List Value × DataW H)} (h : ∀ t ∈ T, t.2.1 = [Value.string t.1] ∧ t.1.size + 1 ≤ Rows.uptoBulk t.2.2) : (T.map (·.2.1)).flatten = (T.map (·.1)).map Value.string ∧ T.length ≤ Rows.uptoBulkAll (T.map (·.2.2)) ∧ ∀ s ∈ T.map (·.1), s.size + 1 ≤ Rows.uptoBulkAll (T.map (·.2.2)) := by
  induction T with
  | nil => simp
  | cons t T ih =>
    obtain ⟨h1, h2, h3⟩ := ih (fun x hx => h x (List.mem_cons_of_mem _ hx))
    obtain ⟨h4, h5⟩ := h t (List.mem_cons_self ..)
    simp only [List.map_cons, List.flatten_cons, List.length_cons, Rows.uptoBulkAll]
    refine ⟨by rw [h4, h1]; rfl, by omega, fun s hs => ?_⟩
    rcases List.mem_cons.1 hs with rfl | hs
    · omega
    · have := h3 s hs; omega
theorem open_ns (B : Nat) {fuel : Nat} {cs : List Value} {x : DataW H × List MemPlace} (hm : Rows.uptoBulk x.1 ≤ B) (h : DataW.trod enc Tryd.prog w base spare held fuel 32 cs = some x) : ∃ v l, cs = [v] ∧ NmsAt w v l ∧ l.length + 1 ≤ Rows.uptoBulk x.1 ∧ ∀ s ∈ l, s.size ≤ B := by
  obtain ⟨ad, c, T, e1, h1, h2, h3, h4⟩ := open_sl (α := ByteArray) Tryd.underlying32 (show Tryd.prog.cellsOf 9 = 1 by kernel_rfl) (by decide) (fun s cs d => cs = [Value.string s] ∧ s.size + 1 ≤ Rows.uptoBulk d) B (fun n cs x _ h => by
    have hl := DataW.trod_string Tryd.underlying9 h
    obtain ⟨s, e, d, _⟩ := hl
    exact ⟨s, e, by rw [d]; simp [Rows.uptoBulk]⟩) h hm
  obtain ⟨h5, h6, h7⟩ := nms_of h2
  refine ⟨_, T.map (·.1), e1, ?_, by rw [List.length_map]; omega, fun s hs => by have := h7 s hs; omega⟩
  unfold NmsAt
  rw [List.length_map, ← h5]
  exact h1
def QF (w : World) (B : Nat) (f : Fn) (cs : List Value) (d : DataW H) : Prop := FnAt w f cs ∧ szF f ≤ Rows.uptoBulk d ∧ okF B f
theorem fnl_of {B : Nat} {T : List (Fn × List Value × DataW H)} (h : ∀ t ∈ T, QF w B t.1 t.2.1 t.2.2) : FnL w (T.map (·.1)) (T.map (·.2.1)) ∧ szP (T.map (·.1)) ≤ Rows.uptoBulkAll (T.map (·.2.2)) ∧ okFL B (T.map (·.1)) := by
  induction T with
  | nil => simp [FnL, szP, okFL]
  | cons t T ih =>
    obtain ⟨h1, h2, h3⟩ := ih (fun x hx => h x (List.mem_cons_of_mem _ hx))
    obtain ⟨h4, h5, h6⟩ := h t (List.mem_cons_self ..)
    simp only [List.map_cons]
    refine ⟨?_, ?_, ?_⟩
    · unfold FnL; exact ⟨_, _, rfl, h4, h1⟩
    · unfold szP; simp only [Rows.uptoBulkAll]; omega
    · unfold okFL; exact ⟨h6, h3⟩
theorem open_F (B : Nat) : ∀ (fuel : Nat) (cs : List Value) (x : DataW H × List MemPlace), Rows.uptoBulk x.1 ≤ B → DataW.trod enc Tryd.prog w base spare held fuel 35 cs = some x → ∃ f, QF w B f cs x.1 := by
  intro fuel cs x hm h
  obtain ⟨y0, y1, y2, n, hx, hl, h0, h1, h2⟩ := trod_s3 Tryd.underlying35 h
  obtain ⟨s, e0, d0, _⟩ := DataW.trod_string Tryd.underlying9 h0
  rw [c_str] at e0
  have hb : Rows.uptoBulk x.1 = Rows.uptoBulk y0.1 + (Rows.uptoBulk y1.1 + Rows.uptoBulk y2.1) + 1 := by rw [hx]; simp only [Rows.uptoBulk, Rows.uptoBulkAll, Nat.add_zero]
  have hs : s.size + 1 ≤ Rows.uptoBulk y0.1 := by rw [d0]; simp [Rows.uptoBulk]
  obtain ⟨v1, l1, e1, hv1, hz1, hok1⟩ := open_ns B (by omega) h1
  obtain ⟨v2, l2, e2, hv2, hz2, hok2⟩ := open_ss B B (Nat.le_refl _) (by omega) h2
  rw [c_nms] at e1
  rw [c_sts] at e2
  refine ⟨⟨s, l1, l2⟩, ?_, ?_, ?_⟩
  · rw [three (hl.trans (by kernel_rfl)) e0 e1 e2]
    exact ⟨v1, v2, rfl, hv1, hv2⟩
  · unfold szF; simp only; omega
  · exact ⟨by simp only; omega, hok1, hok2⟩
theorem open_fs (B : Nat) {fuel : Nat} {cs : List Value} {x : DataW H × List MemPlace} (h : DataW.trod enc Tryd.prog w base spare held fuel 24 cs = some x) (hb : Rows.uptoBulk x.1 ≤ B) : ∃ v l, cs = [v] ∧ FnsAt w v l ∧ szP l + 1 ≤ Rows.uptoBulk x.1 ∧ okFL B l := by
  obtain ⟨ad, c, T, e1, h1, h2, h3, h4⟩ := open_sl Tryd.underlying24 (show Tryd.prog.cellsOf 35 = 3 by kernel_rfl) (by decide) (fun e cs d => QF w B e cs d) B (fun n cs x hx h => open_F B n cs x (by omega) h) h hb
  obtain ⟨h5, h6, h7⟩ := fnl_of h2
  refine ⟨_, T.map (·.1), e1, ⟨_, ?_, h5⟩, by omega, h7⟩
  rw [List.length_map]
  exact h1
end
section
variable {H : Type} {enc : TypeId × Value → H} {W : World} {v : Value} {d : DataW H} {p : List MemPlace} {r : Reach} {b0 : Nat}
set_option maxRecDepth 100000 in
theorem in_program (B : Nat) (hv : Value.okWide Tryd.prog W r b0 26 v) (h : DataW.Trod enc Tryd.prog W 0 (fun _ => true) true 26 v d p) (hb : Rows.uptoBulk d ≤ B) : ∃ (u : Value) (l : List Fn), v = .agg #[u] ∧ FnsAt W u l ∧ szP l ≤ Rows.uptoBulk d ∧ okFL B l := by
  obtain ⟨cs, rfl, hsz⟩ := okWide_struct Tryd.underlying26 hv
  have hsz1 : cs.size = 1 := hsz.trans (by kernel_rfl)
  obtain ⟨fuel, h⟩ := h
  obtain ⟨y0, n, e, _, h0⟩ := trod_struct1 Tryd.underlying26 h
  obtain ⟨hd, _⟩ := Prod.mk.inj e
  have hbb : Rows.uptoBulk d = Rows.uptoBulk y0.1 + 1 := by rw [hd]; simp only [Rows.uptoBulk, Rows.uptoBulkAll, Nat.add_zero]
  obtain ⟨u, l, e1, ho, hz, hok⟩ := open_fs B h0 (by omega)
  obtain ⟨L⟩ := cs
  match L, hsz1 with
  | [c], _ =>
    rw [c_fns] at e1
    simp [Value.cells] at e1
    subst e1
    exact ⟨_, l, rfl, ho, by omega, hok⟩
end
end Go.Proofs.YtilholgbepfopaaDoor
/- Small (of what statements share): it answers, whatever it is. -/
namespace Go.Proofs.YtilholgbepfopaaDoor
open Go.RowKit

def RSome (w : World) (e : Ending) (w' : World) : Prop := ∃ z : Int, e = .returned (.int .i64 z) ∧ Below w.heap.size w w'
def RSomeB (w : World) (e : Ending) (w' : World) : Prop := ∃ b : Bool, e = .returned (.bool b) ∧ Below w.heap.size w w'

set_option maxHeartbeats 4000000 in
set_option maxRecDepth 100000 in
theorem exprnodes_any (m : Nat) (hm : m ≤ 10000000) : ∀ (e : Ex) (v : Value) (w : World), e.sz ≤ m → ExsAt w v e.l → Calls Tryd.prog 57 #[exV e v] w (RSome w) := by
  induction m with
  | zero => intro e _ _ h; have := e.sz_pos; omega
  | succ m ih =>
  intro e v w hsz hv
  obtain ⟨a, cp, rfl⟩ := hv.shape
  have H := Lib.hid hv
  have IH := Lib.hid (ih (by omega))
  have HSZ : Hid (szE e.l ≤ m) := Lib.hid (by have := e.sz_l; omega)
  have hl : e.l.length ≤ 10000000 := by have := szE_len e.l; have := e.sz_l; omega
  obtain ⟨n, hn⟩ : ∃ n, n = e.l.length := ⟨_, rfl⟩
  have HN := Lib.hid hn
  rw [← hn] at H hl ⊢
  clear ih hsz hv hn
  have P := Lib.hid (CsT.new w [.int .i64 e.kind, .int .i64 e.n, .string e.name, .int .i64 e.op, .slice a n cp] 42).at_
  have B1 := Lib.hid (below1 w (.cells #[.int .i64 e.kind, .int .i64 e.n, .string e.name, .int .i64 e.op, .slice a n cp] 42))
  have p4 := P.out.cell 4 _ rfl
  unfold exV
  go_enter Tryd.func57, Tryd.ntmps57
  go_wp2_with fail
  generalize w.alloc (.cells #[.int .i64 e.kind, .int .i64 e.n, .string e.name, .int .i64 e.op, .slice a n cp] 42) = w1 at *
  clear p4
  go_loopw [3, 9] (fun z_ k_ wr => ∃ (k : Nat) (z : Int), k ≤ n ∧ k_ = .int .i64 k ∧ z_ = .int .i64 z ∧ Below w.heap.size w wr) (fun _ k_ _ => n - (intOf k_).toNat)
  case atStart => exact ⟨0, 1, Nat.zero_le _, rfl, rfl, B1.out⟩
  case round =>
    obtain ⟨k, z, hk, rfl, rfl, hb⟩ := hrel
    by_cases hlt : k < n
    · obtain ⟨x, hx⟩ : ∃ x, e.l[k]? = some x := ⟨_, List.getElem?_eq_getElem (by rw [← HN.out]; exact hlt)⟩
      obtain ⟨b, o, c', u, hv, hbb, f0, f1, f2, f3, f4, hu⟩ := (H.out.below hb).elem hx
      obtain ⟨rfl, -, rfl⟩ := Value.slice.inj hv
      obtain ⟨ua, uc, rfl⟩ := hu.shape
      have HU := Lib.hid hu
      have hxm : Hid (x.sz ≤ m) := Lib.hid (Nat.le_trans (szE_mem (List.mem_of_getElem? hx)) HSZ.out)
      have hki : (k : Int) < (n : Int) := by omega
      have Bz := Lib.hid (below1 wr (.cells #[.int .i64 x.kind, .int .i64 x.n, .string x.name, .int .i64 x.op, .slice ua x.l.length uc] 42))
      have BB := Lib.hid (hb.then_' Bz.out)
      have T := Lib.hid (CsT.new wr [.int .i64 x.kind, .int .i64 x.n, .string x.name, .int .i64 x.op, .slice ua x.l.length uc] 42).at_
      have t0 := T.out.cell 0 _ rfl
      have t1 := T.out.cell 1 _ rfl
      have t2 := T.out.cell 2 _ rfl
      have t3 := T.out.cell 3 _ rfl
      have t4 := T.out.cell 4 _ rfl
      clear hv hb hx hu
      by_cases hz : z < 1000
      · go_wp2_with fail
        generalize wr.alloc (.cells #[.int .i64 x.kind, .int .i64 x.n, .string x.name, .int .i64 x.op, .slice ua x.l.length uc] 42) = wz at *
        clear t0 t1 t2 t3 t4 f0 f1 f2 f3 f4
        refine (IH.out x (.slice ua x.l.length uc) wz hxm.out (HU.out.below Bz.out)).mono ?_
        rintro e' w2 ⟨y, rfl, hb⟩
        have B2 := Lib.hid (BB.out.then_' hb)
        clear hb
        go_wp2_with fail
        go_roundw
        case rel => exact ⟨k + 1, _, by omega, by go_num, rfl, B2.out⟩
        case measure => simp [intOf]; omega
      · go_wp2_with fail
        go_roundw
        case rel => exact ⟨k + 1, _, by omega, by go_num, rfl, BB.out⟩
        case measure => simp [intOf]; omega
    · obtain rfl : k = n := by omega
      go_wp2_with fail
      go_ret
      exact ⟨z, rfl, hb⟩

set_option maxHeartbeats 4000000 in
set_option maxRecDepth 100000 in
theorem size_any (m : Nat) (hm : m ≤ 10000000) : ∀ (l : List St) (v : Value) (w : World), szS l < m → StsAt w v l → Calls Tryd.prog 29 #[v] w (RSome w) := by
  induction m with
  | zero => intro _ _ _ h; omega
  | succ m ih =>
  intro l v w hsz hv
  obtain ⟨a, cp, rfl⟩ := hv.shape
  have H := Lib.hid hv
  have IH := Lib.hid (ih (by omega))
  have HSZ := Lib.hid hsz
  have hl : l.length ≤ 10000000 := by have := szS_len l; omega
  have hm1 : m ≤ 10000000 := by omega
  obtain ⟨n, hn⟩ : ∃ n, n = l.length := ⟨_, rfl⟩
  have HN := Lib.hid hn
  rw [← hn] at H hl ⊢
  clear ih hsz hv hn
  go_enter Tryd.func29, Tryd.ntmps29
  go_wp2_with fail
  go_loopw [3, 10] (fun z_ k_ wr => ∃ (k : Nat) (z : Int), k ≤ n ∧ k_ = .int .i64 k ∧ z_ = .int .i64 z ∧ Below w.heap.size w wr) (fun _ k_ _ => n - (intOf k_).toNat)
  case atStart => exact ⟨0, 0, Nat.zero_le _, rfl, rfl, Below.refl _ _⟩
  case round =>
    obtain ⟨k, z, hk, rfl, rfl, hb⟩ := hrel
    by_cases hlt : k < n
    · obtain ⟨x, hx⟩ : ∃ x, l[k]? = some x := ⟨_, List.getElem?_eq_getElem (by rw [← HN.out]; exact hlt)⟩
      obtain ⟨b, o, c', u, xb, xe, hv, hbl, f0, f1, f2, f3, f4, f5, f6, f7, hu, hxb, hxe⟩ := (H.out.below hb).elem hx
      obtain ⟨rfl, -, rfl⟩ := Value.slice.inj hv
      obtain ⟨ua, uc, rfl⟩ := hu.shape
      obtain ⟨ba, bc, rfl⟩ := hxb.shape
      obtain ⟨ea, ec, rfl⟩ := hxe.shape
      have HU := Lib.hid hu
      have XB := Lib.hid hxb
      have XE := Lib.hid hxe
      have HXP : Hid (szE x.exprs ≤ 10000000 ∧ szS x.body < m ∧ szS x.els < m) := Lib.hid (by have h1 := szS_mem (List.mem_of_getElem? hx); have h2 := x.sz_parts; have h3 := HSZ.out; omega)
      have hel : x.exprs.length ≤ 10000000 := by have := szE_len x.exprs; have := HXP.out.1; omega
      have hki : (k : Int) < (n : Int) := by omega
      have Bz := Lib.hid (below1 wr (.cells #[.int .i64 x.kind, .string x.name, .string x.fn, .int .i64 x.n, .int .i64 x.op, .slice ua x.exprs.length uc, .slice ba x.body.length bc, .slice ea x.els.length ec] 40))
      have BB := Lib.hid (hb.then_' Bz.out)
      have T := Lib.hid (CsT.new wr [.int .i64 x.kind, .string x.name, .string x.fn, .int .i64 x.n, .int .i64 x.op, .slice ua x.exprs.length uc, .slice ba x.body.length bc, .slice ea x.els.length ec] 40).at_
      have t1 := T.out.cell 1 _ rfl
      have t2 := T.out.cell 2 _ rfl
      have t5 := T.out.cell 5 _ rfl
      have HM := Lib.hid (Int.neg_one_mul z)
      clear hv hb hx hu hxb hxe HM
      by_cases hz : 3000 < z
      · go_wp2_with fail
        go_ret
        exact ⟨z, rfl, BB.out⟩
      · go_wp2_with fail
        generalize wr.alloc (.cells #[.int .i64 x.kind, .string x.name, .string x.fn, .int .i64 x.n, .int .i64 x.op, .slice ua x.exprs.length uc, .slice ba x.body.length bc, .slice ea x.els.length ec] 40) = wz at *
        clear t1 t2 t5 f0 f1 f2 f3 f4 f5 f6 f7
        obtain ⟨q, hq⟩ : ∃ q, q = x.exprs.length := ⟨_, rfl⟩
        have HQ := Lib.hid hq
        have HUZ := Lib.hid (HU.out.below Bz.out)
        rw [← hq] at HUZ hel T ⊢
        clear hq HU
        go_loopw [3, 30] (fun z_ k_ wx => ∃ (j : Nat) (y : Int), j ≤ q ∧ k_ = .int .i64 j ∧ z_ = .int .i64 y ∧ Below wz.heap.size wz wx) (fun _ k_ _ => q - (intOf k_).toNat)
        case atStart => exact ⟨0, _, Nat.zero_le _, rfl, rfl, Below.refl _ _⟩
        case round =>
          obtain ⟨j, y, hj, rfl, rfl, hb⟩ := hrel
          by_cases hlj : j < q
          · obtain ⟨ex, hex⟩ : ∃ ex, x.exprs[j]? = some ex := ⟨_, List.getElem?_eq_getElem (by rw [← HQ.out]; exact hlj)⟩
            obtain ⟨b5, o5, c5, u5, hv5, hb5, g0, g1, g2, g3, g4, hu5⟩ := (HUZ.out.below hb).elem hex
            obtain ⟨rfl, -, rfl⟩ := Value.slice.inj hv5
            obtain ⟨va, vc, rfl⟩ := hu5.shape
            have HV5 := Lib.hid hu5
            have hxm : Hid (ex.sz ≤ 10000000) := Lib.hid (Nat.le_trans (szE_mem (List.mem_of_getElem? hex)) HXP.out.1)
            have hji : (j : Int) < (q : Int) := by omega
            have Bv := Lib.hid (below1 wr (.cells #[.int .i64 ex.kind, .int .i64 ex.n, .string ex.name, .int .i64 ex.op, .slice va ex.l.length vc] 42))
            have BV := Lib.hid (hb.then_' Bv.out)
            have TT := Lib.hid (CsT.new wr [.int .i64 ex.kind, .int .i64 ex.n, .string ex.name, .int .i64 ex.op, .slice va ex.l.length vc] 42).at_
            have s0 := TT.out.cell 0 _ rfl
            have s1 := TT.out.cell 1 _ rfl
            have s2 := TT.out.cell 2 _ rfl
            have s3 := TT.out.cell 3 _ rfl
            have s4 := TT.out.cell 4 _ rfl
            clear hv5 hb hex hu5
            go_wp2_with fail
            generalize wr.alloc (.cells #[.int .i64 ex.kind, .int .i64 ex.n, .string ex.name, .int .i64 ex.op, .slice va ex.l.length vc] 42) = wv at *
            clear s0 s1 s2 s3 s4 g0 g1 g2 g3 g4
            refine (exprnodes_any 10000000 (by decide) ex (.slice va ex.l.length vc) wv hxm.out (HV5.out.below Bv.out)).mono ?_
            rintro e' w2 ⟨y2, rfl, hb⟩
            have B2 := Lib.hid (BV.out.then_' hb)
            clear hb
            go_wp2_with fail
            go_roundw
            case rel => exact ⟨j + 1, _, by omega, by go_num, rfl, B2.out⟩
            case measure => simp [intOf]; omega
          · obtain rfl : j = q := by omega
            have TX := Lib.hid (T.out.below hb)
            have BX := Lib.hid (BB.out.then_' hb)
            have WX := Lib.hid (Bz.out.then_' hb)
            have y6 := (TX.out.below (below_drew' _)).cell 6 _ rfl
            have y7 := (TX.out.below (below_drew' _)).cell 7 _ rfl
            have y6' := TX.out.cell 6 _ rfl
            have y7' := TX.out.cell 7 _ rfl
            have HMark : Hid True := Lib.hid trivial
            clear hb
            go_wp2_with fail
            go_region_law (first
              | (clear HMark; go_simp; go_at_call 29; refine (IH.out x.body (.slice ba x.body.length bc) _ HXP.out.2.1 (XB.out.below (WX.out.then_' (below_drew' _)))).mono ?_; rintro e4 w4 ⟨z4, rfl, hb⟩; have T4 := Lib.hid ((TX.out.below (below_drew' _)).below hb); have B4 := Lib.hid ((BX.out.then_' (below_drew' _)).then_' hb); have W4 := Lib.hid ((WX.out.then_' (below_drew' _)).then_' hb); have r7 := T4.out.cell 7 _ rfl; clear hb)
              | (go_simp; go_at_call 29; refine (IH.out x.els (.slice ea x.els.length ec) _ HXP.out.2.2 (XE.out.below W4.out)).mono ?_; rintro e5 w5 ⟨z5, rfl, hb⟩; have B5 := Lib.hid (B4.out.then_' hb); clear hb)
              | fail)
            all_goals
              go_wp2_with fail
              go_roundw
              case rel => exact ⟨k + 1, _, by omega, by go_num, rfl, B5.out⟩
              case measure => simp [intOf]; omega
    · obtain rfl : k = n := by omega
      go_wp2_with fail
      go_ret
      exact ⟨z, rfl, hb⟩

set_option maxHeartbeats 4000000 in
set_option maxRecDepth 100000 in
theorem small_any (l : List Fn) (v : Value) (w : World) (hsz : szP l ≤ 5000000) (hv : FnsAt w v l) : Calls Tryd.prog 12 #[.agg #[v]] w (RSomeB w) := by
  obtain ⟨a, cp, rfl⟩ := hv.shape
  have H := Lib.hid hv
  have HSZ := Lib.hid hsz
  have hl : l.length ≤ 5000000 := Nat.le_trans (szP_len l) hsz
  obtain ⟨n, hn⟩ : ∃ n, n = l.length := ⟨_, rfl⟩
  have HN := Lib.hid hn
  rw [← hn] at H hl ⊢
  clear hv hsz hn
  have P := Lib.hid (CsT.new w [.slice a n cp] 26).at_
  have B1 := Lib.hid (below1 w (.cells #[.slice a n cp] 26))
  have p0 := P.out.cell 0 _ rfl
  go_enter Tryd.func12, Tryd.ntmps12
  go_wp2_with fail
  generalize w.alloc (.cells #[.slice a n cp] 26) = w1 at *
  clear p0
  go_loopw [3, 9] (fun z_ k_ wr => ∃ (k : Nat) (z : Int), k ≤ n ∧ k_ = .int .i64 k ∧ z_ = .int .i64 z ∧ Below w.heap.size w wr) (fun _ k_ _ => n - (intOf k_).toNat)
  case atStart => exact ⟨0, 0, Nat.zero_le _, rfl, rfl, B1.out⟩
  case round =>
    obtain ⟨k, z, hk, rfl, rfl, hb⟩ := hrel
    by_cases hlt : k < n
    · obtain ⟨x, hx⟩ : ∃ x, l[k]? = some x := ⟨_, List.getElem?_eq_getElem (by rw [← HN.out]; exact hlt)⟩
      obtain ⟨b, o, c', u, y, hv, hbb, f0, f1, f2, hu, hy⟩ := (H.out.below hb).elem hx
      obtain ⟨rfl, -, rfl⟩ := Value.slice.inj hv
      obtain ⟨ua, uc, rfl⟩ := hu.shape
      obtain ⟨ya, yc, rfl⟩ := hy.shape
      have HY := Lib.hid hy
      have HXZ : Hid (szS x.body < 5000001) := Lib.hid (by have h1 := szP_mem (List.mem_of_getElem? hx); have h2 := HSZ.out; unfold szF at h1; omega)
      have hki : (k : Int) < (n : Int) := by omega
      have Bz := Lib.hid (below1 wr (.cells #[.string x.name, .slice ua x.params.length uc, .slice ya x.body.length yc] 35))
      have BB := Lib.hid (hb.then_' Bz.out)
      have T := Lib.hid (CsT.new wr [.string x.name, .slice ua x.params.length uc, .slice ya x.body.length yc] 35).at_
      have t1 := T.out.cell 1 _ rfl
      have t2 := T.out.cell 2 _ rfl
      clear hv hb hx hu hy
      go_wp2_with fail
      generalize wr.alloc (.cells #[.string x.name, .slice ua x.params.length uc, .slice ya x.body.length yc] 35) = wz at *
      have t1' := (T.out.below (below_drew' _)).cell 1 _ rfl
      have t2' := (T.out.below (below_drew' _)).cell 2 _ rfl
      go_region_law (first
        | (go_simp; go_at_call 29; refine (size_any 5000001 (by decide) x.body (.slice ya x.body.length yc) _ HXZ.out (HY.out.below (Bz.out.then_' (below_drew' _)))).mono ?_; rintro e4 w4 ⟨z4, rfl, hb⟩; have B4 := Lib.hid ((BB.out.then_' (below_drew' _)).then_' hb); have T4 := Lib.hid ((T.out.below (below_drew' _)).below hb); have r1 := T4.out.cell 1 _ rfl; clear hb)
        | fail)
      all_goals
        go_wp2_with fail
        all_goals first
          | (go_ret
             exact ⟨false, rfl, B4.out⟩)
          | (go_roundw
             case rel => exact ⟨k + 1, _, by omega, by go_num, rfl, B4.out⟩
             case measure => simp [intOf]; omega)
    · obtain rfl : k = n := by omega
      go_wp2_with fail
      go_ret
      exact ⟨true, rfl, hb⟩
end Go.Proofs.YtilholgbepfopaaDoor
