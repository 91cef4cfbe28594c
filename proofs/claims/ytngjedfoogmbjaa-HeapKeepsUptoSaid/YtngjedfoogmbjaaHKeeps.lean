/- HeapKeeps, walked. -/
import Derived.Test.YtngjedfoogmbjaaHQ
import Derived.Test.YtngjedfoogmbjaaHKMath
import Derived.Deep.DeepCutAuto
import Derived.BigRegion
namespace Go.Proofs.Ytngjedfoogmbjaa
open Go.RowKit

theorem two_box (w : World) (p s t : Value) (t1 t3 : TypeId) : ∃ W, (w.alloc (.cells #[p] t1)).alloc (.cells #[s, t] t3) = W ∧ Below w.heap.size w W ∧ At1 W w.heap.size p ∧ At2 W (w.heap.size + 1) s t ∧ W.heap.size = w.heap.size + 1 + 1 :=
  ⟨_, rfl, Below.new (below1 _ _) _, (At1.new _ _ _).alloc _, by simpa using At2.new (w.alloc (.cells #[p] t1)) s t t3, by simp⟩
theorem pickA (at_ n : Nat) (hn : 0 < n) (h : at_ ≤ 255) : ∃ k : Nat, (IntKind.i64.wrap (at_ : Int)).tmod (n : Int) = (k : Int) ∧ k < n := by
  have e3 : IntKind.i64.wrap (at_ : Int) = (at_ : Int) := by rw [IntKind.wrap_i64]; omega
  rw [e3, Int.tmod_eq_emod_of_nonneg (by omega)]
  exact ⟨at_ % n, by rw [Int.natCast_emod], Nat.mod_lt _ hn⟩
theorem sl_set0 {w : World} {sz n z : Nat} {v u : Value} {xs : List Value} (h : SlAt w sz v n xs) {a : Option Addr} {m c : Nat} (hz : w.cell? ⟨z, 0, none⟩ = some (.slice a m c)) (hx : ∀ a m c, xs[0]? ≠ some (.slice a m c)) : SlAt (w.setCell ⟨z, 0, none⟩ u) sz v n xs := by
  rcases h with h | ⟨ad, c, hv, hnc, hl, hc⟩
  · exact .inl h
  · refine .inr ⟨ad, c, hv, hnc, hl, fun j x hj => ?_⟩
    have h1 := hc j x hj
    by_cases e : (⟨z, 0, none⟩ : Addr) = ad.add j
    · exfalso
      rw [← e, hz] at h1
      cases j with
      | zero => exact hx _ _ _ (hj.trans h1.symm)
      | succ j =>
        have e' := congrArg Addr.off e
        unfold Addr.add at e'
        rw [if_neg (by omega)] at e'
        dsimp only at e'
        omega
    · exact (World.cell?_setCell_other _ _ _ _ e).trans h1
theorem o_set0 {w : World} {z : Nat} {v u : Value} {O : List Ob} (h : OAt w v O) {a : Option Addr} {m c : Nat} (hz : At1 w z (.slice a m c)) : OAt (w.setCell ⟨z, 0, none⟩ u) v O := by
  obtain ⟨L, ⟨h1, h2⟩, e⟩ := h
  refine ⟨L, ⟨sl_set0 h1 hz.c0 ?_, fun x hx => sl_set0 (h2 x hx) hz.c0 ?_⟩, e⟩
  · cases L <;> simp [oc]
  · cases x.vals <;> simp [vc]
theorem keepA {w w' : World} {z y b o o' : Nat} {u u0 u1 u2 u3 : Value} (hz : At1 w z u) (hy : At2 w y u0 u1) (h2 : w.cell? ⟨b, o, none⟩ = some u2) (h3 : w.cell? ⟨b, o', none⟩ = some u3) (hb : Below w.heap.size w w') :
    w'.cell? ⟨z, 0, none⟩ = some u ∧ w'.cell? ⟨y, 0, none⟩ = some u0 ∧ w'.cell? ⟨y, 1, none⟩ = some u1 ∧ w'.cell? ⟨b, o, none⟩ = some u2 ∧ w'.cell? ⟨b, o', none⟩ = some u3 :=
  ⟨(hz.below hb).c0, (hy.below hb).c0, (hy.below hb).c1, (hb.cell (World.block_lt_of_cell? w _ h2)).trans h2, (hb.cell (World.block_lt_of_cell? w _ h3)).trans h3⟩
theorem below_cell' {w w' : World} (hb : Below w.heap.size w w') {a : Addr} {v : Value} (h : w.cell? a = some v) : w'.cell? a = some v := (hb.cell (World.block_lt_of_cell? w _ h)).trans h

set_option maxHeartbeats 4000000 in
set_option maxRecDepth 100000 in
theorem heapKeeps_walk (a : Option Addr) (n c : Nat) (O : List Ob) (at_ fd : Nat) (vb : Bool) (vn : Int) (w : World)
    (h : OAt w (.slice a n c) O) (hO : totalO O ≤ 1048576) (hat : at_ ≤ 255) (hfd : fd ≤ 255) :
    Calls Try.prog 4 #[.agg #[.slice a n c], .int .u8 (at_ : Int), .int .u8 (fd : Int), .agg #[.bool vb, .int .i64 vn]] w (RetB w true) := by
  have H := Lib.hid h
  have hn : Hid (n = O.length) := Lib.hid h.len
  have hnO : n ≤ 1048576 := by rw [hn.out]; exact Nat.le_trans (totalO_len O) hO
  clear h
  obtain ⟨W, hW, hB, hP, hR, hz⟩ := two_box w (.slice a n c) (.bool vb) (.int .i64 vn) 24 29
  have HW := Lib.hid hW
  have B := Lib.hid hB
  have P := Lib.hid hP
  have R := Lib.hid hR
  clear hW hB hP hR hz
  go_enter Try.func4, Try.ntmps4
  go_wp2_with fail
  rw [HW.out]
  refine (sane_any _).mono ?_
  rintro e w1 ⟨rfl, hb⟩
  replace B := Lib.hid (B.out.then_' hb)
  replace P := Lib.hid (P.out.below hb)
  replace R := Lib.hid (R.out.below hb)
  have p0 := P.out.c0
  clear hb
  go_wp2_with fail
  refine (big_ok (H.out.below B.out) (by omega)).mono ?_
  rintro e w2 ⟨rfl, hb⟩
  replace B := Lib.hid (B.out.then_' hb)
  replace P := Lib.hid (P.out.below hb)
  replace R := Lib.hid (R.out.below hb)
  clear hb p0
  have p0 := P.out.c0
  cases hbig : decide (300 < totalO O) with
  | true =>
    go_wp2
    go_ret
    exact ⟨rfl, B.out⟩
  | false =>
    have hO3 : totalO O ≤ 300 := by have := of_decide_eq_false hbig; omega
    have HS := Lib.hid (shortO_of (by omega) : ShortO O)
    clear hbig
    go_wp2_with fail
    refine (valid_ok (H.out.below B.out) HS.out).mono ?_
    rintro e w3 ⟨rfl, hb⟩
    replace B := Lib.hid (B.out.then_' hb)
    replace P := Lib.hid (P.out.below hb)
    replace R := Lib.hid (R.out.below hb)
    clear hb p0
    have p0 := P.out.c0
    cases hasc : ascO 0 O with
    | false =>
      go_wp2
      go_ret
      exact ⟨rfl, B.out⟩
    | true =>
      have HA := Lib.hid hasc
      clear hasc
      by_cases hn0 : n = 0
      · go_wp2
        go_ret
        exact ⟨rfl, B.out⟩
      · have hnn : ((n : Int) = 0) = False := by simp only [eq_iff_iff, iff_false]; omega
        have hn1 : (n = 0) = False := by simp only [eq_iff_iff, iff_false]; omega
        have hn3 : ((n : Int) == 0) = false := by rw [beq_eq_false_iff_ne]; omega
        obtain ⟨k, hk, hkn⟩ := pickA at_ n (by omega) hat
        obtain ⟨L, hL, hob⟩ := H.out
        have HL := Lib.hid hL
        have HOB := Lib.hid hob
        clear hL hob
        obtain ⟨x, hx⟩ : ∃ x, L[k]? = some x := ⟨_, List.getElem?_eq_getElem (by rw [← obs_len, HOB.out, ← hn.out]; exact hkn)⟩
        obtain ⟨b, o, c', hv, hbl, hc0, hc1⟩ := (HL.out.below B.out).elem hx
        obtain ⟨rfl, hv2, rfl⟩ := Value.slice.inj hv
        have hxs := (HL.out.below B.out).2 x (List.mem_of_getElem? hx)
        have HX := Lib.hid hx
        obtain ⟨xi, xfv, xl⟩ := x
        simp only at hc0 hc1 hxs
        obtain ⟨xa, xn, xc, rfl, hxn⟩ := hxs.shape
        have HXS := Lib.hid hxs
        clear hv hv2 hx hxs
        have hki : (k : Int) < (n : Int) := by omega
        have hk0 : (0 : Int) ≤ (k : Int) := by omega
        have hltw : w.heap.size < w3.heap.size := P.out.lt
        go_upto_region 5 with (fail)
        go_region_held3 (fun wx => wx.cell? ⟨w.heap.size, 0, none⟩ = some (.slice (some ⟨b, o, none⟩) n c) ∧ wx.cell? ⟨b, o + k * 2, none⟩ = some (.int .i64 xi) ∧ wx.cell? ⟨b, o + k * 2 + 1, none⟩ = some (.slice xa xn xc)) (first | exact ⟨p0, hc0, hc1⟩ | exact ⟨below_cell' (below1 _ _) p0, below_cell' (below1 _ _) hc0, below_cell' (below1 _ _) hc1⟩ | exact ⟨cell_far (cell_far (below_cell' (below1 _ _) p0) (by simp; omega)) (by simp; omega), cell_far (cell_far (below_cell' (below1 _ _) hc0) (by simp; omega)) (by simp; omega), cell_far (cell_far (below_cell' (below1 _ _) hc1) (by simp; omega)) (by simp; omega)⟩ | fail) (fail)
        have T9 := Lib.hid (At2.new w3 (.int .i64 xi) (.slice xa xn xc) 27).drew
        have hbw := (below1 w3 (.cells #[.int .i64 xi, .slice xa xn xc] 27)).drew
        generalize (w3.alloc (.cells #[.int .i64 xi, .slice xa xn xc] 27)).drew = v3 at *
        replace B := Lib.hid (B.out.then_' hbw)
        replace P := Lib.hid (P.out.below hbw)
        replace R := Lib.hid (R.out.below hbw)
        replace HXS := Lib.hid (HXS.out.below hbw)
        have hxO : O[k]? = some (xi, xl) := by rw [← HOB.out]; exact obs_at HX.out
        have HXO := Lib.hid hxO
        clear hxO hbw p0 hc0 hc1 hk hltw hbl hki hk0
        have p0 := P.out.c0
        have r0 := R.out.c0
        have r1 := R.out.c1
        have x0 := T9.out.c0
        have x1 := T9.out.c1
        by_cases hx0 : xn = 0
        · have hf : hasO O xi 0 = false := has_none HA.out HXO.out (f := 0) (by have := hxn.out; simp only; omega)
          have HF := Lib.hid hf
          clear hf
          go_wp2_with fail
          refine (write_ok xi 0 vb vn (H.out.below B.out) HS.out).mono ?_
          rw [HF.out]
          rintro e w4 ⟨a4, n4, c4, rfl, h4, hb⟩
          replace B := Lib.hid (B.out.then_' hb)
          clear h4 hb
          go_wp2
          go_ret
          exact ⟨rfl, Below.new B.out _⟩
        · have hxi : ((xn : Int) == 0) = false := by rw [beq_eq_false_iff_ne]; omega
          have hxi2 : ((xn : Int) = 0) = False := by simp only [eq_iff_iff, iff_false]; omega
          obtain ⟨m, hm, hmx⟩ : ∃ m : Nat, (fd : Int) % (xn : Int) = (m : Int) ∧ m < xn := ⟨_, by rw [Int.natCast_emod], Nat.mod_lt _ (by omega)⟩
          go_wp2_with fail
          refine (write_ok xi (m : Int) vb vn (H.out.below B.out) HS.out).mono ?_
          have hml : m < xl.length := by rw [← hxn.out]; exact hmx
          have HS4 := writeO_short HS.out xi (m : Int) (vb, vn)
          have HA4 : ascO 0 (O.set k (xi, xl.set m (vb, vn))) = true := (asc_set HXO.out _).trans HA.out
          rw [write_asc HA.out HXO.out hml] at HS4
          rw [has_asc HA.out HXO.out hml, write_asc HA.out HXO.out hml]
          rintro e w4 ⟨a4, n4, c4, rfl, h4, hb⟩
          have HSX := Lib.hid HS4
          have HAX := Lib.hid HA4
          clear HS4 HA4
          obtain rfl : n4 = n := by rw [h4.len, List.length_set, hn.out]
          have hb' := hb.then_' (below1 w4 (.cells #[.slice a4 n4 c4] 24))
          replace B := Lib.hid (B.out.then_' hb')
          replace P := Lib.hid (P.out.below hb')
          replace R := Lib.hid (R.out.below hb')
          replace T9 := Lib.hid (T9.out.below hb')
          replace HXS := Lib.hid (HXS.out.below hb')
          have T13 := Lib.hid (At1.new w4 (.slice a4 n4 c4) 24)
          have HX4 := Lib.hid (h4.below (below1 w4 (.cells #[.slice a4 n4 c4] 24)))
          clear hb hb' h4 p0 r0 r1 x0 x1
          have t13 := T13.out.c0
          go_wp2_with fail
          generalize w4.alloc (.cells #[.slice a4 n4 c4] 24) = v4 at *
          refine (valid_ok HX4.out HSX.out).mono ?_
          rw [HAX.out]
          rintro e v5 ⟨rfl, hb⟩
          replace B := Lib.hid (B.out.then_' hb)
          replace P := Lib.hid (P.out.below hb)
          replace R := Lib.hid (R.out.below hb)
          replace T9 := Lib.hid (T9.out.below hb)
          replace HXS := Lib.hid (HXS.out.below hb)
          replace T13 := Lib.hid (T13.out.below hb)
          replace HX4 := Lib.hid (HX4.out.below hb)
          clear hb t13
          have t13 := T13.out.c0
          have p0 := P.out.c0
          go_wp2_with fail
          clear t13 p0
          go_loopw [16, 17, 18, 19, 95] (fun _ _ _ _ i wr => ∃ j : Nat, j ≤ n4 ∧ i = .int .i64 j ∧ Below v5.heap.size v5 wr) (fun _ _ _ _ i _ => n4 - (intOf i).toNat)
          case atStart => exact ⟨0, Nat.zero_le _, rfl, Below.refl _ _⟩
          case round =>
            obtain ⟨j, hj, rfl, hb⟩ := hrel
            have HB := Lib.hid hb
            by_cases hlt : j < n4
            · obtain ⟨y, hy⟩ : ∃ y, L[j]? = some y := ⟨_, List.getElem?_eq_getElem (by rw [← obs_len, HOB.out, ← hn.out]; exact hlt)⟩
              obtain ⟨b1, o1, c1, hv, hbl, hc0, hc1⟩ := (HL.out.below (B.out.then_' hb)).elem hy
              obtain ⟨e1, -, rfl⟩ := Value.slice.inj hv
              obtain ⟨rfl, rfl, -⟩ := Addr.mk.inj (Option.some.inj e1)
              have hys := (HL.out.below (B.out.then_' hb)).2 y (List.mem_of_getElem? hy)
              have HY := Lib.hid hy
              obtain ⟨yi, yfv, yl⟩ := y
              simp only at hc0 hc1 hys
              obtain ⟨ya, yn, yc, rfl, hyn⟩ := hys.shape
              have HYS := Lib.hid hys
              have hyO : O[j]? = some (yi, yl) := by rw [← HOB.out]; exact obs_at HY.out
              have HYO := Lib.hid hyO
              have hynb : yn ≤ 1000000 := by rw [hyn.out]; exact HS.out.2 _ (List.mem_of_getElem? hyO)
              clear hv e1 hy hys hyO hb
              obtain ⟨yl', hyl', hyl2⟩ : ∃ yl' : List V, (O.set k (xi, xl.set m (vb, vn)))[j]? = some (yi, yl') ∧ ((j = k ∧ yi = xi ∧ yl = xl ∧ yl' = xl.set m (vb, vn)) ∨ (j ≠ k ∧ yi ≠ xi ∧ yl' = yl)) := by
                by_cases hjk : j = k
                · subst hjk
                  obtain ⟨rfl, rfl⟩ := Prod.mk.inj (Option.some.inj (HXO.out.symm.trans HYO.out))
                  exact ⟨_, List.getElem?_set_self (by rw [← hn.out]; exact hkn), .inl ⟨rfl, rfl, rfl, rfl⟩⟩
                · refine ⟨yl, by rw [List.getElem?_set_ne (fun e => hjk e.symm)]; exact HYO.out, .inr ⟨hjk, fun e => hjk ?_, rfl⟩⟩
                  have e1 := idx_asc HA.out HYO.out
                  have e2 := idx_asc HA.out HXO.out
                  simp only at e1 e2
                  rw [e] at e1
                  exact e1.symm.trans e2
              have HL1 := Lib.hid hyl'
              have HL2 := Lib.hid hyl2
              clear hyl' hyl2
              go_wp2_with fail
              have T16 := Lib.hid (At2.new wr (.int .i64 yi) (.slice ya yn yc) 27)
              have hbn := below1 wr (.cells #[.int .i64 yi, .slice ya yn yc] 27)
              generalize wr.alloc (.cells #[.int .i64 yi, .slice ya yn yc] 27) = wy at *
              replace HB := Lib.hid (HB.out.then_' hbn)
              replace HYS := Lib.hid (HYS.out.below hbn)
              clear hbn hc0 hc1 hbl
              go_loopw [17, 18, 19, 102] (fun _ _ _ i wr => ∃ f : Nat, f ≤ yn ∧ i = .int .i64 f ∧ Below wy.heap.size wy wr) (fun _ _ _ i _ => yn - (intOf i).toNat)
              case atStart => exact ⟨0, Nat.zero_le _, rfl, Below.refl _ _⟩
              case round =>
                obtain ⟨f, hf, rfl, hb⟩ := hrel
                have HBi := Lib.hid hb
                have B6 := Lib.hid (HB.out.then_' hb)
                clear hb
                by_cases hlf : f < yn
                · obtain ⟨⟨eb, en⟩, he⟩ : ∃ e, yl[f]? = some e := ⟨_, List.getElem?_eq_getElem (by rw [← hyn.out]; exact hlf)⟩
                  obtain ⟨rb, rn, hr, hrr⟩ : ∃ rb rn, yl'[f]? = some (rb, rn) ∧ ((yi = xi ∧ f = m ∧ rb = vb ∧ rn = vn) ∨ ((yi ≠ xi ∨ f ≠ m) ∧ rb = eb ∧ rn = en)) := by
                    rcases HL2.out with ⟨_, h1, rfl, rfl⟩ | ⟨_, h1, rfl⟩
                    · by_cases hfm : f = m
                      · subst hfm
                        exact ⟨vb, vn, List.getElem?_set_self (List.getElem?_eq_some_iff.1 he).1, .inl ⟨h1, rfl, rfl, rfl⟩⟩
                      · exact ⟨eb, en, by rw [List.getElem?_set_ne (fun e => hfm e.symm)]; exact he, .inr ⟨.inr hfm, rfl, rfl⟩⟩
                    · exact ⟨eb, en, he, .inr ⟨.inl h1, rfl, rfl⟩⟩
                  have HE := Lib.hid he
                  have hread := read_asc HAX.out HL1.out hr
                  have hhas := has_asc HAX.out HL1.out (List.getElem?_eq_some_iff.1 hr).1
                  simp only at hread hhas
                  have HRd := Lib.hid hread
                  have HHs := Lib.hid hhas
                  clear he hread hhas hr
                  have t13 := (T13.out.below B6.out).c0
                  have y0 := (T16.out.below HBi.out).c0
                  have y1 := (T16.out.below HBi.out).c1
                  go_wp2_with fail
                  refine (read_ok yi (f : Int) (HX4.out.below B6.out) HSX.out).mono ?_
                  rw [HRd.out, HHs.out]
                  rintro e w6 ⟨rfl, hb⟩
                  have hb' := hb.then_' (below1 w6 (.cells #[.bool rb, .int .i64 rn] 29))
                  have T18 := Lib.hid (At2.new w6 (.bool rb) (.int .i64 rn) 29)
                  have HBj := Lib.hid (HBi.out.then_' hb')
                  clear hb hb' t13 y0 y1
                  obtain ⟨b2, o2, c2, hv2, hb2, e0, e1⟩ := (HYS.out.below (HBj.out)).elem HE.out
                  obtain ⟨rfl, e2, rfl⟩ := Value.slice.inj hv2
                  clear hv2 e2 hb2
                  have z0 := (T16.out.below HBj.out).c0
                  have z1 := (T16.out.below HBj.out).c1
                  have x0 := (T9.out.below (HB.out.then_' HBj.out)).c0
                  have r0 := (R.out.below (HB.out.then_' HBj.out)).c0
                  have r1 := (R.out.below (HB.out.then_' HBj.out)).c1
                  have s0 := T18.out.c0
                  have s1 := T18.out.c1
                  have hfi : (f : Int) < (yn : Int) := by omega
                  go_wp2_with fail
                  generalize w6.alloc (.cells #[.bool rb, .int .i64 rn] 29) = v6 at *
                  have HLF := Lib.hid hlf
                  have hgu := run_guard_V
                  have hne := run_neq_V rb vb rn vn
                  have hnf := run_neq_V rb eb rn en
                  rcases hrr with ⟨h1, h2, h3, h4⟩ | ⟨h12, h3, h4⟩
                  · have q1 : (yi = xi) = True := eq_true h1
                    have q2 : ((f : Int) = (m : Int)) = True := eq_true (by omega)
                    have q3 : (yi == xi) = true := by rw [beq_iff_eq]; exact h1
                    have q4 : ((f : Int) == (m : Int)) = true := by rw [beq_iff_eq]; omega
                    have q5 : (!(rb == vb && rn == vn)) = false := by rw [h3, h4]; simp
                    rw [q5] at hne
                    clear h1 h2 h3 h4 q5
                    go_quiet (fail)
                    go_wp2_with fail
                    go_roundw
                    case rel => exact ⟨f + 1, by have := HLF.out; omega, by go_num, Below.drewN HBj.out _⟩
                    case measure => have := HLF.out; simp [intOf]; omega
                  · have q5 : (!(rb == eb && rn == en)) = false := by rw [h3, h4]; simp
                    rw [q5] at hnf
                    by_cases h1 : yi = xi
                    · have h2 : f ≠ m := by rcases h12 with h | h; exact absurd h1 h; exact h
                      have q1 : (yi = xi) = True := eq_true h1
                      have q2 : ((f : Int) = (m : Int)) = False := eq_false (by omega)
                      have q3 : (yi == xi) = true := by rw [beq_iff_eq]; exact h1
                      have q4 : ((f : Int) == (m : Int)) = false := by rw [beq_eq_false_iff_ne]; omega
                      clear h1 h2 h3 h4 h12 q5
                      go_quiet (fail)
                      go_wp2_with fail
                      go_roundw
                      case rel => exact ⟨f + 1, by have := HLF.out; omega, by go_num, Below.drewN HBj.out _⟩
                      case measure => have := HLF.out; simp [intOf]; omega
                    · have q1 : (yi = xi) = False := eq_false h1
                      have q3 : (yi == xi) = false := by rw [beq_eq_false_iff_ne]; exact h1
                      clear h1 h3 h4 h12 q5
                      go_quiet (fail)
                      go_wp2_with fail
                      go_roundw
                      case rel => exact ⟨f + 1, by have := HLF.out; omega, by go_num, Below.drewN HBj.out _⟩
                      case measure => have := HLF.out; simp [intOf]; omega
                · obtain rfl : f = yn := by omega
                  go_wp2_with fail
                  go_roundw
                  case rel => exact ⟨j + 1, by omega, by go_num, HB.out.then_' HBi.out⟩
                  case measure => simp [intOf]; omega
            · obtain rfl : j = n4 := by omega
              have t13 := (T13.out.below hb).c0
              have x0 := (T9.out.below hb).c0
              have x1 := (T9.out.below hb).c1
              have hel := (HX4.out.below hb)
              obtain ⟨e0v, he0⟩ : ∃ y, xl[m]? = some y := ⟨_, List.getElem?_eq_getElem hml⟩
              obtain ⟨eb, en⟩ := e0v
              have hback : writeO (O.set k (xi, xl.set m (vb, vn))) xi (m : Int) (eb, en) = O := by
                rw [write_asc (x := (xi, xl.set m (vb, vn))) HAX.out (List.getElem?_set_self (by rw [← hn.out]; exact hkn)) (by rw [List.length_set]; exact hml)]
                exact set_back HXO.out he0 _
              have hhas2 : hasO (O.set k (xi, xl.set m (vb, vn))) xi (m : Int) = true :=
                has_asc (x := (xi, xl.set m (vb, vn))) HAX.out (List.getElem?_set_self (by rw [← hn.out]; exact hkn)) (by rw [List.length_set]; exact hml)
              have HBk := Lib.hid hback
              have HHb := Lib.hid hhas2
              obtain ⟨b2, o2, c2, hv2, hb2, e0, e1⟩ := (HXS.out.below hb).elem he0
              obtain ⟨rfl, e2, rfl⟩ := Value.slice.inj hv2
              have HX5 := Lib.hid hel
              have HO5 := Lib.hid (H.out.below (B.out.then_' hb))
              have B5 := Lib.hid (B.out.then_' hb)
              have P5 := Lib.hid (P.out.below hb)
              have HZ5 := Lib.hid (T13.out.below hb)
              have T95 := Lib.hid (T9.out.below hb)
              have hmi : (m : Int) < (xn : Int) := by omega
              have hm0 : (0 : Int) ≤ (m : Int) := by omega
              have hzl := HZ5.out.lt
              have hzl9 := T95.out.lt
              clear hv2 e2 he0 hback hhas2 hel x0 x1 t13
              have t13 := HZ5.out.c0
              have x0 := T95.out.c0
              have x1 := T95.out.c1
              go_upto_region 24 with (fail)
              go_cut [20, 21] (fun hv ok wx => ∃ (z : Nat) (a5 : Option Addr) (n5 c5 : Nat), hv = .pointer (some ⟨z, 0, none⟩) ∧ ok = .bool true ∧ At1 wx z (.slice a5 n5 c5) ∧ OAt wx (.slice a5 n5 c5) O ∧ Below wr.heap.size wr wx)
              case first =>
                have QB := Lib.hid (below_drew wr)
                go_region_held3 (fun wx => wx.cell? ⟨w4.heap.size, 0, none⟩ = some (.slice a4 j c4) ∧ wx.cell? ⟨w3.heap.size, 0, none⟩ = some (.int .i64 xi) ∧ wx.cell? ⟨w3.heap.size, 1, none⟩ = some (.slice (some ⟨b2, o2, none⟩) xn xc) ∧ wx.cell? ⟨b2, o2 + m * 2, none⟩ = some (.bool eb) ∧ wx.cell? ⟨b2, o2 + m * 2 + 1, none⟩ = some (.int .i64 en)) (first | exact ⟨t13, x0, x1, e0, e1⟩ | exact keepA HZ5.out T95.out e0 e1 QB.out | exact keepA HZ5.out T95.out e0 e1 (Below.new QB.out _) | exact keepA HZ5.out T95.out e0 e1 (set1 QB.out (Nat.le_refl _) _) | fail) (first
                  | (go_at_call 13; refine (write_ok xi (m : Int) eb en (HX5.out.below (by first | exact QB.out | exact Below.new QB.out _)) HSX.out).mono ?_; rw [HBk.out, HHb.out]; rintro e w8 ⟨a8, n8, c8, rfl, h8, hb8⟩; have H8 := Lib.hid h8; (first | (have HZ : Hid (At1 w8 wr.heap.size (.slice none 0 0)) := Lib.hid (by have hh := At1.below (At1.drew (At1.new _ _ _)) hb8; exact hh)) | skip); (first | (have hz0 := HZ.out.c0; have hzf0 := HZ.out.f0; have hzl := HZ.out.lt) | skip); (first | (have hy0 : w8.cell? ⟨wr.drew.heap.size, 0, none⟩ = some (.slice none 0 0) := hz0; have hyf0 : w8.frozen? ⟨wr.drew.heap.size, 0, none⟩ = false := hzf0) | skip); have QB := Lib.hid (Below.then_' (by first | exact QB.out | exact Below.new QB.out _) hb8); clear h8 hb8)
                  | fail)
                all_goals
                  go_wp2
                  go_meet
                  case rel =>
                    first
                      | exact ⟨_, _, _, _, rfl, rfl, At1.new _ _ _, H8.out.below (below1 _ _), Below.new QB.out _⟩
                      | exact ⟨_, _, _, _, rfl, rfl, HZ.out.put _, o_set0 H8.out HZ.out, set1 QB.out (Nat.le_refl _) _⟩
              case rest =>
                obtain ⟨z, a5, n5, c5, rfl, rfl, hz, ho, hbx⟩ := hcut
                have P6 := Lib.hid (P5.out.below hbx)
                have HOx := Lib.hid (HO5.out.below hbx)
                have HOy := Lib.hid ho
                have BX := Lib.hid (B5.out.then_' hbx)
                have z0 := hz.c0
                have p0 := P6.out.c0
                clear hz ho hbx
                go_wp2_with fail
                refine (same_ok HOy.out HOx.out HS.out HS.out).mono ?_
                rw [decide_eq_true rfl]
                rintro e w9 ⟨rfl, hb9⟩
                go_wp2
                go_ret
                exact ⟨rfl, BX.out.then_' hb9⟩
end Go.Proofs.Ytngjedfoogmbjaa
