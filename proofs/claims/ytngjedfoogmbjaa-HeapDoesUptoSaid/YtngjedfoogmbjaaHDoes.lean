/- HeapDoes, walked. -/
import Derived.Test.YtngjedfoogmbjaaHQ
import Derived.Deep.DeepCutAuto
import Derived.BigRegion
namespace Go.Proofs.Ytngjedfoogmbjaa
open Go.RowKit

theorem three_box (w : World) (p q r s t : Value) (t1 t2 t3 : TypeId) : ∃ W, ((w.alloc (.cells #[p] t1)).alloc (.cells #[q, r] t2)).alloc (.cells #[s, t] t3) = W ∧ Below w.heap.size w W ∧ At1 W w.heap.size p ∧ At2 W (w.heap.size + 1) q r ∧ At2 W (w.heap.size + 1 + 1) s t ∧ W.heap.size = w.heap.size + 3 :=
  ⟨_, rfl, Below.new (Below.new (below1 _ _) _) _, ((At1.new _ _ _).alloc _).alloc _, by simpa using (At2.new (w.alloc (.cells #[p] t1)) q r t2).alloc _, by simpa using At2.new ((w.alloc (.cells #[p] t1)).alloc (.cells #[q, r] t2)) s t t3, by simp⟩

theorem At2.put0 {w : World} {b : Nat} {u0 u1 : Value} (h : At2 w b u0 u1) (v : Value) : At2 (w.setCell ⟨b, 0, none⟩ v) b v u1 :=
  ⟨World.cell?_setCell_same' _ _ _ (by rw [h.c0]; rfl), by rw [World.cell?_setCell_other (h := by simp)]; exact h.c1, by simpa using h.f0, by simpa using h.f1, by simpa [World.setCell] using h.lt⟩
theorem pickK (near : Int) (n : Nat) (h0 : 0 ≤ near) (h1 : near ≤ 255) (hn : 0 < n) : ∃ k : Nat, (IntKind.i64.wrap (IntKind.u8.wrap (near.tdiv 4))).tmod (n : Int) = (k : Int) ∧ k < n := by
  have e1 : near.tdiv 4 = near / 4 := Int.tdiv_eq_ediv_of_nonneg h0
  have e2 : IntKind.u8.wrap (near / 4) = near / 4 := by simp only [IntKind.wrap, IntKind.bits, IntKind.signed]; simp; omega
  have e3 : IntKind.i64.wrap (near / 4) = near / 4 := by rw [IntKind.wrap_i64]; omega
  rw [e1, e2, e3]
  have e4 : (near / 4).tmod (n : Int) = (near / 4) % (n : Int) := Int.tmod_eq_emod_of_nonneg (by omega)
  rw [e4]
  have h5 : 0 ≤ (near / 4) % (n : Int) := Int.emod_nonneg _ (by omega)
  have h6 : (near / 4) % (n : Int) < (n : Int) := Int.emod_lt_of_pos _ (by omega)
  exact ⟨((near / 4) % (n : Int)).toNat, by omega, by omega⟩
theorem below_cell {w w' : World} (hb : Below w.heap.size w w') {a : Addr} {v : Value} (h : w.cell? a = some v) : w'.cell? a = some v := (hb.cell (World.block_lt_of_cell? w _ h)).trans h

theorem keep3 {w wx : World} {p q : Nat} {u u0 u1 : Value} (hp : At1 w p u) (hq : At2 w q u0 u1) (hb : Below w.heap.size w wx) : wx.cell? ⟨p, 0, none⟩ = some u ∧ wx.cell? ⟨q, 0, none⟩ = some u0 ∧ wx.cell? ⟨q, 1, none⟩ = some u1 := ⟨(hp.below hb).c0, (hq.below hb).c0, (hq.below hb).c1⟩

theorem rsame_true {w : World} {v u : Value} {O : List Ob} (h : OAt w v O) (h2 : OAt w u O) (hs : ShortO O) : Calls Try.prog 18 #[.agg #[v], .agg #[u]] w (RetB w true) := by
  have := rsame_ok h h2 hs hs
  rw [decide_eq_true (rfl : O = O)] at this
  exact this
theorem same_true {w : World} {v u : Value} {O : List Ob} (h : OAt w v O) (h2 : OAt w u O) (hs : ShortO O) : Calls Try.prog 21 #[.agg #[v], .agg #[u]] w (RetB w true) := by
  have := same_ok h h2 hs hs
  rw [decide_eq_true (rfl : O = O)] at this
  exact this

theorem rsame_b {w : World} {v u : Value} {O M : List Ob} {b : Bool} (h : OAt w v O) (h2 : OAt w u M) (hs : ShortO O) (hs2 : ShortO M) (hb : decide (O = M) = b) : Calls Try.prog 18 #[.agg #[v], .agg #[u]] w (RetB w b) := by
  have := rsame_ok h h2 hs hs2
  rw [hb] at this
  exact this
theorem same_b {w : World} {v u : Value} {O M : List Ob} {b : Bool} (h : OAt w v O) (h2 : OAt w u M) (hs : ShortO O) (hs2 : ShortO M) (hb : decide (O = M) = b) : Calls Try.prog 21 #[.agg #[v], .agg #[u]] w (RetB w b) := by
  have := same_ok h h2 hs hs2
  rw [hb] at this
  exact this

set_option maxHeartbeats 4000000 in
set_option maxRecDepth 100000 in
theorem heapDoes_walk (a fa : Option Addr) (n c fn fc : Nat) (O : List Ob) (oid : Int) (l : List V) (id f : Int) (vb : Bool) (vn : Int) (near : Int) (w : World)
    (h : OAt w (.slice a n c) O) (ho : VsAt w (.slice fa fn fc) l) (hO : totalO O ≤ 1048576) (hl : l.length ≤ 1048576) (hn0 : 0 ≤ near) (hn1 : near ≤ 255) :
    Calls Try.prog 3 #[.agg #[.slice a n c], .agg #[.int .i64 oid, .slice fa fn fc], .int .i64 id, .int .i64 f, .agg #[.bool vb, .int .i64 vn], .int .u8 near] w (RetB w true) := by
  have H := Lib.hid h
  have HV := Lib.hid ho
  have hn : Hid (n = O.length) := Lib.hid h.len
  have hfn : Hid (fn = l.length) := Lib.hid (by
    obtain ⟨a', n', c', hv, hn⟩ := ho.shape
    obtain ⟨_, e, _⟩ := Value.slice.inj hv
    rw [e]; exact hn.out)
  have hnO : n ≤ 1048576 := by rw [hn.out]; exact Nat.le_trans (totalO_len O) hO
  clear h ho
  obtain ⟨W, hW, hB, hP, hQ, hR, hz⟩ := three_box w (.slice a n c) (.int .i64 oid) (.slice fa fn fc) (.bool vb) (.int .i64 vn) 24 27 29
  have HW := Lib.hid hW
  have HB := Lib.hid hB
  have HP := Lib.hid hP
  have HQ := Lib.hid hQ
  have HR := Lib.hid hR
  have HZ := Lib.hid hz
  clear hW hB hP hQ hR hz
  go_enter Try.func3, Try.ntmps3
  go_wp2_with fail
  rw [HW.out]
  refine (sane_any _).mono ?_
  rintro e w1 ⟨rfl, hb1⟩
  have B1 := Lib.hid (HB.out.then_' hb1)
  have P1 := Lib.hid (HP.out.below hb1)
  have Q1 := Lib.hid (HQ.out.below hb1)
  have R1 := Lib.hid (HR.out.below hb1)
  have Z1 : Hid (w.heap.size + 3 ≤ w1.heap.size) := Lib.hid (by rw [← HZ.out]; exact hb1.size)
  have p1 := P1.out.c0
  clear hb1
  go_wp2_with fail
  refine (big_ok (H.out.below B1.out) (by omega)).mono ?_
  rintro e w2 ⟨rfl, hb2⟩
  have B2 := Lib.hid (B1.out.then_' hb2)
  have P2 := Lib.hid (P1.out.below hb2)
  have Q2 := Lib.hid (Q1.out.below hb2)
  have R2 := Lib.hid (R1.out.below hb2)
  have Z2 : Hid (w.heap.size + 3 ≤ w2.heap.size) := Lib.hid (Nat.le_trans Z1.out hb2.size)
  have q2 := Q2.out.c1
  clear hb2 p1
  cases hbig : decide (300 < totalO O) with
  | true =>
    go_wp2
    go_ret
    exact ⟨rfl, B2.out⟩
  | false =>
    have hO3 : totalO O ≤ 300 := by have := of_decide_eq_false hbig; omega
    clear hbig
    by_cases h100 : 100 < fn
    · go_wp2
      go_ret
      exact ⟨rfl, B2.out⟩
    · have p2 := P2.out.c0
      have HS := Lib.hid (shortO_of (by omega) : ShortO O)
      have hO4 := Lib.hid hO3
      clear hO3
      go_upto_region 6 with (fail)
      go_cut [49] (fun b wx => (∃ t : Bool, b = .bool t ∧ (t = true → 0 < n)) ∧ wx = w2)
      case first =>
        by_cases hnp : 0 < n
        · have d1 : decide ((0 : Int) < (n : Int)) = true := decide_eq_true (by omega)
          go_wp2
          go_meet
          case rel => exact ⟨⟨_, rfl, fun _ => hnp⟩, rfl⟩
        · have d1 : decide ((0 : Int) < (n : Int)) = false := decide_eq_false (by omega)
          go_wp2
          go_meet
          case rel => exact ⟨⟨_, rfl, fun h => by cases h⟩, rfl⟩
      case rest =>
        obtain ⟨⟨t, rfl, ht⟩, rfl⟩ := hcut
        have HT := Lib.hid ht
        clear ht
        go_upto_if 49 with (fail)
        go_cut [2, 3] (fun iv fv wx => ∃ id' f' oid', iv = .int .i64 id' ∧ fv = .int .i64 f' ∧ At2 wx (w.heap.size + 1) (.int .i64 oid') (.slice fa fn fc) ∧ At1 wx w.heap.size (.slice a n c) ∧ At2 wx (w.heap.size + 1 + 1) (.bool vb) (.int .i64 vn) ∧ Below w.heap.size w wx)
        case first =>
          cases t with
          | false =>
            go_wp2
            go_meet
            case rel => exact ⟨id, f, oid, rfl, rfl, Q2.out, P2.out, R2.out, B2.out⟩
          | true =>
            have hnp := HT.out rfl
            obtain ⟨k, hk, hkn⟩ := pickK near n hn0 hn1 hnp
            obtain ⟨LL, hLL, hob⟩ := H.out
            obtain ⟨x, hx⟩ : ∃ x, LL[k]? = some x := ⟨_, List.getElem?_eq_getElem (by rw [← obs_len, hob, ← hn.out]; exact hkn)⟩
            obtain ⟨b, o, c', hv, hbl, hc0, hc1⟩ := (hLL.below B2.out).elem hx
            obtain ⟨rfl, hv2, rfl⟩ := Value.slice.inj hv
            obtain ⟨xa, xn, xc, hxf, _⟩ := ((hLL.below B2.out).2 x (List.mem_of_getElem? hx)).shape
            rw [hxf] at hc1
            clear hv hv2 hx hLL hob hxf
            have hki : (k : Int) < (n : Int) := by omega
            have hk0 : (0 : Int) ≤ (k : Int) := by omega
            have hn1' : (n = 0) = False := by simp only [eq_iff_iff, iff_false]; omega
            have hn2' : ((n : Int) = 0) = False := by simp only [eq_iff_iff, iff_false]; omega
            have hn3' : ((n : Int) == 0) = false := by rw [beq_eq_false_iff_ne]; omega
            have hltw : w.heap.size < wc.heap.size := P2.out.lt
            go_upto_region 7 with (fail)
            go_region_held3 (fun wx => wx.cell? ⟨w.heap.size, 0, none⟩ = some (.slice (some ⟨b, o, none⟩) n c) ∧ wx.cell? ⟨b, o + k * 2, none⟩ = some (.int .i64 x.id) ∧ wx.cell? ⟨b, o + k * 2 + 1, none⟩ = some (.slice xa xn xc)) (first | exact ⟨p2, hc0, hc1⟩ | exact ⟨cell_far (cell_far (below_cell (below1 _ _) p2) (by simp; omega)) (by simp; omega), cell_far (cell_far (below_cell (below1 _ _) hc0) (by simp; omega)) (by simp; omega), cell_far (cell_far (below_cell (below1 _ _) hc1) (by simp; omega)) (by simp; omega)⟩ | exact ⟨below_cell (below1 _ _) p2, below_cell (below1 _ _) hc0, below_cell (below1 _ _) hc1⟩) (fail)
            have hX := (At2.new wc (.int .i64 x.id) (.slice xa xn xc) 27).drew
            have hbw := (below1 wc (.cells #[.int .i64 x.id, .slice xa xn xc] 27)).drew
            generalize (wc.alloc (.cells #[.int .i64 x.id, .slice xa xn xc] 27)).drew = wa at *
            have B3 := Lib.hid (B2.out.then_' hbw)
            have P3 := Lib.hid (P2.out.below hbw)
            have Q3 := Lib.hid (Q2.out.below hbw)
            have R3 := Lib.hid (R2.out.below hbw)
            obtain ⟨x0, x1, _, _, _⟩ := hX
            obtain ⟨y0, _, g0, _, _⟩ := Q2.out.below hbw
            clear hbw hk
            have hxn : xn = 0 ∨ 0 < xn := Nat.eq_zero_or_pos xn
            go_upto_region 9 with (fail)
            go_cut [69] (fun b wx => (∃ t : Bool, b = .bool t ∧ (t = true → 0 < xn)) ∧ wx = wa)
            case first =>
              rcases hxn with h0 | h0
              · have d1 : decide ((0 : Int) < (xn : Int)) = false := decide_eq_false (by omega)
                go_wp2
                go_meet
                case rel => exact ⟨⟨_, rfl, fun h => by cases h⟩, rfl⟩
              · have d1 : decide ((0 : Int) < (xn : Int)) = true := decide_eq_true (by omega)
                go_wp2
                go_meet
                case rel => exact ⟨⟨_, rfl, fun _ => h0⟩, rfl⟩
            case rest =>
              obtain ⟨⟨t2, rfl, ht2⟩, rfl⟩ := hcut
              have HT2 := Lib.hid ht2
              clear ht2 hxn
              go_upto_if 69 with (fail)
              go_cut [3] (fun fv wx => (∃ f', fv = .int .i64 f') ∧ wx = wc)
              case first =>
                cases t2 with
                | false =>
                  go_wp2
                  go_meet
                  case rel => exact ⟨⟨f, rfl⟩, rfl⟩
                | true =>
                  have h0 := HT2.out rfl
                  have hx0 : (xn = 0) = False := by simp only [eq_iff_iff, iff_false]; omega
                  go_wp2
                  go_meet
                  case rel => exact ⟨⟨_, rfl⟩, rfl⟩
              case rest =>
                obtain ⟨⟨f', rfl⟩, rfl⟩ := hcut
                have hM3 : ∃ t3 : Bool, decide (near.tmod 4 = 3) = t3 := ⟨_, rfl⟩
                go_wp2
                · go_meet
                  case rel => exact ⟨_, _, _, rfl, rfl, Q3.out.put0 _, P3.out.far (show w.heap.size ≠ w.heap.size + 1 by omega) _, R3.out.far (show w.heap.size + 1 + 1 ≠ w.heap.size + 1 by omega) _, B3.out.setCell (show w.heap.size ≤ w.heap.size + 1 by omega) _⟩
                · go_meet
                  case rel => exact ⟨_, _, _, rfl, rfl, Q3.out, P3.out, R3.out, B3.out⟩
        case rest =>
          obtain ⟨id', f', oid', rfl, rfl, hq, hp, hr, hb⟩ := hcut
          clear hn0 hn1 q2 p2 HT
          clear B1 P1 Q1 R1 Z1 B2 P2 Q2 R2 Z2
          have B := Lib.hid hb
          have P := Lib.hid hp
          have Q := Lib.hid hq
          have R := Lib.hid hr
          have hp0 := hp.c0
          clear hb hp hq hr
          go_wp2_with fail
          refine (keep_ok (H.out.below B.out) HS.out).mono ?_
          rintro e u4 ⟨a4, n4, c4, rfl, h4, hb4⟩
          have hb := hb4.then_' (below1 u4 (.cells #[.slice a4 n4 c4] 24))
          have T15 := Lib.hid (At1.new u4 (.slice a4 n4 c4) 24)
          have K15 := Lib.hid (h4.below (below1 u4 (.cells #[.slice a4 n4 c4] 24)))
          replace B := Lib.hid (B.out.then_' hb)
          replace P := Lib.hid (P.out.below hb)
          replace Q := Lib.hid (Q.out.below hb)
          replace R := Lib.hid (R.out.below hb)
          have hp0 := P.out.c0
          clear hb hb4
          go_wp2_with fail
          generalize u4.alloc (.cells #[.slice a4 n4 c4] 24) = v4 at *
          refine (get_ok id' (H.out.below B.out) HS.out).mono ?_
          rintro e u5 ⟨a5, n5, c5, rfl, h5, hb5⟩
          have hb := hb5.then_' (below1 u5 (.cells #[.int .i64 (getO O id').1, .slice a5 n5 c5] 27))
          have T16 := Lib.hid (At2.new u5 (.int .i64 (getO O id').1) (.slice a5 n5 c5) 27)
          have K16 := Lib.hid (h5.below (below1 u5 (.cells #[.int .i64 (getO O id').1, .slice a5 n5 c5] 27)))
          replace B := Lib.hid (B.out.then_' hb)
          replace P := Lib.hid (P.out.below hb)
          replace Q := Lib.hid (Q.out.below hb)
          replace R := Lib.hid (R.out.below hb)
          replace T15 := Lib.hid (T15.out.below hb)
          replace K15 := Lib.hid (K15.out.below hb)
          clear hp0
          have hp0 := P.out.c0
          clear h5
          clear hb hb5
          go_wp2_with fail
          generalize u5.alloc (.cells #[.int .i64 (getO O id').1, .slice a5 n5 c5] 27) = v5 at *
          refine (rget_ok id' (H.out.below B.out) HS.out).mono ?_
          rintro e u6 ⟨a6, n6, c6, rfl, h6, hb6⟩
          have hb := hb6.then_' (below1 u6 (.cells #[.int .i64 (getO O id').1, .slice a6 n6 c6] 27))
          have T18 := Lib.hid (At2.new u6 (.int .i64 (getO O id').1) (.slice a6 n6 c6) 27)
          have K18 := Lib.hid (h6.below (below1 u6 (.cells #[.int .i64 (getO O id').1, .slice a6 n6 c6] 27)))
          replace B := Lib.hid (B.out.then_' hb)
          replace P := Lib.hid (P.out.below hb)
          replace Q := Lib.hid (Q.out.below hb)
          replace R := Lib.hid (R.out.below hb)
          replace T15 := Lib.hid (T15.out.below hb)
          replace K15 := Lib.hid (K15.out.below hb)
          replace T16 := Lib.hid (T16.out.below hb)
          replace K16 := Lib.hid (K16.out.below hb)
          clear hp0
          have hp0 := P.out.c0
          clear h6
          clear hb hb6
          go_wp2_with fail
          generalize u6.alloc (.cells #[.int .i64 (getO O id').1, .slice a6 n6 c6] 27) = v6 at *
          refine (read_ok id' f' (H.out.below B.out) HS.out).mono ?_
          rintro e u7 ⟨rfl, hb7⟩
          have hb := hb7.then_' (below1 u7 (.cells #[.bool (readO O id' f').1, .int .i64 (readO O id' f').2] 29))
          have T20 := Lib.hid (At2.new u7 (.bool (readO O id' f').1) (.int .i64 (readO O id' f').2) 29)
          replace B := Lib.hid (B.out.then_' hb)
          replace P := Lib.hid (P.out.below hb)
          replace Q := Lib.hid (Q.out.below hb)
          replace R := Lib.hid (R.out.below hb)
          replace T15 := Lib.hid (T15.out.below hb)
          replace K15 := Lib.hid (K15.out.below hb)
          replace T16 := Lib.hid (T16.out.below hb)
          replace K16 := Lib.hid (K16.out.below hb)
          replace T18 := Lib.hid (T18.out.below hb)
          replace K18 := Lib.hid (K18.out.below hb)
          clear hp0
          have hp0 := P.out.c0
          clear hb hb7
          go_wp2_with fail
          generalize u7.alloc (.cells #[.bool (readO O id' f').1, .int .i64 (readO O id' f').2] 29) = v7 at *
          refine (rread_ok id' f' (H.out.below B.out) HS.out).mono ?_
          rintro e u8 ⟨rfl, hb8⟩
          have hb := hb8.then_' (below1 u8 (.cells #[.bool (readO O id' f').1, .int .i64 (readO O id' f').2] 29))
          have T22 := Lib.hid (At2.new u8 (.bool (readO O id' f').1) (.int .i64 (readO O id' f').2) 29)
          replace B := Lib.hid (B.out.then_' hb)
          replace P := Lib.hid (P.out.below hb)
          replace Q := Lib.hid (Q.out.below hb)
          replace R := Lib.hid (R.out.below hb)
          replace T15 := Lib.hid (T15.out.below hb)
          replace K15 := Lib.hid (K15.out.below hb)
          replace T16 := Lib.hid (T16.out.below hb)
          replace K16 := Lib.hid (K16.out.below hb)
          replace T18 := Lib.hid (T18.out.below hb)
          replace K18 := Lib.hid (K18.out.below hb)
          replace T20 := Lib.hid (T20.out.below hb)
          clear hp0
          have hp0 := P.out.c0
          clear hb hb8
          have hr0 := R.out.c0
          have hr1 := R.out.c1
          go_wp2_with fail
          generalize u8.alloc (.cells #[.bool (readO O id' f').1, .int .i64 (readO O id' f').2] 29) = v8 at *
          refine (write_ok id' f' vb vn (H.out.below B.out) HS.out).mono ?_
          rintro e u9 ⟨a9, n9, c9, rfl, h9, hb9⟩
          have hb := hb9.then_' (below1 u9 (.cells #[.slice a9 n9 c9] 24))
          have T24 := Lib.hid (At1.new u9 (.slice a9 n9 c9) 24)
          have K24 := Lib.hid (h9.below (below1 u9 (.cells #[.slice a9 n9 c9] 24)))
          replace B := Lib.hid (B.out.then_' hb)
          replace P := Lib.hid (P.out.below hb)
          replace Q := Lib.hid (Q.out.below hb)
          replace R := Lib.hid (R.out.below hb)
          replace T15 := Lib.hid (T15.out.below hb)
          replace K15 := Lib.hid (K15.out.below hb)
          replace T16 := Lib.hid (T16.out.below hb)
          replace K16 := Lib.hid (K16.out.below hb)
          replace T18 := Lib.hid (T18.out.below hb)
          replace K18 := Lib.hid (K18.out.below hb)
          replace T20 := Lib.hid (T20.out.below hb)
          replace T22 := Lib.hid (T22.out.below hb)
          clear hp0
          have hp0 := P.out.c0
          clear h9
          clear hb hb9
          clear hr0 hr1
          have hr0 := R.out.c0
          have hr1 := R.out.c1
          go_wp2_with fail
          generalize u9.alloc (.cells #[.slice a9 n9 c9] 24) = v9 at *
          refine (rwrite_ok id' f' vb vn (H.out.below B.out) HS.out).mono ?_
          rintro e u10 ⟨a10, n10, c10, rfl, h10, hb10⟩
          have hb := hb10.then_' (below1 u10 (.cells #[.slice a10 n10 c10] 24))
          have T26 := Lib.hid (At1.new u10 (.slice a10 n10 c10) 24)
          have K26 := Lib.hid (h10.below (below1 u10 (.cells #[.slice a10 n10 c10] 24)))
          replace B := Lib.hid (B.out.then_' hb)
          replace P := Lib.hid (P.out.below hb)
          replace Q := Lib.hid (Q.out.below hb)
          replace R := Lib.hid (R.out.below hb)
          replace T15 := Lib.hid (T15.out.below hb)
          replace K15 := Lib.hid (K15.out.below hb)
          replace T16 := Lib.hid (T16.out.below hb)
          replace K16 := Lib.hid (K16.out.below hb)
          replace T18 := Lib.hid (T18.out.below hb)
          replace K18 := Lib.hid (K18.out.below hb)
          replace T20 := Lib.hid (T20.out.below hb)
          replace T22 := Lib.hid (T22.out.below hb)
          replace T24 := Lib.hid (T24.out.below hb)
          replace K24 := Lib.hid (K24.out.below hb)
          clear hp0
          have hp0 := P.out.c0
          clear h10
          clear hb hb10
          clear hr0 hr1
          go_upto_region 20 with (fail)
          generalize u10.alloc (.cells #[.slice a10 n10 c10] 24) = v10 at *
          clear hp0
          have hl2 : l.length ≤ 1000000 := by have := hfn.out; omega
          obtain ⟨L, hL, hob⟩ := H.out
          have HL := Lib.hid hL
          have HOB := Lib.hid hob
          clear hL hob
          go_cut [28, 29] (fun pv qv wx => Two v10 (putO O (oid', l)) pv qv wx)
          case first =>
            as_aux_lemma =>
              have hp0 := P.out.c0
              have hq0 := Q.out.c0
              have hq1 := Q.out.c1
              have QB := Lib.hid (below_drew v10)
              go_region_held3 (fun wx => wx.cell? ⟨w.heap.size, 0, none⟩ = some (.slice a n c) ∧ wx.cell? ⟨w.heap.size + 1, 0, none⟩ = some (.int .i64 oid') ∧ wx.cell? ⟨w.heap.size + 1, 1, none⟩ = some (.slice fa fn fc)) (first | exact ⟨hp0, hq0, hq1⟩ | exact keep3 P.out Q.out (by repeat (first | exact QB.out | exact Below.refl _ _ | exact Below.new QB.out _ | exact Below.new (Below.new QB.out _) _ | refine Below.new ?_ _ | refine set1 ?_ (by first | omega | (simp; omega)) _ | refine Below.drew ?_)) | fail) (first
                | (go_at_call 15; refine (put_ok oid' l (H.out.below (B.out.then_' (by repeat (first | exact QB.out | exact Below.refl _ _ | exact Below.new QB.out _ | exact Below.new (Below.new QB.out _) _ | refine Below.new ?_ _ | refine set1 ?_ (by first | omega | (simp; omega)) _ | refine Below.drew ?_)))) (HV.out.below (B.out.then_' (by repeat (first | exact QB.out | exact Below.refl _ _ | exact Below.new QB.out _ | exact Below.new (Below.new QB.out _) _ | refine Below.new ?_ _ | refine set1 ?_ (by first | omega | (simp; omega)) _ | refine Below.drew ?_)))) HS.out hl2).mono ?_; rintro e w15 ⟨a15, n15, c15, rfl, h15, hb15⟩; have HO := Lib.hid h15; have HB15 := Lib.hid hb15; have hs15 := hb15.size; have hv15 : v10.heap.size ≤ w15.heap.size := (show Below v10.heap.size v10 w15 from Below.then_' (by repeat (first | exact QB.out | exact Below.refl _ _ | exact Below.new QB.out _ | exact Below.new (Below.new QB.out _) _ | refine Below.new ?_ _ | refine set1 ?_ (by first | omega | (simp; omega)) _ | refine Below.drew ?_)) hb15).size; (first | (have HZa : Hid (At1 w15 v10.heap.size (.slice none 0 0)) := Lib.hid (by first | exact At1.below (At1.drew (At1.new v10 _ _)) hb15 | exact At1.below (At1.drew (At1.alloc (At1.new v10 _ _) _)) hb15); have hza15 : v10.heap.size < w15.heap.size := HZa.out.lt) | skip); (first | (have HZb : Hid (At1 w15 (v10.heap.size + 1) (.slice none 0 0)) := Lib.hid (by exact At1.below (At1.drew (two_news v10 _ _ _)) hb15); have hzb15 : v10.heap.size + 1 < w15.heap.size := HZb.out.lt) | skip); have QB : Hid (Below v10.heap.size v10 w15) := Lib.hid (Below.then_' (by repeat (first | exact QB.out | exact Below.refl _ _ | exact Below.new QB.out _ | exact Below.new (Below.new QB.out _) _ | refine Below.new ?_ _ | refine set1 ?_ (by first | omega | (simp; omega)) _ | refine Below.drew ?_)) hb15); clear h15 hb15)
                | (go_at_call 16; refine (rputq_ok oid' l (HL.out.below (B.out.then_' (by repeat (first | exact QB.out | exact Below.refl _ _ | exact Below.new QB.out _ | exact Below.new (Below.new QB.out _) _ | refine Below.new ?_ _ | refine set1 ?_ (by first | omega | (simp; omega)) _ | refine Below.drew ?_)))) HOB.out (HV.out.below (B.out.then_' (by repeat (first | exact QB.out | exact Below.refl _ _ | exact Below.new QB.out _ | exact Below.new (Below.new QB.out _) _ | refine Below.new ?_ _ | refine set1 ?_ (by first | omega | (simp; omega)) _ | refine Below.drew ?_)))) HS.out hl2).mono ?_; rintro e w16 ⟨a16, n16, c16, rfl, h16, hb16⟩; have HQ' := Lib.hid h16; have HB16 := Lib.hid hb16; have hs16 : w15.heap.size ≤ w16.heap.size := (by have h := hb16.size; first | exact h | (simp at h; omega)); have hv16 : v10.heap.size ≤ w16.heap.size := (show Below v10.heap.size v10 w16 from Below.then_' (by repeat (first | exact QB.out | exact Below.refl _ _ | exact Below.new QB.out _ | exact Below.new (Below.new QB.out _) _ | refine Below.new ?_ _ | refine set1 ?_ (by first | omega | (simp; omega)) _ | refine Below.drew ?_)) hb16).size; (first | (have HZa : Hid (At1 w16 v10.heap.size (.slice none 0 0)) := Lib.hid (by first | exact HZa.out.below hb16 | exact (HZa.out.alloc _).below hb16)) | skip); (first | (have HZb : Hid (At1 w16 (v10.heap.size + 1) (.slice none 0 0)) := Lib.hid (by exact HZb.out.below hb16)) | skip); (first | (have HZc : Hid (At1 w16 w15.heap.size (.slice none 0 0)) := Lib.hid (by first | exact At1.below (At1.new w15 _ _) hb16 | exact At1.below (At1.alloc (At1.new w15 _ _) _) hb16)) | skip); (first | (have HZd : Hid (At1 w16 (w15.heap.size + 1) (.slice none 0 0)) := Lib.hid (by exact At1.below (two_news w15 _ _ _) hb16)) | skip); (first | (have za0 := HZa.out.c0; have za1 := HZa.out.f0; have za2 := HZa.out.lt; have ne1 : (v10.heap.size = w16.heap.size) = False := (by simp only [eq_iff_iff, iff_false]; omega); have nf1 : (w16.heap.size = v10.heap.size) = False := (by simp only [eq_iff_iff, iff_false]; omega)) | skip); (first | (have zq := hza15; have ne2 : (v10.heap.size = w15.heap.size) = False := (by simp only [eq_iff_iff, iff_false]; omega); have nf2 : (w15.heap.size = v10.heap.size) = False := (by simp only [eq_iff_iff, iff_false]; omega)) | skip); (first | (have zb0 := HZb.out.c0; have zb1 := HZb.out.f0; have zb2 := HZb.out.lt) | skip); (first | (have zc0 := HZc.out.c0; have zc1 := HZc.out.f0; have zc2 := HZc.out.lt; have ne3 : (w15.heap.size = w16.heap.size) = False := (by simp only [eq_iff_iff, iff_false]; omega); have nf3 : (w16.heap.size = w15.heap.size) = False := (by simp only [eq_iff_iff, iff_false]; omega)) | skip); (first | (have zd0 := HZd.out.c0; have zd1 := HZd.out.f0; have zd2 := HZd.out.lt) | skip); have QB : Hid (Below v10.heap.size v10 w16) := Lib.hid (Below.then_' (by repeat (first | exact QB.out | exact Below.refl _ _ | exact Below.new QB.out _ | exact Below.new (Below.new QB.out _) _ | refine Below.new ?_ _ | refine set1 ?_ (by first | omega | (simp; omega)) _ | refine Below.drew ?_)) hb16); have BS := Lib.hid (Base.mk HO.out (by first | exact keep0 hb16 | exact keep1 hb16 | exact keep2 hb16) hs16 h16 HL.out B.out QB.out); clear h16 hb16)
                | fail)
              · go_wp2
                go_meet
                case rel => exact BS.out.f1
              · go_wp2
                go_meet
                case rel => exact BS.out.f2
              · go_wp2
                go_meet
                case rel => exact BS.out.f3 HZc.out hv15 (.inr (Nat.le_refl _)) (.inl (lt_new _ _))
              · go_wp2
                go_meet
                case rel => exact BS.out.f4 HZc.out HZd.out hv15 (Nat.le_succ_of_le hv15) (Nat.ne_of_lt (Nat.lt_succ_self _)) (.inr (Nat.le_refl _)) (.inr (Nat.le_succ _)) (.inl (lt_two _ _ _)) (.inl (lt_two1 _ _ _))
              · go_wp2
                go_meet
                case rel => exact BS.out.f5 HZc.out hv15 (.inr (Nat.le_refl _)) (.inl (lt_new _ _))
              · go_wp2
                go_meet
                case rel => exact BS.out.f4 HZd.out HZc.out (Nat.le_succ_of_le hv15) hv15 (Nat.ne_of_gt (Nat.lt_succ_self _)) (.inr (Nat.le_succ _)) (.inr (Nat.le_refl _)) (.inl (lt_two1 _ _ _)) (.inl (lt_two _ _ _))
              · go_wp2
                go_meet
                case rel => exact BS.out.f3 HZa.out (Nat.le_refl _) (.inl (lt_newD _ _)) (.inl hza15)
              · go_wp2
                go_meet
                case rel => exact BS.out.f4 HZa.out HZc.out (Nat.le_refl _) hv15 (Nat.ne_of_lt hza15) (.inl (lt_newD _ _)) (.inr (Nat.le_refl _)) (.inl (Nat.lt_trans hza15 (lt_new _ _))) (.inl (lt_new _ _))
              · go_wp2
                go_meet
                case rel => exact BS.out.f4 HZa.out HZb.out (Nat.le_refl _) (Nat.le_succ _) (Nat.ne_of_lt (Nat.lt_succ_self _)) (.inl (lt_twoD _ _ _)) (.inl (lt_two1D _ _ _)) (.inl hza15) (.inl hzb15)
              · go_wp2
                go_meet
                case rel => exact BS.out.f5 HZa.out (Nat.le_refl _) (.inl (lt_newD _ _)) (.inl hza15)
              · go_wp2
                go_meet
                case rel => exact BS.out.f4 HZc.out HZa.out hv15 (Nat.le_refl _) (Nat.ne_of_gt hza15) (.inr (Nat.le_refl _)) (.inl (lt_newD _ _)) (.inl (lt_new _ _)) (.inl (Nat.lt_trans hza15 (lt_new _ _)))
              · go_wp2
                go_meet
                case rel => exact BS.out.f4 HZb.out HZa.out (Nat.le_succ _) (Nat.le_refl _) (Nat.ne_of_gt (Nat.lt_succ_self _)) (.inl (lt_two1D _ _ _)) (.inl (lt_twoD _ _ _)) (.inl hzb15) (.inl hza15)
          case rest =>
            as_aux_lemma =>
              obtain ⟨zp, zq, ap, np, cp, aq, nq, cq, rfl, rfl, hp, hq, hP, hQ, hb⟩ := hcut
              clear Q R
              replace B := Lib.hid (B.out.then_' hb)
              replace P := Lib.hid (P.out.below hb)
              replace T15 := Lib.hid (T15.out.below hb)
              replace K15 := Lib.hid (K15.out.below hb)
              replace T16 := Lib.hid (T16.out.below hb)
              replace K16 := Lib.hid (K16.out.below hb)
              replace T18 := Lib.hid (T18.out.below hb)
              replace K18 := Lib.hid (K18.out.below hb)
              replace T20 := Lib.hid (T20.out.below hb)
              replace T22 := Lib.hid (T22.out.below hb)
              replace T24 := Lib.hid (T24.out.below hb)
              replace K24 := Lib.hid (K24.out.below hb)
              replace T26 := Lib.hid (T26.out.below hb)
              replace K26 := Lib.hid (K26.out.below hb)
              have TP := Lib.hid hp
              have TQ := Lib.hid hq
              have OP := Lib.hid hP
              have OQ := Lib.hid hQ
              clear hp hq hP hQ hb
              have hOl : O.length ≤ 300 := Nat.le_trans (totalO_len O) hO4.out
              have HSP : Hid (ShortO (putO O (oid', l))) := Lib.hid (putO_short HS.out (by omega) hl2)
              have HSW : Hid (ShortO (writeO O id' f' (vb, vn))) := Lib.hid (writeO_short HS.out id' f' _)
              have HG := Lib.hid (getO_short HS.out id')
              go_upto_region 21 with (fail)
              have HO := Lib.hid (H.out.below B.out)
              generalize getO O id' = g at *
              generalize readO O id' f' = r at *
              generalize writeO O id' f' (vb, vn) = WO at *
              generalize putO O (oid', l) = PO at *
              obtain ⟨gi, gl⟩ := g
              obtain ⟨rb, rn⟩ := r
              have KS : Hid (∀ wx, Below wc.heap.size wc wx → wx.cell? ⟨u5.heap.size, 0, none⟩ = some (.int .i64 gi) ∧ wx.cell? ⟨u5.heap.size, 1, none⟩ = some (.slice a5 n5 c5) ∧ wx.cell? ⟨u6.heap.size, 0, none⟩ = some (.int .i64 gi) ∧ wx.cell? ⟨u6.heap.size, 1, none⟩ = some (.slice a6 n6 c6) ∧ wx.cell? ⟨u7.heap.size, 0, none⟩ = some (.bool rb) ∧ wx.cell? ⟨u7.heap.size, 1, none⟩ = some (.int .i64 rn) ∧ wx.cell? ⟨u8.heap.size, 0, none⟩ = some (.bool rb) ∧ wx.cell? ⟨u8.heap.size, 1, none⟩ = some (.int .i64 rn) ∧ wx.cell? ⟨u9.heap.size, 0, none⟩ = some (.slice a9 n9 c9) ∧ wx.cell? ⟨u10.heap.size, 0, none⟩ = some (.slice a10 n10 c10) ∧ wx.cell? ⟨zp, 0, none⟩ = some (.slice ap np cp) ∧ wx.cell? ⟨zq, 0, none⟩ = some (.slice aq nq cq) ∧ wx.cell? ⟨w.heap.size, 0, none⟩ = some (.slice a n c)) := Lib.hid fun wx hb => ⟨(T16.out.below hb).c0, (T16.out.below hb).c1, (T18.out.below hb).c0, (T18.out.below hb).c1, (T20.out.below hb).c0, (T20.out.below hb).c1, (T22.out.below hb).c0, (T22.out.below hb).c1, (T24.out.below hb).c0, (T26.out.below hb).c0, (TP.out.below hb).c0, (TQ.out.below hb).c0, (P.out.below hb).c0⟩
              have QB := Lib.hid (below_drew wc)
              have h21 := KS.out wc (Below.refl _ _)
              go_region_held3 (fun wx => wx.cell? ⟨u5.heap.size, 0, none⟩ = some (.int .i64 gi) ∧ wx.cell? ⟨u5.heap.size, 1, none⟩ = some (.slice a5 n5 c5) ∧ wx.cell? ⟨u6.heap.size, 0, none⟩ = some (.int .i64 gi) ∧ wx.cell? ⟨u6.heap.size, 1, none⟩ = some (.slice a6 n6 c6) ∧ wx.cell? ⟨u7.heap.size, 0, none⟩ = some (.bool rb) ∧ wx.cell? ⟨u7.heap.size, 1, none⟩ = some (.int .i64 rn) ∧ wx.cell? ⟨u8.heap.size, 0, none⟩ = some (.bool rb) ∧ wx.cell? ⟨u8.heap.size, 1, none⟩ = some (.int .i64 rn) ∧ wx.cell? ⟨u9.heap.size, 0, none⟩ = some (.slice a9 n9 c9) ∧ wx.cell? ⟨u10.heap.size, 0, none⟩ = some (.slice a10 n10 c10) ∧ wx.cell? ⟨zp, 0, none⟩ = some (.slice ap np cp) ∧ wx.cell? ⟨zq, 0, none⟩ = some (.slice aq nq cq) ∧ wx.cell? ⟨w.heap.size, 0, none⟩ = some (.slice a n c)) (first | exact h21 | exact KS.out _ QB.out | fail) (first
                | (go_at_call_of 17 (Value.slice a5 n5 c5); refine (rsameO_ok _ _ _ _ (K16.out.below QB.out) (K18.out.below QB.out) HG.out HG.out true (decide_eq_true rfl)).mono ?_; rintro e x1 ⟨rfl, hx⟩; have QB := Lib.hid (QB.out.then_' hx); clear hx)
                | (go_at_call_of 18 (Value.slice a9 n9 c9); refine (rsame_true (K24.out.below QB.out) (K26.out.below QB.out) HSW.out).mono ?_; rintro e x2 ⟨rfl, hx⟩; have QB := Lib.hid (QB.out.then_' hx); clear hx)
                | (go_at_call_of 18 (Value.slice ap np cp); refine (rsame_true (OP.out.below QB.out) (OQ.out.below QB.out) HSP.out).mono ?_; rintro e x3 ⟨rfl, hx⟩; have QB := Lib.hid (QB.out.then_' hx); clear hx)
                | (go_at_call_of 19 (Value.slice a n c); refine (valid_ok (HO.out.below QB.out) HS.out).mono ?_; rintro e x4 ⟨rfl, hx⟩; have QB := Lib.hid (QB.out.then_' hx); clear hx)
                | (go_at_call_of 20 (Value.slice a n c); refine (rvalid_ok (HO.out.below QB.out) HS.out).mono ?_; rintro e x5 ⟨rfl, hx⟩; have QB := Lib.hid (QB.out.then_' hx); clear hx)
                | (go_at_call_of 19 (Value.slice ap np cp); refine (valid_ok (OP.out.below QB.out) HSP.out).mono ?_; rintro e x6 ⟨rfl, hx⟩; have QB := Lib.hid (QB.out.then_' hx); clear hx)
                | (go_at_call_of 20 (Value.slice ap np cp); refine (rvalid_ok (OP.out.below QB.out) HSP.out).mono ?_; rintro e x7 ⟨rfl, hx⟩; have QB := Lib.hid (QB.out.then_' hx); clear hx)
                | fail)
              clear KS h21
              obtain ⟨s1, hs1⟩ : ∃ s, decide (O = PO) = s := ⟨_, rfl⟩
              obtain ⟨s2, hs2⟩ : ∃ s, decide (WO = O) = s := ⟨_, rfl⟩
              go_upto_region 23 with (fail)
              have KS : Hid (∀ wx, Below wc.heap.size wc wx → wx.cell? ⟨w.heap.size, 0, none⟩ = some (.slice a n c) ∧ wx.cell? ⟨zp, 0, none⟩ = some (.slice ap np cp) ∧ wx.cell? ⟨u9.heap.size, 0, none⟩ = some (.slice a9 n9 c9) ∧ wx.cell? ⟨u4.heap.size, 0, none⟩ = some (.slice a4 n4 c4)) := Lib.hid fun wx hb => ⟨(P.out.below hb).c0, (TP.out.below hb).c0, (T24.out.below hb).c0, (T15.out.below hb).c0⟩
              have h23 := KS.out _ QB.out
              have QB := Lib.hid (QB.out.drew)
              go_region_held3 (fun wx => wx.cell? ⟨w.heap.size, 0, none⟩ = some (.slice a n c) ∧ wx.cell? ⟨zp, 0, none⟩ = some (.slice ap np cp) ∧ wx.cell? ⟨u9.heap.size, 0, none⟩ = some (.slice a9 n9 c9) ∧ wx.cell? ⟨u4.heap.size, 0, none⟩ = some (.slice a4 n4 c4)) (first | exact h23 | exact KS.out _ QB.out | fail) (first
                | (go_at_call_of 21 (Value.slice ap np cp); refine (same_b (HO.out.below QB.out) (OP.out.below QB.out) HS.out HSP.out hs1).mono ?_; rintro e y1 ⟨rfl, hx⟩; have QB := Lib.hid (QB.out.then_' hx); clear hx)
                | (go_at_call_of 21 (Value.slice a9 n9 c9); refine (same_b (K24.out.below QB.out) (HO.out.below QB.out) HSW.out HS.out hs2).mono ?_; rintro e y2 ⟨rfl, hx⟩; have QB := Lib.hid (QB.out.then_' hx); clear hx)
                | (go_at_call_of 21 (Value.slice a4 n4 c4); refine (same_b (HO.out.below QB.out) (K15.out.below QB.out) HS.out HS.out (decide_eq_true rfl)).mono ?_; rintro e y3 ⟨rfl, hx⟩; have QB := Lib.hid (QB.out.then_' hx); clear hx)
                | (go_at_call_of 18 (Value.slice ap np cp); refine (rsame_b (HO.out.below QB.out) (OP.out.below QB.out) HS.out HSP.out hs1).mono ?_; rintro e y4 ⟨rfl, hx⟩; have QB := Lib.hid (QB.out.then_' hx); clear hx)
                | (go_at_call_of 18 (Value.slice a9 n9 c9); refine (rsame_b (K24.out.below QB.out) (HO.out.below QB.out) HSW.out HS.out hs2).mono ?_; rintro e y5 ⟨rfl, hx⟩; have QB := Lib.hid (QB.out.then_' hx); clear hx)
                | (go_at_call_of 18 (Value.slice a4 n4 c4); refine (rsame_b (HO.out.below QB.out) (K15.out.below QB.out) HS.out HS.out (decide_eq_true rfl)).mono ?_; rintro e y6 ⟨rfl, hx⟩; have QB := Lib.hid (QB.out.then_' hx); clear hx)
                | fail)
              go_wp2
              go_ret
              exact ⟨rfl, B.out.then_' QB.out⟩
end Go.Proofs.Ytngjedfoogmbjaa
