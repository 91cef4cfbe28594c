/- Read, of the program and of the reference. -/
import Derived.Test.YtngjedfoogmbjaaHGet
namespace Go.Proofs.Ytngjedfoogmbjaa
open Go.RowKit

def cellD (L : List Lob) (id f : Int) : V := (cellOf L id f).getD (false, 0)
/-- a value, and whether there is one -/
def RetRd (w : World) (x : V) (b : Bool) (e : Ending) (w' : World) : Prop := e = .returned (.tuple #[vv x, .bool b]) ∧ Below w.heap.size w w'
theorem cellD_no {L : List Lob} {id f : Int} (h : hasCell L id f = false) : cellD L id f = (false, 0) := by
  unfold cellD
  unfold hasCell at h
  cases hc : cellOf L id f with
  | none => rfl
  | some x => rw [hc] at h; cases h
theorem cell_yes {L : List Lob} {id f : Int} (h : hasCell L id f = true) : isIn L id = true ∧ ∃ (x : Lob) (m : Nat) (y : V), L[idx L id]? = some x ∧ f = (m : Int) ∧ x.vals[m]? = some y ∧ cellD L id f = y := by
  unfold cellD
  unfold hasCell at h
  cases hc : cellOf L id f with
  | none => rw [hc] at h; cases h
  | some y =>
    have hc' := hc
    unfold cellOf at hc'
    cases hx : L[idx L id]? with
    | none => rw [hx] at hc'; cases hc'
    | some x =>
      rw [hx] at hc'
      simp only at hc'
      by_cases h0 : f < 0
      · rw [if_pos h0] at hc'; cases hc'
      · rw [if_neg h0] at hc'
        refine ⟨?_, x, f.toNat, y, rfl, by omega, hc', rfl⟩
        unfold isIn
        exact decide_eq_true (List.getElem?_eq_some_iff.1 hx).1

set_option maxHeartbeats 1000000 in
set_option maxRecDepth 100000 in
theorem read_any (v : Value) (L : List Lob) (id f : Int) (w : World) (h : OsAt w v L) (hL : Short L) :
    Calls Try.prog 11 #[.agg #[v], .int .i64 id, .int .i64 f] w (RetRd w (cellD L id f) (hasCell L id f)) := by
  obtain ⟨a, n, c, rfl, hn⟩ := h.shape
  have H := Lib.hid h
  have HL := Lib.hid hL
  clear h hL
  obtain ⟨W, hW, hB, hP, hR, hz⟩ := one_two w (.slice a n c) (.bool false) (.int .i64 0) 24 29
  have HW := Lib.hid hW
  have HB := Lib.hid hB
  have HP := Lib.hid hP
  have HR := Lib.hid hR
  clear hW hB hP hR hz
  cases hin : hasCell L id f with
  | false =>
    rw [cellD_no hin]
    go_enter Try.func11, Try.ntmps11
    go_wp2_with fail
    rw [HW.out]
    refine (findCell_any _ L id f _ (H.out.below HB.out) HL.out.1).mono ?_
    rintro e w1 ⟨rfl, hb⟩
    rw [hin]
    have HB1 := Lib.hid (HB.out.then_' hb)
    obtain ⟨r0, r1, f0, f1, _⟩ := HR.out.below hb
    clear hb
    go_wp2
    refine bodyPost_ret (v := .tuple #[.agg #[.bool false, .int .i64 0], .bool false]) (by simp [results, Try.results11, go_sem, r0, r1]) rfl ?_
    exact ⟨rfl, (HB1.out.setCell (p := ⟨w.heap.size + 1, 0, none⟩) (by simp) _).setCell (p := ⟨w.heap.size + 1, 1, none⟩) (by simp) _⟩
  | true =>
    obtain ⟨hisin, x, m, y, hx, rfl, hy, hd⟩ := cell_yes hin
    rw [hd]
    have HX := Lib.hid hx
    have HY := Lib.hid hy
    have HF := Lib.hid (cellI_yes hin)
    have hlt : idx L id < n := by rw [hn.out]; exact of_decide_eq_true hisin
    clear hx hd hisin hy
    go_enter Try.func11, Try.ntmps11
    go_wp2_with fail
    rw [HW.out]
    refine (findCell_any _ L id m _ (H.out.below HB.out) HL.out.1).mono ?_
    rintro e w1 ⟨rfl, hb⟩
    rw [hin, HF.out]
    have HB1 := Lib.hid (HB.out.then_' hb)
    obtain ⟨r0, r1, f0, f1, hlt2⟩ := HR.out.below hb
    have hp0 := (HP.out.below hb).c0
    obtain ⟨b, o, c', hv, hbl, hc0, hc1⟩ := (H.out.below HB1.out).elem HX.out
    obtain ⟨rfl, hv2, rfl⟩ := Value.slice.inj hv
    have hxv := (H.out.below HB1.out).2 _ (List.mem_of_getElem? HX.out)
    have hxl := HL.out.2 _ (List.mem_of_getElem? HX.out)
    clear hb hv hv2
    generalize hkk : idx L id = k at *
    clear hkk
    have hlt' : (k : Int) < (n : Int) := by omega
    obtain ⟨b2, o2, c2, hv, _, hd0, hd1⟩ := hxv.elem HY.out
    have hm : m < x.vals.length := (List.getElem?_eq_some_iff.1 HY.out).1
    have hm' : (m : Int) < (x.vals.length : Int) := by omega
    rw [hv] at hc1
    clear hv hxv
    obtain ⟨y1, y2⟩ := y
    simp only at hd0 hd1
    go_wp2
    refine bodyPost_ret (v := .tuple #[.agg #[.bool y1, .int .i64 y2], .bool true]) (by simp [results, Try.results11, go_sem, r0, r1]) rfl ?_
    exact ⟨rfl, (HB1.out.setCell (p := ⟨w.heap.size + 1, 0, none⟩) (by simp) _).setCell (p := ⟨w.heap.size + 1, 1, none⟩) (by simp) _⟩

theorem hasCell_isIn {L : List Lob} {id f : Int} (h : isIn L id = false) : hasCell L id f = false := hasCell_none h

set_option maxHeartbeats 1000000 in
set_option maxRecDepth 100000 in
theorem rread_any (v : Value) (L : List Lob) (id f : Int) (w : World) (h : OsAt w v L) (hL : Short L) :
    Calls Try.prog 12 #[.agg #[v], .int .i64 id, .int .i64 f] w (RetRd w (cellD L id f) (hasCell L id f)) := by
  obtain ⟨a, n, c, rfl, hn⟩ := h.shape
  have H := Lib.hid h
  have HL := Lib.hid hL
  clear h hL
  obtain ⟨W, hW, hB, hP, hR, hz⟩ := one_two w (.slice a n c) (.bool false) (.int .i64 0) 24 29
  have HW := Lib.hid hW
  have HB := Lib.hid hB
  have HP := Lib.hid hP
  have HR := Lib.hid hR
  clear hW hB hP hR hz
  cases hin : isIn L id with
  | false =>
    rw [cellD_no (hasCell_none hin), hasCell_none hin]
    have HA := Lib.hid (atI_out hin)
    go_enter Try.func12, Try.ntmps12
    go_wp2_with fail
    rw [HW.out]
    refine (rat_any _ L id _ (H.out.below HB.out) HL.out.1).mono ?_
    rintro e w1 ⟨rfl, hb⟩
    rw [HA.out]
    have HB1 := Lib.hid (HB.out.then_' hb)
    obtain ⟨r0, r1, f0, f1, _⟩ := HR.out.below hb
    clear hb
    go_wp2
    refine bodyPost_ret (v := .tuple #[.agg #[.bool false, .int .i64 0], .bool false]) (by simp [results, Try.results12, go_sem, r0, r1]) rfl ?_
    exact ⟨rfl, (HB1.out.setCell (p := ⟨w.heap.size + 1, 0, none⟩) (by simp) _).setCell (p := ⟨w.heap.size + 1, 1, none⟩) (by simp) _⟩
  | true =>
    obtain ⟨_, x, hx⟩ := findI_in hin
    have hc := hasCell_in (f := f) hx
    have HX := Lib.hid hx
    have HA := Lib.hid (atI_in hin)
    have HC := Lib.hid hc
    have hlt : idx L id < n := by rw [hn.out]; exact of_decide_eq_true hin
    cases hq : hasCell L id f with
    | false =>
      rw [cellD_no hq]
      rw [hq] at hc
      have hno : f < 0 ∨ (x.vals.length : Int) ≤ f := by
        have := hc.symm
        simp at this
        omega
      clear hx hc
      rcases hno with hneg | hbig
      · go_enter Try.func12, Try.ntmps12
        go_wp2_with fail
        rw [HW.out]
        refine (rat_any _ L id _ (H.out.below HB.out) HL.out.1).mono ?_
        rintro e w1 ⟨rfl, hb⟩
        rw [HA.out]
        have HB1 := Lib.hid (HB.out.then_' hb)
        obtain ⟨r0, r1, f0, f1, _⟩ := HR.out.below hb
        clear hb
        generalize hkk : idx L id = k at *
        clear hkk
        have hge : ((k : Int) < 0) = False := by simp only [eq_iff_iff, iff_false]; omega
        go_wp2
        refine bodyPost_ret (v := .tuple #[.agg #[.bool false, .int .i64 0], .bool false]) (by simp [results, Try.results12, go_sem, r0, r1]) rfl ?_
        exact ⟨rfl, (HB1.out.setCell (p := ⟨w.heap.size + 1, 0, none⟩) (by simp) _).setCell (p := ⟨w.heap.size + 1, 1, none⟩) (by simp) _⟩
      · go_enter Try.func12, Try.ntmps12
        go_wp2_with fail
        rw [HW.out]
        refine (rat_any _ L id _ (H.out.below HB.out) HL.out.1).mono ?_
        rintro e w1 ⟨rfl, hb⟩
        rw [HA.out]
        have HB1 := Lib.hid (HB.out.then_' hb)
        obtain ⟨r0, r1, f0, f1, _⟩ := HR.out.below hb
        have hp0 := (HP.out.below hb).c0
        obtain ⟨b, o, c', hv, hbl, hc0, hc1⟩ := (H.out.below HB1.out).elem HX.out
        obtain ⟨rfl, hv2, rfl⟩ := Value.slice.inj hv
        obtain ⟨fa, fc, hf⟩ := SlAt.shape ((H.out.below HB1.out).2 _ (List.mem_of_getElem? HX.out))
        rw [hf] at hc1
        clear hb hv hv2 hf
        generalize hkk : idx L id = k at *
        clear hkk
        have hge : ((k : Int) < 0) = False := by simp only [eq_iff_iff, iff_false]; omega
        have hge2 : (0 : Int) ≤ (k : Int) := by omega
        have hlt' : (k : Int) < (n : Int) := by omega
        have hf0 : ¬ f < 0 := by omega
        go_wp2
        refine bodyPost_ret (v := .tuple #[.agg #[.bool false, .int .i64 0], .bool false]) (by simp [results, Try.results12, go_sem, r0, r1]) rfl ?_
        exact ⟨rfl, (HB1.out.setCell (p := ⟨w.heap.size + 1, 0, none⟩) (by simp) _).setCell (p := ⟨w.heap.size + 1, 1, none⟩) (by simp) _⟩
    | true =>
      obtain ⟨_, x', m, y, hx', rfl, hy, hd⟩ := cell_yes hq
      rw [hx] at hx'
      obtain rfl := Option.some.inj hx'
      rw [hd]
      have HY := Lib.hid hy
      clear hx hc hx' hd hy
      go_enter Try.func12, Try.ntmps12
      go_wp2_with fail
      rw [HW.out]
      refine (rat_any _ L id _ (H.out.below HB.out) HL.out.1).mono ?_
      rintro e w1 ⟨rfl, hb⟩
      rw [HA.out]
      have HB1 := Lib.hid (HB.out.then_' hb)
      obtain ⟨r0, r1, f0, f1, hlt2⟩ := HR.out.below hb
      have hp0 := (HP.out.below hb).c0
      obtain ⟨b, o, c', hv, hbl, hc0, hc1⟩ := (H.out.below HB1.out).elem HX.out
      obtain ⟨rfl, hv2, rfl⟩ := Value.slice.inj hv
      have hxv := (H.out.below HB1.out).2 _ (List.mem_of_getElem? HX.out)
      have hxl := HL.out.2 _ (List.mem_of_getElem? HX.out)
      clear hb hv hv2
      generalize hkk : idx L id = k at *
      clear hkk
      have hge : ((k : Int) < 0) = False := by simp only [eq_iff_iff, iff_false]; omega
      have hge2 : (0 : Int) ≤ (k : Int) := by omega
      have hlt' : (k : Int) < (n : Int) := by omega
      obtain ⟨b2, o2, c2, hv, _, hd0, hd1⟩ := hxv.elem HY.out
      have hm : m < x.vals.length := (List.getElem?_eq_some_iff.1 HY.out).1
      have hm' : (m : Int) < (x.vals.length : Int) := by omega
      have hm2 : ((m : Int) < 0) = False := by simp only [eq_iff_iff, iff_false]; omega
      have hm3 : ((x.vals.length : Int) ≤ (m : Int)) = False := by simp only [eq_iff_iff, iff_false]; omega
      rw [hv] at hc1
      clear hv hxv
      obtain ⟨y1, y2⟩ := y
      simp only at hd0 hd1
      go_wp2
      refine bodyPost_ret (v := .tuple #[.agg #[.bool y1, .int .i64 y2], .bool true]) (by simp [results, Try.results12, go_sem, r0, r1]) rfl ?_
      exact ⟨rfl, (HB1.out.setCell (p := ⟨w.heap.size + 1, 0, none⟩) (by simp) _).setCell (p := ⟨w.heap.size + 1, 1, none⟩) (by simp) _⟩
end Go.Proofs.Ytngjedfoogmbjaa
