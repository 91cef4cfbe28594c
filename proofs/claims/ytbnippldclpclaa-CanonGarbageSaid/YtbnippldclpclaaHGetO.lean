/- Get, whose object lies in a row of its own. -/
import Derived.Test.YtbnippldclpclaaHSane
namespace Go.Proofs.Ytbnippldclpclaa
open Go.RowKit

def RetGetO (w : World) (O : Ob) (b : Bool) (e : Ending) (w' : World) : Prop := ∃ y : Lob, e = .returned (.tuple #[ov y, .bool b]) ∧ VsOwn w' w.heap.size y.fv y.vals ∧ y.ob = O ∧ Below w.heap.size w w'

set_option maxHeartbeats 1000000 in
set_option maxRecDepth 100000 in
theorem get_own (v : Value) (L : List Lob) (id : Int) (w : World) (h : OsAt w v L) (hL : Short L) :
    Calls Try.prog 29 #[.agg #[v], .int .i64 id] w (RetGetO w (obD L id) (isIn L id)) := by
  obtain ⟨a, n, c, rfl, hn⟩ := h.shape
  have H := Lib.hid h
  have HL := Lib.hid hL
  clear h hL
  obtain ⟨W, hW, hB, hP, hR, hz⟩ := one_two w (.slice a n c) (.int .i64 0) (.slice none 0 0) 28 43
  have HW := Lib.hid hW
  have HB := Lib.hid hB
  have HP := Lib.hid hP
  have HR := Lib.hid hR
  have HZ := Lib.hid hz
  clear hW hB hP hR hz
  cases hin : isIn L id with
  | false =>
    rw [obD_out hin]
    go_enter Try.func29, Try.ntmps29
    go_wp2_with fail
    rw [HW.out]
    refine (find_any _ L id _ (H.out.below HB.out) HL.out.1).mono ?_
    rintro e w1 ⟨rfl, hb⟩
    rw [hin]
    have HB1 := Lib.hid (HB.out.then_' hb)
    obtain ⟨r0, r1, f0, f1, _⟩ := HR.out.below hb
    clear hb
    go_wp2
    refine bodyPost_ret (v := .tuple #[.agg #[.int .i64 0, .slice none 0 0], .bool false]) (by simp [results, Try.results29, go_sem, r0, r1]) rfl ?_
    exact ⟨⟨0, .slice none 0 0, []⟩, rfl, VsOwn.nil _ _, rfl, (HB1.out.setCell (p := ⟨w.heap.size + 1, 0, none⟩) (by simp) _).setCell (p := ⟨w.heap.size + 1, 1, none⟩) (by simp) _⟩
  | true =>
    obtain ⟨hfi, x, hx⟩ := findI_in hin
    rw [obD_in hx]
    have HX := Lib.hid hx
    have HF := Lib.hid hfi
    have hlt : idx L id < n := by rw [hn.out]; exact of_decide_eq_true hin
    clear hx hfi
    go_enter Try.func29, Try.ntmps29
    go_wp2_with fail
    rw [HW.out]
    refine (find_any _ L id _ (H.out.below HB.out) HL.out.1).mono ?_
    rintro e w1 ⟨rfl, hb⟩
    rw [hin, HF.out]
    have HB1 := Lib.hid (HB.out.then_' hb)
    have HR1 := Lib.hid (HR.out.below hb)
    have hp0 := (HP.out.below hb).c0
    obtain ⟨b, o, c', hv, hbl, hc0, hc1⟩ := (H.out.below HB1.out).elem HX.out
    obtain ⟨rfl, hv2, rfl⟩ := Value.slice.inj hv
    have hxv := (H.out.below HB1.out).2 _ (List.mem_of_getElem? HX.out)
    have hxl := HL.out.2 _ (List.mem_of_getElem? HX.out)
    clear hb hv hv2
    generalize hkk : idx L id = k at *
    clear hkk
    have hlt' : (k : Int) < (n : Int) := by omega
    obtain ⟨i, xv, l⟩ := x
    simp only at hc0 hc1 hxv hxl
    obtain ⟨fa, fn, fc, rfl, _⟩ := hxv.shape
    have HXV := Lib.hid hxv
    clear hxv
    go_wp2_with (first | (go_at_call 34; refine (copyObject_any i _ l _ HXV.out hxl).mono ?_; rintro e w2 ⟨v2, rfl, ho, hb2⟩; obtain ⟨a2, n2, c2, rfl, _⟩ := VsAt.shape ho.at_; have HO := Lib.hid ho; have HB2 := Lib.hid hb2; obtain ⟨r0, r1, f0, f1, _⟩ := HR1.out.below hb2; clear ho hb2) | fail)
    refine bodyPost_ret (v := .tuple #[.agg #[.int .i64 i, .slice a2 n2 c2], .bool true]) (by simp [results, Try.results29, go_sem, r0, r1]) rfl ?_
    have hlt2 : w.heap.size + 1 < w1.heap.size := HR1.out.lt
    exact ⟨⟨i, .slice a2 n2 c2, l⟩, rfl, ((HO.out.set (p := ⟨w.heap.size + 1, 0, none⟩) hlt2 _).set (p := ⟨w.heap.size + 1, 1, none⟩) hlt2 _).mono HB1.out.size, rfl, ((HB1.out.then_' HB2.out).setCell (p := ⟨w.heap.size + 1, 0, none⟩) (by simp) _).setCell (p := ⟨w.heap.size + 1, 1, none⟩) (by simp) _⟩

def ROO (w : World) (o : Ob) (b : Bool) (e : Ending) (w' : World) : Prop := ∃ a n c, e = .returned (.tuple #[.agg #[.int .i64 o.1, .slice a n c], .bool b]) ∧ VsOwn w' w.heap.size (.slice a n c) o.2 ∧ Below w.heap.size w w'
theorem GO_of {w : World} {o : Ob} {b : Bool} {e : Ending} {w' : World} (h : RetGetO w o b e w') : ROO w o b e w' := by
  obtain ⟨y, rfl, h1, rfl, h3⟩ := h
  obtain ⟨i, v, l⟩ := y
  obtain ⟨a, n, c, e, _⟩ := VsAt.shape h1.at_
  simp only at e
  subst e
  exact ⟨a, n, c, rfl, h1, h3⟩
theorem getown_ok {w : World} {v : Value} {O : List Ob} (id : Int) (h : OAt w v O) (hs : ShortO O) : Calls Try.prog 29 #[.agg #[v], .int .i64 id] w (ROO w (getO O id) (inO O id)) := by
  obtain ⟨L, h, rfl⟩ := h
  rw [← obD_obs, ← isIn_obs]
  exact (get_own v L id w h (shortO hs)).mono fun e w' hh => GO_of hh
end Go.Proofs.Ytbnippldclpclaa
