/- Get and Read, of the program and of the reference. -/
import Derived.Test.YtbnippldclpclaaHIns
namespace Go.Proofs.Ytbnippldclpclaa
open Go.RowKit

def obD (L : List Lob) (id : Int) : Ob := match L[idx L id]? with | some x => x.ob | none => (0, [])
/-- an object, and whether there is one -/
def RetGet (w : World) (O : Ob) (b : Bool) (e : Ending) (w' : World) : Prop := ∃ y : Lob, e = .returned (.tuple #[ov y, .bool b]) ∧ VsAt w' y.fv y.vals ∧ y.ob = O ∧ Below w.heap.size w w'
theorem obD_in {L : List Lob} {id : Int} {x : Lob} (h : L[idx L id]? = some x) : obD L id = x.ob := by unfold obD; rw [h]
theorem obD_out {L : List Lob} {id : Int} (h : isIn L id = false) : obD L id = (0, []) := by
  have : ¬ idx L id < L.length := of_decide_eq_false h
  unfold obD
  rw [List.getElem?_eq_none (by omega)]
theorem one_two (w : World) (p q r : Value) (t t' : TypeId) : ∃ W, (w.alloc (.cells #[p] t)).alloc (.cells #[q, r] t') = W ∧ Below w.heap.size w W ∧ At1 W w.heap.size p ∧ At2 W (w.heap.size + 1) q r ∧ W.heap.size = w.heap.size + 2 :=
  ⟨_, rfl, Below.new (below1 _ _) _, (At1.new _ _ _).alloc _, by simpa using At2.new (w.alloc (.cells #[p] t)) q r t', by simp⟩

set_option maxHeartbeats 1000000 in
set_option maxRecDepth 100000 in
theorem get_any (v : Value) (L : List Lob) (id : Int) (w : World) (h : OsAt w v L) (hL : Short L) :
    Calls Try.prog 29 #[.agg #[v], .int .i64 id] w (RetGet w (obD L id) (isIn L id)) := by
  obtain ⟨a, n, c, rfl, hn⟩ := h.shape
  have H := Lib.hid h
  have HL := Lib.hid hL
  clear h hL
  obtain ⟨W, hW, hB, hP, hR, hz⟩ := one_two w (.slice a n c) (.int .i64 0) (.slice none 0 0) 28 43
  have HW := Lib.hid hW
  have HB := Lib.hid hB
  have HP := Lib.hid hP
  have HR := Lib.hid hR
  have HZ := Lib.hid hz
  clear hW hB hP hR hz
  cases hin : isIn L id with
  | false =>
    rw [obD_out hin]
    go_enter Try.func29, Try.ntmps29
    go_wp2_with fail
    rw [HW.out]
    refine (find_any _ L id _ (H.out.below HB.out) HL.out.1).mono ?_
    rintro e w1 ⟨rfl, hb⟩
    rw [hin]
    have HB1 := Lib.hid (HB.out.then_' hb)
    obtain ⟨r0, r1, f0, f1, _⟩ := HR.out.below hb
    clear hb
    go_wp2
    refine bodyPost_ret (v := .tuple #[.agg #[.int .i64 0, .slice none 0 0], .bool false]) (by simp [results, Try.results29, go_sem, r0, r1]) rfl ?_
    exact ⟨⟨0, .slice none 0 0, []⟩, rfl, .inl ⟨rfl, rfl, rfl⟩, rfl, (HB1.out.setCell (p := ⟨w.heap.size + 1, 0, none⟩) (by simp) _).setCell (p := ⟨w.heap.size + 1, 1, none⟩) (by simp) _⟩
  | true =>
    obtain ⟨hfi, x, hx⟩ := findI_in hin
    rw [obD_in hx]
    have HX := Lib.hid hx
    have HF := Lib.hid hfi
    have hlt : idx L id < n := by rw [hn.out]; exact of_decide_eq_true hin
    clear hx hfi
    go_enter Try.func29, Try.ntmps29
    go_wp2_with fail
    rw [HW.out]
    refine (find_any _ L id _ (H.out.below HB.out) HL.out.1).mono ?_
    rintro e w1 ⟨rfl, hb⟩
    rw [hin, HF.out]
    have HB1 := Lib.hid (HB.out.then_' hb)
    have HR1 := Lib.hid (HR.out.below hb)
    have hp0 := (HP.out.below hb).c0
    obtain ⟨b, o, c', hv, hbl, hc0, hc1⟩ := (H.out.below HB1.out).elem HX.out
    obtain ⟨rfl, hv2, rfl⟩ := Value.slice.inj hv
    have hxv := (H.out.below HB1.out).2 _ (List.mem_of_getElem? HX.out)
    have hxl := HL.out.2 _ (List.mem_of_getElem? HX.out)
    clear hb hv hv2
    generalize hkk : idx L id = k at *
    clear hkk
    have hlt' : (k : Int) < (n : Int) := by omega
    obtain ⟨i, xv, l⟩ := x
    simp only at hc0 hc1 hxv hxl
    obtain ⟨fa, fn, fc, rfl, _⟩ := hxv.shape
    have HXV := Lib.hid hxv
    clear hxv
    go_wp2_with (first | (go_at_call 34; refine (copyObject_any i _ l _ HXV.out hxl).mono ?_; rintro e w2 ⟨v2, rfl, ho, hb2⟩; obtain ⟨a2, n2, c2, rfl, _⟩ := VsAt.shape ho.at_; have HO := Lib.hid ho; have HB2 := Lib.hid hb2; obtain ⟨r0, r1, f0, f1, _⟩ := HR1.out.below hb2; clear ho hb2) | fail)
    refine bodyPost_ret (v := .tuple #[.agg #[.int .i64 i, .slice a2 n2 c2], .bool true]) (by simp [results, Try.results29, go_sem, r0, r1]) rfl ?_
    have hlt2 : w.heap.size + 1 < w1.heap.size := HR1.out.lt
    exact ⟨⟨i, .slice a2 n2 c2, l⟩, rfl, VsOwn.at_ ((HO.out.set (p := ⟨w.heap.size + 1, 0, none⟩) hlt2 _).set (p := ⟨w.heap.size + 1, 1, none⟩) hlt2 _), rfl, ((HB1.out.then_' HB2.out).setCell (p := ⟨w.heap.size + 1, 0, none⟩) (by simp) _).setCell (p := ⟨w.heap.size + 1, 1, none⟩) (by simp) _⟩

theorem atI_in {L : List Lob} {id : Int} (h : isIn L id = true) : atI L id = idx L id := by
  have h' : idx L id < L.length := of_decide_eq_true h
  unfold atI
  rw [if_pos h']
theorem atI_out {L : List Lob} {id : Int} (h : isIn L id = false) : atI L id = -1 := by
  have h' : ¬ idx L id < L.length := of_decide_eq_false h
  unfold atI
  rw [if_neg h']

end Go.Proofs.Ytbnippldclpclaa
