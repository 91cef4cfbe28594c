/- copyHeap. -/
import Derived.Test.YtngjedfoogmbjaaHDeep
namespace Go.Proofs.Ytngjedfoogmbjaa
open Go.RowKit

/-- the first k objects of L' are those of L; the others are without anything -/
def CopyTo (L L' : List Lob) (k : Nat) : Prop := L'.length = L.length ∧ ∀ i, i < k → L'[i]?.map Lob.ob = L[i]?.map Lob.ob
theorem copyTo_all {L L' : List Lob} (h : CopyTo L L' L.length) : obs L' = obs L := by
  apply List.ext_getElem?
  intro i
  unfold obs
  rw [List.getElem?_map, List.getElem?_map]
  by_cases hi : i < L.length
  · exact h.2 i hi
  · have := h.1
    rw [List.getElem?_eq_none (by omega), List.getElem?_eq_none (by omega)]
theorem copyTo_next {L L' : List Lob} {k : Nat} {x y : Lob} (h : CopyTo L L' k) (hk : L[k]? = some x) (he : y.ob = x.ob) : CopyTo L (L'.set k y) (k + 1) := by
  refine ⟨by simpa using h.1, fun i hi => ?_⟩
  have hlt := (List.getElem?_eq_some_iff.1 hk).1
  by_cases hik : k = i
  · subst hik
    rw [List.getElem?_set_self (by rw [h.1]; exact hlt), hk]
    simp [he]
  · rw [List.getElem?_set_ne hik]
    exact h.2 i (by omega)
/-- a heap in new memory -/
def RetH (w : World) (O : List Ob) (e : Ending) (w' : World) : Prop := ∃ v L', e = .returned (.agg #[v]) ∧ Deep w' w.heap.size v L' ∧ obs L' = O ∧ Below w.heap.size w w' ∧ ∃ g, v = .slice (some ⟨g, 0, none⟩) L'.length L'.length

theorem one_one (w : World) (p q : Value) (t t' : TypeId) : ∃ W, (w.alloc (.cells #[p] t)).alloc (.cells #[q] t') = W ∧ Below w.heap.size w W ∧ At1 W w.heap.size p ∧ At1 W (w.heap.size + 1) q ∧ W.heap.size = w.heap.size + 2 :=
  ⟨_, rfl, Below.new (below1 _ _) _, (At1.new _ _ _).alloc _, by simpa using At1.new (w.alloc (.cells #[p] t)) q t', by simp⟩

set_option maxHeartbeats 1000000 in
set_option maxRecDepth 100000 in
theorem copyHeap_any (v : Value) (L : List Lob) (w : World) (h : OsAt w v L) (hL : Short L) :
    Calls Try.prog 28 #[.agg #[v]] w (RetH w (obs L)) := by
  obtain ⟨a, n, c, rfl, hn⟩ := h.shape
  have H := Lib.hid h
  have hl : n ≤ 1000000000 := by rw [hn.out]; exact hL.1
  have HL := Lib.hid hL.2
  clear h hL
  obtain ⟨W, hW, hB, hP, hR, hz⟩ := one_one w (.slice a n c) (.slice none 0 0) 24 24
  obtain ⟨W2, hmk, hD, hB2, hz2⟩ := make_deep W (w.heap.size + 1 + 1) n hl (by omega)
  have hzz : W.heap.size = w.heap.size + 1 + 1 := by omega
  rw [hzz] at hD hmk
  have hz3 : W2.heap.size = w.heap.size + 1 + 1 + 1 := by omega
  have HB := Lib.hid (Below.then_ hB hB2)
  have HD := Lib.hid hD
  have HP := Lib.hid (hP.below hB2)
  have HR := Lib.hid (hR.below hB2)
  have hp0 := (hP.below hB2).c0
  have hlt0 : w.heap.size < W2.heap.size := by omega
  have HZ3 := Lib.hid hz3
  clear hB hP hR hD hB2 hz hz2 hzz hz3
  rw [← hW] at hmk
  clear hW
  go_enter Try.func28, Try.ntmps28
  go_wp2
  have hb1 : Below w.heap.size w (W2.alloc (.cells #[.slice (some ⟨w.heap.size + 1 + 1, 0, none⟩) n n] 24)) := HB.out.alloc (by omega) _
  have hr1 : At1 (W2.alloc (.cells #[.slice (some ⟨w.heap.size + 1 + 1, 0, none⟩) n n] 24)) (w.heap.size + 1) (.slice none 0 0) := HR.out.alloc _
  have hv1 : At1 (W2.alloc (.cells #[.slice (some ⟨w.heap.size + 1 + 1, 0, none⟩) n n] 24)) (w.heap.size + 1 + 1 + 1) (.slice (some ⟨w.heap.size + 1 + 1, 0, none⟩) n n) := by rw [← HZ3.out]; exact At1.new _ _ _
  have hd1 : Deep (W2.alloc (.cells #[.slice (some ⟨w.heap.size + 1 + 1, 0, none⟩) n n] 24)) (w.heap.size + 1 + 1) (.slice (some ⟨w.heap.size + 1 + 1, 0, none⟩) n n) (List.replicate n zeroL) := HD.out.below (below1 _ _)
  rw [HZ3.out]
  generalize W2.alloc (.cells #[.slice (some ⟨w.heap.size + 1 + 1, 0, none⟩) n n] 24) = W3 at *
  clear hmk hp0 hlt0 HB HD HP HR HZ3
  go_loopw [4, 5, 14] (fun _ _ i wr => ∃ (k : Nat) (L' : List Lob), k ≤ n ∧ i = .int .i64 k ∧ Below w.heap.size w wr ∧ At1 wr (w.heap.size + 1) (.slice none 0 0) ∧ At1 wr (w.heap.size + 1 + 1 + 1) (.slice (some ⟨w.heap.size + 1 + 1, 0, none⟩) n n) ∧ Deep wr (w.heap.size + 1 + 1) (.slice (some ⟨w.heap.size + 1 + 1, 0, none⟩) n n) L' ∧ Hid (CopyTo L L' k)) (fun _ _ i _ => n - (intOf i).toNat)
  case atStart => exact ⟨0, _, Nat.zero_le _, rfl, hb1, hr1, hv1, hd1, by simp [hn.out], fun i hi => by omega⟩
  case round =>
    clear hb1 hr1 hv1 hd1
    obtain ⟨k, L', hk, rfl, hb, hr, hv, hd, hi⟩ := hrel
    have HB := Lib.hid hb
    have HD := Lib.hid hd
    have HV := Lib.hid hv
    have HR := Lib.hid hr
    have hltv := hv.lt
    have hv0 := hv.c0
    clear hd hv hr
    by_cases hlt : k < n
    · obtain ⟨x, hx⟩ : ∃ x, L[k]? = some x := ⟨_, List.getElem?_eq_getElem (by rw [← hn.out]; exact hlt)⟩
      obtain ⟨b, o, c', hv, hbl, hc0, hc1⟩ := (H.out.below hb).elem hx
      obtain ⟨rfl, hv2, rfl⟩ := Value.slice.inj hv
      have hxv := (H.out.below hb).2 _ (List.mem_of_getElem? hx)
      have hxl := HL.out _ (List.mem_of_getElem? hx)
      have HX := Lib.hid hx
      obtain ⟨i, xv, l⟩ := x
      simp only at hc0 hc1 hxv hxl
      obtain ⟨fa, fn, fc, rfl, _⟩ := hxv.shape
      have HXV := Lib.hid hxv
      clear hv hv2 hb hx hxv
      have hki : (k : Int) < (n : Int) := by omega
      have hkL : k < L'.length := by rw [hi.out.1, ← hn.out]; exact hlt
      obtain ⟨z, hz⟩ : ∃ z, L'[k]? = some z := ⟨_, List.getElem?_eq_getElem hkL⟩
      have HZ := Lib.hid hz
      have HKL := Lib.hid hkL
      clear hz hkL
      go_wp2
      have hp := At2.new wr (.int .i64 i) (.slice fa fn fc) 27
      have hbn := below1 wr (.cells #[.int .i64 i, .slice fa fn fc] 27)
      have hzn : (wr.alloc (.cells #[.int .i64 i, .slice fa fn fc] 27)).heap.size = wr.heap.size + 1 := by simp
      generalize wr.alloc (.cells #[.int .i64 i, .slice fa fn fc] 27) = wa at *
      have HBn := Lib.hid hbn.drew
      have HBa := Lib.hid (HB.out.then_' hbn)
      have HPa := Lib.hid hp.drew
      have HVa := Lib.hid (HV.out.below hbn).drew
      have HRa := Lib.hid (HR.out.below hbn).drew
      have HDa := Lib.hid ((HD.out.below hbn).below (below_drew wa))
      have HXa := Lib.hid (HXV.out.below hbn).drew
      have q0 := HVa.out.c0
      have q1 := hp.c0
      have q2 := hp.c1
      have hq0 : wa.cell? ⟨w.heap.size + 1 + 1 + 1, 0, none⟩ = some (.slice (some ⟨w.heap.size + 1 + 1, 0, none⟩) n n) := q0
      clear hp hbn q0
      go_region_held3 (fun wx => wx.cell? ⟨w.heap.size + 1 + 1 + 1, 0, none⟩ = some (.slice (some ⟨w.heap.size + 1 + 1, 0, none⟩) n n) ∧ wx.cell? ⟨wr.heap.size, 0, none⟩ = some (.int .i64 i) ∧ wx.cell? ⟨wr.heap.size, 1, none⟩ = some (.slice fa fn fc)) (first | exact ⟨hq0, q1, q2⟩ | exact ⟨e0, e1, e2⟩ | exact ⟨cell_far (cell_far e0 (by simp)) (by simp), cell_far (cell_far e1 (by simp; omega)) (by simp; omega), cell_far (cell_far e2 (by simp; omega)) (by simp; omega)⟩) (first | (go_at_call 24; refine (copyObject_any i _ l _ HXa.out hxl).mono ?_; rintro e w1 ⟨v1, rfl, ho, hb1⟩; obtain ⟨a1, n1, c1, rfl, _⟩ := VsAt.shape ho.at_; have e0 := (HVa.out.below hb1).c0; obtain ⟨e1, e2, _, _, _⟩ := HPa.out.below hb1; obtain ⟨s0, s1, s2, s3⟩ := (HDa.out.below hb1).cells HZ.out; have HO := Lib.hid ho; have HB1 := Lib.hid hb1; clear ho hb1) | fail)
      go_wp2
      refine ⟨⟨k + 1, L'.set k ⟨i, .slice a1 n1 c1, l⟩, by omega, rfl, ?_, ?_, ?_, ?_, copyTo_next hi.out HX.out rfl⟩, by simp [intOf]; omega⟩
      · exact ((HBa.out.drew.then_' HB1.out).setCell (p := ⟨w.heap.size + 1 + 1, k * 2, none⟩) (by simp; omega) _).setCell (p := ⟨w.heap.size + 1 + 1, k * 2 + 1, none⟩) (by simp; omega) _
      · exact ((HRa.out.below HB1.out).far (p := ⟨w.heap.size + 1 + 1, k * 2, none⟩) (by simp) _).far (p := ⟨w.heap.size + 1 + 1, k * 2 + 1, none⟩) (by simp) _
      · exact ((HVa.out.below HB1.out).far (p := ⟨w.heap.size + 1 + 1, k * 2, none⟩) (by simp) _).far (p := ⟨w.heap.size + 1 + 1, k * 2 + 1, none⟩) (by simp) _
      · exact Deep.put (x := ⟨i, .slice a1 n1 c1, l⟩) (HDa.out.below HB1.out) HKL.out (VsOwn.mono HO.out (by simp; omega)) (HDa.out.fresh HO.out)
    · obtain rfl : k = n := by omega
      have hr0 := HR.out.c0
      have hrf := HR.out.f0
      clear hb
      go_wp2
      refine bodyPost_ret (v := .agg #[.slice (some ⟨w.heap.size + 1 + 1, 0, none⟩) k k]) (by simp [results, Try.results28, go_sem, hr0]) rfl ?_
      exact ⟨_, L', rfl, Deep.mono (Deep.far HD.out (p := ⟨w.heap.size + 1, 0, none⟩) (by simp) _) (by omega), copyTo_all (by have := hi.out; rw [hn.out] at this; exact this), HB.out.setCell (p := ⟨w.heap.size + 1, 0, none⟩) (by simp) _, _, by rw [hi.out.1, ← hn.out]⟩
end Go.Proofs.Ytngjedfoogmbjaa
