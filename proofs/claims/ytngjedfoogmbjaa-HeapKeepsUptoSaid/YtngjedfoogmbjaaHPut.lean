/- Put of the program. -/
import Derived.Test.YtngjedfoogmbjaaHRWrite
namespace Go.Proofs.Ytngjedfoogmbjaa
open Go.RowKit

def putD (L : List Lob) (o : Ob) : List Ob := if isIn L o.1 then (obs L).set (idx L o.1) o else (obs L).take (pos L o.1) ++ o :: (obs L).drop (pos L o.1)
/-- a heap -/
def RetP (w : World) (O : List Ob) (e : Ending) (w' : World) : Prop := ∃ v L', e = .returned (.agg #[v]) ∧ OsAt w' v L' ∧ obs L' = O ∧ Below w.heap.size w w'
/-- a heap in new memory -/
def RetPO (w : World) (O : List Ob) (e : Ending) (w' : World) : Prop := ∃ v L', e = .returned (.agg #[v]) ∧ OsOwn w' w.heap.size v L' ∧ obs L' = O ∧ Below w.heap.size w w'
theorem OsOwn.mono {w : World} {B B' : Nat} {v : Value} {L : List Lob} (h : OsOwn w B v L) (hb : B' ≤ B) : OsOwn w B' v L := ⟨own_mono h.row hb, fun x hx => (h.vals x hx).mono hb⟩
theorem Deep.own_ {w : World} {B : Nat} {v : Value} {L : List Lob} (h : Deep w B v L) : OsOwn w B v L := ⟨h.row, h.vals⟩
theorem findI_out {L : List Lob} {id : Int} (h : isIn L id = false) : findI L id = pos L id := by
  have h' : ¬ idx L id < L.length := of_decide_eq_false h
  unfold findI
  rw [if_neg h']
theorem short_obs {L L' : List Lob} (h : obs L' = obs L) (hL : Short L) : Short L' := by
  refine ⟨by rw [← obs_len L', h, obs_len]; exact hL.1, fun x hx => ?_⟩
  have h1 : x.ob ∈ obs L' := List.mem_map_of_mem hx
  rw [h] at h1
  obtain ⟨y, hy, e⟩ := List.mem_map.1 h1
  have : y.vals = x.vals := congrArg Prod.snd e
  rw [← this]
  exact hL.2 y hy
theorem obs_ins (L : List Lob) (k : Nat) (x : Lob) : obs (insL L k x) = (obs L).take k ++ x.ob :: (obs L).drop k := by
  unfold obs insL
  rw [List.map_append, List.map_cons, List.map_take, List.map_drop]
theorem two_one (w : World) (p q r s : Value) (t t' t'' : TypeId) : ∃ W, ((w.alloc (.cells #[p] t)).alloc (.cells #[q, r] t')).alloc (.cells #[s] t'') = W ∧ Below w.heap.size w W ∧ At1 W w.heap.size p ∧ At2 W (w.heap.size + 1) q r ∧ At1 W (w.heap.size + 1 + 1) s ∧ W.heap.size = w.heap.size + 3 := three_new w p q r s t t' t''

set_option maxHeartbeats 1000000 in
set_option maxRecDepth 100000 in
theorem put_in (v fv : Value) (L : List Lob) (id : Int) (l : List V) (w : World) (h : OsAt w v L) (ho : VsAt w fv l) (hL : Short L) (hl : l.length ≤ 1000000000) (hin : isIn L id = true) :
    Calls Try.prog 15 #[.agg #[v], .agg #[.int .i64 id, fv]] w (RetPO w (putD L (id, l))) := by
  obtain ⟨a, n, c, rfl, hn⟩ := h.shape
  obtain ⟨fa, fn, fc, rfl, _⟩ := ho.shape
  have H := Lib.hid h
  have HV := Lib.hid ho
  have HL := Lib.hid hL
  clear h hL ho
  obtain ⟨W, hW, hB, hP, hO, hR, hz⟩ := two_one w (.slice a n c) (.int .i64 id) (.slice fa fn fc) (.slice none 0 0) 24 27 24
  have HW := Lib.hid hW
  have HB := Lib.hid hB
  have HP := Lib.hid hP
  have HO := Lib.hid hO
  have HR := Lib.hid hR
  have HZ := Lib.hid hz
  clear hW hB hP hO hR hz
  obtain ⟨hfi, x, hx⟩ := findI_in hin
  have hp : putD L (id, l) = (obs L).set (idx L id) (id, l) := by unfold putD; rw [if_pos hin]
  rw [hp]
  have HX := Lib.hid hx
  have HF := Lib.hid hfi
  have hlt : idx L id < n := by rw [hn.out]; exact of_decide_eq_true hin
  clear hx hfi hp
  go_enter Try.func15, Try.ntmps15
  go_wp2_with fail
  rw [HW.out]
  refine (find_any _ L id _ (H.out.below HB.out) HL.out.1).mono ?_
  rintro e w1 ⟨rfl, hb⟩
  rw [hin, HF.out]
  have HB1 := Lib.hid (HB.out.then_' hb)
  have HO1 := Lib.hid (HO.out.below hb)
  have HR1 := Lib.hid (HR.out.below hb)
  have hp0 := (HP.out.below hb).c0
  have HZ1 : Hid (w.heap.size + 3 ≤ w1.heap.size) := Lib.hid (by rw [← HZ.out]; exact hb.size)
  clear hb
  go_wp2_with fail
  refine (copyHeap_any _ L _ (H.out.below HB1.out) HL.out).mono ?_
  rintro e w2 ⟨v2, L', rfl, hd, ho, hb, _⟩
  have hll : L'.length = n := by rw [hn.out, ← obs_len L', ho, obs_len]
  obtain ⟨g, cg, rfl, hg1, hg2⟩ := hd.row_pos (by omega)
  rw [hll] at hd ⊢
  obtain ⟨x', hx', _, _⟩ := obs_get ho HX.out
  have HB2 := Lib.hid (HB1.out.then_' hb)
  have HO2 := Lib.hid (HO1.out.below hb)
  have HR2 := Lib.hid (HR1.out.below hb)
  have HD := Lib.hid hd
  have HOB := Lib.hid ho
  have HX' := Lib.hid hx'
  have hz12 := hb.size
  have hltw : w.heap.size + 1 + 1 < w1.heap.size := by have := HZ1.out; omega
  clear hb hd ho hx'
  generalize hkk : idx L id = k at *
  clear hkk
  have hlt' : (k : Int) < (n : Int) := by omega
  go_wp2_with fail
  have hh := At1.new w2 (.slice (some ⟨g, 0, none⟩) n cg) 24
  have hbn := below1 w2 (.cells #[.slice (some ⟨g, 0, none⟩) n cg] 24)
  have hzn : (w2.alloc (.cells #[.slice (some ⟨g, 0, none⟩) n cg] 24)).heap.size = w2.heap.size + 1 := by simp
  generalize w2.alloc (.cells #[.slice (some ⟨g, 0, none⟩) n cg] 24) = wa at *
  have HH := Lib.hid hh.drew
  have HOa := Lib.hid (HO2.out.below hbn).drew
  have HRa := Lib.hid (HR2.out.below hbn).drew
  have HDa := Lib.hid ((HD.out.below hbn).below (below_drew wa))
  have HBa := Lib.hid (HB2.out.then_' hbn).drew
  have HVa := Lib.hid (HV.out.below (HB2.out.then_' hbn)).drew
  have hh0 := hh.c0
  obtain ⟨o0, o1, _, _, _⟩ := HO2.out.below hbn
  clear hh hbn
  have n1 : g ≠ w2.heap.size := by omega
  have n2 : g ≠ w.heap.size + 1 := by omega
  go_region_held3 (fun wx => wx.cell? ⟨w2.heap.size, 0, none⟩ = some (.slice (some ⟨g, 0, none⟩) n cg) ∧ wx.cell? ⟨w.heap.size + 1, 0, none⟩ = some (.int .i64 id) ∧ wx.cell? ⟨w.heap.size + 1, 1, none⟩ = some (.slice fa fn fc)) (first | exact ⟨hh0, o0, o1⟩ | exact ⟨e0, e1, e2⟩ | exact ⟨cell_far (cell_far e0 (by simpa using n1)) (by simpa using n1), cell_far (cell_far e1 (by simpa using n2)) (by simpa using n2), cell_far (cell_far e2 (by simpa using n2)) (by simpa using n2)⟩) (first | (go_at_call 24; refine (copyObject_any id _ l _ HVa.out hl).mono ?_; rintro e w3 ⟨v3, rfl, ho3, hb3⟩; obtain ⟨a3, n3, c3, rfl, _⟩ := VsAt.shape ho3.at_; have e0 := (HH.out.below hb3).c0; obtain ⟨e1, e2, _, _, _⟩ := HOa.out.below hb3; obtain ⟨s0, s1, s2, s3⟩ := (HDa.out.below hb3).cells HX'.out; have HO3 := Lib.hid ho3; have HB3 := Lib.hid hb3; clear ho3 hb3) | fail)
  have hkL : k < L'.length := by rw [hll]; exact hlt
  have hdp := Deep.put (x := ⟨id, .slice a3 n3 c3, l⟩) (HDa.out.below HB3.out) hkL (VsOwn.mono HO3.out (by show w1.heap.size ≤ wa.heap.size; omega)) (HDa.out.fresh HO3.out)
  have hhp := ((HH.out.below HB3.out).far (p := ⟨g, k * 2, none⟩) n1.symm (.int .i64 id)).far (p := ⟨g, k * 2 + 1, none⟩) n1.symm (.slice a3 n3 c3)
  have n3' : w.heap.size + 1 + 1 ≠ g := by omega
  have hrp := ((HRa.out.below HB3.out).far (p := ⟨g, k * 2, none⟩) n3' (.int .i64 id)).far (p := ⟨g, k * 2 + 1, none⟩) n3' (.slice a3 n3 c3)
  have hbp := ((HBa.out.then_' HB3.out).setCell (p := ⟨g, k * 2, none⟩) (by simp; omega) (.int .i64 id)).setCell (p := ⟨g, k * 2 + 1, none⟩) (by simp; omega) (.slice a3 n3 c3)
  have HDP := Lib.hid hdp
  have HBP := Lib.hid hbp
  obtain ⟨r0, f0, _⟩ := hrp
  have hhp0 := hhp.c0
  clear hdp hbp hhp
  simp only at HDP
  generalize (w3.setCell ⟨g, k * 2, none⟩ (.int .i64 id)).setCell ⟨g, k * 2 + 1, none⟩ (.slice a3 n3 c3) = wf at *
  go_wp2
  refine bodyPost_ret (v := .agg #[.slice (some ⟨g, 0, none⟩) n cg]) (by simp [results, Try.results15, go_sem, r0]) rfl ?_
  refine ⟨_, _, rfl, OsOwn.mono (Deep.own_ (HDP.out.far (p := ⟨w.heap.size + 1 + 1, 0, none⟩) hltw _)) (by omega), ?_, HBP.out.setCell (p := ⟨w.heap.size + 1 + 1, 0, none⟩) (by simp; omega) _⟩
  rw [obs_set, HOB.out]
  rfl

set_option maxHeartbeats 1000000 in
set_option maxRecDepth 100000 in
theorem put_out (v fv : Value) (L : List Lob) (id : Int) (l : List V) (w : World) (h : OsAt w v L) (ho : VsAt w fv l) (hL : Short L) (hl : l.length ≤ 1000000000) (hin : isIn L id = false) :
    Calls Try.prog 15 #[.agg #[v], .agg #[.int .i64 id, fv]] w (RetPO w (putD L (id, l))) := by
  obtain ⟨a, n, c, rfl, hn⟩ := h.shape
  obtain ⟨fa, fn, fc, rfl, _⟩ := ho.shape
  have H := Lib.hid h
  have HV := Lib.hid ho
  have HL := Lib.hid hL
  clear h hL ho
  obtain ⟨W, hW, hB, hP, hO, hR, hz⟩ := two_one w (.slice a n c) (.int .i64 id) (.slice fa fn fc) (.slice none 0 0) 24 27 24
  have HW := Lib.hid hW
  have HB := Lib.hid hB
  have HP := Lib.hid hP
  have HO := Lib.hid hO
  have HR := Lib.hid hR
  have HZ := Lib.hid hz
  clear hW hB hP hO hR hz
  have hp : putD L (id, l) = (obs L).take (pos L id) ++ (id, l) :: (obs L).drop (pos L id) := by unfold putD; rw [if_neg (by simp [hin])]
  rw [hp]
  have HF := Lib.hid (findI_out hin)
  have hlt : pos L id ≤ n := by rw [hn.out]; exact pos_le L id
  clear hp
  go_enter Try.func15, Try.ntmps15
  go_wp2_with fail
  rw [HW.out]
  refine (find_any _ L id _ (H.out.below HB.out) HL.out.1).mono ?_
  rintro e w1 ⟨rfl, hb⟩
  rw [hin, HF.out]
  have HB1 := Lib.hid (HB.out.then_' hb)
  have HO1 := Lib.hid (HO.out.below hb)
  have HR1 := Lib.hid (HR.out.below hb)
  have hp0 := (HP.out.below hb).c0
  have HZ1 : Hid (w.heap.size + 3 ≤ w1.heap.size) := Lib.hid (by rw [← HZ.out]; exact hb.size)
  clear hb
  go_wp2_with fail
  refine (copyHeap_any _ L _ (H.out.below HB1.out) HL.out).mono ?_
  rintro e w2 ⟨v2, L', rfl, hd, ho, hb, g, hv2⟩
  have hll : L'.length = n := by rw [hn.out, ← obs_len L', ho, obs_len]
  rw [hll] at hv2
  subst hv2
  have hg2 : g < w2.heap.size := (World.ownsRow.lt hd.row g rfl).2
  have hg1 : w1.heap.size ≤ g := (World.ownsRow.lt hd.row g rfl).1
  have HB2 := Lib.hid (HB1.out.then_' hb)
  have HO2 := Lib.hid (HO1.out.below hb)
  have HR2 := Lib.hid (HR1.out.below hb)
  have HD := Lib.hid hd
  have HOB := Lib.hid ho
  have hz12 := hb.size
  have hltw : w.heap.size + 1 + 1 < w1.heap.size := by have := HZ1.out; omega
  have hsL' : Short L' := short_obs ho HL.out
  have HSL := Lib.hid hsL'
  clear hb hd ho hsL'
  generalize hkk : pos L id = k at *
  clear hkk
  go_wp2_with fail
  have hh := At1.new w2 (.slice (some ⟨g, 0, none⟩) n n) 24
  have hbn := below1 w2 (.cells #[.slice (some ⟨g, 0, none⟩) n n] 24)
  have hzn : (w2.alloc (.cells #[.slice (some ⟨g, 0, none⟩) n n] 24)).heap.size = w2.heap.size + 1 := by simp
  generalize w2.alloc (.cells #[.slice (some ⟨g, 0, none⟩) n n] 24) = wa at *
  have HBw := Lib.hid hbn.drew
  have HH := Lib.hid hh.drew
  have HOa := Lib.hid (HO2.out.below hbn).drew
  have HRa := Lib.hid (HR2.out.below hbn).drew
  have HDa := Lib.hid ((HD.out.below hbn).below (below_drew wa))
  have HBa := Lib.hid (HB2.out.then_' hbn).drew
  have HVa := Lib.hid (HV.out.below (HB2.out.then_' hbn)).drew
  have hh0 := hh.c0
  have hhf := hh.f0
  obtain ⟨o0, o1, _, _, _⟩ := HO2.out.below hbn
  clear hh hbn
  go_region_law (first
    | (go_simp; go_at_call 24; refine (copyObject_any id _ l _ HVa.out hl).mono ?_; rintro e w3 ⟨v3, rfl, ho3, hb3⟩; obtain ⟨a3, n3, c3, rfl, _⟩ := VsAt.shape ho3.at_; obtain ⟨e0, ef, _⟩ := HH.out.below hb3; obtain ⟨e1, e2, _, _, _⟩ := HOa.out.below hb3; have HO3 := Lib.hid ho3; have HB3 := Lib.hid hb3; clear ho3 hb3)
    | (go_simp; go_at_call 29; refine (insert_any g w3.heap.size n k L' ⟨id, .slice a3 n3 c3, l⟩ _ ((HDa.out.below HB3.out).below (below1 _ _)).at_ (At2.new _ _ _ _) (HO3.out.below (below1 _ _)).at_ HSL.out hlt).mono ?_; rintro e w4 ⟨v4, rfl, hro, hb4⟩; obtain ⟨a4, c4, rfl⟩ := SlAt.shape (own_sl hro); have hb34 := (below1 w3 (.cells #[.int .i64 id, .slice a3 n3 c3] 27)).then_' hb4; obtain ⟨t0, tf, _⟩ := (HH.out.below HB3.out).below hb34; have HRO := Lib.hid hro; have HB34 := Lib.hid hb34; clear hro hb4 hb34)
    | fail)
  all_goals
    have hr4 := (((HRa.out.below HB3.out).below HB34.out).far (p := ⟨w2.heap.size, 0, none⟩) (by simp; omega) (.slice a4 (insL L' k ⟨id, .slice a3 n3 c3, l⟩).length c4))
    have ht4 : (w4.setCell ⟨w2.heap.size, 0, none⟩ (.slice a4 (insL L' k ⟨id, .slice a3 n3 c3, l⟩).length c4)).cell? ⟨w2.heap.size, 0, none⟩ = some (.slice a4 (insL L' k ⟨id, .slice a3 n3 c3, l⟩).length c4) := World.cell?_setCell_same' _ _ _ (by rw [t0]; rfl)
    have HB24 : Hid (Below w2.heap.size w2 (w4.setCell ⟨w2.heap.size, 0, none⟩ (.slice a4 (insL L' k ⟨id, .slice a3 n3 c3, l⟩).length c4))) := Lib.hid ((((HBw.out.trans (HB3.out.mono (by simp; omega))).trans (HB34.out.mono (by have := HB3.out.size; simp at this; omega)))).setCell (p := ⟨w2.heap.size, 0, none⟩) (Nat.le_refl _) _)
    have HRow : Hid ((w4.setCell ⟨w2.heap.size, 0, none⟩ (.slice a4 (insL L' k ⟨id, .slice a3 n3 c3, l⟩).length c4)).ownsRow w1.heap.size 27 2 (.slice a4 (insL L' k ⟨id, .slice a3 n3 c3, l⟩).length c4) (insL L' k ⟨id, .slice a3 n3 c3, l⟩).length ((insL L' k ⟨id, .slice a3 n3 c3, l⟩).flatMap oc)) := Lib.hid (own_mono (ownsRow_setCell_below HRO.out (a := ⟨w2.heap.size, 0, none⟩) (by have := HB3.out.size; simp at this ⊢; omega) _) (by have := HB3.out.size; simp at this ⊢; omega))
    have HNew : Hid (VsOwn (w4.setCell ⟨w2.heap.size, 0, none⟩ (.slice a4 (insL L' k ⟨id, .slice a3 n3 c3, l⟩).length c4)) w1.heap.size (.slice a3 n3 c3) l) := Lib.hid (VsOwn.mono (VsOwn.set (HO3.out.below HB34.out) (p := ⟨w2.heap.size, 0, none⟩) (by simp; omega) _) (by simp; omega))
    obtain ⟨r0, f0, _⟩ := hr4
    have HINS : Hid (obs (insL L' k ⟨id, .slice a3 n3 c3, l⟩) = (obs L).take k ++ (id, l) :: (obs L).drop k) := Lib.hid (by rw [obs_ins, HOB.out]; rfl)
    have hmem : ∀ y ∈ insL L' k ⟨id, .slice a3 n3 c3, l⟩, y ∈ L' ∨ y = ⟨id, .slice a3 n3 c3, l⟩ := by
      intro y hy
      unfold insL at hy
      rcases List.mem_append.1 hy with hy | hy
      · exact .inl (List.mem_of_mem_take hy)
      · rcases List.mem_cons.1 hy with rfl | hy
        · exact .inr rfl
        · exact .inl (List.mem_of_mem_drop hy)
    have HMEM := Lib.hid hmem
    clear hmem
    generalize insL L' k ⟨id, .slice a3 n3 c3, l⟩ = M at *
    go_wp2
    refine bodyPost_ret (v := .agg #[.slice a4 M.length c4]) (by simp [results, Try.results15, go_sem, r0]) rfl ?_
    refine ⟨_, M, rfl, OsOwn.mono (B := w1.heap.size) ⟨?_, ?_⟩ (by omega), HINS.out, ((HB2.out.then_' HB24.out).setCell (p := ⟨w.heap.size + 1 + 1, 0, none⟩) (by simp; omega) _)⟩
    · exact ownsRow_setCell_below HRow.out (a := ⟨w.heap.size + 1 + 1, 0, none⟩) hltw _
    · intro y hy
      rcases HMEM.out y hy with hy | rfl
      · exact VsOwn.set ((HD.out.vals y hy).below HB24.out) (p := ⟨w.heap.size + 1 + 1, 0, none⟩) hltw _
      · exact VsOwn.set HNew.out (p := ⟨w.heap.size + 1 + 1, 0, none⟩) hltw _
theorem put_any (v fv : Value) (L : List Lob) (id : Int) (l : List V) (w : World) (h : OsAt w v L) (ho : VsAt w fv l) (hL : Short L) (hl : l.length ≤ 1000000000) :
    Calls Try.prog 15 #[.agg #[v], .agg #[.int .i64 id, fv]] w (RetPO w (putD L (id, l))) := by
  cases hin : isIn L id with
  | true => exact put_in v fv L id l w h ho hL hl hin
  | false => exact put_out v fv L id l w h ho hL hl hin
end Go.Proofs.Ytngjedfoogmbjaa
