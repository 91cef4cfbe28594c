/- Write of the program. -/
import Derived.Test.YtngjedfoogmbjaaHRead
namespace Go.Proofs.Ytngjedfoogmbjaa
open Go.RowKit

def writeD (L : List Lob) (id f : Int) (v : V) : List Ob := if hasCell L id f then (match L[idx L id]? with | some x => (obs L).set (idx L id) (x.id, x.vals.set f.toNat v) | none => []) else []
/-- a heap, and whether it is one -/
def RetW (w : World) (O : List Ob) (b : Bool) (e : Ending) (w' : World) : Prop := ∃ v L', e = .returned (.tuple #[.agg #[v], .bool b]) ∧ OsAt w' v L' ∧ obs L' = O ∧ Below w.heap.size w w'
theorem obs_set (L : List Lob) (k : Nat) (x : Lob) : obs (L.set k x) = (obs L).set k x.ob := by unfold obs; rw [List.map_set]

/-- the heap L, in rows that the call owns -/
structure OsOwn (w : World) (B : Nat) (v : Value) (L : List Lob) : Prop where
  row : w.ownsRow B 27 2 v L.length (L.flatMap oc)
  vals : ∀ x ∈ L, VsOwn w B x.fv x.vals
theorem OsOwn.at_ {w : World} {B : Nat} {v : Value} {L : List Lob} (h : OsOwn w B v L) : OsAt w v L := ⟨own_sl h.row, fun x hx => (h.vals x hx).at_⟩
theorem OsOwn.far {w : World} {B : Nat} {v : Value} {L : List Lob} (h : OsOwn w B v L) {p : Addr} (hp : p.block < B) (u : Value) : OsOwn (w.setCell p u) B v L :=
  ⟨ownsRow_setCell_below h.row hp u, fun x hx => (h.vals x hx).set hp u⟩
theorem OsOwn.below {w w' : World} {B : Nat} {v : Value} {L : List Lob} (h : OsOwn w B v L) (hb : Below w.heap.size w w') : OsOwn w' B v L :=
  ⟨own_below h.row hb, fun x hx => (h.vals x hx).below hb⟩
theorem OsOwn.drew {w : World} {B : Nat} {v : Value} {L : List Lob} (h : OsOwn w B v L) : OsOwn w.drew B v L := h.below (below_drew w)
/-- a value is stored into field m of object k -/
theorem Deep.field {w : World} {B k m n c gf : Nat} {v : Value} {L : List Lob} (h : Deep w B v L) {x : Lob} (hk : L[k]? = some x) (hf : x.fv = .slice (some ⟨gf, 0, none⟩) n c) (hm : m < x.vals.length) (y : V) :
    OsOwn ((w.setCell ⟨gf, m * 2, none⟩ (.bool y.1)).setCell ⟨gf, m * 2 + 1, none⟩ (.int .i64 y.2)) B v (L.set k ⟨x.id, x.fv, x.vals.set m y⟩) := by
  have hmem := List.mem_of_getElem? hk
  have hlt := (List.getElem?_eq_some_iff.1 hk).1
  have hgf : x.fv.ownBlock = some gf := by rw [hf]; rfl
  have hoff := h.off x hmem gf hgf
  have hn : n = x.vals.length := by
    obtain ⟨a, c', e⟩ := SlAt.shape (h.vals x hmem).at_
    rw [hf] at e
    obtain ⟨_, e, _⟩ := Value.slice.inj e
    exact e
  have hcells : (L.set k ⟨x.id, x.fv, x.vals.set m y⟩).flatMap oc = L.flatMap oc := by
    have h1 : (L.set k ⟨x.id, x.fv, x.vals.set m y⟩).flatMap oc = (L.set k x).flatMap oc := by
      simp only [List.flatMap_def, List.map_set]
      rfl
    rw [h1]
    congr 1
    apply List.ext_getElem?
    intro j
    rw [List.getElem?_set]
    split
    · rename_i e
      subst e
      first | rw [if_pos hlt, hk] | rw [hk]
    · rfl
  refine ⟨?_, ?_⟩
  · rw [hcells, List.length_set]
    exact own_far (own_far h.row (p := ⟨gf, m * 2, none⟩) hoff _) (p := ⟨gf, m * 2 + 1, none⟩) hoff _
  · intro z hz
    obtain ⟨j, hj⟩ := List.getElem?_of_mem hz
    rw [List.getElem?_set] at hj
    by_cases hkj : k = j
    · rw [if_pos hkj, if_pos (by omega)] at hj
      obtain rfl := Option.some.inj hj
      have hown := h.vals x hmem
      unfold VsOwn at hown
      rw [hf, ← hn] at hown
      have h1 := (World.ownsRow.stored (World.ownsRow.stored hown (m * 2) (.bool y.1)).1 (m * 2 + 1) (.int .i64 y.2)).1
      rw [flat_setV, if_pos hm] at h1
      show VsOwn _ B x.fv (x.vals.set m y)
      unfold VsOwn
      rw [hf, List.length_set, ← hn]
      exact h1
    · rw [if_neg hkj] at hj
      have hzm := List.mem_of_getElem? hj
      have hne : z.fv.ownBlock ≠ some gf := fun e => hkj (h.apart k j x z gf hk hj hgf e)
      exact own_far (own_far (h.vals z hzm) (p := ⟨gf, m * 2, none⟩) hne _) (p := ⟨gf, m * 2 + 1, none⟩) hne _
theorem obs_get {L L' : List Lob} (h : obs L' = obs L) {k : Nat} {x : Lob} (hk : L[k]? = some x) : ∃ x', L'[k]? = some x' ∧ x'.id = x.id ∧ x'.vals = x.vals := by
  have h1 := obs_at hk
  rw [← h] at h1
  unfold obs at h1
  rw [List.getElem?_map] at h1
  cases hx : L'[k]? with
  | none => rw [hx] at h1; cases h1
  | some x' =>
    rw [hx] at h1
    have h2 : x'.ob = x.ob := Option.some.inj h1
    exact ⟨x', rfl, congrArg Prod.fst h2, congrArg Prod.snd h2⟩
theorem own_pos {w : World} {B : Nat} {v : Value} {l : List V} (h : VsOwn w B v l) (hl : 0 < l.length) : ∃ gf c, v = .slice (some ⟨gf, 0, none⟩) l.length c ∧ B ≤ gf ∧ gf < w.heap.size := by
  rcases h.2 with ⟨_, hn⟩ | ⟨g, cap, cur, rfl, hb, hg, _⟩
  · omega
  · exact ⟨g, cap, rfl, hb, (Array.getElem?_eq_some_iff.1 hg).1⟩
theorem VsOwn.cells_ {w : World} {B gf n c m : Nat} {l : List V} (h : VsOwn w B (.slice (some ⟨gf, 0, none⟩) n c) l) {y : V} (hy : l[m]? = some y) :
    w.cell? ⟨gf, m * 2, none⟩ = some (.bool y.1) ∧ w.cell? ⟨gf, m * 2 + 1, none⟩ = some (.int .i64 y.2) ∧ w.frozen? ⟨gf, m * 2, none⟩ = false ∧ w.frozen? ⟨gf, m * 2 + 1, none⟩ = false := by
  have hn : n = l.length := by
    obtain ⟨a, c', e⟩ := SlAt.shape h.at_
    obtain ⟨_, e, _⟩ := Value.slice.inj e
    exact e
  subst hn
  have hlt := (List.getElem?_eq_some_iff.1 hy).1
  obtain ⟨h0, h1⟩ := vc_at l m y hy
  exact ⟨(World.ownsRow.cellAt h (m * 2) (by omega)).trans h0, (World.ownsRow.cellAt h (m * 2 + 1) (by omega)).trans h1, World.ownsRow.frozenAt h _, World.ownsRow.frozenAt h _⟩
theorem Deep.row_pos {w : World} {B : Nat} {v : Value} {L : List Lob} (h : Deep w B v L) (hl : 0 < L.length) : ∃ g c, v = .slice (some ⟨g, 0, none⟩) L.length c ∧ B ≤ g ∧ g < w.heap.size := by
  rcases h.row.2 with ⟨_, hn⟩ | ⟨g, cap, cur, rfl, hb, hg, _⟩
  · omega
  · exact ⟨g, cap, rfl, hb, (Array.getElem?_eq_some_iff.1 hg).1⟩
theorem three_new (w : World) (p q r s : Value) (t t' t'' : TypeId) : ∃ W, ((w.alloc (.cells #[p] t)).alloc (.cells #[q, r] t')).alloc (.cells #[s] t'') = W ∧ Below w.heap.size w W ∧ At1 W w.heap.size p ∧ At2 W (w.heap.size + 1) q r ∧ At1 W (w.heap.size + 1 + 1) s ∧ W.heap.size = w.heap.size + 3 :=
  ⟨_, rfl, Below.new (Below.new (below1 _ _) _) _, ((At1.new _ _ _).alloc _).alloc _, by simpa using (At2.new (w.alloc (.cells #[p] t)) q r t').alloc _, by simpa using At1.new ((w.alloc (.cells #[p] t)).alloc (.cells #[q, r] t')) s t'', by simp⟩

set_option maxHeartbeats 1000000 in
set_option maxRecDepth 100000 in
theorem write_any (v : Value) (L : List Lob) (id f : Int) (y : V) (w : World) (h : OsAt w v L) (hL : Short L) :
    Calls Try.prog 13 #[.agg #[v], .int .i64 id, .int .i64 f, vv y] w (RetW w (writeD L id f y) (hasCell L id f)) := by
  obtain ⟨a, n, c, rfl, hn⟩ := h.shape
  obtain ⟨y1, y2⟩ := y
  have H := Lib.hid h
  have HL := Lib.hid hL
  clear h hL
  obtain ⟨W, hW, hB, hP, hV, hR, hz⟩ := three_new w (.slice a n c) (.bool y1) (.int .i64 y2) (.slice none 0 0) 24 29 24
  have HW := Lib.hid hW
  have HB := Lib.hid hB
  have HP := Lib.hid hP
  have HV := Lib.hid hV
  have HR := Lib.hid hR
  have HZ := Lib.hid hz
  clear hW hB hP hV hR hz
  simp only [vv]
  cases hin : hasCell L id f with
  | false =>
    have hw : writeD L id f (y1, y2) = [] := by unfold writeD; rw [hin]; rfl
    rw [hw]
    go_enter Try.func13, Try.ntmps13
    go_wp2_with fail
    rw [HW.out]
    refine (findCell_any _ L id f _ (H.out.below HB.out) HL.out.1).mono ?_
    rintro e w1 ⟨rfl, hb⟩
    rw [hin]
    have HB1 := Lib.hid (HB.out.then_' hb)
    obtain ⟨r0, f0, _⟩ := HR.out.below hb
    clear hb
    go_wp2
    refine bodyPost_ret (v := .tuple #[.agg #[.slice none 0 0], .bool false]) (by simp [results, Try.results13, go_sem, r0]) rfl ?_
    exact ⟨_, [], rfl, ⟨.inl ⟨rfl, rfl, rfl⟩, by intro x hx; cases hx⟩, rfl, HB1.out.setCell (p := ⟨w.heap.size + 1 + 1, 0, none⟩) (by simp; omega) _⟩
  | true =>
    obtain ⟨hisin, x, m, y0, hx, rfl, hy, _⟩ := cell_yes hin
    have hw : writeD L id (m : Int) (y1, y2) = (obs L).set (idx L id) (x.id, x.vals.set m (y1, y2)) := by unfold writeD; rw [hin, hx]; simp
    rw [hw]
    have HX := Lib.hid hx
    have HY := Lib.hid hy
    have HF := Lib.hid (cellI_yes hin)
    have hlt : idx L id < n := by rw [hn.out]; exact of_decide_eq_true hisin
    clear hx hisin hy hw
    go_enter Try.func13, Try.ntmps13
    go_wp2_with fail
    rw [HW.out]
    refine (findCell_any _ L id m _ (H.out.below HB.out) HL.out.1).mono ?_
    rintro e w1 ⟨rfl, hb⟩
    rw [hin, HF.out]
    have HB1 := Lib.hid (HB.out.then_' hb)
    have HV1 := Lib.hid (HV.out.below hb)
    have HR1 := Lib.hid (HR.out.below hb)
    have hp0 := (HP.out.below hb).c0
    have HZ1 : Hid (w.heap.size + 3 ≤ w1.heap.size) := Lib.hid (by rw [← HZ.out]; exact hb.size)
    clear hb
    go_wp2_with fail
    refine (copyHeap_any _ L _ (H.out.below HB1.out) HL.out).mono ?_
    rintro e w2 ⟨v2, L', rfl, hd, ho, hb, _⟩
    obtain ⟨x', hx', hid, hvals⟩ := obs_get ho HX.out
    have hmx : m < x'.vals.length := by rw [hvals]; exact (List.getElem?_eq_some_iff.1 HY.out).1
    obtain ⟨gf, cf, hfv, hgf1, hgf2⟩ := own_pos (hd.vals x' (List.mem_of_getElem? hx')) (by omega)
    have hkl : idx L id < L'.length := (List.getElem?_eq_some_iff.1 hx').1
    have hll : L'.length = n := by rw [hn.out, ← obs_len L', ho, obs_len]
    obtain ⟨g, cg, rfl, hg1, hg2⟩ := hd.row_pos (by omega)
    rw [hll] at hd ⊢
    obtain ⟨s0, s1, _, _⟩ := hd.cells hx'
    have hown := hd.vals x' (List.mem_of_getElem? hx')
    have hgg := hd.off x' (List.mem_of_getElem? hx') gf (by rw [hfv]; rfl)
    have hne1 : gf ≠ g := fun e => hgg (by simp [Value.ownBlock, e])
    have hne2 : gf ≠ w.heap.size + 1 := by have := HZ1.out; omega
    have hm' : (m : Int) < (x'.vals.length : Int) := by omega
    rw [hfv] at hown s1
    obtain ⟨z, hz⟩ : ∃ z, x'.vals[m]? = some z := ⟨_, List.getElem?_eq_getElem hmx⟩
    obtain ⟨u0, u1, g0, g1⟩ := hown.cells_ hz
    obtain ⟨v0, v1, _, _, hv9⟩ := HV1.out.below hb
    have HR2 := Lib.hid (HR1.out.below hb)
    have HB2 := Lib.hid (HB1.out.then_' hb)
    have HD := Lib.hid hd
    have HO := Lib.hid ho
    have HX' := Lib.hid hx'
    have HID := Lib.hid hid
    have HVA := Lib.hid hvals
    have HFV := Lib.hid hfv
    have hltw : w.heap.size + 1 + 1 < w1.heap.size := by have := HZ1.out; omega
    clear hb hd hx' ho hid hvals hfv hown hz hgg
    generalize hkk : idx L id = k at *
    clear hkk
    have hlt' : (k : Int) < (n : Int) := by omega
    go_wp2_with fail
    have hh := At1.new w2 (.slice (some ⟨g, 0, none⟩) n cg) 24
    have hbn := below1 w2 (.cells #[.slice (some ⟨g, 0, none⟩) n cg] 24)
    generalize w2.alloc (.cells #[.slice (some ⟨g, 0, none⟩) n cg] 24) = wa at *
    have HH := Lib.hid hh.drew
    have hh0 := hh.c0
    have HBa := Lib.hid (HB2.out.then_' hbn).drew
    have HDa' := Lib.hid (HD.out.below hbn)
    have HDa := Lib.hid ((HD.out.below hbn).below (below_drew wa))
    have HRa := Lib.hid (HR2.out.below hbn)
    have HHa := Lib.hid hh
    have a1 := (hbn.cell (p := ⟨g, k * 2 + 1, none⟩) hg2).trans s1
    have a2 := (hbn.cell (p := ⟨w.heap.size + 1, 0, none⟩) hv9).trans v0
    have a3 := (hbn.cell (p := ⟨w.heap.size + 1, 1, none⟩) hv9).trans v1
    have b0 := (hbn.cell (p := ⟨gf, m * 2, none⟩) hgf2).trans u0
    have b1 := (hbn.cell (p := ⟨gf, m * 2 + 1, none⟩) hgf2).trans u1
    have b2 := (hbn.frozen (p := ⟨gf, m * 2, none⟩) hgf2).trans g0
    have b3 := (hbn.frozen (p := ⟨gf, m * 2 + 1, none⟩) hgf2).trans g1
    clear hh hbn s0 s1 v0 v1 u0 u1 g0 g1
    go_region_held3 (fun wx => wx.cell? ⟨w2.heap.size, 0, none⟩ = some (.slice (some ⟨g, 0, none⟩) n cg) ∧ wx.cell? ⟨g, k * 2 + 1, none⟩ = some (.slice (some ⟨gf, 0, none⟩) x'.vals.length cf) ∧ wx.cell? ⟨w.heap.size + 1, 0, none⟩ = some (.bool y1) ∧ wx.cell? ⟨w.heap.size + 1, 1, none⟩ = some (.int .i64 y2)) (first | exact ⟨hh0, a1, a2, a3⟩ | exact ⟨cell_far (cell_far hh0 (by simp; omega)) (by simp; omega), cell_far (cell_far a1 (by simpa using hne1)) (by simpa using hne1), cell_far (cell_far a2 (by simpa using hne2)) (by simpa using hne2), cell_far (cell_far a3 (by simpa using hne2)) (by simpa using hne2)⟩) (fail)
    have hne3 : w.heap.size + 1 + 1 ≠ gf := by omega
    have hne4 : w2.heap.size ≠ gf := by omega
    obtain ⟨r0, f0, _⟩ := ((HRa.out.far (p := ⟨gf, m * 2, none⟩) hne3 (.bool y1)).far (p := ⟨gf, m * 2 + 1, none⟩) hne3 (.int .i64 y2)).drew
    have t0 := ((HHa.out.far (p := ⟨gf, m * 2, none⟩) hne4 (.bool y1)).far (p := ⟨gf, m * 2 + 1, none⟩) hne4 (.int .i64 y2)).drew.c0
    have HFin : Hid (OsOwn ((wa.setCell ⟨gf, m * 2, none⟩ (.bool y1)).setCell ⟨gf, m * 2 + 1, none⟩ (.int .i64 y2)).drew w1.heap.size (.slice (some ⟨g, 0, none⟩) n cg) (L'.set k ⟨x'.id, x'.fv, x'.vals.set m (y1, y2)⟩)) := Lib.hid (OsOwn.drew (HDa'.out.field HX'.out HFV.out hmx (y1, y2)))
    have HBf : Hid (Below w.heap.size w ((wa.setCell ⟨gf, m * 2, none⟩ (.bool y1)).setCell ⟨gf, m * 2 + 1, none⟩ (.int .i64 y2)).drew) := Lib.hid ((HBa.out.setCell (p := ⟨gf, m * 2, none⟩) (by simp; omega) _).setCell (p := ⟨gf, m * 2 + 1, none⟩) (by simp; omega) _)
    generalize ((wa.setCell ⟨gf, m * 2, none⟩ (.bool y1)).setCell ⟨gf, m * 2 + 1, none⟩ (.int .i64 y2)).drew = wf at *
    go_wp2
    refine bodyPost_ret (v := .tuple #[.agg #[.slice (some ⟨g, 0, none⟩) n cg], .bool true]) (by simp [results, Try.results13, go_sem, r0]) rfl ?_
    refine ⟨_, _, rfl, (HFin.out.far (p := ⟨w.heap.size + 1 + 1, 0, none⟩) hltw _).at_, ?_, HBf.out.setCell (p := ⟨w.heap.size + 1 + 1, 0, none⟩) (by simp; omega) _⟩
    rw [obs_set, HO.out]
    show (obs L).set k (x'.id, x'.vals.set m (y1, y2)) = _
    rw [HID.out, HVA.out]
end Go.Proofs.Ytngjedfoogmbjaa
