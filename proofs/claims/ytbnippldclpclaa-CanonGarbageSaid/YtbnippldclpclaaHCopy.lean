/- Copies: of values, of an object. -/
import Derived.Test.YtbnippldclpclaaHRep
namespace Go.Proofs.Ytbnippldclpclaa
open Go.RowKit

/-- values in new memory -/
def RetVs (w : World) (l : List V) (e : Ending) (w' : World) : Prop := ∃ v, e = .returned v ∧ VsOwn w' w.heap.size v l ∧ Below w.heap.size w w'
/-- an object, its fields in new memory -/
def RetO (w : World) (id : Int) (l : List V) (e : Ending) (w' : World) : Prop := ∃ v, e = .returned (.agg #[.int .i64 id, v]) ∧ VsOwn w' w.heap.size v l ∧ Below w.heap.size w w'

theorem two_new (w : World) (p q p' q' : Value) (t t' : TypeId) : ∃ W, (w.alloc (.cells #[p, q] t)).alloc (.cells #[p', q'] t') = W ∧ Below w.heap.size w W ∧ At2 W w.heap.size p q ∧ At2 W (w.heap.size + 1) p' q' :=
  ⟨_, rfl, Below.new (below1 _ _) _, (At2.new _ _ _ _).alloc _, by simpa using At2.new (w.alloc (.cells #[p, q] t)) p' q' t'⟩
theorem retO_set {w W w' : World} {id : Int} {a : Option Addr} {c : Nat} {l : List V} (hb : Below w.heap.size w W) (hb' : Below W.heap.size W w') (ho : VsOwn w' W.heap.size (.slice a l.length c) l) (h2 : w.heap.size + 1 < W.heap.size) (b : Nat) (hbk : b = w.heap.size + 1) (u v : Value) :
    RetO w id l (.returned (.agg #[.int .i64 id, .slice a l.length c])) ((w'.setCell ⟨b, 0, none⟩ u).setCell ⟨b, 1, none⟩ v) := by
  subst hbk
  refine ⟨_, rfl, ?_, ?_⟩
  · exact VsOwn.mono ((ho.set (p := ⟨w.heap.size + 1, 0, none⟩) h2 u).set (p := ⟨w.heap.size + 1, 1, none⟩) h2 v) hb.size
  · exact ((hb.trans (hb'.mono hb.size)).setCell (p := ⟨w.heap.size + 1, 0, none⟩) (by simp) u).setCell (p := ⟨w.heap.size + 1, 1, none⟩) (by simp) v

set_option maxHeartbeats 1000000 in
set_option maxRecDepth 100000 in
theorem copyObject_any (id : Int) (v : Value) (l : List V) (w : World) (h : VsAt w v l) (hl : l.length ≤ 1000000000) : Calls Try.prog 34 #[.agg #[.int .i64 id, v]] w (RetO w id l) := by
  have H := Lib.hid h
  clear h
  go_enter Try.func34, Try.ntmps34
  go_wp2
  obtain ⟨W, hW, hB, hP, hR⟩ := two_new w (.int .i64 id) v (.int .i64 0) (.slice none 0 0) 43 43
  rw [hW]
  have HB := Lib.hid hB.drew
  have HR := Lib.hid hR.drew
  have HV := Lib.hid (H.out.below hB).drew
  have hP0 := hP.c0
  have hP1 := hP.c1
  have HP := Lib.hid hP.drew
  clear hW hB hR hP
  go_region_held3 (fun wx => wx.cell? ⟨w.heap.size, 0, none⟩ = some (.int .i64 id) ∧ wx.cell? ⟨w.heap.size, 1, none⟩ = some v) (first | exact ⟨hP0, hP1⟩ | exact ⟨e0, e1⟩ | go_keep) (first | (refine cpV_step rfl _ _ rfl rfl v l rfl HV.out hl ?_; intro a' c' w' ho hb'; have HO := Lib.hid ho; have HB' := Lib.hid hb'; obtain ⟨e0, e1, _, _, _⟩ := HP.out.below hb'; obtain ⟨d0, d1, f0, f1, _⟩ := HR.out.below hb'; clear ho hb'))
  go_wp2
  refine bodyPost_ret (v := .agg #[.int .i64 id, .slice a' l.length c']) (by simp [results, Try.results34, go_sem, d0, d1]) rfl ?_
  exact retO_set HB.out HB'.out HO.out HR.out.lt _ rfl _ _

set_option maxHeartbeats 1000000 in
set_option maxRecDepth 100000 in
theorem object_any (id : Int) (v : Value) (l : List V) (w : World) (h : VsAt w v l) (hl : l.length ≤ 1000000000) : Calls Try.prog 23 #[.agg #[.int .i64 id, v]] w (RetO w id l) := by
  have H := Lib.hid h
  clear h
  obtain ⟨av, nv, cv, rfl⟩ : ∃ a n c, v = .slice a n c := by
    obtain ⟨a, c, e⟩ := SlAt.shape H.out
    exact ⟨a, _, c, e⟩
  go_enter Try.func23, Try.ntmps23
  obtain ⟨W, hW, hB, hP, hR⟩ := two_new w (.int .i64 id) (.slice av nv cv) (.int .i64 0) (.slice none 0 0) 43 43
  have HW := Lib.hid hW
  have HB := Lib.hid hB
  have HR := Lib.hid hR
  have HP := Lib.hid hP
  have HV := Lib.hid (H.out.below hB)
  clear hW hB hR hP
  go_wp2_with (at_builtin; rw [HW.out]; refine cpV rfl _ _ rfl rfl _ l rfl HV.out hl ?_; intro a' c' w' ho hb'; have HO := Lib.hid ho; have HB' := Lib.hid hb'; obtain ⟨e0, e1, f0, f1, _⟩ := HP.out.below hb'; obtain ⟨d0, d1, g0, g1, _⟩ := HR.out.below hb'; clear ho hb')
  refine bodyPost_ret (v := .agg #[.int .i64 id, .slice a' l.length c']) (by simp [results, Try.results23, go_sem, d0, d1]) rfl ?_
  have hlt := HP.out.lt
  have ho2 : VsOwn (w'.setCell ⟨w.heap.size, 1, none⟩ (.slice a' l.length c')) W.heap.size (.slice a' l.length c') l := HO.out.set (p := ⟨w.heap.size, 1, none⟩) hlt _
  refine ⟨_, rfl, ?_, ?_⟩
  · exact VsOwn.mono ((ho2.set (p := ⟨w.heap.size + 1, 0, none⟩) HR.out.lt _).set (p := ⟨w.heap.size + 1, 1, none⟩) HR.out.lt _) HB.out.size
  · exact (((HB.out.trans (HB'.out.mono HB.out.size)).setCell (p := ⟨w.heap.size, 1, none⟩) (Nat.le_refl _) _).setCell (p := ⟨w.heap.size + 1, 0, none⟩) (by simp) _).setCell (p := ⟨w.heap.size + 1, 1, none⟩) (by simp) _
end Go.Proofs.Ytbnippldclpclaa
