/- Write of the reference. -/
import Derived.Test.YtngjedfoogmbjaaHWrite
import Derived.Deep.Cut
namespace Go.Proofs.Ytngjedfoogmbjaa
open Go.RowKit

section
variable {w : World} {ops : Array Oper} {rest : List Oper} {o : Oper} {a : Act} {Q : Exit → Act → World → Prop}
/-- append of objects to objects that the call owns -/
theorem appO (hgd : o.guard = none) (s x : Operand) (ho : o.op = .call { callee := .builtin .append, args := #[s, x], argTypes := #[22, 22] })
    (B : Nat) (v : Value) (n : Nat) (xs : List Value) (hs : a.eval s = v) (hown : w.ownsRow B 27 2 v n xs) (xv : Value) (m : Nat) (news : List Value) (hxe : a.eval x = xv) (hx : SlAt w 2 xv m news) (h1 : ∀ u ∈ news, u.oneCell' = true) (hn : n + m ≤ 1000000000) (hbase : B ≤ w.heap.size)
    (h : ∀ a' c' w', w'.ownsRow B 27 2 (.slice a' (n + m) c') (n + m) (xs ++ news) → w.grownBy w' v.ownBlock → ((Value.slice a' (n + m) c').ownBlock = v.ownBlock ∨ (Value.slice a' (n + m) c').ownBlock = some w.heap.size) → wpList Try.prog ops Q rest (a.put o.dst (.slice a' (n + m) c')) w') :
    wpList Try.prog ops Q (o :: rest) a w := by
  refine wpList_append_sl hgd s x 22 ho B 27 _ 2 32 Try.underlying22 info_O rfl (by decide) v n xs hs hown xv m news hxe hx h1 (by unfold maxLen; omega) (by omega) hbase ?_
  intro v' w' h1 h2 h3
  obtain ⟨a', c', rfl⟩ := SlAt.shape (own_sl h1)
  exact h a' c' w' h1 h2 h3
theorem appO_step {K : Act → World → Prop} {E : Prop} (hgd : o.guard = none) (s x : Operand) (ho : o.op = .call { callee := .builtin .append, args := #[s, x], argTypes := #[22, 22] })
    (B : Nat) (v : Value) (n : Nat) (xs : List Value) (hs : a.eval s = v) (hown : w.ownsRow B 27 2 v n xs) (xv : Value) (m : Nat) (news : List Value) (hxe : a.eval x = xv) (hx : SlAt w 2 xv m news) (h1 : ∀ u ∈ news, u.oneCell' = true) (hn : n + m ≤ 1000000000) (hbase : B ≤ w.heap.size)
    (h : ∀ a' c' w', w'.ownsRow B 27 2 (.slice a' (n + m) c') (n + m) (xs ++ news) → w.grownBy w' v.ownBlock → ((Value.slice a' (n + m) c').ownBlock = v.ownBlock ∨ (Value.slice a' (n + m) c').ownBlock = some w.heap.size) → K (a.put o.dst (.slice a' (n + m) c')) w') :
    if Region.wanted o (yielded ops a.tmps) = true then Oper.wp Try.prog o a w K Q else E := by
  refine step_append_sl hgd s x 22 ho B 27 _ 2 32 Try.underlying22 info_O rfl (by decide) v n xs hs hown xv m news hxe hx h1 (by unfold maxLen; omega) (by omega) hbase ?_
  intro v' w' h1 h2 h3
  obtain ⟨a', c', rfl⟩ := SlAt.shape (own_sl h1)
  exact h a' c' w' h1 h2 h3
end
theorem ownO_nil (w : World) (B : Nat) : w.ownsRow B 27 2 (.slice none 0 0) 0 [] := World.ownsRow_nil w B 27 2
theorem row_pos {w : World} {B n c : Nat} {a : Option Addr} {xs : List Value} (h : w.ownsRow B 27 2 (.slice a n c) n xs) (hl : 0 < n) : ∃ g, a = some ⟨g, 0, none⟩ ∧ B ≤ g ∧ g < w.heap.size := by
  rcases h.2 with ⟨_, hn⟩ | ⟨g, cap, cur, hv, hb, hg, _⟩
  · omega
  · obtain ⟨e, _, _⟩ := Value.slice.inj hv
    exact ⟨g, e, hb, (Array.getElem?_eq_some_iff.1 hg).1⟩
theorem row_cells {w : World} {B g n c k : Nat} {L : List Lob} (h : w.ownsRow B 27 2 (.slice (some ⟨g, 0, none⟩) n c) n (L.flatMap oc)) {x : Lob} (hk : L[k]? = some x) :
    w.cell? ⟨g, k * 2, none⟩ = some (.int .i64 x.id) ∧ w.cell? ⟨g, k * 2 + 1, none⟩ = some x.fv ∧ w.frozen? ⟨g, k * 2, none⟩ = false ∧ w.frozen? ⟨g, k * 2 + 1, none⟩ = false := by
  have hlt := (List.getElem?_eq_some_iff.1 hk).1
  have hl := h.1
  rw [oc_len] at hl
  obtain ⟨h0, h1⟩ := oc_at L k x hk
  exact ⟨(h.cellAt (k * 2) (by omega)).trans h0, (h.cellAt (k * 2 + 1) (by omega)).trans h1, h.frozenAt _, h.frozenAt _⟩

set_option maxHeartbeats 1000000 in
set_option maxRecDepth 100000 in
theorem rwrite_no (v : Value) (L : List Lob) (id f : Int) (y : V) (w : World) (h : OsAt w v L) (hL : Short L) (hin : hasCell L id f = false) :
    Calls Try.prog 14 #[.agg #[v], .int .i64 id, .int .i64 f, vv y] w (RetW w (writeD L id f y) (hasCell L id f)) := by
  obtain ⟨a, n, c, rfl, hn⟩ := h.shape
  obtain ⟨y1, y2⟩ := y
  have H := Lib.hid h
  have HL := Lib.hid hL
  clear h hL
  obtain ⟨W, hW, hB, hP, hV, hR, hz⟩ := three_new w (.slice a n c) (.bool y1) (.int .i64 y2) (.slice none 0 0) 24 29 24
  have HW := Lib.hid hW
  have HB := Lib.hid hB
  have HR := Lib.hid hR
  clear hW hB hP hV hR hz
  simp only [vv]
  have hw : writeD L id f (y1, y2) = [] := by unfold writeD; rw [hin]; rfl
  have hd := Lib.hid (cellD_no hin)
  rw [hw, hin]
  go_enter Try.func14, Try.ntmps14
  go_wp2_with fail
  rw [HW.out]
  refine (rread_any _ L id f _ (H.out.below HB.out) HL.out).mono ?_
  rintro e w1 ⟨rfl, hb⟩
  rw [hin, hd.out]
  simp only [vv]
  have HB1 := Lib.hid (HB.out.then_' hb)
  obtain ⟨r0, f0, hlt⟩ := HR.out.below hb
  clear hb
  go_wp2
  refine bodyPost_ret (v := .tuple #[.agg #[.slice none 0 0], .bool false]) (by simp [results, Try.results14, go_sem, r0, hlt]) rfl ?_
  exact ⟨_, [], rfl, ⟨.inl ⟨rfl, rfl, rfl⟩, by intro x hx; cases hx⟩, rfl, Below.new (HB1.out.setCell (p := ⟨w.heap.size + 1 + 1, 0, none⟩) (by simp; omega) _) _⟩

set_option maxHeartbeats 1000000 in
set_option maxRecDepth 100000 in
theorem rwrite_yes (v : Value) (L : List Lob) (id f : Int) (y : V) (w : World) (h : OsAt w v L) (hL : Short L) (hin : hasCell L id f = true) :
    Calls Try.prog 14 #[.agg #[v], .int .i64 id, .int .i64 f, vv y] w (RetW w (writeD L id f y) (hasCell L id f)) := by
  obtain ⟨a, n, c, rfl, hn⟩ := h.shape
  obtain ⟨y1, y2⟩ := y
  have H := Lib.hid h
  have HL := Lib.hid hL
  have HLn : Hid (n ≤ 1000000000) := Lib.hid (by rw [hn.out]; exact hL.1)
  clear h hL
  obtain ⟨W, hW, hB, hP, hV, hR, hz⟩ := three_new w (.slice a n c) (.bool y1) (.int .i64 y2) (.slice none 0 0) 24 29 24
  have HW := Lib.hid hW
  have HB := Lib.hid hB
  have HP := Lib.hid hP
  have HV := Lib.hid hV
  have HR := Lib.hid hR
  have HZ := Lib.hid hz
  clear hW hB hP hV hR hz
  simp only [vv]
  obtain ⟨hisin, x, m, y0, hx, rfl, hy, hd⟩ := cell_yes hin
  have hw : writeD L id (m : Int) (y1, y2) = (obs L).set (idx L id) (x.id, x.vals.set m (y1, y2)) := by unfold writeD; rw [hin, hx]; simp
  rw [hw, hin]
  have HX := Lib.hid hx
  have HY := Lib.hid hy
  have HD := Lib.hid hd
  have HF := Lib.hid (atI_in hisin)
  have hlt : idx L id < n := by rw [hn.out]; exact of_decide_eq_true hisin
  have HLL := Lib.hid HL.out.1
  clear hx hisin hy hw hd
  obtain ⟨y01, y02⟩ := y0
  go_enter Try.func14, Try.ntmps14
  go_wp2_with fail
  rw [HW.out]
  refine (rread_any _ L id m _ (H.out.below HB.out) HL.out).mono ?_
  rintro e w1 ⟨rfl, hb⟩
  rw [hin, HD.out]
  simp only [vv]
  have hB1 := Below.new (HB.out.then_' hb) (.cells #[.bool y01, .int .i64 y02] 29)
  have hbn := hb.trans ((below1 w1 (.cells #[.bool y01, .int .i64 y02] 29)).mono hb.size)
  have HB1 := Lib.hid hB1
  have HV1 := Lib.hid (HV.out.below hbn)
  have HR1 := Lib.hid (HR.out.below hbn)
  have HP1 := Lib.hid (HP.out.below hbn)
  have hp0 := (HP.out.below hbn).c0
  have HZ1 : Hid (w.heap.size + 3 ≤ (w1.alloc (.cells #[.bool y01, .int .i64 y02] 29)).heap.size) := Lib.hid (by rw [← HZ.out]; exact hbn.size)
  clear hb hB1 hbn
  go_wp2_with (first | (at_builtin; generalize w1.alloc (.cells #[.bool y01, .int .i64 y02] 29) = w2 at *; refine appO rfl _ _ rfl w2.heap.size _ 0 [] rfl (ownO_nil _ _) _ L.length (L.flatMap oc) rfl (H.out.below HB1.out).1 (oc_one H.out) (by have := HLL.out; omega) (Nat.le_refl _) ?_; intro a3 c3 w3 hown hg _; simp only [Nat.zero_add, List.nil_append] at hown; simp only [Nat.zero_add]; rw [← hn.out] at hown; rw [← hn.out]; obtain ⟨g, ha3, hg1, hg2⟩ := row_pos hown (by omega); subst ha3; have hb3 := Below.grewNone hg; have HOWN := Lib.hid hown; have HB3 := Lib.hid (HB1.out.then_' hb3); have HV3 := Lib.hid (HV1.out.below hb3); have HR3 := Lib.hid (HR1.out.below hb3); have HP3 := Lib.hid (HP1.out.below hb3); have hz3 := hb3.size; have hp3 := HP3.out.c0; have hltN : w.heap.size < w3.heap.size := HP3.out.lt; clear hown hg hb3 hp0) | fail)
  have hh := At1.new w3 (.slice (some ⟨g, 0, none⟩) n c3) 24
  have hbn := below1 w3 (.cells #[.slice (some ⟨g, 0, none⟩) n c3] 24)
  have hz4 : (w3.alloc (.cells #[.slice (some ⟨g, 0, none⟩) n c3] 24)).heap.size = w3.heap.size + 1 := by simp
  generalize w3.alloc (.cells #[.slice (some ⟨g, 0, none⟩) n c3] 24) = w4 at *
  have HB4 := Lib.hid (HB3.out.then_' hbn)
  refine (rat_any _ L id _ (H.out.below HB4.out) HL.out.1).mono ?_
  rintro e w5 ⟨rfl, hb⟩
  rw [HF.out]
  have hb5 := hbn.then_' hb
  have HB5 := Lib.hid (HB4.out.then_' hb)
  have HOWN5 := Lib.hid (own_below HOWN.out hb5)
  have HV5 := Lib.hid (HV3.out.below hb5)
  have HR5 := Lib.hid (HR3.out.below hb5)
  have hp5 := (HP3.out.below hb5).c0
  have HH5 := Lib.hid (hh.below hb)
  have hz5 := hb5.size
  have hz45 := hb.size
  obtain ⟨b, o, c', hv, hbl, hc0, hc1⟩ := (H.out.below HB5.out).elem HX.out
  obtain ⟨rfl, hv2, rfl⟩ := Value.slice.inj hv
  have hxv := (H.out.below HB5.out).2 _ (List.mem_of_getElem? HX.out)
  have hxl := HL.out.2 _ (List.mem_of_getElem? HX.out)
  clear hh hbn hb hb5 hv hv2 hp3
  generalize hkk : idx L id = k at *
  clear hkk
  have hlt' : (k : Int) < (n : Int) := by omega
  have hge' : (0 : Int) ≤ (k : Int) := by omega
  obtain ⟨i, xv, l⟩ := x
  simp only at hc0 hc1 hxv hxl
  obtain ⟨fa, fn, fc, rfl, _⟩ := hxv.shape
  have HXV := Lib.hid hxv
  have hml : m < l.length := (List.getElem?_eq_some_iff.1 HY.out).1
  clear hxv
  go_wp2_with fail
  refine (object_any i _ l _ HXV.out hxl).mono ?_
  rintro e w6 ⟨v6, rfl, ho, hb6⟩
  obtain ⟨gf, cf, rfl, hgf1, hgf2⟩ := own_pos ho (by omega)
  have HO := Lib.hid ho
  have HB6 := Lib.hid hb6
  clear ho hb6
  go_upto_region 7 with (fail)
  have hn6 := below1 w6 (.cells #[.int .i64 i, .slice (some ⟨gf, 0, none⟩) l.length cf] 27)
  have hoA := At2.new w6 (.int .i64 i) (.slice (some ⟨gf, 0, none⟩) l.length cf) 27
  generalize w6.alloc (.cells #[.int .i64 i, .slice (some ⟨gf, 0, none⟩) l.length cf] 27) = wa at *
  have hb5a := HB6.out.then_' hn6
  have hvA := HV5.out.below hb5a
  have hhA := HH5.out.below hb5a
  have hrA := HR5.out.below hb5a
  have howA := HO.out.below hn6
  have hrowA := own_below HOWN5.out hb5a
  have HBA := Lib.hid (HB5.out.then_' hb5a)
  obtain ⟨z, hz⟩ : ∃ z, l[m]? = some z := ⟨_, HY.out⟩
  obtain ⟨u0, u1, u2, u3⟩ := howA.cells_ hz
  obtain ⟨p0, p1, _, _, _⟩ := hoA
  obtain ⟨q0, q1, _, _, _⟩ := hvA
  have hm' : (m : Int) < (l.length : Int) := by omega
  have n1 : w6.heap.size ≠ gf := by omega
  have hz56 := HB6.out.size
  have n2 : w3.heap.size ≠ gf := by omega
  have hzw2 := HZ1.out
  have n3 : w.heap.size + 1 + 1 ≠ gf := by omega
  have n4 : g ≠ gf := by omega
  have n5 : w6.heap.size ≠ g := by omega
  have n6 : w3.heap.size ≠ g := by omega
  have n7 : w.heap.size + 1 + 1 ≠ g := by omega
  have hoB := ((At2.mk p0 p1 (by assumption) (by assumption) (by assumption) : At2 wa w6.heap.size (.int .i64 i) (.slice (some ⟨gf, 0, none⟩) l.length cf)).far (p := ⟨gf, m * 2, none⟩) n1 (.bool y1)).far (p := ⟨gf, m * 2 + 1, none⟩) n1 (.int .i64 y2)
  have hhB := (hhA.far (p := ⟨gf, m * 2, none⟩) n2 (.bool y1)).far (p := ⟨gf, m * 2 + 1, none⟩) n2 (.int .i64 y2)
  have hrB := (hrA.far (p := ⟨gf, m * 2, none⟩) n3 (.bool y1)).far (p := ⟨gf, m * 2 + 1, none⟩) n3 (.int .i64 y2)
  have hrowB := own_far (own_far hrowA (p := ⟨gf, m * 2, none⟩) (by simp [Value.ownBlock]; exact n4) (.bool y1)) (p := ⟨gf, m * 2 + 1, none⟩) (by simp [Value.ownBlock]; exact n4) (.int .i64 y2)
  have hoB2 := (World.ownsRow.stored (World.ownsRow.stored howA (m * 2) (.bool y1)).1 (m * 2 + 1) (.int .i64 y2)).1
  rw [flat_setV l m (y1, y2), if_pos hml] at hoB2
  have HOB := Lib.hid hoB
  have HHB := Lib.hid hhB
  have HRB := Lib.hid hrB
  have HROWB := Lib.hid hrowB
  have HOB2 := Lib.hid hoB2
  have HBB := Lib.hid ((HBA.out.setCell (p := ⟨gf, m * 2, none⟩) (by simp; omega) (.bool y1)).setCell (p := ⟨gf, m * 2 + 1, none⟩) (by simp; omega) (.int .i64 y2))
  clear hhA hrA howA hrowA hoB hhB hrB hrowB hoB2 hb5a hn6 hz
  go_upto_region 8 with (fail)
  generalize (wa.setCell ⟨gf, m * 2, none⟩ (.bool y1)).setCell ⟨gf, m * 2 + 1, none⟩ (.int .i64 y2) = wb at *
  clear u0 u1 u2 u3 p0 p1 q0 q1
  have hh0 := HHB.out.c0
  obtain ⟨p0, p1, _, _, _⟩ := HOB.out
  obtain ⟨t0, t1, t2, t3⟩ := row_cells HROWB.out HX.out
  have hhC := (HHB.out.far (p := ⟨g, k * 2, none⟩) n6 (.int .i64 i)).far (p := ⟨g, k * 2 + 1, none⟩) n6 (.slice (some ⟨gf, 0, none⟩) l.length cf)
  have hrC := (HRB.out.far (p := ⟨g, k * 2, none⟩) n7 (.int .i64 i)).far (p := ⟨g, k * 2 + 1, none⟩) n7 (.slice (some ⟨gf, 0, none⟩) l.length cf)
  have hrowC := (World.ownsRow.stored (World.ownsRow.stored HROWB.out (k * 2) (.int .i64 i)).1 (k * 2 + 1) (.slice (some ⟨gf, 0, none⟩) l.length cf)).1
  have hkL : k < L.length := by rw [← hn.out]; exact hlt
  rw [flat_set L k ⟨i, .slice (some ⟨gf, 0, none⟩) l.length cf, l.set m (y1, y2)⟩, if_pos hkL] at hrowC
  have hoC2 := own_far (own_far HOB2.out (p := ⟨g, k * 2, none⟩) (by simp [Value.ownBlock]; exact fun e => n4 e.symm) (.int .i64 i)) (p := ⟨g, k * 2 + 1, none⟩) (by simp [Value.ownBlock]; exact fun e => n4 e.symm) (.slice (some ⟨gf, 0, none⟩) l.length cf)
  have HHC := Lib.hid hhC
  have HRC := Lib.hid hrC
  have HROWC := Lib.hid hrowC
  have HOC2 := Lib.hid hoC2
  have HBC := Lib.hid ((HBB.out.setCell (p := ⟨g, k * 2, none⟩) (by simp; omega) (.int .i64 i)).setCell (p := ⟨g, k * 2 + 1, none⟩) (by simp; omega) (.slice (some ⟨gf, 0, none⟩) l.length cf))
  clear hhC hrC hrowC hoC2
  go_upto_region 9 with (fail)
  generalize (wb.setCell ⟨g, k * 2, none⟩ (.int .i64 i)).setCell ⟨g, k * 2 + 1, none⟩ (.slice (some ⟨gf, 0, none⟩) l.length cf) = wc at *
  clear p0 p1 t0 t1 t2 t3 hh0
  have hh0 := HHC.out.c0
  obtain ⟨r0, f0, _⟩ := HRC.out
  go_wp2
  refine bodyPost_ret (v := .tuple #[.agg #[.slice (some ⟨g, 0, none⟩) n c3], .bool true]) (by simp [results, Try.results14, go_sem, r0]) rfl ?_
  have hltw : w.heap.size + 1 + 1 < w2.heap.size := by omega
  have hBF := HBC.out.setCell (p := ⟨w.heap.size + 1 + 1, 0, none⟩) (by simp; omega) (.slice (some ⟨g, 0, none⟩) n c3)
  refine ⟨_, L.set k ⟨i, .slice (some ⟨gf, 0, none⟩) l.length cf, l.set m (y1, y2)⟩, rfl, ⟨?_, ?_⟩, obs_set _ _ _, hBF⟩
  · rw [List.length_set, ← hn.out]
    exact own_sl (ownsRow_setCell_below HROWC.out (a := ⟨w.heap.size + 1 + 1, 0, none⟩) hltw _)
  · intro z hz
    rcases List.mem_or_eq_of_mem_set hz with hz | rfl
    · exact (H.out.2 z hz).below hBF
    · show VsAt _ _ (l.set m (y1, y2))
      unfold VsAt
      rw [List.length_set]
      exact own_sl (ownsRow_setCell_below HOC2.out (a := ⟨w.heap.size + 1 + 1, 0, none⟩) (by simp; omega) _)
theorem rwrite_any (v : Value) (L : List Lob) (id f : Int) (y : V) (w : World) (h : OsAt w v L) (hL : Short L) :
    Calls Try.prog 14 #[.agg #[v], .int .i64 id, .int .i64 f, vv y] w (RetW w (writeD L id f y) (hasCell L id f)) := by
  cases hin : hasCell L id f with
  | false => rw [← hin]; exact rwrite_no v L id f y w h hL hin
  | true => rw [← hin]; exact rwrite_yes v L id f y w h hL hin
end Go.Proofs.Ytngjedfoogmbjaa
