/- CanonGarbage, walked. -/
import Derived.Test.YtbnippldclpclaaNOnce
namespace Go.Proofs.Ytbnippldclpclaa
open Go.RowKit

theorem At2.put0 {w : World} {b : Nat} {u0 u1 : Value} (h : At2 w b u0 u1) (v : Value) : At2 (w.setCell ⟨b, 0, none⟩ v) b v u1 :=
  ⟨World.cell?_setCell_same' _ _ _ (by rw [h.c0]; rfl), (World.cell?_setCell_other _ _ _ _ (by simp)).trans h.c1, by simpa using h.f0, by simpa using h.f1, by simpa [World.setCell] using h.lt⟩
theorem vs_far {w : World} {b o n c : Nat} {l : List V} (h : VsAt w (.slice (some ⟨b, o, none⟩) n c) l) {p : Addr} (u : Value) (hp : b ≠ p.block) : VsAt (w.setCell p u) (.slice (some ⟨b, o, none⟩) n c) l :=
  SlAt.agree h fun ad c e _ => by obtain ⟨e, -, -⟩ := Value.slice.inj e; cases e; exact heap_far w p u b hp
theorem made_ne {O : List Ob} (h : MadeH O) : ∀ x ∈ O, ∀ v ∈ x.2, v.2 ≠ 5000 := fun x hx v hv e => by have := ((h.ok x hx).2 v hv).2.1; omega
theorem one_ne {x : V} (h : OkV x) : ∀ v ∈ [x], v.2 ≠ 5000 := fun v hv e => by simp at hv; subst hv; have := h.2.1; omega
theorem len1 (x : V) : [x].length ≤ 1000000 := by simp
theorem len1' (R : List Int) (x : V) : ([x].map (turnV R)).length ≤ 1000000 := by simp
theorem canon3 (hC : CanonOK) {w : World} {v u : Value} {C D : List Ob} {l m : List V} {S : List Int} (h : OAt w v C) (hu : VsAt w u l) (hs : ShortO C) (hl : l.length ≤ 1000000) (ho : ReachO C l S) (h1 : canonL (fldsO C) S = D) (h2 : l.map (turnV S) = m) :
    Calls Try.prog 10 #[.agg #[v], u] w (fun e w' => ∃ a n c a2 n2 c2, e = .returned (.tuple #[.agg #[.slice a n c], .slice a2 n2 c2]) ∧ OAt w' (.slice a n c) D ∧ VsAt w' (.slice a2 n2 c2) m ∧ Below w.heap.size w w') :=
  (hC v u C l w h hu hs hl).mono fun e w' ⟨R, a, n, c, a2, n2, c2, hR, he, h3, h4, h5⟩ => by
    have := hR.det ho
    subst this
    rw [h1] at h3
    rw [h2] at h4
    exact ⟨a, n, c, a2, n2, c2, he, h3, h4, h5⟩

set_option maxHeartbeats 2000000 in
set_option maxRecDepth 100000 in
theorem canonGarbage_walk (hC : CanonOK) (hR : ReachOK) (a fa : Option Addr) (n c fn fc : Nat) (oid : Int) (l : List V) (w : World) (h : BytesAt w a n c) (hv : VsAt w (.slice fa fn fc) l) :
    Calls Try.prog 5 #[.slice a n c, .agg #[.int .i64 oid, .slice fa fn fc]] w (RetB w true) := by
  have HC := Lib.hid hC
  have HR := Lib.hid hR
  have H := Lib.hid h
  have HV := Lib.hid hv
  have hn : Hid (fn = l.length) := by obtain ⟨_, _, _, e, hn⟩ := VsAt.shape hv; obtain ⟨-, rfl, -⟩ := Value.slice.inj e; exact hn
  clear hC hR h hv
  have B := Lib.hid (below1 w (.cells #[.int .i64 oid, .slice fa fn fc] 43))
  have T := Lib.hid (At2.new w (.int .i64 oid) (.slice fa fn fc) 43)
  go_enter Try.func5, Try.ntmps5
  go_wp2_with fail
  generalize w.alloc (.cells #[.int .i64 oid, .slice fa fn fc] 43) = w0 at *
  refine (sane4_any HC.out HR.out _).mono ?_
  rintro e w1 ⟨rfl, hb⟩
  replace T := Lib.hid (T.out.below hb)
  replace B := Lib.hid (B.out.then_' hb)
  clear hb
  have t1 := T.out.c1
  by_cases h50 : 50 < fn
  · go_wp2
    go_ret
    exact ⟨rfl, B.out⟩
  · go_wp2_with fail
    clear t1
    refine (new_ok a n c _ (H.out.below B.out)).mono ?_
    rintro e w2 ⟨rfl, hd, hb⟩
    have hbw : w.heap.size ≤ w1.heap.size := B.out.size
    have htb : w.heap.size ≠ w1.heap.size := by have := T.out.lt; omega
    replace B := Lib.hid (B.out.then_' hb)
    replace T := Lib.hid (T.out.below hb)
    have D := Lib.hid hd
    clear hd hb
    go_wp2_with fail
    refine (made_heap w1.heap.size w2 D.out).mono ?_
    rintro e w3 ⟨a1, n1, c1, O, rfl, ho, hm, hr⟩
    have HM := Lib.hid hm
    have b1 := below1 w3 (.cells #[.slice a1 n1 c1] 28)
    have R3 := Lib.hid (hr.below b1)
    have HO := Lib.hid (ho.below b1)
    have hlt2 : w1.heap.size < w2.heap.size := D.out.lt
    have P := Lib.hid (At1.new w3 (.slice a1 n1 c1) 28)
    have hpb : w3.heap.size ≠ w1.heap.size := by have := hr.grown.size; omega
    have htp : w.heap.size < w3.heap.size := by have := hr.grown.size; have := T.out.lt; omega
    replace T := Lib.hid ((T.out.rolls hr htb).below b1)
    replace B := Lib.hid (hr.base B.out hbw |>.then_' b1)
    clear ho hm hr b1
    go_wp2_with fail
    generalize w3.alloc (.cells #[.slice a1 n1 c1] 28) = w4 at *
    refine (made_value w1.heap.size w4 R3.out.dice).mono ?_
    rintro e w5 ⟨⟨x1, x2⟩, hx, rfl, hr⟩
    have HX := Lib.hid hx
    have b1 := below1 w5 (.cells #[.bool x1, .int .i64 x2] 31)
    replace HO := Lib.hid ((own_in HO.out hr hlt2).below b1)
    replace P := Lib.hid ((P.out.rolls hr hpb).below b1)
    replace T := Lib.hid ((T.out.rolls hr htb).below b1)
    replace B := Lib.hid ((hr.base B.out hbw).then_' b1)
    have V := Lib.hid (vs_one (x := (x1, x2)) (At2.new w5 (.bool x1) (.int .i64 x2) 31))
    have hvt : Hid (w.heap.size < w5.heap.size) := Lib.hid (by have := hr.grown.size; have := R3.out.grown.size; omega)
    clear hx hr b1 R3
    have t0 := T.out.c0
    have tf := T.out.f0
    have p0 := (P.out.far (p := ⟨w.heap.size, 0, none⟩) (show w3.heap.size ≠ w.heap.size by omega) (.int .i64 5000)).c0
    go_wp2_with fail
    clear t0 tf p0
    have hlt0 : w.heap.size < w2.heap.size := by omega
    replace HO := Lib.hid (HO.out.set (p := ⟨w.heap.size, 0, none⟩) hlt0 (.int .i64 5000))
    replace P := Lib.hid (P.out.far (p := ⟨w.heap.size, 0, none⟩) (show w3.heap.size ≠ w.heap.size by omega) (.int .i64 5000))
    replace T := Lib.hid (T.out.put0 (.int .i64 5000))
    replace B := Lib.hid (B.out.setCell (p := ⟨w.heap.size, 0, none⟩) (Nat.le_refl _) (.int .i64 5000))
    replace V := Lib.hid (vs_far V.out (p := ⟨w.heap.size, 0, none⟩) (.int .i64 5000) (show w5.heap.size ≠ w.heap.size by have := hvt.out; omega))
    generalize (w5.alloc (.cells #[.bool x1, .int .i64 x2] 31)).setCell ⟨w.heap.size, 0, none⟩ (.int .i64 5000) = w7 at *
    refine (HC.out _ _ O [(x1, x2)] w7 HO.out.at_ V.out HM.out.short (len1 _)).mono ?_
    rintro e w8 ⟨R, a2, n2, c2, a3, n3, c3, hreach, rfl, h1, h2, hb⟩
    have HRe := Lib.hid hreach
    have b1 := hb.then_' (below1 w8 (.cells #[.slice a2 n2 c2] 28))
    replace B := Lib.hid (B.out.then_' b1)
    replace HO := Lib.hid (HO.out.below b1)
    replace P := Lib.hid (P.out.below b1)
    replace T := Lib.hid (T.out.below b1)
    replace V := Lib.hid (V.out.below b1)
    have HA := Lib.hid (h1.below (below1 w8 (.cells #[.slice a2 n2 c2] 28)))
    have VA := Lib.hid (h2.below (below1 w8 (.cells #[.slice a2 n2 c2] 28)))
    have PA := Lib.hid (At1.new w8 (.slice a2 n2 c2) 28)
    have p0 := P.out.c0
    have t0 := T.out.c0
    have t1 := T.out.c1
    clear hreach hb b1 h1 h2
    go_wp2_with fail
    generalize w8.alloc (.cells #[.slice a2 n2 c2] 28) = w9 at *
    clear p0 t0 t1
    refine (rput_ok 5000 l HO.out.at_ (HV.out.below B.out) HM.out.short (by have := hn.out; omega)).mono ?_
    rintro e w10 ⟨a4, n4, c4, rfl, h4, hb⟩
    have HS := Lib.hid (putO_short (o := (5000, l)) HM.out.short (by have := HM.out.len; omega) (by have := hn.out; show l.length ≤ 1000000; omega))
    have HG := Lib.hid (canon_garbage 5000 l (made_ne HM.out) (one_ne HX.out) HRe.out)
    have HSA := Lib.hid (canonL_short HM.out.short (reach_len HRe.out))
    have H4 := Lib.hid h4
    replace B := Lib.hid (B.out.then_' hb)
    replace V := Lib.hid (V.out.below hb)
    replace HA := Lib.hid (HA.out.below hb)
    replace VA := Lib.hid (VA.out.below hb)
    replace PA := Lib.hid (PA.out.below hb)
    clear h4 hb HO P T
    go_wp2_with fail
    refine (canon3 HC.out H4.out V.out HS.out (len1 _) HG.out.1 HG.out.2 rfl).mono ?_
    rintro e w11 ⟨a5, n5, c5, a6, n6, c6, rfl, h5, h6, hb⟩
    have b1 := hb.then_' (below1 w11 (.cells #[.slice a5 n5 c5] 28))
    replace B := Lib.hid (B.out.then_' b1)
    replace HA := Lib.hid (HA.out.below b1)
    replace VA := Lib.hid (VA.out.below b1)
    replace PA := Lib.hid (PA.out.below b1)
    have HB := Lib.hid (h5.below (below1 w11 (.cells #[.slice a5 n5 c5] 28)))
    have VB := Lib.hid (h6.below (below1 w11 (.cells #[.slice a5 n5 c5] 28)))
    have pA := PA.out.c0
    clear hb b1 h5 h6
    go_wp2_with fail
    generalize w11.alloc (.cells #[.slice a5 n5 c5] 28) = w12 at *
    clear pA
    refine (same_t HA.out HB.out HSA.out).mono ?_
    rintro e w13 ⟨rfl, hb⟩
    replace B := Lib.hid (B.out.then_' hb)
    replace VA := Lib.hid (VA.out.below hb)
    replace VB := Lib.hid (VB.out.below hb)
    clear hb
    go_wp2_with fail
    refine (values_t VA.out VB.out (len1' _ _)).mono ?_
    rintro e w14 ⟨rfl, hb⟩
    go_wp2
    go_ret
    exact ⟨rfl, B.out.then_' hb⟩
end Go.Proofs.Ytbnippldclpclaa
