/- every (of the code), for any function value: expressions, functions, strings. -/
import Derived.Test.YtilholgbepfopaaDoorSNode
import Derived.Test.YtilholgbepfopaaDoorSReads
namespace Go.Proofs.YtilholgbepfopaaDoor
open Go.RowKit

/-- a test of all elements in their order, with a state, to the first that fails -/
def evL {σ α : Type} (g : σ → α → Bool × σ) (st : σ) : List α → Bool × σ
  | [] => (true, st)
  | x :: l => if (g st x).1 = true then evL g (g st x).2 l else (false, (g st x).2)
theorem evL_yes {σ α : Type} {g : σ → α → Bool × σ} {st : σ} {l : List α} {x : α} {k : Nat} (hk : l[k]? = some x) (h : (evL g st (l.take k)).1 = true) (hx : (g (evL g st (l.take k)).2 x).1 = true) :
    (evL g st (l.take (k + 1))).1 = true ∧ (evL g st (l.take (k + 1))).2 = (g (evL g st (l.take k)).2 x).2 := by
  induction l generalizing st k with
  | nil => simp at hk
  | cons y l ih =>
    cases k with
    | zero =>
      simp at hk
      subst hk
      simp only [List.take_zero, evL] at hx ⊢
      simp [evL, hx]
    | succ k =>
      rw [List.getElem?_cons_succ] at hk
      simp only [List.take_succ_cons, evL] at h hx ⊢
      by_cases hy : (g st y).1 = true
      · rw [if_pos hy] at h hx ⊢
        have := ih hk h hx
        simpa [List.take_succ_cons, hy] using this
      · rw [if_neg hy] at h
        cases h
theorem evL_no {σ α : Type} {g : σ → α → Bool × σ} {st : σ} {l : List α} {x : α} {k : Nat} (hk : l[k]? = some x) (h : (evL g st (l.take k)).1 = true) (hx : (g (evL g st (l.take k)).2 x).1 = false) :
    evL g st l = (false, (g (evL g st (l.take k)).2 x).2) := by
  induction l generalizing st k with
  | nil => simp at hk
  | cons y l ih =>
    cases k with
    | zero =>
      simp at hk
      subst hk
      simp only [List.take_zero, evL] at hx ⊢
      simp [hx]
    | succ k =>
      rw [List.getElem?_cons_succ] at hk
      simp only [List.take_succ_cons, evL] at h hx ⊢
      by_cases hy : (g st y).1 = true
      · rw [if_pos hy] at h hx ⊢
        have := ih hk h hx
        simpa [hy] using this
      · rw [if_neg hy] at h
        cases h

set_option maxHeartbeats 4000000 in
set_option maxRecDepth 100000 in
theorem everyE_any {σ : Type} (N : FuncId) (caps : Array Value) (R : Bool → World → σ → Prop) (g : σ → Ex → Bool × σ) (Frm : World → World → Prop) (w0 : World) (l : List Ex)
    (hN : ∀ args w, (callFunc N args).run Tryd.prog w = .ok (.enter N args) w)
    (hg : ∀ x ∈ l, ∀ (u : Value) (st : σ) (w : World), R true w st → Below w0.heap.size w0 w → ExsAt w0 u x.l → Calls Tryd.prog N (#[exV x u] ++ caps) w (fun e w' => e = .returned (.bool (g st x).1) ∧ R (g st x).1 w' (g st x).2 ∧ Frm w w'))
    (hR : ∀ b w st w', R b w st → Below w.heap.size w w' → R b w' st) (htr : ∀ w w1 w2, Frm w w1 → Frm w1 w2 → Frm w w2) (hbl : ∀ w w', Below w.heap.size w w' → Frm w w') (hlow : ∀ w w', Below w0.heap.size w0 w → Frm w w' → Below w0.heap.size w0 w')
    (v : Value) (st : σ) (w : World) (hl : l.length ≤ 10000000) (hv : ExsAt w0 v l) (hb0 : Below w0.heap.size w0 w) (hr : R true w st) :
    Calls Tryd.prog 75 #[v, .func (.func N) #[] caps] w (fun e w' => e = .returned (.bool (evL g st l).1) ∧ R (evL g st l).1 w' (evL g st l).2 ∧ Frm w w') := by
  obtain ⟨a, cp, rfl⟩ := hv.shape
  have H := Lib.hid hv
  have B0 := Lib.hid hb0
  have R0 := Lib.hid hr
  have HG := Lib.hid hg
  have HR := Lib.hid hR
  have HTR := Lib.hid htr
  have HBL := Lib.hid hbl
  have HLW := Lib.hid hlow
  obtain ⟨n, hn⟩ : ∃ n, n = l.length := ⟨_, rfl⟩
  have HN := Lib.hid hn
  rw [← hn] at H hl ⊢
  clear hv hb0 hr hg hR htr hbl hlow hn
  go_enter Tryd.func75, Tryd.ntmps75
  go_wp2_with fail
  go_loopw [9] (fun  k_ wr => ∃ (k : Nat), k ≤ n ∧ k_ = .int .i64 k ∧ Hid ((evL g st (l.take k)).1 = true) ∧ R true wr (evL g st (l.take k)).2 ∧ Frm w wr) (fun  k_ _ => n - (intOf k_).toNat)
  case atStart => exact ⟨0, Nat.zero_le _, rfl, Lib.hid rfl, R0.out, HBL.out _ _ (Below.refl _ _)⟩
  case round =>
    obtain ⟨k, hk, rfl, hev, hrr, hfr⟩ := hrel
    have RR := Lib.hid hrr
    have FR := Lib.hid hfr
    clear hrr hfr R0
    by_cases hlt : k < n
    · obtain ⟨x, hx⟩ : ∃ x, l[k]? = some x := ⟨_, List.getElem?_eq_getElem (by rw [← HN.out]; exact hlt)⟩
      have hbr : Below w0.heap.size w0 wr := HLW.out _ _ B0.out FR.out
      obtain ⟨b, o, c', u, hv, hbb, f0, f1, f2, f3, f4, hu⟩ := H.out.elem hx
      obtain ⟨rfl, -, rfl⟩ := Value.slice.inj hv
      obtain ⟨ua, uc, rfl⟩ := hu.shape
      replace f0 := (hbr.cell (p := ⟨b, o + k * 5, none⟩) hbb).trans f0
      replace f1 := (hbr.cell (p := ⟨b, o + k * 5 + 1, none⟩) hbb).trans f1
      replace f2 := (hbr.cell (p := ⟨b, o + k * 5 + 2, none⟩) hbb).trans f2
      replace f3 := (hbr.cell (p := ⟨b, o + k * 5 + 3, none⟩) hbb).trans f3
      replace f4 := (hbr.cell (p := ⟨b, o + k * 5 + 4, none⟩) hbb).trans f4
      have HU := Lib.hid hu
      clear hu
      have HX := Lib.hid hx
      have hki : (k : Int) < (n : Int) := by omega
      clear hv hx
      have T := Lib.hid (CsT.new wr [.int .i64 x.kind, .int .i64 x.n, .string x.name, .int .i64 x.op, .slice ua x.l.length uc] 42)
      have Bz := Lib.hid (below1 wr (.cells #[.int .i64 x.kind, .int .i64 x.n, .string x.name, .int .i64 x.op, .slice ua x.l.length uc] 42))
      have RZ := Lib.hid (HR.out _ _ _ _ RR.out Bz.out)
      have BZ0 := Lib.hid (hbr.then_' Bz.out)
      have FZ := Lib.hid (HTR.out _ _ _ FR.out (HBL.out _ _ Bz.out))
      have t0 := T.out.at_.cell 0 _ rfl
      have t1 := T.out.at_.cell 1 _ rfl
      have t2 := T.out.at_.cell 2 _ rfl
      have t3 := T.out.at_.cell 3 _ rfl
      have t4 := T.out.at_.cell 4 _ rfl
      clear hbr RR FR
      go_wp2_with fail
      generalize wr.alloc (.cells #[.int .i64 x.kind, .int .i64 x.n, .string x.name, .int .i64 x.op, .slice ua x.l.length uc] 42) = wz at *
      clear t0 t1 t2 t3 t4 f0 f1 f2 f3 f4 T
      refine (HG.out x (List.mem_of_getElem? HX.out) (.slice ua x.l.length uc) _ wz RZ.out BZ0.out HU.out).mono ?_
      rintro e' w2 ⟨rfl, hr2, hf2⟩
      have R2 := Lib.hid hr2
      have F2 := Lib.hid (HTR.out _ _ _ FZ.out hf2)
      clear hr2 hf2
      cases hh : (g (evL g st (l.take k)).2 x).1 with
      | true =>
        obtain ⟨e1, e2⟩ := evL_yes HX.out hev.out hh
        have E1 := Lib.hid e1
        have E2 := Lib.hid e2
        rw [hh] at R2
        clear hh e1 e2
        go_wp2_with fail
        go_roundw
        case rel => exact ⟨k + 1, by omega, by go_num, E1, by rw [E2.out]; exact R2.out, F2.out⟩
        case measure => simp [intOf]; omega
      | false =>
        have E1 := Lib.hid (evL_no HX.out hev.out hh)
        rw [hh] at R2
        clear hh
        go_wp2_with fail
        go_ret
        exact ⟨by rw [E1.out]; rfl, by rw [E1.out]; exact R2.out, F2.out⟩
    · obtain rfl : k = n := by omega
      have e1 : l.take k = l := List.take_of_length_le (Nat.le_of_eq HN.out.symm)
      rw [e1] at RR hev
      go_wp2
      go_ret
      exact ⟨by rw [hev.out]; rfl, by rw [hev.out]; exact RR.out, FR.out⟩

set_option maxHeartbeats 4000000 in
set_option maxRecDepth 100000 in
theorem everyF_any {σ : Type} (N : FuncId) (caps : Array Value) (R : Bool → World → σ → Prop) (g : σ → Fn → Bool × σ) (Frm : World → World → Prop) (w0 : World) (l : List Fn)
    (hN : ∀ args w, (callFunc N args).run Tryd.prog w = .ok (.enter N args) w)
    (hg : ∀ x ∈ l, ∀ (u y : Value) (st : σ) (w : World), R true w st → Below w0.heap.size w0 w → NmsAt w0 u x.params → StsAt w0 y x.body → Calls Tryd.prog N (#[.agg #[.string x.name, u, y]] ++ caps) w (fun e w' => e = .returned (.bool (g st x).1) ∧ R (g st x).1 w' (g st x).2 ∧ Frm w w'))
    (hR : ∀ b w st w', R b w st → Below w.heap.size w w' → R b w' st) (htr : ∀ w w1 w2, Frm w w1 → Frm w1 w2 → Frm w w2) (hbl : ∀ w w', Below w.heap.size w w' → Frm w w') (hlow : ∀ w w', Below w0.heap.size w0 w → Frm w w' → Below w0.heap.size w0 w')
    (v : Value) (st : σ) (w : World) (hl : l.length ≤ 10000000) (hv : FnsAt w0 v l) (hb0 : Below w0.heap.size w0 w) (hr : R true w st) :
    Calls Tryd.prog 32 #[v, .func (.func N) #[] caps] w (fun e w' => e = .returned (.bool (evL g st l).1) ∧ R (evL g st l).1 w' (evL g st l).2 ∧ Frm w w') := by
  obtain ⟨a, cp, rfl⟩ := hv.shape
  have H := Lib.hid hv
  have B0 := Lib.hid hb0
  have R0 := Lib.hid hr
  have HG := Lib.hid hg
  have HR := Lib.hid hR
  have HTR := Lib.hid htr
  have HBL := Lib.hid hbl
  have HLW := Lib.hid hlow
  obtain ⟨n, hn⟩ : ∃ n, n = l.length := ⟨_, rfl⟩
  have HN := Lib.hid hn
  rw [← hn] at H hl ⊢
  clear hv hb0 hr hg hR htr hbl hlow hn
  go_enter Tryd.func32, Tryd.ntmps32
  go_wp2_with fail
  go_loopw [9] (fun  k_ wr => ∃ (k : Nat), k ≤ n ∧ k_ = .int .i64 k ∧ Hid ((evL g st (l.take k)).1 = true) ∧ R true wr (evL g st (l.take k)).2 ∧ Frm w wr) (fun  k_ _ => n - (intOf k_).toNat)
  case atStart => exact ⟨0, Nat.zero_le _, rfl, Lib.hid rfl, R0.out, HBL.out _ _ (Below.refl _ _)⟩
  case round =>
    obtain ⟨k, hk, rfl, hev, hrr, hfr⟩ := hrel
    have RR := Lib.hid hrr
    have FR := Lib.hid hfr
    clear hrr hfr R0
    by_cases hlt : k < n
    · obtain ⟨x, hx⟩ : ∃ x, l[k]? = some x := ⟨_, List.getElem?_eq_getElem (by rw [← HN.out]; exact hlt)⟩
      have hbr : Below w0.heap.size w0 wr := HLW.out _ _ B0.out FR.out
      obtain ⟨b, o, c', u, y, hv, hbb, f0, f1, f2, hu, hy⟩ := H.out.elem hx
      obtain ⟨rfl, -, rfl⟩ := Value.slice.inj hv
      obtain ⟨ua, uc, rfl⟩ := hu.shape
      obtain ⟨ya, yc, rfl⟩ := hy.shape
      replace f0 := (hbr.cell (p := ⟨b, o + k * 3, none⟩) hbb).trans f0
      replace f1 := (hbr.cell (p := ⟨b, o + k * 3 + 1, none⟩) hbb).trans f1
      replace f2 := (hbr.cell (p := ⟨b, o + k * 3 + 2, none⟩) hbb).trans f2
      have HU := Lib.hid hu
      have HY := Lib.hid hy
      clear hu hy
      have HX := Lib.hid hx
      have hki : (k : Int) < (n : Int) := by omega
      clear hv hx
      have T := Lib.hid (CsT.new wr [.string x.name, .slice ua x.params.length uc, .slice ya x.body.length yc] 35)
      have Bz := Lib.hid (below1 wr (.cells #[.string x.name, .slice ua x.params.length uc, .slice ya x.body.length yc] 35))
      have RZ := Lib.hid (HR.out _ _ _ _ RR.out Bz.out)
      have BZ0 := Lib.hid (hbr.then_' Bz.out)
      have FZ := Lib.hid (HTR.out _ _ _ FR.out (HBL.out _ _ Bz.out))
      have t0 := T.out.at_.cell 0 _ rfl
      have t1 := T.out.at_.cell 1 _ rfl
      have t2 := T.out.at_.cell 2 _ rfl
      clear hbr RR FR
      go_wp2_with fail
      generalize wr.alloc (.cells #[.string x.name, .slice ua x.params.length uc, .slice ya x.body.length yc] 35) = wz at *
      clear t0 t1 t2 f0 f1 f2 T
      refine (HG.out x (List.mem_of_getElem? HX.out) (.slice ua x.params.length uc) (.slice ya x.body.length yc) _ wz RZ.out BZ0.out HU.out HY.out).mono ?_
      rintro e' w2 ⟨rfl, hr2, hf2⟩
      have R2 := Lib.hid hr2
      have F2 := Lib.hid (HTR.out _ _ _ FZ.out hf2)
      clear hr2 hf2
      cases hh : (g (evL g st (l.take k)).2 x).1 with
      | true =>
        obtain ⟨e1, e2⟩ := evL_yes HX.out hev.out hh
        have E1 := Lib.hid e1
        have E2 := Lib.hid e2
        rw [hh] at R2
        clear hh e1 e2
        go_wp2_with fail
        go_roundw
        case rel => exact ⟨k + 1, by omega, by go_num, E1, by rw [E2.out]; exact R2.out, F2.out⟩
        case measure => simp [intOf]; omega
      | false =>
        have E1 := Lib.hid (evL_no HX.out hev.out hh)
        rw [hh] at R2
        clear hh
        go_wp2_with fail
        go_ret
        exact ⟨by rw [E1.out]; rfl, by rw [E1.out]; exact R2.out, F2.out⟩
    · obtain rfl : k = n := by omega
      have e1 : l.take k = l := List.take_of_length_le (Nat.le_of_eq HN.out.symm)
      rw [e1] at RR hev
      go_wp2
      go_ret
      exact ⟨by rw [hev.out]; rfl, by rw [hev.out]; exact RR.out, FR.out⟩

set_option maxHeartbeats 4000000 in
set_option maxRecDepth 100000 in
theorem everyS_any {σ : Type} (N : FuncId) (caps : Array Value) (R : Bool → World → σ → Prop) (g : σ → ByteArray → Bool × σ) (Frm : World → World → Prop) (w0 : World) (l : List ByteArray)
    (hN : ∀ args w, (callFunc N args).run Tryd.prog w = .ok (.enter N args) w)
    (hg : ∀ x ∈ l, ∀ (_u : Value) (st : σ) (w : World), R true w st → Below w0.heap.size w0 w → True → Calls Tryd.prog N (#[.string x] ++ caps) w (fun e w' => e = .returned (.bool (g st x).1) ∧ R (g st x).1 w' (g st x).2 ∧ Frm w w'))
    (hR : ∀ b w st w', R b w st → Below w.heap.size w w' → R b w' st) (htr : ∀ w w1 w2, Frm w w1 → Frm w1 w2 → Frm w w2) (hbl : ∀ w w', Below w.heap.size w w' → Frm w w') (hlow : ∀ w w', Below w0.heap.size w0 w → Frm w w' → Below w0.heap.size w0 w')
    (v : Value) (st : σ) (w : World) (hl : l.length ≤ 10000000) (hv : NmsAt w0 v l) (hb0 : Below w0.heap.size w0 w) (hr : R true w st) :
    Calls Tryd.prog 59 #[v, .func (.func N) #[] caps] w (fun e w' => e = .returned (.bool (evL g st l).1) ∧ R (evL g st l).1 w' (evL g st l).2 ∧ Frm w w') := by
  obtain ⟨a, cp, rfl⟩ := hv.shape
  have H := Lib.hid hv
  have B0 := Lib.hid hb0
  have R0 := Lib.hid hr
  have HG := Lib.hid hg
  have HR := Lib.hid hR
  have HTR := Lib.hid htr
  have HBL := Lib.hid hbl
  have HLW := Lib.hid hlow
  obtain ⟨n, hn⟩ : ∃ n, n = l.length := ⟨_, rfl⟩
  have HN := Lib.hid hn
  rw [← hn] at H hl ⊢
  clear hv hb0 hr hg hR htr hbl hlow hn
  go_enter Tryd.func59, Tryd.ntmps59
  go_wp2_with fail
  go_loopw [6, 9] (fun _ k_ wr => ∃ (k : Nat), k ≤ n ∧ k_ = .int .i64 k ∧ Hid ((evL g st (l.take k)).1 = true) ∧ R true wr (evL g st (l.take k)).2 ∧ Frm w wr) (fun _ k_ _ => n - (intOf k_).toNat)
  case atStart => exact ⟨0, Nat.zero_le _, rfl, Lib.hid rfl, R0.out, HBL.out _ _ (Below.refl _ _)⟩
  case round =>
    obtain ⟨k, hk, rfl, hev, hrr, hfr⟩ := hrel
    have RR := Lib.hid hrr
    have FR := Lib.hid hfr
    clear hrr hfr R0
    by_cases hlt : k < n
    · obtain ⟨x, hx⟩ : ∃ x, l[k]? = some x := ⟨_, List.getElem?_eq_getElem (by rw [← HN.out]; exact hlt)⟩
      have hbr : Below w0.heap.size w0 wr := HLW.out _ _ B0.out FR.out
      obtain ⟨b, o, c', hv, hbb, f0⟩ := H.out.elem hx
      obtain ⟨rfl, -, rfl⟩ := Value.slice.inj hv
      replace f0 := (hbr.cell (p := ⟨b, o + k, none⟩) hbb).trans f0
      have HX := Lib.hid hx
      have hki : (k : Int) < (n : Int) := by omega
      clear hv hx
      have BZ0 := Lib.hid hbr
      clear hbr
      go_wp2_with fail
      clear f0
      refine (HG.out x (List.mem_of_getElem? HX.out) (.bool true) _ wr RR.out BZ0.out trivial).mono ?_
      rintro e' w2 ⟨rfl, hr2, hf2⟩
      have R2 := Lib.hid hr2
      have F2 := Lib.hid (HTR.out _ _ _ FR.out hf2)
      clear hr2 hf2
      cases hh : (g (evL g st (l.take k)).2 x).1 with
      | true =>
        obtain ⟨e1, e2⟩ := evL_yes HX.out hev.out hh
        have E1 := Lib.hid e1
        have E2 := Lib.hid e2
        rw [hh] at R2
        clear hh e1 e2
        go_wp2_with fail
        go_roundw
        case rel => exact ⟨k + 1, by omega, by go_num, E1, by rw [E2.out]; exact R2.out, F2.out⟩
        case measure => simp [intOf]; omega
      | false =>
        have E1 := Lib.hid (evL_no HX.out hev.out hh)
        rw [hh] at R2
        clear hh
        go_wp2_with fail
        go_ret
        exact ⟨by rw [E1.out]; rfl, by rw [E1.out]; exact R2.out, F2.out⟩
    · obtain rfl : k = n := by omega
      have e1 : l.take k = l := List.take_of_length_le (Nat.le_of_eq HN.out.symm)
      rw [e1] at RR hev
      go_wp2
      go_ret
      exact ⟨by rw [hev.out]; rfl, by rw [hev.out]; exact RR.out, FR.out⟩
end Go.Proofs.YtilholgbepfopaaDoor
