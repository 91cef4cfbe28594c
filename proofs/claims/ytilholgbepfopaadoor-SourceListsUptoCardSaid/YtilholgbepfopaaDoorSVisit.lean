/- Statements visited by a closure that calls itself. -/
import Derived.Test.YtilholgbepfopaaDoorSFr
namespace Go.Proofs.YtilholgbepfopaaDoor
open Go.RowKit

theorem call_enter {N : FuncId} {fn : Func} (hf : Tryd.prog.funcs[N]? = some fn) (hn : (fn.name == "runtime.NumGoroutine") = false) (hb : fn.body.isSome = true) (args : Array Value) (w : World) : (callFunc N args).run Tryd.prog w = .ok (.enter N args) w := by
  obtain ⟨c, hc⟩ := Option.isSome_iff_exists.1 hb
  have h1 : fn.name ≠ "runtime.NumGoroutine" := by simpa using hn
  simp [callFunc, hf, h1, hc]
def stV (s : St) (u x y : Value) : Value := .agg #[.int .i64 s.kind, .string s.name, .string s.fn, .int .i64 s.n, .int .i64 s.op, u, x, y]
section
variable {σ : Type} (N : FuncId) (caps : Array Value) (R : Nat → World → σ → Prop) (f : σ → St → Nat → σ) (B : Nat) (E : Nat → Prop) (w0 : World)
/-- what a statement does when it is seen -/
def SeeOK : Prop := ∀ (c d : Nat) (s : St) (u x y : Value) (st : σ) (w : World), c + s.sz < 10000000 → d ≤ 10000000 → R c w st → Below w0.heap.size w0 w → ExsAt w0 u s.exprs → StsAt w0 x s.body → StsAt w0 y s.els →
  Calls Tryd.prog N (#[stV s u x y, .int .i64 (d : Int)] ++ caps) w (fun e w' => e = .returned (.tuple #[]) ∧ R (c + 1) w' (f st s d) ∧ Fr B E w w')
mutual
/-- all statements, each before those in it -/
def vis (st : σ) (d : Nat) : St → σ
  | .mk k nm fn n op es b e => visL (visL (f st (.mk k nm fn n op es b e) d) (d + 1) b) (d + 1) e
def visL (st : σ) (d : Nat) : List St → σ
  | [] => st
  | s :: l => visL (vis st d s) d l
end
end
theorem vis_parts {σ : Type} (f : σ → St → Nat → σ) (st : σ) (d : Nat) (s : St) : vis f st d s = visL f (visL f (f st s d) (d + 1) s.body) (d + 1) s.els := by
  cases s
  rw [vis]
  rfl
theorem visL_snoc {σ : Type} (f : σ → St → Nat → σ) (st : σ) (d : Nat) (l : List St) (x : St) : visL f st d (l ++ [x]) = vis f (visL f st d l) d x := by
  induction l generalizing st with
  | nil => simp [visL]
  | cons y l ih => simp only [List.cons_append, visL]; exact ih _
theorem szS_snoc (l : List St) (x : St) : szS (l ++ [x]) = szS l + x.sz := by
  induction l with
  | nil => simp [szS]
  | cons y l ih => simp only [List.cons_append, szS, ih]; omega

set_option maxHeartbeats 4000000 in
set_option maxRecDepth 100000 in
theorem visit_ex {σ : Type} (N : FuncId) (caps : Array Value) (R : Nat → World → σ → Prop) (f : σ → St → Nat → σ) (B : Nat) (E : Nat → Prop) (w0 : World) (bs bw : Nat)
    (hN : ∀ args w, (callFunc N args).run Tryd.prog w = .ok (.enter N args) w) (hsee : SeeOK N caps R f B E w0) (hR : ∀ c c' w st w', R c w st → c ≤ c' → Below w.heap.size w w' → R c' w' st) (hB : w0.heap.size ≤ B) (hE : ∀ k, E k → w0.heap.size ≤ k ∧ k < B) (hbs : ¬ E bs) (hbw : ¬ E bw) (m : Nat) :
    ∀ (l : List St) (v : Value) (c d : Nat) (st : σ) (w : World), szS l < m → c + szS l < 10000000 → d + szS l ≤ 10000000 → StsAt w0 v l → Below w0.heap.size w0 w → R c w st → B ≤ w.heap.size →
      CsT w bs [.func (.func N) #[] caps] 70 → CsT w bw [.func (.func 65) #[] #[.pointer (some ⟨bs, 0, none⟩), .pointer (some ⟨bw, 0, none⟩)]] 98 →
      Calls Tryd.prog 65 #[v, .int .i64 (d : Int), .pointer (some ⟨bs, 0, none⟩), .pointer (some ⟨bw, 0, none⟩)] w (fun e w' => e = .returned (.tuple #[]) ∧ R (c + szS l) w' (visL f st d l) ∧ Fr B E w w') := by
  induction m with
  | zero => intro _ _ _ _ _ _ h; omega
  | succ m ih =>
    intro l v c d st w hsz hc hd hv hb0 hr hBw h1 h2
    obtain ⟨a, cp, rfl⟩ := hv.shape
    have H := Lib.hid hv
    have B0 := Lib.hid hb0
    have IH := Lib.hid ih
    have SEE := Lib.hid hsee
    have HR := Lib.hid hR
    have HSZ := Lib.hid hsz
    have HC := Lib.hid hc
    have HD := Lib.hid hd
    have R0 := Lib.hid hr
    have T1 := Lib.hid h1
    have T2 := Lib.hid h2
    have hl : l.length ≤ 10000000 := by have := szS_len l; omega
    have hdd : d ≤ 10000000 := by omega
    obtain ⟨n, hn⟩ : ∃ n, n = l.length := ⟨_, rfl⟩
    have HN := Lib.hid hn
    rw [← hn] at H hl ⊢
    clear ih hsz hv hb0 hsee hR hr h1 h2 hn hc hd
    go_enter Tryd.func65, Tryd.ntmps65
    go_wp2
    go_loopw [10] (fun k_ wr => ∃ (k : Nat), k ≤ n ∧ k_ = .int .i64 k ∧ R (c + szS (l.take k)) wr (visL f st d (l.take k)) ∧ Fr B E w wr) (fun k_ _ => n - (intOf k_).toNat)
    case atStart => exact ⟨0, Nat.zero_le _, rfl, by simpa [szS, visL] using R0.out, Fr.refl _ _ _⟩
    case round =>
      obtain ⟨k, hk, rfl, hrr, hfr⟩ := hrel
      have RR := Lib.hid hrr
      have FR := Lib.hid hfr
      clear hrr hfr
      by_cases hlt : k < n
      · obtain ⟨x, hx⟩ : ∃ x, l[k]? = some x := ⟨_, List.getElem?_eq_getElem (by rw [← HN.out]; exact hlt)⟩
        have hbr : Below w0.heap.size w0 wr := FR.out.low B0.out hB (fun k h => (hE k h).1)
        obtain ⟨b, o, c', u, xb, xe, hv, hbl, f0, f1, f2, f3, f4, f5, f6, f7, hu, hxb, hxe⟩ := H.out.elem hx
        obtain ⟨rfl, -, rfl⟩ := Value.slice.inj hv
        obtain ⟨ua, uc, rfl⟩ := hu.shape
        obtain ⟨ba, bc, rfl⟩ := hxb.shape
        obtain ⟨ea, ec, rfl⟩ := hxe.shape
        replace f0 := (hbr.cell (p := ⟨b, o + k * 8, none⟩) hbl).trans f0
        replace f1 := (hbr.cell (p := ⟨b, o + k * 8 + 1, none⟩) hbl).trans f1
        replace f2 := (hbr.cell (p := ⟨b, o + k * 8 + 2, none⟩) hbl).trans f2
        replace f3 := (hbr.cell (p := ⟨b, o + k * 8 + 3, none⟩) hbl).trans f3
        replace f4 := (hbr.cell (p := ⟨b, o + k * 8 + 4, none⟩) hbl).trans f4
        replace f5 := (hbr.cell (p := ⟨b, o + k * 8 + 5, none⟩) hbl).trans f5
        replace f6 := (hbr.cell (p := ⟨b, o + k * 8 + 6, none⟩) hbl).trans f6
        replace f7 := (hbr.cell (p := ⟨b, o + k * 8 + 7, none⟩) hbl).trans f7
        have BR := Lib.hid hbr
        have HU := Lib.hid hu
        have XB := Lib.hid hxb
        have XE := Lib.hid hxe
        have HTK := Lib.hid (take_snoc' hx)
        have hxs := szS_mem (List.mem_of_getElem? hx)
        have hxp := x.sz_parts
        have hxt := szS_take_add hx
        have HSM : Hid (szS x.body < m ∧ szS x.els < m) := Lib.hid (by have := HSZ.out; omega)
        have HCC : Hid (c + szS (l.take k) + 1 + szS x.body + szS x.els < 10000000) := Lib.hid (by have := HC.out; omega)
        have HCX : Hid (c + szS (l.take k) + x.sz < 10000000) := Lib.hid (by have := HC.out; omega)
        have HDD : Hid (d + 1 + szS x.body ≤ 10000000 ∧ d + 1 + szS x.els ≤ 10000000) := Lib.hid (by have := HD.out; omega)
        have hki : (k : Int) < (n : Int) := by omega
        have hBr : B ≤ wr.heap.size := Nat.le_trans hBw FR.out.size
        have Bz := Lib.hid (below1 wr (.cells (stC x (.slice ua x.exprs.length uc) (.slice ba x.body.length bc) (.slice ea x.els.length ec)).toArray 40))
        have S1 := Lib.hid ((T1.out.frame FR.out hbs (by decide)).below Bz.out)
        have S2 := Lib.hid ((T2.out.frame FR.out hbw (by decide)).below Bz.out)
        have T := Lib.hid (CsT.new wr (stC x (.slice ua x.exprs.length uc) (.slice ba x.body.length bc) (.slice ea x.els.length ec)) 40)
        have RZ := Lib.hid (HR.out _ _ _ _ _ RR.out (Nat.le_refl _) Bz.out)
        have s1 := S1.out.at_.cell 0 _ rfl
        have t0 := T.out.at_.cell 0 _ rfl
        have t1 := T.out.at_.cell 1 _ rfl
        have t2 := T.out.at_.cell 2 _ rfl
        have t3 := T.out.at_.cell 3 _ rfl
        have t4 := T.out.at_.cell 4 _ rfl
        have t5 := T.out.at_.cell 5 _ rfl
        have t6 := T.out.at_.cell 6 _ rfl
        have t7 := T.out.at_.cell 7 _ rfl
        unfold stC at t0 t1 t2 t3 t4 t5 t6 t7 s1 T Bz RZ S1 S2
        clear hx hv hu hxb hxe hbr hxs hxp hxt
        go_wp2_with fail
        generalize hwz : wr.alloc (.cells #[.int .i64 x.kind, .string x.name, .string x.fn, .int .i64 x.n, .int .i64 x.op, .slice ua x.exprs.length uc, .slice ba x.body.length bc, .slice ea x.els.length ec] 40) = wz at *
        clear hwz t0 t1 t2 t3 t4 t5 t6 t7 f0 f1 f2 f3 f4 f5 f6 f7 s1
        refine (SEE.out _ d x _ _ _ _ wz HCX.out hdd RZ.out (BR.out.then_' Bz.out) HU.out XB.out XE.out).mono ?_
        rintro e w1 ⟨rfl, hr1, hf1⟩
        have hne : ¬ E wr.heap.size := fun h => by have := (hE _ h).2; omega
        have R1 := Lib.hid hr1
        have FR1 := Lib.hid ((FR.out.below Bz.out).trans hf1)
        have T1' := Lib.hid (T.out.frame hf1 hne (by decide))
        have S1' := Lib.hid (S1.out.frame hf1 hbs (by decide))
        have S2' := Lib.hid (S2.out.frame hf1 hbw (by decide))
        have hb1 : Below w0.heap.size w0 w1 := FR1.out.low B0.out hB (fun k h => (hE k h).1)
        have BR1 := Lib.hid hb1
        have hB1 : B ≤ w1.heap.size := Nat.le_trans hBw FR1.out.size
        have t6 := T1'.out.at_.cell 6 _ rfl
        have s2 := S2'.out.at_.cell 0 _ rfl
        clear hr1 hf1 hb1 SEE
        go_wp2_with fail
        have e1 : ((d : Int) + 1) = ((d + 1 : Nat) : Int) := by omega
        rw [e1]
        refine (IH.out x.body _ _ (d + 1) _ w1 HSM.out.1 (by have := HCC.out; omega) HDD.out.1 XB.out BR1.out R1.out hB1 S1'.out S2'.out).mono ?_
        rintro e w2 ⟨rfl, hr2, hf2⟩
        have R2 := Lib.hid hr2
        have FR2 := Lib.hid (FR1.out.trans hf2)
        have T2' := Lib.hid (T1'.out.frame hf2 hne (by decide))
        have S1'' := Lib.hid (S1'.out.frame hf2 hbs (by decide))
        have S2'' := Lib.hid (S2'.out.frame hf2 hbw (by decide))
        have hb2 : Below w0.heap.size w0 w2 := FR2.out.low B0.out hB (fun k h => (hE k h).1)
        have BR2 := Lib.hid hb2
        have hB2 : B ≤ w2.heap.size := Nat.le_trans hBw FR2.out.size
        have t7 := T2'.out.at_.cell 7 _ rfl
        have s3 := S2''.out.at_.cell 0 _ rfl
        clear hr2 hf2 hb2 t6 s2 e1
        go_wp2_with fail
        have e1 : ((d : Int) + 1) = ((d + 1 : Nat) : Int) := by omega
        rw [e1]
        refine (IH.out x.els _ _ (d + 1) _ w2 HSM.out.2 (by have := HCC.out; omega) HDD.out.2 XE.out BR2.out R2.out hB2 S1''.out S2''.out).mono ?_
        rintro e w3 ⟨rfl, hr3, hf3⟩
        have R3 := Lib.hid hr3
        have FR3 := Lib.hid (FR2.out.trans hf3)
        have e2 : c + szS (l.take k) + 1 + szS x.body + szS x.els ≤ c + szS (l.take (k + 1)) := by
          rw [HTK.out, szS_snoc]
          have := x.sz_parts
          omega
        have R4 := Lib.hid (HR.out _ _ _ _ _ R3.out e2 (Below.refl _ _))
        clear hr3 hf3 t7 s3 e1 e2
        go_wp2_with fail
        go_roundw
        case rel => exact ⟨k + 1, by omega, by go_num, by rw [HTK.out, visL_snoc, vis_parts, ← HTK.out]; exact R4.out, FR3.out⟩
        case measure => simp [intOf]; omega
      · obtain rfl : k = n := by omega
        have e1 : l.take k = l := List.take_of_length_le (Nat.le_of_eq HN.out.symm)
        rw [e1] at RR
        go_wp2
        go_end0
        exact ⟨rfl, RR.out, FR.out⟩

set_option maxHeartbeats 4000000 in
set_option maxRecDepth 100000 in
theorem visit_any {σ : Type} (N : FuncId) (caps : Array Value) (R : Nat → World → σ → Prop) (f : σ → St → Nat → σ) (B : Nat) (E : Nat → Prop) (w0 : World)
    (hN : ∀ args w, (callFunc N args).run Tryd.prog w = .ok (.enter N args) w) (hsee : SeeOK N caps R f B E w0) (hR : ∀ c c' w st w', R c w st → c ≤ c' → Below w.heap.size w w' → R c' w' st) (hB : w0.heap.size ≤ B) (hE : ∀ k, E k → w0.heap.size ≤ k ∧ k < B)
    (l : List St) (v : Value) (c : Nat) (st : σ) (w : World) (hc : c + szS l < 10000000) (hd : 1 + szS l ≤ 10000000) (hv : StsAt w0 v l) (hb0 : Below w0.heap.size w0 w) (hr : R c w st) (hBw : B ≤ w.heap.size) :
      Calls Tryd.prog 38 #[v, .func (.func N) #[] caps] w (fun e w' => e = .returned (.tuple #[]) ∧ R (c + szS l) w' (visL f st 1 l) ∧ Fr B E w w') := by
  obtain ⟨a, cp, rfl⟩ := hv.shape
  have H := Lib.hid hv
  have B0 := Lib.hid hb0
  have R0 := Lib.hid hr
  go_enter Tryd.func38, Tryd.ntmps38
  go_wp2_with fail
  have b1 := below1 w (.cells #[.func (.func N) #[] caps] 70)
  have b2 := b1.then_' (below1 _ (.cells #[.func (.func 65) #[] #[.pointer (some ⟨w.heap.size, 0, none⟩), .pointer (some ⟨w.heap.size + 1, 0, none⟩)]] 98))
  have c1 := (CsT.new w [.func (.func N) #[] caps] 70).below (below1 _ (.cells #[.func (.func 65) #[] #[.pointer (some ⟨w.heap.size, 0, none⟩), .pointer (some ⟨w.heap.size + 1, 0, none⟩)]] 98))
  have c2 := CsT.new (w.alloc (.cells #[.func (.func N) #[] caps] 70)) [.func (.func 65) #[] #[.pointer (some ⟨w.heap.size, 0, none⟩), .pointer (some ⟨w.heap.size + 1, 0, none⟩)]] 98
  rw [show (w.alloc (.cells #[.func (.func N) #[] caps] 70)).heap.size = w.heap.size + 1 from by simp] at c2
  refine (visit_ex N caps R f B E w0 w.heap.size (w.heap.size + 1) hN hsee hR hB hE (fun h => by have := (hE _ h).2; omega) (fun h => by have := (hE _ h).2; omega) (szS l + 1) l _ c 1 st _ (Nat.lt_succ_self _) hc hd H.out (B0.out.then_' b2) (hR _ _ _ _ _ R0.out (Nat.le_refl _) b2) (Nat.le_trans hBw b2.size) c1 c2).mono ?_
  rintro e w2 ⟨rfl, hr2, hf2⟩
  have R2 := Lib.hid hr2
  have F2 := Lib.hid ((Fr.of_below b2).trans hf2)
  clear b1 b2 c1 c2 hr2 hf2
  go_wp2
  go_end0
  exact ⟨rfl, R2.out, F2.out⟩
end Go.Proofs.YtilholgbepfopaaDoor
