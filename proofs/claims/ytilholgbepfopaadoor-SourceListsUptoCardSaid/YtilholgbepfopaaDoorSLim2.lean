/- withinLimits (of the code), walked. -/
import Derived.Test.YtilholgbepfopaaDoorSLim
namespace Go.Proofs.YtilholgbepfopaaDoor
open Go.RowKit

/-- the two counts -/
def RL (b1 b2 : Nat) (c : Nat) (w : World) (st : Nat × Nat) : Prop := CsT w b1 [.int .i64 (st.1 : Int)] 3 ∧ CsT w b2 [.int .i64 (st.2 : Int)] 3 ∧ st.1 ≤ c ∧ st.2 ≤ 10000000
theorem RL.mono {b1 b2 : Nat} (c c' : Nat) (w : World) (st : Nat × Nat) (w' : World) (h : RL b1 b2 c w st) (hc : c ≤ c') (hb : Below w.heap.size w w') : RL b1 b2 c' w' st := ⟨h.1.below hb, h.2.1.below hb, Nat.le_trans h.2.2.1 hc, h.2.2.2⟩
theorem enter_wl1 (args : Array Value) (w : World) : (callFunc 62 args).run Tryd.prog w = .ok (.enter 62 args) w := call_enter Tryd.func62 (by kernel_rfl) (by kernel_rfl) args w

set_option maxHeartbeats 4000000 in
set_option maxRecDepth 100000 in
theorem wl1_ok (b1 b2 B : Nat) (w0 : World) (hne : b1 ≠ b2) : SeeOK 62 #[.pointer (some ⟨b1, 0, none⟩), .pointer (some ⟨b2, 0, none⟩)] (RL b1 b2) fL B (fun k => k = b1 ∨ k = b2) w0 := by
  intro c d s u x y st w hc hd hr _ _ _ _
  obtain ⟨n, dp⟩ := st
  obtain ⟨h1, h2, hn, hdp⟩ := hr
  simp only at h1 h2 hn hdp
  have b := below1 w (.cells #[.int .i64 s.kind, .string s.name, .string s.fn, .int .i64 s.n, .int .i64 s.op, u, x, y] 40)
  have BB := Lib.hid b
  have N1 := Lib.hid (h1.below b)
  have D1 := Lib.hid (h2.below b)
  have hn2 : n ≤ 10000000 := by omega
  have HN := Lib.hid hn
  have z1 := N1.out.at_.cell 0 _ rfl
  have f1 := N1.out.at_.fr 0
  have N2 := Lib.hid (N1.out.set0 (v := .int .i64 ((n : Int) + 1)))
  have D2 := Lib.hid (D1.out.far (p := ⟨b1, 0, none⟩) (fun e => hne e.symm) (.int .i64 ((n : Int) + 1)))
  have z2 := D2.out.at_.cell 0 _ rfl
  have f2 := D2.out.at_.fr 0
  clear h1 h2 b hc
  unfold stV
  show Calls Tryd.prog 62 #[.agg #[.int .i64 s.kind, .string s.name, .string s.fn, .int .i64 s.n, .int .i64 s.op, u, x, y], .int .i64 (d : Int), .pointer (some ⟨b1, 0, none⟩), .pointer (some ⟨b2, 0, none⟩)] w _
  go_enter Tryd.func62, Tryd.ntmps62
  have HF : Hid (Fr B (fun k => k = b1 ∨ k = b2) w _) := Lib.hid ((Fr.of_below (B := B) (E := fun k => k = b1 ∨ k = b2) BB.out).set (p := ⟨b1, 0, none⟩) (.inl rfl) (.int .i64 ((n : Int) + 1)))
  by_cases hm : dp < d
  · have t1 : (dp : Int) < (d : Int) := by omega
    have t2 : (dp : Int) ≤ (d : Int) := by omega
    go_wp2_with fail
    go_end0
    have e1 : fL (n, dp) s d = (n + 1, d) := Prod.ext rfl (by show max dp d = d; omega)
    rw [e1]
    exact ⟨rfl, ⟨N2.out.far (p := ⟨b2, 0, none⟩) hne _, D2.out.set0 (v := .int .i64 (d : Int)), by have := HN.out; simp only; omega, hd⟩, HF.out.set (p := ⟨b2, 0, none⟩) (.inr rfl) _⟩
  · have t1 : ¬ (dp : Int) < (d : Int) := by omega
    have t2 : (d : Int) ≤ (dp : Int) := by omega
    have e1 : fL (n, dp) s d = (n + 1, dp) := Prod.ext rfl (by show max dp d = dp; omega)
    have E1 := Lib.hid e1
    clear e1
    go_wp2_with fail
    all_goals
      go_end0
      rw [E1.out]
      refine ⟨rfl, ⟨N2.out.far (p := ⟨b2, 0, none⟩) hne _, ?_, by have := HN.out; simp only; omega, hdp⟩, HF.out.set (p := ⟨b2, 0, none⟩) (.inr rfl) _⟩
      exact D2.out.set0 (v := .int .i64 (dp : Int))

def cntP : List Fn → Nat
  | [] => 0
  | f :: l => cntL f.body + cntP l
def depP : List Fn → Nat
  | [] => 0
  | f :: l => max (depL f.body) (depP l)
def parP : List Fn → Nat
  | [] => 0
  | f :: l => max f.params.length (parP l)
theorem cntP_snoc (l : List Fn) (f : Fn) : cntP (l ++ [f]) = cntP l + cntL f.body := by
  induction l with
  | nil => simp [cntP]
  | cons g l ih => rw [List.cons_append, cntP, cntP, ih, Nat.add_assoc]
theorem depP_snoc (l : List Fn) (f : Fn) : depP (l ++ [f]) = max (depP l) (depL f.body) := by
  induction l with
  | nil => simp [depP]
  | cons g l ih => rw [List.cons_append, depP, depP, ih]; omega
theorem parP_snoc (l : List Fn) (f : Fn) : parP (l ++ [f]) = max (parP l) f.params.length := by
  induction l with
  | nil => simp [parP]
  | cons g l ih => rw [List.cons_append, parP, parP, ih]; omega
mutual
theorem depS_le : ∀ (s : St), depS s ≤ s.sz
  | .mk _ _ _ _ _ es b e => by
    rw [depS, St.sz]
    have h1 := depL_le b
    have h2 := depL_le e
    omega
theorem depL_le : ∀ (l : List St), depL l ≤ szS l
  | [] => by rw [depL, szS]; exact Nat.le_refl _
  | s :: l => by
    rw [depL, szS]
    have h1 := depS_le s
    have h2 := depL_le l
    omega
end
theorem szP_take_add {l : List Fn} {k : Nat} {x : Fn} (h : l[k]? = some x) : szP (l.take k) + szF x ≤ szP l := by
  induction l generalizing k with
  | nil => simp at h
  | cons y l ih =>
    cases k with
    | zero => simp at h; subst h; simp [szP]
    | succ k =>
      rw [List.getElem?_cons_succ] at h
      have := ih h
      simp only [List.take_succ_cons, szP]
      omega
theorem cntP_le (l : List Fn) : cntP l ≤ szP l := by
  induction l with
  | nil => simp [cntP, szP]
  | cons f l ih => rw [cntP, szP]; have := cntL_le f.body; unfold szF; omega
theorem depP_le (l : List Fn) : depP l ≤ szP l := by
  induction l with
  | nil => simp [depP, szP]
  | cons f l ih => rw [depP, szP]; have := depL_le f.body; unfold szF; omega
theorem parP_le (l : List Fn) : parP l ≤ szP l := by
  induction l with
  | nil => simp [parP, szP]
  | cons f l ih => rw [parP, szP]; unfold szF; omega
theorem szP_snoc (l : List Fn) (f : Fn) : szP (l ++ [f]) = szP l + szF f := by
  induction l with
  | nil => simp [szP]
  | cons g l ih => simp only [List.cons_append, szP, ih]; omega
def wLim (l : List Fn) : Bool := decide (1 ≤ l.length) && (decide (l.length ≤ 16) && (decide (parP l ≤ 4) && (decide (cntP l ≤ 64) && decide (depP l ≤ 6))))
theorem wLim_eq (l : List Fn) : wLim l = (decide (1 ≤ l.length) && (decide (l.length ≤ 16) && (decide (parP l ≤ 4) && (decide (cntP l ≤ 64) && decide (depP l ≤ 6))))) := rfl
theorem wl_new (w : World) (v : Value) : ∃ W, (((w.alloc (.cells #[v] 26)).alloc (.cells #[.int .i64 0] 3)).alloc (.cells #[.int .i64 0] 3)) = W ∧ Below w.heap.size w W ∧ CsT W w.heap.size [v] 26 ∧
    CsT W (w.heap.size + 1) [.int .i64 0] 3 ∧ CsT W (w.heap.size + 1 + 1) [.int .i64 0] 3 := by
  have b1 := below1 w (.cells #[v] 26)
  have h0 := CsT.new w [v] 26
  have h1 := CsT.new (w.alloc (.cells #[v] 26)) [.int .i64 0] 3
  rw [show (w.alloc (.cells #[v] 26)).heap.size = w.heap.size + 1 from by simp] at h1
  have b2 := b1.then_' (below1 _ (.cells #[.int .i64 0] 3))
  have h2 := CsT.new ((w.alloc (.cells #[v] 26)).alloc (.cells #[.int .i64 0] 3)) [.int .i64 0] 3
  rw [show ((w.alloc (.cells #[v] 26)).alloc (.cells #[.int .i64 0] 3)).heap.size = w.heap.size + 1 + 1 from by simp] at h2
  exact ⟨_, rfl, b2.then_' (below1 _ _), (h0.below (below1 _ _)).below (below1 _ _), h1.below (below1 _ _), h2⟩

set_option maxHeartbeats 4000000 in
set_option maxRecDepth 100000 in
theorem wlim_any (l : List Fn) (v : Value) (w : World) (hsz : szP l ≤ 5000000) (hv : FnsAt w v l) : Calls Tryd.prog 34 #[.agg #[v]] w (RetB w (wLim l)) := by
  obtain ⟨a, cp, rfl⟩ := hv.shape
  have H := Lib.hid hv
  have HSZ := Lib.hid hsz
  have HW := Lib.hid (wLim_eq l)
  have hl : l.length ≤ 5000000 := Nat.le_trans (szP_len l) hsz
  obtain ⟨n, hn⟩ : ∃ n, n = l.length := ⟨_, rfl⟩
  have HN := Lib.hid hn
  obtain ⟨W, hW, hB, hP, hC, hD⟩ := wl_new w (.slice a l.length cp)
  rw [← hn] at H hl hW hP HW ⊢
  have HWW := Lib.hid hW
  have B1 := Lib.hid hB
  have P1 := Lib.hid hP
  have R1 : Hid (RL (w.heap.size + 1) (w.heap.size + 1 + 1) 0 W (0, 0)) := Lib.hid ⟨hC, hD, Nat.le_refl _, Nat.zero_le _⟩
  have hWsz : w.heap.size + 1 + 1 + 1 ≤ W.heap.size := hD.lt
  have p0 := hP.at_.cell 0 _ rfl
  clear hv hsz hn hW hB hP hC hD
  go_enter Tryd.func34, Tryd.ntmps34
  go_wp2_with fail
  rw [HWW.out]
  go_loopw [5, 11] (fun m_ k_ wr => ∃ (k : Nat), k ≤ n ∧ k_ = .int .i64 k ∧ m_ = .int .i64 (parP (l.take k) : Int) ∧ RL (w.heap.size + 1) (w.heap.size + 1 + 1) (szP (l.take k)) wr (cntP (l.take k), depP (l.take k)) ∧ Fr (w.heap.size + 1 + 1 + 1) (fun k => k = w.heap.size + 1 ∨ k = w.heap.size + 1 + 1) W wr) (fun _ k_ _ => n - (intOf k_).toNat)
  case atStart => exact ⟨0, Nat.zero_le _, rfl, rfl, R1.out, Fr.refl _ _ _⟩
  case round =>
    obtain ⟨k, hk, rfl, rfl, hrr, hfr⟩ := hrel
    have RR := Lib.hid hrr
    have FR := Lib.hid hfr
    clear hrr hfr R1 p0
    have hbw : Below w.heap.size w wr := FR.out.low B1.out (by omega) (fun k h => by omega)
    by_cases hlt : k < n
    · obtain ⟨x, hx⟩ : ∃ x, l[k]? = some x := ⟨_, List.getElem?_eq_getElem (by rw [← HN.out]; exact hlt)⟩
      obtain ⟨b, o, c', u, y, hv, hbb, f0, f1, f2, hu, hy⟩ := H.out.elem hx
      obtain ⟨rfl, -, rfl⟩ := Value.slice.inj hv
      obtain ⟨ua, uc, rfl⟩ := hu.shape
      obtain ⟨ya, yc, rfl⟩ := hy.shape
      replace f0 := (hbw.cell (p := ⟨b, o + k * 3, none⟩) hbb).trans f0
      replace f1 := (hbw.cell (p := ⟨b, o + k * 3 + 1, none⟩) hbb).trans f1
      replace f2 := (hbw.cell (p := ⟨b, o + k * 3 + 2, none⟩) hbb).trans f2
      have HY := Lib.hid hy
      have HTK := Lib.hid (take_snoc' hx)
      have hst := szP_take_add hx
      have HST : Hid (szP (l.take k) + szF x ≤ 5000000) := Lib.hid (Nat.le_trans hst HSZ.out)
      have hpl : x.params.length ≤ 5000000 := by have := HST.out; unfold szF at this; omega
      have hpp : parP (l.take k) ≤ 5000000 := by have := parP_le (l.take k); have := HST.out; omega
      have hki : (k : Int) < (n : Int) := by omega
      have T := Lib.hid (CsT.new wr [.string x.name, .slice ua x.params.length uc, .slice ya x.body.length yc] 35)
      have bz := below1 wr (.cells #[.string x.name, .slice ua x.params.length uc, .slice ya x.body.length yc] 35)
      have Bz := Lib.hid bz
      have BW := Lib.hid (hbw.then_' bz)
      have RZ := Lib.hid (RL.mono _ _ _ _ _ RR.out (Nat.le_refl _) bz)
      have FZ := Lib.hid (FR.out.below bz)
      have hsz : w.heap.size + 1 + 1 + 1 ≤ wr.heap.size := Nat.le_trans hWsz FR.out.size
      have SZ : Hid (w.heap.size + 1 + 1 + 1 ≤ (wr.alloc (.cells #[.string x.name, .slice ua x.params.length uc, .slice ya x.body.length yc] 35)).heap.size) := Lib.hid (Nat.le_trans hsz bz.size)
      have t0 := T.out.at_.cell 0 _ rfl
      have t1 := T.out.at_.cell 1 _ rfl
      have t2 := T.out.at_.cell 2 _ rfl
      have HP : Hid (parP (l.take (k + 1)) = max (parP (l.take k)) x.params.length) := Lib.hid (by rw [HTK.out, parP_snoc])
      have HC : Hid ((cntP (l.take k) + cntL x.body, max (depP (l.take k)) (depL x.body)) = (cntP (l.take (k + 1)), depP (l.take (k + 1)))) := Lib.hid (by rw [HTK.out, cntP_snoc, depP_snoc])
      have HQ : Hid (szP (l.take k) + szS x.body ≤ szP (l.take (k + 1))) := Lib.hid (by rw [HTK.out, szP_snoc]; unfold szF; omega)
      have HM := Lib.hid (fun st => visM0 x.body st)
      clear hv hx hu hy hst hsz bz hbw RR FR
      generalize hpk : parP (l.take k) = pk at *
      by_cases hm : pk < x.params.length
      all_goals
        first
          | (have t3 : (pk : Int) < (x.params.length : Int) := by omega
             have t4 : (pk : Int) ≤ (x.params.length : Int) := by omega
             have HR : Hid (parP (l.take (k + 1)) = x.params.length) := Lib.hid (by rw [HP.out]; omega))
          | (have t3 : ¬ (pk : Int) < (x.params.length : Int) := by omega
             have t4 : (x.params.length : Int) ≤ (pk : Int) := by omega
             have HR : Hid (parP (l.take (k + 1)) = pk) := Lib.hid (by rw [HP.out]; omega))
        clear hpk
        go_wp2_with fail
        all_goals
          refine (visit_any 62 #[.pointer (some ⟨w.heap.size + 1, 0, none⟩), .pointer (some ⟨w.heap.size + 1 + 1, 0, none⟩)] (RL (w.heap.size + 1) (w.heap.size + 1 + 1)) fL (w.heap.size + 1 + 1 + 1) (fun k => k = w.heap.size + 1 ∨ k = w.heap.size + 1 + 1) w enter_wl1 (wl1_ok _ _ _ w (by omega)) RL.mono (by omega) (fun k h => by omega) x.body (.slice ya x.body.length yc) (szP (l.take k)) (cntP (l.take k), depP (l.take k)) _ (by have := HST.out; unfold szF at this; omega) (by have := HST.out; unfold szF at this; omega) (HY.out) BW.out RZ.out SZ.out).mono ?_
          rintro e w4 ⟨rfl, hr4, hf4⟩
          rw [HM.out, HC.out] at hr4
          have R4 := Lib.hid (RL.mono _ _ _ _ _ hr4 HQ.out (Below.refl _ _))
          have F4 := Lib.hid (FZ.out.trans hf4)
          clear hr4 hf4
          go_wp2_with fail
          go_roundw
          case rel => exact ⟨k + 1, by omega, by go_num, by rw [HR.out], R4.out, F4.out⟩
          case measure => simp [intOf]; omega
    · obtain rfl : k = n := by omega
      have e1 : l.take k = l := List.take_of_length_le (Nat.le_of_eq HN.out.symm)
      rw [e1] at RR ⊢
      have P2 := Lib.hid (P1.out.frame FR.out (fun h => by omega) (by decide))
      have p0 := P2.out.at_.cell 0 _ rfl
      obtain ⟨hc1, hc2, -, -⟩ := RR.out
      have c1 := hc1.at_.cell 0 _ rfl
      have c2 := hc2.at_.cell 0 _ rfl
      have BW := Lib.hid hbw
      clear hc1 hc2 RR FR e1 hbw
      simp only at c1 c2
      generalize parP l = pn at *
      generalize cntP l = cn at *
      generalize depP l = dn at *
      by_cases h1 : 1 ≤ k
      · by_cases h2 : k ≤ 16
        · by_cases h3 : pn ≤ 4
          · by_cases h4 : cn ≤ 64
            · by_cases h5 : dn ≤ 6
              · have t1 : (1 : Int) ≤ (k : Int) := by omega
                have t2 : (k : Int) ≤ 16 := by omega
                have t3 : (pn : Int) ≤ 4 := by omega
                have t4 : (cn : Int) ≤ 64 := by omega
                have t5 : (dn : Int) ≤ 6 := by omega
                have HR : Hid (wLim l = true) := Lib.hid (by rw [HW.out]; simp [h1, h2, h3, h4, h5])
                clear h1 h2 h3 h4 h5
                go_wp2_with fail
                go_ret
                exact retB HR.out.symm BW.out
              · have t1 : (1 : Int) ≤ (k : Int) := by omega
                have t2 : (k : Int) ≤ 16 := by omega
                have t3 : (pn : Int) ≤ 4 := by omega
                have t4 : (cn : Int) ≤ 64 := by omega
                have t5 : ¬ (dn : Int) ≤ 6 := by omega
                have HR : Hid (wLim l = false) := Lib.hid (by rw [HW.out]; simp [h5])
                clear h1 h2 h3 h4 h5
                go_wp2_with fail
                go_ret
                exact retB HR.out.symm BW.out
            · have t1 : (1 : Int) ≤ (k : Int) := by omega
              have t2 : (k : Int) ≤ 16 := by omega
              have t3 : (pn : Int) ≤ 4 := by omega
              have t4 : ¬ (cn : Int) ≤ 64 := by omega
              have HR : Hid (wLim l = false) := Lib.hid (by rw [HW.out]; simp [h4])
              clear h1 h2 h3 h4
              go_wp2_with fail
              go_ret
              exact retB HR.out.symm BW.out
          · have t1 : (1 : Int) ≤ (k : Int) := by omega
            have t2 : (k : Int) ≤ 16 := by omega
            have t3 : ¬ (pn : Int) ≤ 4 := by omega
            have HR : Hid (wLim l = false) := Lib.hid (by rw [HW.out]; simp [h3])
            clear h1 h2 h3
            go_wp2_with fail
            go_ret
            exact retB HR.out.symm BW.out
        · have t1 : (1 : Int) ≤ (k : Int) := by omega
          have t2 : ¬ (k : Int) ≤ 16 := by omega
          have HR : Hid (wLim l = false) := Lib.hid (by rw [HW.out]; simp [h2])
          clear h1 h2
          go_wp2_with fail
          go_ret
          exact retB HR.out.symm BW.out
      · have t1 : ¬ (1 : Int) ≤ (k : Int) := by omega
        have HR : Hid (wLim l = false) := Lib.hid (by rw [HW.out]; simp [h1])
        clear h1
        go_wp2_with fail
        go_ret
        exact retB HR.out.symm BW.out

def vFuncs (l : List Fn) : Bool := l.all vFunc
/-- the error of a program -/
def shp (l : List Fn) : Int := if l.all vFunc = true then (if wLim l = true then 0 else 3) else 1
theorem enter_vfn (args : Array Value) (w : World) : (callFunc 33 args).run Tryd.prog w = .ok (.enter 33 args) w := call_enter Tryd.func33 (by kernel_rfl) (by kernel_rfl) args w
theorem everyV_any (v : Value) (l : List Fn) (w : World) (hl : szP l ≤ 5000000) (hv : FnsAt w v l) (hg : Glob w) : Calls Tryd.prog 32 #[v, .func (.func 33) #[] #[]] w (RetB w (l.all vFunc)) := by
  refine (everyF_any 33 #[] (fun _ _ (_ : Unit) => True) (fun _ x => (vFunc x, ())) (fun w w' => Below w.heap.size w w') w l enter_vfn (fun x hx u y st w' _ hb hu hy => ?_) (fun _ _ _ _ _ _ => trivial) (fun _ _ _ h h' => h.then_' h') (fun _ _ h => h) (fun _ _ h h' => h.then_' h') v () w (Nat.le_trans (szP_len l) (Nat.le_trans hl (by decide))) hv (Below.refl _ _) trivial).mono ?_
  · refine (vfunc_any x u y w' (Nat.le_trans (szP_mem hx) hl) (hu.below hb) (hy.below hb) (hg.below hb)).mono ?_
    rintro e w2 ⟨rfl, h⟩
    exact ⟨rfl, trivial, h⟩
  · rintro e w' ⟨rfl, -, h⟩
    rw [ev_plain]
    exact ⟨rfl, h⟩
def RetE (w : World) (n : Int) (e : Ending) (w' : World) : Prop := e = .returned (.int .i64 n) ∧ Below w.heap.size w w'
theorem retE {w w' : World} {a b : Int} (h : a = b) (hb : Below w.heap.size w w') : RetE w b (.returned (.int .i64 a)) w' := by subst h; exact ⟨rfl, hb⟩

set_option maxHeartbeats 4000000 in
set_option maxRecDepth 100000 in
/-- Shaped -/
theorem shaped_any (l : List Fn) (v : Value) (w : World) (hsz : szP l ≤ 5000000) (hv : FnsAt w v l) (hg : Glob w) : Calls Tryd.prog 14 #[.agg #[v]] w (RetE w (shp l)) := by
  obtain ⟨a, cp, rfl⟩ := hv.shape
  have H := Lib.hid hv
  have HG := Lib.hid hg
  have P := Lib.hid (CsT.new w [.slice a l.length cp] 26).at_
  have B1 := Lib.hid (below1 w (.cells #[.slice a l.length cp] 26))
  have p0 := P.out.cell 0 _ rfl
  clear hv hg
  go_enter Tryd.func14, Tryd.ntmps14
  go_wp2_with fail
  generalize w.alloc (.cells #[.slice a l.length cp] 26) = w1 at *
  refine (everyV_any _ l w1 hsz (H.out.below B1.out) (HG.out.below B1.out)).mono ?_
  rintro e w2 ⟨rfl, hb⟩
  have B2 := Lib.hid (B1.out.then_' hb)
  have P2 := Lib.hid (P.out.below hb)
  clear hb p0
  cases hv : l.all vFunc with
  | false =>
    have HR : Hid (shp l = 1) := Lib.hid (by unfold shp; rw [if_neg (by rw [hv]; decide)])
    clear hv
    go_wp2_with fail
    go_ret
    exact retE HR.out.symm B2.out
  | true =>
    have HV := Lib.hid hv
    have p0 := P2.out.cell 0 _ rfl
    clear hv
    go_wp2_with fail
    refine (wlim_any l _ w2 hsz (H.out.below B2.out)).mono ?_
    rintro e w3 ⟨rfl, hb⟩
    have B3 := Lib.hid (B2.out.then_' hb)
    clear hb p0
    cases hw : wLim l with
    | false =>
      have HR : Hid (shp l = 3) := Lib.hid (by unfold shp; rw [if_pos HV.out, if_neg (by rw [hw]; decide)])
      clear hw
      go_wp2_with fail
      go_ret
      exact retE HR.out.symm B3.out
    | true =>
      have HR : Hid (shp l = 0) := Lib.hid (by unfold shp; rw [if_pos HV.out, if_pos hw])
      clear hw
      go_wp2_with fail
      go_ret
      exact retE HR.out.symm B3.out
end Go.Proofs.YtilholgbepfopaaDoor
