/- Same (of the code), walked. -/
import Derived.Test.YtilholgbepfopaaDoorSEqf
namespace Go.Proofs.YtilholgbepfopaaDoor
open Go.RowKit

theorem enter_se (args : Array Value) (w : World) : (callFunc 88 args).run Tryd.prog w = .ok (.enter 88 args) w := call_enter Tryd.func88 (by kernel_rfl) (by kernel_rfl) args w
theorem enter_ss (args : Array Value) (w : World) : (callFunc 81 args).run Tryd.prog w = .ok (.enter 81 args) w := call_enter Tryd.func81 (by kernel_rfl) (by kernel_rfl) args w
theorem enter_sf (args : Array Value) (w : World) : (callFunc 46 args).run Tryd.prog w = .ok (.enter 46 args) w := call_enter Tryd.func46 (by kernel_rfl) (by kernel_rfl) args w

set_option maxHeartbeats 4000000 in
set_option maxRecDepth 100000 in
theorem ssExpr_any (m : Nat) (hm : m ≤ 1000000000) : ∀ (a b : Ex) (va vb : Value) (w : World), a.sz ≤ m → ExsAt w va a.l → ExsAt w vb b.l →
    Calls Tryd.prog 88 #[exV a va, exV b vb] w (RetB w (decide (a = b))) := by
  induction m with
  | zero => intro a _ _ _ _ h; have := a.sz_pos; omega
  | succ m ih =>
  intro a b va vb w hsz hva hvb
  obtain ⟨a0, c0, rfl⟩ := hva.shape
  obtain ⟨a1, c1, rfl⟩ := hvb.shape
  have HA := Lib.hid hva
  have HB := Lib.hid hvb
  have HSZ : Hid (szE a.l ≤ m) := Lib.hid (by have := a.sz_l; omega)
  have HLA : Hid (a.l.length ≤ 1000000000) := Lib.hid (by have := szE_len a.l; have := HSZ.out; omega)
  have IH := Lib.hid (ih (by omega))
  clear ih hsz hva hvb
  obtain ⟨W, hW, hB, hP, hR⟩ := two_boxes w (exC a (.slice a0 a.l.length c0)) (exC b (.slice a1 b.l.length c1)) 42
  have HBB : Hid (Below w.heap.size w _) := Lib.hid (hW ▸ hB)
  have HW := Lib.hid hW
  have BW := Lib.hid hB
  unfold exC at HBB HW
  have PW := Lib.hid hP
  have RW := Lib.hid hR
  clear hW hB hP hR
  unfold exV
  go_enter Tryd.func88, Tryd.ntmps88
  by_cases h : a.kind = b.kind
  rotate_left
  · have HD := Lib.hid (decide_eq_false (fun e : a = b => h (by rw [e])))
    have q : (a.kind == b.kind) = false := by rw [beq_eq_false_iff_ne]; exact h
    clear h
    go_wp2_with fail
    go_ret
    exact retB HD.out.symm HBB.out
  have e1 := Lib.hid h
  have q0 : (a.kind == b.kind) = true := by rw [beq_iff_eq]; exact h
  clear h
  by_cases h : a.n = b.n
  rotate_left
  · have HD := Lib.hid (decide_eq_false (fun e : a = b => h (by rw [e])))
    have q : (a.n == b.n) = false := by rw [beq_eq_false_iff_ne]; exact h
    clear h
    go_wp2_with fail
    go_ret
    exact retB HD.out.symm HBB.out
  have e2 := Lib.hid h
  have q1 : (a.n == b.n) = true := by rw [beq_iff_eq]; exact h
  clear h
  by_cases h : a.name = b.name
  rotate_left
  · have HD := Lib.hid (decide_eq_false (fun e : a = b => h (by rw [e])))
    have q := tstr_ne h
    clear h
    go_wp2_with fail
    go_ret
    exact retB HD.out.symm HBB.out
  have e3 := Lib.hid h
  have q2 := tstr_eq h
  clear h
  by_cases h : a.op = b.op
  rotate_left
  · have HD := Lib.hid (decide_eq_false (fun e : a = b => h (by rw [e])))
    have q : (a.op == b.op) = false := by rw [beq_eq_false_iff_ne]; exact h
    clear h
    go_wp2_with fail
    go_ret
    exact retB HD.out.symm HBB.out
  have e4 := Lib.hid h
  have q3 : (a.op == b.op) = true := by rw [beq_iff_eq]; exact h
  clear h
  have HD : Hid (decide (a = b) = decide (a.l = b.l)) := Lib.hid (decide_eq_decide.2 ⟨fun e => by rw [e], fun e => Ex.ext' e1.out e2.out e3.out e4.out e⟩)
  go_wp2_with fail
  rw [HW.out]
  refine (eqfE_any 88 #[] W a.l b.l enter_se (fun x hx y u v w' hb hu hv => (IH.out x y u v w' (Nat.le_trans (szE_mem hx) HSZ.out) (hu) (hv))) _ _ W HLA.out (HA.out.below BW.out) (HB.out.below BW.out) (Below.refl _ _)).mono ?_
  rintro e w2 ⟨rfl, hb⟩
  have B2 := Lib.hid (BW.out.then_' hb)
  rw [← HD.out]
  clear hb
  go_wp2_with fail
  go_ret
  exact ⟨rfl, B2.out⟩

/-- sameStmt, given sameStmts of all that is smaller -/
def SSL (m : Nat) : Prop := ∀ (A B : List St) (va vb : Value) (w : World), szS A < m → StsAt w va A → StsAt w vb B → Calls Tryd.prog 68 #[va, vb] w (RetB w (decide (A = B)))
set_option maxHeartbeats 4000000 in
set_option maxRecDepth 100000 in
theorem ssStmt_of (m : Nat) (hm : m ≤ 100000000) (ih : SSL m) (a b : St) (u1 u2 u3 v1 v2 v3 : Value) (w : World) (hsz : a.sz ≤ m) (hu1 : ExsAt w u1 a.exprs) (hu2 : StsAt w u2 a.body) (hu3 : StsAt w u3 a.els) (hv1 : ExsAt w v1 b.exprs) (hv2 : StsAt w v2 b.body) (hv3 : StsAt w v3 b.els) :
    Calls Tryd.prog 81 #[stV a u1 u2 u3, stV b v1 v2 v3] w (RetB w (decide (a = b))) := by
  obtain ⟨p1a, p1c, rfl⟩ := hu1.shape
  obtain ⟨p2a, p2c, rfl⟩ := hu2.shape
  obtain ⟨p3a, p3c, rfl⟩ := hu3.shape
  obtain ⟨q1a, q1c, rfl⟩ := hv1.shape
  obtain ⟨q2a, q2c, rfl⟩ := hv2.shape
  obtain ⟨q3a, q3c, rfl⟩ := hv3.shape
  have U1 := Lib.hid hu1
  have U2 := Lib.hid hu2
  have U3 := Lib.hid hu3
  have V1 := Lib.hid hv1
  have V2 := Lib.hid hv2
  have V3 := Lib.hid hv3
  have IH := Lib.hid ih
  have HSZ : Hid (szE a.exprs ≤ 100000000 ∧ szS a.body < m ∧ szS a.els < m ∧ a.exprs.length ≤ 1000000000) := Lib.hid (by have := a.sz_parts; have := szE_len a.exprs; omega)
  clear hu1 hu2 hu3 hv1 hv2 hv3 ih hsz
  obtain ⟨W, hW, hB, hP, hR⟩ := two_boxes w (stC a (.slice p1a a.exprs.length p1c) (.slice p2a a.body.length p2c) (.slice p3a a.els.length p3c)) (stC b (.slice q1a b.exprs.length q1c) (.slice q2a b.body.length q2c) (.slice q3a b.els.length q3c)) 40
  have HBB : Hid (Below w.heap.size w _) := Lib.hid (hW ▸ hB)
  have HW := Lib.hid hW
  have BW := Lib.hid hB
  unfold stC at HBB HW
  have PW := Lib.hid hP
  have RW := Lib.hid hR
  clear hW hB hP hR
  unfold stV
  go_enter Tryd.func81, Tryd.ntmps81
  by_cases h : a.kind = b.kind
  rotate_left
  · have HD := Lib.hid (decide_eq_false (fun e : a = b => h (by rw [e])))
    have q : (a.kind == b.kind) = false := by rw [beq_eq_false_iff_ne]; exact h
    clear h
    go_wp2_with fail
    go_ret
    exact retB HD.out.symm HBB.out
  have e1 := Lib.hid h
  have q0 : (a.kind == b.kind) = true := by rw [beq_iff_eq]; exact h
  clear h
  by_cases h : a.name = b.name
  rotate_left
  · have HD := Lib.hid (decide_eq_false (fun e : a = b => h (by rw [e])))
    have q := tstr_ne h
    clear h
    go_wp2_with fail
    go_ret
    exact retB HD.out.symm HBB.out
  have e2 := Lib.hid h
  have q1 := tstr_eq h
  clear h
  by_cases h : a.fn = b.fn
  rotate_left
  · have HD := Lib.hid (decide_eq_false (fun e : a = b => h (by rw [e])))
    have q := tstr_ne h
    clear h
    go_wp2_with fail
    go_ret
    exact retB HD.out.symm HBB.out
  have e3 := Lib.hid h
  have q2 := tstr_eq h
  clear h
  by_cases h : a.n = b.n
  rotate_left
  · have HD := Lib.hid (decide_eq_false (fun e : a = b => h (by rw [e])))
    have q : (a.n == b.n) = false := by rw [beq_eq_false_iff_ne]; exact h
    clear h
    go_wp2_with fail
    go_ret
    exact retB HD.out.symm HBB.out
  have e4 := Lib.hid h
  have q3 : (a.n == b.n) = true := by rw [beq_iff_eq]; exact h
  clear h
  by_cases h : a.op = b.op
  rotate_left
  · have HD := Lib.hid (decide_eq_false (fun e : a = b => h (by rw [e])))
    have q : (a.op == b.op) = false := by rw [beq_eq_false_iff_ne]; exact h
    clear h
    go_wp2_with fail
    go_ret
    exact retB HD.out.symm HBB.out
  have e5 := Lib.hid h
  have q4 : (a.op == b.op) = true := by rw [beq_iff_eq]; exact h
  clear h
  have HD : Hid (decide (a = b) = (decide (a.exprs = b.exprs) && (decide (a.body = b.body) && decide (a.els = b.els)))) := Lib.hid (by
    rw [← Bool.decide_and, ← Bool.decide_and]
    exact decide_eq_decide.2 ⟨fun e => by rw [e]; exact ⟨rfl, rfl, rfl⟩, fun e => St.ext' e1.out e2.out e3.out e4.out e5.out e.1 e.2.1 e.2.2⟩)
  go_wp2_with fail
  rw [HW.out]
  refine (eqfE_any 88 #[] W a.exprs b.exprs enter_se (fun x hx y u v w' hb hu hv => (ssExpr_any 100000000 (by decide) x y u v w' (Nat.le_trans (szE_mem hx) HSZ.out.1) hu hv)) _ _ W HSZ.out.2.2.2 (U1.out.below BW.out) (V1.out.below BW.out) (Below.refl _ _)).mono ?_
  rintro e w2 ⟨rfl, hb⟩
  have B2 := Lib.hid (BW.out.then_' hb)
  have P2 := Lib.hid (PW.out.below hb)
  have R2 := Lib.hid (RW.out.below hb)
  clear hb HBB BW PW RW HW
  generalize decide (a.exprs = b.exprs) = d1 at *
  cases d1 with
  | false =>
    go_wp2_with fail
    go_ret
    exact retB (by rw [HD.out]; rfl) B2.out
  | true =>
  have p6 := P2.out.cell 6 _ rfl
  have r6 := R2.out.cell 6 _ rfl
  go_wp2_with fail
  refine (IH.out a.body b.body _ _ w2 HSZ.out.2.1 (U2.out.below B2.out) (V2.out.below B2.out)).mono ?_
  rintro e w3 ⟨rfl, hb⟩
  have B3 := Lib.hid (B2.out.then_' hb)
  have P3 := Lib.hid (P2.out.below hb)
  have R3 := Lib.hid (R2.out.below hb)
  clear hb B2 P2 R2 p6 r6
  generalize decide (a.body = b.body) = d2 at *
  cases d2 with
  | false =>
    go_wp2_with fail
    go_ret
    exact retB (by rw [HD.out]; rfl) B3.out
  | true =>
  have p7 := P3.out.cell 7 _ rfl
  have r7 := R3.out.cell 7 _ rfl
  go_wp2_with fail
  refine (IH.out a.els b.els _ _ w3 HSZ.out.2.2.1 (U3.out.below B3.out) (V3.out.below B3.out)).mono ?_
  rintro e w4 ⟨rfl, hb⟩
  have B4 := Lib.hid (B3.out.then_' hb)
  clear hb B3 P3 R3 p7 r7
  generalize decide (a.els = b.els) = d3 at *
  go_wp2_with fail
  go_ret
  exact retB (by rw [HD.out]; rfl) B4.out
theorem ssStmts_any (m : Nat) (hm : m ≤ 100000000) : SSL m := by
  induction m with
  | zero => intro _ _ _ _ _ h; omega
  | succ m ih =>
  intro A B va vb w hsz hva hvb
  have IH := Lib.hid (ih (by omega))
  have HA := Lib.hid hva
  have HB := Lib.hid hvb
  have HSZ := Lib.hid hsz
  have HL : Hid (A.length ≤ 1000000000) := Lib.hid (by have := szS_len A; omega)
  clear ih hva hvb hsz
  go_enter Tryd.func68, Tryd.ntmps68
  go_wp2_with fail
  refine (eqfS_any 81 #[] w A B enter_ss (fun x hx y u1 u2 u3 v1 v2 v3 w' hb h1 h2 h3 h4 h5 h6 => ssStmt_of m (by omega) IH.out x y u1 u2 u3 v1 v2 v3 w' (by have := szS_mem hx; have := HSZ.out; omega) h1 h2 h3 h4 h5 h6) _ _ w HL.out HA.out HB.out (Below.refl _ _)).mono ?_
  rintro e w2 ⟨rfl, hb⟩
  go_wp2_with fail
  go_ret
  exact ⟨rfl, hb⟩

set_option maxHeartbeats 4000000 in
set_option maxRecDepth 100000 in
theorem ssFunc_any (a b : Fn) (u1 u2 v1 v2 : Value) (w : World) (hsz : szF a ≤ 50000000) (hu1 : NmsAt w u1 a.params) (hu2 : StsAt w u2 a.body) (hv1 : NmsAt w v1 b.params) (hv2 : StsAt w v2 b.body) :
    Calls Tryd.prog 46 #[.agg #[.string a.name, u1, u2], .agg #[.string b.name, v1, v2]] w (RetB w (decide (a = b))) := by
  obtain ⟨p1a, p1c, rfl⟩ := hu1.shape
  obtain ⟨p2a, p2c, rfl⟩ := hu2.shape
  obtain ⟨q1a, q1c, rfl⟩ := hv1.shape
  obtain ⟨q2a, q2c, rfl⟩ := hv2.shape
  have U1 := Lib.hid hu1
  have U2 := Lib.hid hu2
  have V1 := Lib.hid hv1
  have V2 := Lib.hid hv2
  have HSZ : Hid (a.params.length ≤ 1000000000 ∧ szS a.body < 100000000) := Lib.hid (by unfold szF at hsz; omega)
  clear hu1 hu2 hv1 hv2 hsz
  obtain ⟨W, hW, hB, hP, hR⟩ := two_boxes w [.string a.name, .slice p1a a.params.length p1c, .slice p2a a.body.length p2c] [.string b.name, .slice q1a b.params.length q1c, .slice q2a b.body.length q2c] 35
  have HBB : Hid (Below w.heap.size w _) := Lib.hid (hW ▸ hB)
  have HW := Lib.hid hW
  have BW := Lib.hid hB
  have PW := Lib.hid hP
  have RW := Lib.hid hR
  clear hW hB hP hR
  go_enter Tryd.func46, Tryd.ntmps46
  by_cases h : a.name = b.name
  rotate_left
  · have HD := Lib.hid (decide_eq_false (fun e : a = b => h (by rw [e])))
    have q := tstr_ne h
    clear h
    go_wp2_with fail
    go_ret
    exact retB HD.out.symm HBB.out
  have e1 := Lib.hid h
  have q0 := tstr_eq h
  clear h
  have HD : Hid (decide (a = b) = (decide (a.params = b.params) && decide (a.body = b.body))) := Lib.hid (by
    rw [← Bool.decide_and]
    exact decide_eq_decide.2 ⟨fun e => by rw [e]; exact ⟨rfl, rfl⟩, fun e => Fn.ext' e1.out e.1 e.2⟩)
  go_wp2_with fail
  rw [HW.out]
  refine (slEqual_any _ _ a.params b.params W (U1.out.below BW.out) (V1.out.below BW.out) HSZ.out.1).mono ?_
  rintro e w2 ⟨rfl, hb⟩
  have B2 := Lib.hid (BW.out.then_' hb)
  have P2 := Lib.hid (PW.out.below hb)
  have R2 := Lib.hid (RW.out.below hb)
  clear hb HBB BW PW RW HW
  generalize decide (a.params = b.params) = d1 at *
  cases d1 with
  | false =>
    go_wp2_with fail
    go_ret
    exact retB (by rw [HD.out]; rfl) B2.out
  | true =>
  have p2 := P2.out.cell 2 _ rfl
  have r2 := R2.out.cell 2 _ rfl
  go_wp2_with fail
  refine (ssStmts_any 100000000 (by decide) a.body b.body _ _ w2 HSZ.out.2 (U2.out.below B2.out) (V2.out.below B2.out)).mono ?_
  rintro e w3 ⟨rfl, hb⟩
  have B3 := Lib.hid (B2.out.then_' hb)
  clear hb B2 P2 R2 p2 r2
  generalize decide (a.body = b.body) = d2 at *
  go_wp2_with fail
  go_ret
  exact retB (by rw [HD.out]; rfl) B3.out
set_option maxHeartbeats 4000000 in
set_option maxRecDepth 100000 in
/-- Same -/
theorem ssame_any (A B : List Fn) (va vb : Value) (w : World) (hsz : szP A ≤ 50000000) (hva : FnsAt w va A) (hvb : FnsAt w vb B) : Calls Tryd.prog 22 #[.agg #[va], .agg #[vb]] w (RetB w (decide (A = B))) := by
  obtain ⟨a0, c0, rfl⟩ := hva.shape
  obtain ⟨a1, c1, rfl⟩ := hvb.shape
  have HA := Lib.hid hva
  have HB := Lib.hid hvb
  have HSZ := Lib.hid hsz
  have HL : Hid (A.length ≤ 1000000000) := Lib.hid (by have := szP_len A; omega)
  obtain ⟨W, hW, hBW, hP, hR⟩ := two_b1 w (.slice a0 A.length c0) (.slice a1 B.length c1) 26
  have HW := Lib.hid hW
  have BW := Lib.hid hBW
  clear hva hvb hsz hW hBW hP hR
  go_enter Tryd.func22, Tryd.ntmps22
  go_wp2_with fail
  rw [HW.out]
  refine (eqfF_any 46 #[] W A B enter_sf (fun x hx y u1 u2 v1 v2 w' hb h1 h2 h3 h4 => ssFunc_any x y u1 u2 v1 v2 w' (Nat.le_trans (szP_mem hx) HSZ.out) h1 h2 h3 h4) _ _ W HL.out (HA.out.below BW.out) (HB.out.below BW.out) (Below.refl _ _)).mono ?_
  rintro e w2 ⟨rfl, hb⟩
  have B2 := Lib.hid (BW.out.then_' hb)
  clear hb
  go_wp2_with fail
  go_ret
  exact ⟨rfl, B2.out⟩
end Go.Proofs.YtilholgbepfopaaDoor
