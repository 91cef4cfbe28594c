/- validStmt (of the code). -/
import Derived.Test.YtilholgbepfopaaDoorSExpr
namespace Go.Proofs.YtilholgbepfopaaDoor
open Go.RowKit

def vX (e : Ex) : Bool := gE e && decide (e.sz ≤ 16)
theorem enter_vx (args : Array Value) (w : World) : (callFunc 76 args).run Tryd.prog w = .ok (.enter 76 args) w := call_enter Tryd.func76 (by kernel_rfl) (by kernel_rfl) args w
theorem ev_plain {α : Type} (f : α → Bool) (l : List α) : evL (fun (_ : Unit) x => (f x, ())) () l = (l.all f, ()) := by
  induction l with
  | nil => rfl
  | cons x l ih =>
    rw [evL, List.all_cons, ih]
    cases f x <;> rfl
theorem everyX_any (v : Value) (l : List Ex) (w : World) (hl : szE l ≤ 10000000) (hv : ExsAt w v l) (hg : Glob w) : Calls Tryd.prog 75 #[v, .func (.func 76) #[] #[]] w (RetB w (l.all vX)) := by
  refine (everyE_any 76 #[] (fun _ _ (_ : Unit) => True) (fun _ x => (vX x, ())) (fun w w' => Below w.heap.size w w') w l enter_vx (fun x hx u st w' _ hb hu => ?_) (fun _ _ _ _ _ _ => trivial) (fun _ _ _ h h' => h.then_' h') (fun _ _ h => h) (fun _ _ h h' => h.then_' h') v () w (Nat.le_trans (szE_len l) hl) hv (Below.refl _ _) trivial).mono ?_
  · refine (vexpr_any x u w' (Nat.le_trans (szE_mem hx) hl) (hu.below hb) (hg.below hb)).mono ?_
    rintro e w2 ⟨rfl, h⟩
    exact ⟨rfl, trivial, h⟩
  · rintro e w' ⟨rfl, -, h⟩
    rw [ev_plain]
    exact ⟨rfl, h⟩
def vStmtP (p : SP) (s : St) : Bool := vName s.name p.name && (vName s.fn p.fn && (vOp s.op p.op && (decide (0 ≤ s.n) && (decide (s.n ≤ p.mostN) && (decide (p.least ≤ (s.exprs.length : Int)) && (decide ((s.exprs.length : Int) ≤ p.most) && (s.exprs.all vX && ((p.body || decide (s.body.length = 0)) && (p.els || decide (s.els.length = 0))))))))))
def vStmt (s : St) : Bool := (sparts s.kind).2 && vStmtP (sparts s.kind).1 s
theorem vStmt_eq (s : St) : vStmt s = ((sparts s.kind).2 && vStmtP (sparts s.kind).1 s) := rfl
theorem vStmtP_eq (p1 p2 p3 : Bool) (p4 p5 p6 : Int) (p7 p8 : Bool) (s : St) : vStmtP ⟨p1, p2, p3, p4, p5, p6, p7, p8⟩ s = (vName s.name p1 && (vName s.fn p2 && (vOp s.op p3 && (decide (0 ≤ s.n) && (decide (s.n ≤ p4) && (decide (p5 ≤ (s.exprs.length : Int)) && (decide ((s.exprs.length : Int) ≤ p6) && (s.exprs.all vX && ((p7 || decide (s.body.length = 0)) && (p8 || decide (s.els.length = 0))))))))))) := rfl
theorem len0_t {α : Type} {l : List α} (h : l.length = 0) : ((l.length : Int) == 0) = true := by rw [beq_iff_eq]; omega
theorem len0_f {α : Type} {l : List α} (h : ¬ l.length = 0) : ((l.length : Int) == 0) = false := by rw [beq_eq_false_iff_ne]; omega

set_option maxHeartbeats 4000000 in
set_option maxRecDepth 100000 in
theorem vstmt_any (s : St) (u x y : Value) (w : World) (hsz : szE s.exprs ≤ 10000000) (hu : ExsAt w u s.exprs) (hx : StsAt w x s.body) (hy : StsAt w y s.els) (hg : Glob w) : Calls Tryd.prog 61 #[stV s u x y] w (RetB w (vStmt s)) := by
  obtain ⟨ua, uc, rfl⟩ := hu.shape
  obtain ⟨ba, bc, rfl⟩ := hx.shape
  obtain ⟨ea, ec, rfl⟩ := hy.shape
  have HG := Lib.hid hg
  have HU := Lib.hid hu
  have HSZ := Lib.hid hsz
  have HV := Lib.hid (vStmt_eq s)
  have hul : Hid (s.exprs.length ≤ 10000000) := Lib.hid (Nat.le_trans (szE_len _) hsz)
  clear hu hx hy hg hsz
  have P := Lib.hid (CsT.new w [.int .i64 s.kind, .string s.name, .string s.fn, .int .i64 s.n, .int .i64 s.op, .slice ua s.exprs.length uc, .slice ba s.body.length bc, .slice ea s.els.length ec] 40).at_
  have B1 := Lib.hid (below1 w (.cells #[.int .i64 s.kind, .string s.name, .string s.fn, .int .i64 s.n, .int .i64 s.op, .slice ua s.exprs.length uc, .slice ba s.body.length bc, .slice ea s.els.length ec] 40))
  unfold stV
  have p0 := P.out.cell 0 _ rfl
  go_enter Tryd.func61, Tryd.ntmps61
  simp only [List.append_eq, List.cons_append, List.nil_append]
  go_wp2_with fail
  generalize w.alloc (.cells #[.int .i64 s.kind, .string s.name, .string s.fn, .int .i64 s.n, .int .i64 s.op, .slice ua s.exprs.length uc, .slice ba s.body.length bc, .slice ea s.els.length ec] 40) = w1 at *
  refine (sparts_any s.kind w1).mono ?_
  rintro e' w2 ⟨rfl, hb⟩
  have B2 := Lib.hid (B1.out.then_' hb)
  have P2 := Lib.hid (P.out.below hb)
  clear p0 hb B1 P
  generalize sparts s.kind = pp at *
  obtain ⟨⟨p1, p2, p3, p4, p5, p6, p7, p8⟩, ok⟩ := pp
  unfold spV
  simp only at HV ⊢
  have BP := Lib.hid (below1 w2 (.cells #[.bool p1, .bool p2, .bool p3, .int .i64 p4, .int .i64 p5, .int .i64 p6, .bool p7, .bool p8] 67))
  have B3 := Lib.hid (B2.out.then_' BP.out)
  have P3 := Lib.hid (P2.out.below BP.out)
  have Q3 := Lib.hid (CsT.new w2 [.bool p1, .bool p2, .bool p3, .int .i64 p4, .int .i64 p5, .int .i64 p6, .bool p7, .bool p8] 67).at_
  have x1 := P3.out.cell 1 _ rfl
  have q0 := Q3.out.cell 0 _ rfl
  clear P2 B2 BP
  cases ok with
  | false =>
    go_wp2_with fail
    go_ret
    exact retB (by rw [HV.out]; rfl) B3.out
  | true =>
  go_wp2_with fail
  generalize w2.alloc (.cells #[.bool p1, .bool p2, .bool p3, .int .i64 p4, .int .i64 p5, .int .i64 p6, .bool p7, .bool p8] 67) = w3 at *
  replace HV : Hid (vStmt s = _) := Lib.hid (HV.out.trans ((Bool.true_and _).trans (vStmtP_eq p1 p2 p3 p4 p5 p6 p7 p8 s)))
  refine (vname_any s.name p1 w3 (HG.out.below B3.out)).mono ?_
  rintro e' w4 ⟨rfl, hb⟩
  cases hx : vName s.name p1 with
  | false =>
    rw [hx] at HV
    clear hx
    go_wp2_with fail
    go_ret
    exact retB (by rw [HV.out]; rfl) (B3.out.then_' hb)
  | true =>
  rw [hx] at HV
  replace HV := Lib.hid (HV.out.trans (Bool.true_and _))
  have B4 := Lib.hid (B3.out.then_' hb)
  have P4 := Lib.hid (P3.out.below hb)
  have Q4 := Lib.hid (Q3.out.below hb)
  clear hx hb B3 P3 Q3 x1 q0
  have x2 := P4.out.cell 2 _ rfl
  have q1 := Q4.out.cell 1 _ rfl
  go_wp2_with fail
  refine (vname_any s.fn p2 w4 (HG.out.below B4.out)).mono ?_
  rintro e' w5 ⟨rfl, hb⟩
  cases hx : vName s.fn p2 with
  | false =>
    rw [hx] at HV
    clear hx
    go_wp2_with fail
    go_ret
    exact retB (by rw [HV.out]; rfl) (B4.out.then_' hb)
  | true =>
  rw [hx] at HV
  replace HV := Lib.hid (HV.out.trans (Bool.true_and _))
  have B5 := Lib.hid (B4.out.then_' hb)
  have P5 := Lib.hid (P4.out.below hb)
  have Q5 := Lib.hid (Q4.out.below hb)
  clear hx hb B4 P4 Q4 x2 q1
  have x4 := P5.out.cell 4 _ rfl
  have q2 := Q5.out.cell 2 _ rfl
  go_wp2_with fail
  refine (vop_any s.op p3 w5 (HG.out.below B5.out)).mono ?_
  rintro e' w6 ⟨rfl, hb⟩
  cases hx : vOp s.op p3 with
  | false =>
    rw [hx] at HV
    clear hx
    go_wp2_with fail
    go_ret
    exact retB (by rw [HV.out]; rfl) (B5.out.then_' hb)
  | true =>
  rw [hx] at HV
  replace HV := Lib.hid (HV.out.trans (Bool.true_and _))
  have B6 := Lib.hid (B5.out.then_' hb)
  have P6 := Lib.hid (P5.out.below hb)
  have Q6 := Lib.hid (Q5.out.below hb)
  clear hx hb B5 P5 Q5 x4 q2
  have x3 := P6.out.cell 3 _ rfl
  have q3 := Q6.out.cell 3 _ rfl
  have x5 := P6.out.cell 5 _ rfl
  have q4 := Q6.out.cell 4 _ rfl
  have q5 := Q6.out.cell 5 _ rfl
  by_cases h0 : 0 ≤ s.n
  rotate_left
  · rw [decide_eq_false h0] at HV
    go_wp2_with fail
    go_ret
    exact retB (by rw [HV.out]; rfl) B6.out
  rw [decide_eq_true h0] at HV
  replace HV := Lib.hid (HV.out.trans (Bool.true_and _))
  by_cases h1 : s.n ≤ p4
  rotate_left
  · rw [decide_eq_false h1] at HV
    go_wp2_with fail
    go_ret
    exact retB (by rw [HV.out]; rfl) B6.out
  rw [decide_eq_true h1] at HV
  replace HV := Lib.hid (HV.out.trans (Bool.true_and _))
  by_cases h2 : p5 ≤ (s.exprs.length : Int)
  rotate_left
  · rw [decide_eq_false h2] at HV
    go_wp2_with fail
    go_ret
    exact retB (by rw [HV.out]; rfl) B6.out
  rw [decide_eq_true h2] at HV
  replace HV := Lib.hid (HV.out.trans (Bool.true_and _))
  by_cases h3 : (s.exprs.length : Int) ≤ p6
  rotate_left
  · rw [decide_eq_false h3] at HV
    go_wp2_with fail
    go_ret
    exact retB (by rw [HV.out]; rfl) B6.out
  rw [decide_eq_true h3] at HV
  replace HV := Lib.hid (HV.out.trans (Bool.true_and _))
  go_wp2_with fail
  refine (everyX_any _ s.exprs w6 HSZ.out (HU.out.below B6.out) (HG.out.below B6.out)).mono ?_
  rintro e' w7 ⟨rfl, hb⟩
  cases hx : s.exprs.all vX with
  | false =>
    rw [hx] at HV
    clear hx
    go_wp2_with fail
    go_ret
    exact retB (by rw [HV.out]; rfl) (B6.out.then_' hb)
  | true =>
  rw [hx] at HV
  replace HV := Lib.hid (HV.out.trans (Bool.true_and _))
  have B7 := Lib.hid (B6.out.then_' hb)
  have P7 := Lib.hid (P6.out.below hb)
  have Q7 := Lib.hid (Q6.out.below hb)
  clear hx hb B6 P6 Q6 x3 q3 x5 q4 q5
  have x6 := P7.out.cell 6 _ rfl
  have x7 := P7.out.cell 7 _ rfl
  have q6 := Q7.out.cell 6 _ rfl
  have q7 := Q7.out.cell 7 _ rfl
  by_cases ha : (p7 || decide (s.body.length = 0)) = true
  rotate_left
  · have hp : p7 = false := by cases p7 with | false => rfl | true => exact absurd rfl ha
    have hl : ¬ s.body.length = 0 := fun h => ha (by rw [decide_eq_true h, Bool.or_true])
    have ql := len0_f hl
    rw [Bool.eq_false_iff.2 ha] at HV
    subst hp
    clear ha hl
    go_wp2_with fail
    all_goals
      go_ret
      exact retB (by rw [HV.out]; rfl) B7.out
  rw [ha] at HV
  replace HV := Lib.hid (HV.out.trans (Bool.true_and _))
  cases p7 with
  | true =>
    cases p8 with
    | true =>
      go_wp2_with fail
      go_ret
      exact retB (by rw [HV.out]; rfl) B7.out
    | false =>
      by_cases hl : s.els.length = 0
      · have ql := len0_t hl
        rw [decide_eq_true hl] at HV
        clear hl
        go_wp2_with fail
        go_ret
        exact retB (by rw [HV.out]; rfl) B7.out
      · have ql := len0_f hl
        rw [decide_eq_false hl] at HV
        clear hl
        go_wp2_with fail
        go_ret
        exact retB (by rw [HV.out]; rfl) B7.out
  | false =>
    have hl0 : s.body.length = 0 := of_decide_eq_true ((Bool.false_or _).symm.trans ha)
    have ql0 := len0_t hl0
    clear hl0 ha
    cases p8 with
    | true =>
      go_wp2_with fail
      go_ret
      exact retB (by rw [HV.out]; rfl) B7.out
    | false =>
      by_cases hl : s.els.length = 0
      · have ql := len0_t hl
        rw [decide_eq_true hl] at HV
        clear hl
        go_wp2_with fail
        go_ret
        exact retB (by rw [HV.out]; rfl) B7.out
      · have ql := len0_f hl
        rw [decide_eq_false hl] at HV
        clear hl
        go_wp2_with fail
        go_ret
        exact retB (by rw [HV.out]; rfl) B7.out
end Go.Proofs.YtilholgbepfopaaDoor
