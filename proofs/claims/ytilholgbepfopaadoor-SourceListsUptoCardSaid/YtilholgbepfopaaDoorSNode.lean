/- Nodes of expressions (of the code): validName, validOp, validNode. -/
import Derived.Test.YtilholgbepfopaaDoorSParts
import Derived.Test.YtilholgbepfopaaDoorTNodes
namespace Go.Proofs.YtilholgbepfopaaDoor
open Go.RowKit

def vName (s : ByteArray) (b : Bool) : Bool := if b = true then isNm s else decide (s = ⟨#[]⟩)
def vOp (op : Int) (b : Bool) : Bool := if b = true then opB op else decide (op = 0)
theorem vname_any (s : ByteArray) (b : Bool) (w : World) (hg : Glob w) : Calls Tryd.prog 73 #[.string s, .bool b] w (RetB w (vName s b)) := by
  have HG := Lib.hid hg
  clear hg
  go_enter Tryd.func73, Tryd.ntmps73
  cases b with
  | true =>
    go_wp2_with fail
    refine (sname_any s _ HG.out).mono ?_
    rintro e w1 ⟨rfl, hb⟩
    go_wp2_with fail
    go_ret
    exact ⟨rfl, hb⟩
  | false =>
    by_cases h : s = ⟨#[]⟩
    · have q := emp_t h
      have HR : Hid (vName s false = true) := Lib.hid (by unfold vName; rw [if_neg (by decide)]; exact decide_eq_true h)
      clear h
      go_wp2_with fail
      go_ret
      exact retB HR.out.symm (Below.refl _ _)
    · have q := emp_f h
      have HR : Hid (vName s false = false) := Lib.hid (by unfold vName; rw [if_neg (by decide)]; exact decide_eq_false h)
      clear h
      go_wp2_with fail
      go_ret
      exact retB HR.out.symm (Below.refl _ _)
theorem vop_any (op : Int) (b : Bool) (w : World) (hg : Glob w) : Calls Tryd.prog 74 #[.int .i64 op, .bool b] w (RetB w (vOp op b)) := by
  have HG := Lib.hid hg
  clear hg
  go_enter Tryd.func74, Tryd.ntmps74
  cases b with
  | true =>
    go_wp2_with fail
    refine (name_any op _ HG.out).mono ?_
    rintro e w1 ⟨rfl, hb⟩
    go_wp2_with fail
    go_ret
    exact ⟨rfl, hb⟩
  | false =>
    by_cases h : op = 0
    · have q : (op == 0) = true := by rw [beq_iff_eq]; exact h
      have HR : Hid (vOp op false = true) := Lib.hid (by unfold vOp; rw [if_neg (by decide)]; exact decide_eq_true h)
      clear h
      go_wp2_with fail
      go_ret
      exact retB HR.out.symm (Below.refl _ _)
    · have q : (op == 0) = false := by rw [beq_eq_false_iff_ne]; exact h
      have HR : Hid (vOp op false = false) := Lib.hid (by unfold vOp; rw [if_neg (by decide)]; exact decide_eq_false h)
      clear h
      go_wp2_with fail
      go_ret
      exact retB HR.out.symm (Below.refl _ _)
def vNode (e : Ex) : Bool := (eparts e.kind).2 && vName e.name (eparts e.kind).1.name && vOp e.op (eparts e.kind).1.op && decide ((eparts e.kind).1.leastN ≤ e.n) && decide (e.n ≤ (eparts e.kind).1.mostN) && decide ((e.l.length : Int) = (eparts e.kind).1.elements)
theorem vNode_eq (e : Ex) : vNode e = ((eparts e.kind).2 && vName e.name (eparts e.kind).1.name && vOp e.op (eparts e.kind).1.op && decide ((eparts e.kind).1.leastN ≤ e.n) && decide (e.n ≤ (eparts e.kind).1.mostN) && decide ((e.l.length : Int) = (eparts e.kind).1.elements)) := rfl

set_option maxHeartbeats 4000000 in
set_option maxRecDepth 100000 in
theorem vnode_any (e : Ex) (v : Value) (w : World) (hv : ExsAt w v e.l) (hg : Glob w) : Calls Tryd.prog 85 #[exV e v] w (RetB w (vNode e)) := by
  obtain ⟨a, cp, rfl⟩ := hv.shape
  have HG := Lib.hid hg
  have HV := Lib.hid (vNode_eq e)
  clear hv hg
  have P := Lib.hid (CsT.new w (exC e (.slice a e.l.length cp)) 42)
  have B1 := Lib.hid (below1 w (.cells #[.int .i64 e.kind, .int .i64 e.n, .string e.name, .int .i64 e.op, .slice a e.l.length cp] 42))
  unfold exV
  unfold exC at P
  have p0 := P.out.at_.cell 0 _ rfl
  go_enter Tryd.func85, Tryd.ntmps85
  go_wp2_with fail
  generalize w.alloc (.cells #[.int .i64 e.kind, .int .i64 e.n, .string e.name, .int .i64 e.op, .slice a e.l.length cp] 42) = w1 at *
  refine (eparts_any e.kind w1).mono ?_
  rintro e' w2 ⟨rfl, hb⟩
  have B2 := Lib.hid (B1.out.then_' hb)
  have P2 := Lib.hid (P.out.below hb)
  clear p0 hb B1 P
  generalize eparts e.kind = pp at *
  obtain ⟨⟨p1, p2, p3, p4, p5⟩, ok⟩ := pp
  unfold epV
  simp only at HV ⊢
  have BP := Lib.hid (below1 w2 (.cells #[.bool p1, .bool p2, .int .i64 p3, .int .i64 p4, .int .i64 p5] 121))
  have B3 := Lib.hid (B2.out.then_' BP.out)
  have P3 := Lib.hid (P2.out.below BP.out).at_
  have Q3 := Lib.hid (CsT.new w2 [.bool p1, .bool p2, .int .i64 p3, .int .i64 p4, .int .i64 p5] 121).at_
  have x2 := P3.out.cell 2 _ rfl
  have q0 := Q3.out.cell 0 _ rfl
  clear P2 B2 BP
  cases ok with
  | false =>
    go_wp2_with fail
    go_ret
    exact retB (by rw [HV.out]; simp) B3.out
  | true =>
  go_wp2_with fail
  generalize w2.alloc (.cells #[.bool p1, .bool p2, .int .i64 p3, .int .i64 p4, .int .i64 p5] 121) = w3 at *
  refine (vname_any e.name p1 w3 (HG.out.below B3.out)).mono ?_
  rintro e' w4 ⟨rfl, hb⟩
  cases hx : vName e.name p1 with
  | false =>
    have HX3 := Lib.hid hx
    clear hx
    go_wp2_with fail
    go_ret
    exact retB (by rw [HV.out, HX3.out]; simp) (B3.out.then_' hb)
  | true =>
  have HX3 := Lib.hid hx
  have B4 := Lib.hid (B3.out.then_' hb)
  have P4 := Lib.hid (P3.out.below hb)
  have Q4 := Lib.hid (Q3.out.below hb)
  clear hx hb B3 P3 Q3 x2 q0
  have x3 := P4.out.cell 3 _ rfl
  have q1 := Q4.out.cell 1 _ rfl
  go_wp2_with fail
  refine (vop_any e.op p2 w4 (HG.out.below B4.out)).mono ?_
  rintro e' w5 ⟨rfl, hb⟩
  cases hx : vOp e.op p2 with
  | false =>
    have HX4 := Lib.hid hx
    clear hx
    go_wp2_with fail
    go_ret
    exact retB (by rw [HV.out, HX3.out, HX4.out]; simp) (B4.out.then_' hb)
  | true =>
  have HX4 := Lib.hid hx
  have B5 := Lib.hid (B4.out.then_' hb)
  have P5 := Lib.hid (P4.out.below hb)
  have Q5 := Lib.hid (Q4.out.below hb)
  clear hx hb B4 P4 Q4 x3 q1
  have x1 := P5.out.cell 1 _ rfl
  have x4 := P5.out.cell 4 _ rfl
  have q2 := Q5.out.cell 2 _ rfl
  have q3 := Q5.out.cell 3 _ rfl
  have q4 := Q5.out.cell 4 _ rfl
  by_cases h1 : p3 ≤ e.n
  · have H1 := Lib.hid (decide_eq_true h1)
    by_cases h2 : e.n ≤ p4
    · have H2 := Lib.hid (decide_eq_true h2)
      by_cases h3 : (e.l.length : Int) = p5
      · have q : ((e.l.length : Int) == p5) = true := by rw [beq_iff_eq]; exact h3
        have H3 := Lib.hid (decide_eq_true h3)
        clear h3
        go_wp2_with fail
        go_ret
        exact retB (by rw [HV.out, HX3.out, HX4.out, H1.out, H2.out, H3.out]; rfl) B5.out
      · have q : ((e.l.length : Int) == p5) = false := by rw [beq_eq_false_iff_ne]; exact h3
        have H3 := Lib.hid (decide_eq_false h3)
        clear h3
        go_wp2_with fail
        go_ret
        exact retB (by rw [HV.out, H3.out]; simp) B5.out
    · have H2 := Lib.hid (decide_eq_false h2)
      go_wp2_with fail
      go_ret
      exact retB (by rw [HV.out, H2.out]; simp) B5.out
  · have H1 := Lib.hid (decide_eq_false h1)
    go_wp2_with fail
    go_ret
    exact retB (by rw [HV.out, H1.out]; simp) B5.out
end Go.Proofs.YtilholgbepfopaaDoor
