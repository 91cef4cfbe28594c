/- How large trees are. -/
import Derived.Test.YtilholgbepfopaaDoorTRep
namespace Go.Proofs.YtilholgbepfopaaDoor

mutual
/-- nodes of an expression -/
def Ex.sz : Ex → Nat
  | .mk _ _ _ _ l => 1 + szE l
def szE : List Ex → Nat
  | [] => 0
  | e :: l => e.sz + szE l
end
theorem Ex.sz_pos (e : Ex) : 0 < e.sz := by cases e; unfold Ex.sz; omega
theorem Ex.sz_l (e : Ex) : szE e.l < e.sz := by cases e; unfold Ex.sz; show szE _ < _; simp only [Ex.l]; omega
theorem szE_mem {l : List Ex} {e : Ex} (h : e ∈ l) : e.sz ≤ szE l := by
  induction l with
  | nil => cases h
  | cons d l ih =>
    unfold szE
    rcases List.mem_cons.1 h with rfl | h
    · omega
    · have := ih h; omega
theorem szE_len (l : List Ex) : l.length ≤ szE l := by
  induction l with
  | nil => simp
  | cons d l ih => unfold szE; have := d.sz_pos; simp only [List.length_cons]; omega
mutual
/-- nodes of a statement -/
def St.sz : St → Nat
  | .mk _ _ _ _ _ es b e => 1 + szE es + szS b + szS e
def szS : List St → Nat
  | [] => 0
  | s :: l => s.sz + szS l
end
theorem St.sz_pos (e : St) : 0 < e.sz := by cases e; unfold St.sz; omega
theorem St.sz_parts (e : St) : 1 + szE e.exprs + szS e.body + szS e.els = e.sz := by cases e; unfold St.sz; rfl
theorem szS_mem {l : List St} {e : St} (h : e ∈ l) : e.sz ≤ szS l := by
  induction l with
  | nil => cases h
  | cons d l ih =>
    unfold szS
    rcases List.mem_cons.1 h with rfl | h
    · omega
    · have := ih h; omega
theorem szS_len (l : List St) : l.length ≤ szS l := by
  induction l with
  | nil => simp
  | cons d l ih => unfold szS; have := d.sz_pos; simp only [List.length_cons]; omega
/-- how much a program holds -/
def szF (f : Fn) : Nat := 1 + f.params.length + szS f.body
def szP : List Fn → Nat
  | [] => 0
  | f :: l => szF f + szP l
theorem szP_mem {l : List Fn} {f : Fn} (h : f ∈ l) : szF f ≤ szP l := by
  induction l with
  | nil => cases h
  | cons d l ih =>
    unfold szP
    rcases List.mem_cons.1 h with rfl | h
    · omega
    · have := ih h; omega
theorem szF_pos (f : Fn) : 0 < szF f := by unfold szF; omega
theorem szP_len (l : List Fn) : l.length ≤ szP l := by
  induction l with
  | nil => simp
  | cons d l ih => unfold szP; have h1 : 0 < szF d := szF_pos d; simp only [List.length_cons]; omega
theorem Fn.ext' {a b : Fn} (h1 : a.name = b.name) (h2 : a.params = b.params) (h3 : a.body = b.body) : a = b := by
  cases a; cases b
  simp only at *
  subst h1 h2 h3
  rfl
def stC (s : St) (u x y : Value) : List Value := [.int .i64 s.kind, .string s.name, .string s.fn, .int .i64 s.n, .int .i64 s.op, u, x, y]
def exV (e : Ex) (v : Value) : Value := .agg #[.int .i64 e.kind, .int .i64 e.n, .string e.name, .int .i64 e.op, v]
def exC (e : Ex) (v : Value) : List Value := [.int .i64 e.kind, .int .i64 e.n, .string e.name, .int .i64 e.op, v]
end Go.Proofs.YtilholgbepfopaaDoor
