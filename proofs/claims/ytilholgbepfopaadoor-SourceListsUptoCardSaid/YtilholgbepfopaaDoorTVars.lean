/- Variables of statements (of the reference): which kinds have a name, whether a list has one, adding one. -/
import Derived.Test.YtilholgbepfopaaDoorTName
namespace Go.Proofs.YtilholgbepfopaaDoor
open Go.RowKit

/-- what a statement of a kind has: expressions, Name, Func, N, Op, Body, Else; whether there is such a kind -/
structure Parts where
  exprs : Int
  name : Bool
  fn : Bool
  n : Bool
  op : Bool
  body : Bool
  els : Bool
  ok : Bool
def partsOf (k : Int) : Parts :=
  if k = 1 then ⟨1, true, false, false, false, false, false, true⟩ else
  if k = 11 then ⟨1, true, false, false, false, false, false, true⟩ else
  if k = 2 then ⟨2, false, false, true, false, false, false, true⟩ else
  if k = 3 then ⟨-1, true, true, false, false, false, false, true⟩ else
  if k = 4 then ⟨1, false, false, false, false, true, true, true⟩ else
  if k = 5 then ⟨2, true, false, false, false, true, false, true⟩ else
  if k = 6 then ⟨1, false, false, false, false, true, false, true⟩ else
  if k = 7 then ⟨1, false, false, false, false, false, false, true⟩ else
  if k = 8 then ⟨1, false, false, false, false, false, false, true⟩ else
  if k = 10 then ⟨1, false, false, false, false, false, false, true⟩ else
  if k = 9 then ⟨0, true, false, false, false, true, true, true⟩ else
  if k = 12 then ⟨1, true, false, false, true, false, false, true⟩ else
  ⟨0, false, false, false, false, false, false, false⟩
def RParts (w : World) (p : Parts) (e : Ending) (w' : World) : Prop := e = .returned (.tuple #[.int .i64 p.exprs, .bool p.name, .bool p.fn, .bool p.n, .bool p.op, .bool p.body, .bool p.els, .bool p.ok]) ∧ Below w.heap.size w w'
set_option maxHeartbeats 1000000 in
set_option maxRecDepth 100000 in
theorem parts_any (k : Int) (w : World) : Calls Tryd.prog 77 #[.int .i64 k] w (RParts w (partsOf k)) := by
  by_cases h1 : k = 1
  · subst h1
    go_enter Tryd.func77, Tryd.ntmps77
    go_wp2
    refine bodyPost_ret (v := .tuple #[.int .i64 1, .bool true, .bool false, .bool false, .bool false, .bool false, .bool false, .bool true]) (by simp [results, Tryd.results77, go_sem]) rfl ?_
    exact ⟨by simp [partsOf], Below.refl _ _⟩
  by_cases h11 : k = 11
  · subst h11
    go_enter Tryd.func77, Tryd.ntmps77
    go_wp2
    refine bodyPost_ret (v := .tuple #[.int .i64 1, .bool true, .bool false, .bool false, .bool false, .bool false, .bool false, .bool true]) (by simp [results, Tryd.results77, go_sem]) rfl ?_
    exact ⟨by simp [partsOf], Below.refl _ _⟩
  by_cases h2 : k = 2
  · subst h2
    go_enter Tryd.func77, Tryd.ntmps77
    go_wp2
    refine bodyPost_ret (v := .tuple #[.int .i64 2, .bool false, .bool false, .bool true, .bool false, .bool false, .bool false, .bool true]) (by simp [results, Tryd.results77, go_sem]) rfl ?_
    exact ⟨by simp [partsOf], Below.refl _ _⟩
  by_cases h3 : k = 3
  · subst h3
    go_enter Tryd.func77, Tryd.ntmps77
    go_wp2
    refine bodyPost_ret (v := .tuple #[.int .i64 (-1), .bool true, .bool true, .bool false, .bool false, .bool false, .bool false, .bool true]) (by simp [results, Tryd.results77, go_sem]) rfl ?_
    exact ⟨by simp [partsOf], Below.refl _ _⟩
  by_cases h4 : k = 4
  · subst h4
    go_enter Tryd.func77, Tryd.ntmps77
    go_wp2
    refine bodyPost_ret (v := .tuple #[.int .i64 1, .bool false, .bool false, .bool false, .bool false, .bool true, .bool true, .bool true]) (by simp [results, Tryd.results77, go_sem]) rfl ?_
    exact ⟨by simp [partsOf], Below.refl _ _⟩
  by_cases h5 : k = 5
  · subst h5
    go_enter Tryd.func77, Tryd.ntmps77
    go_wp2
    refine bodyPost_ret (v := .tuple #[.int .i64 2, .bool true, .bool false, .bool false, .bool false, .bool true, .bool false, .bool true]) (by simp [results, Tryd.results77, go_sem]) rfl ?_
    exact ⟨by simp [partsOf], Below.refl _ _⟩
  by_cases h6 : k = 6
  · subst h6
    go_enter Tryd.func77, Tryd.ntmps77
    go_wp2
    refine bodyPost_ret (v := .tuple #[.int .i64 1, .bool false, .bool false, .bool false, .bool false, .bool true, .bool false, .bool true]) (by simp [results, Tryd.results77, go_sem]) rfl ?_
    exact ⟨by simp [partsOf], Below.refl _ _⟩
  by_cases h7 : k = 7
  · subst h7
    go_enter Tryd.func77, Tryd.ntmps77
    go_wp2
    refine bodyPost_ret (v := .tuple #[.int .i64 1, .bool false, .bool false, .bool false, .bool false, .bool false, .bool false, .bool true]) (by simp [results, Tryd.results77, go_sem]) rfl ?_
    exact ⟨by simp [partsOf], Below.refl _ _⟩
  by_cases h8 : k = 8
  · subst h8
    go_enter Tryd.func77, Tryd.ntmps77
    go_wp2
    refine bodyPost_ret (v := .tuple #[.int .i64 1, .bool false, .bool false, .bool false, .bool false, .bool false, .bool false, .bool true]) (by simp [results, Tryd.results77, go_sem]) rfl ?_
    exact ⟨by simp [partsOf], Below.refl _ _⟩
  by_cases h10 : k = 10
  · subst h10
    go_enter Tryd.func77, Tryd.ntmps77
    go_wp2
    refine bodyPost_ret (v := .tuple #[.int .i64 1, .bool false, .bool false, .bool false, .bool false, .bool false, .bool false, .bool true]) (by simp [results, Tryd.results77, go_sem]) rfl ?_
    exact ⟨by simp [partsOf], Below.refl _ _⟩
  by_cases h9 : k = 9
  · subst h9
    go_enter Tryd.func77, Tryd.ntmps77
    go_wp2
    refine bodyPost_ret (v := .tuple #[.int .i64 0, .bool true, .bool false, .bool false, .bool false, .bool true, .bool true, .bool true]) (by simp [results, Tryd.results77, go_sem]) rfl ?_
    exact ⟨by simp [partsOf], Below.refl _ _⟩
  by_cases h12 : k = 12
  · subst h12
    go_enter Tryd.func77, Tryd.ntmps77
    go_wp2
    refine bodyPost_ret (v := .tuple #[.int .i64 1, .bool true, .bool false, .bool false, .bool true, .bool false, .bool false, .bool true]) (by simp [results, Tryd.results77, go_sem]) rfl ?_
    exact ⟨by simp [partsOf], Below.refl _ _⟩
  have t1 : (k == 1) = false := by rw [beq_eq_false_iff_ne]; exact h1
  have t11 : (k == 11) = false := by rw [beq_eq_false_iff_ne]; exact h11
  have t2 : (k == 2) = false := by rw [beq_eq_false_iff_ne]; exact h2
  have t3 : (k == 3) = false := by rw [beq_eq_false_iff_ne]; exact h3
  have t4 : (k == 4) = false := by rw [beq_eq_false_iff_ne]; exact h4
  have t5 : (k == 5) = false := by rw [beq_eq_false_iff_ne]; exact h5
  have t6 : (k == 6) = false := by rw [beq_eq_false_iff_ne]; exact h6
  have t7 : (k == 7) = false := by rw [beq_eq_false_iff_ne]; exact h7
  have t8 : (k == 8) = false := by rw [beq_eq_false_iff_ne]; exact h8
  have t10 : (k == 10) = false := by rw [beq_eq_false_iff_ne]; exact h10
  have t9 : (k == 9) = false := by rw [beq_eq_false_iff_ne]; exact h9
  have t12 : (k == 12) = false := by rw [beq_eq_false_iff_ne]; exact h12
  have hp : partsOf k = ⟨0, false, false, false, false, false, false, false⟩ := by simp [partsOf, h1, h11, h2, h3, h4, h5, h6, h7, h8, h10, h9, h12]
  rw [hp]
  clear hp
  go_enter Tryd.func77, Tryd.ntmps77
  go_wp2
  refine bodyPost_ret (v := .tuple #[.int .i64 0, .bool false, .bool false, .bool false, .bool false, .bool false, .bool false, .bool false]) (by simp [results, Tryd.results77, go_sem]) rfl ?_
  exact ⟨rfl, Below.refl _ _⟩
theorem rnames_any (k : Int) (w : World) : Calls Tryd.prog 66 #[.int .i64 k] w (RetB w (partsOf k).name) := by
  go_enter Tryd.func66, Tryd.ntmps66
  go_wp2_with fail
  refine (parts_any k w).mono ?_
  rintro e w1 ⟨rfl, hb⟩
  go_wp2
  go_ret
  exact ⟨rfl, hb⟩

/-- whether a list has a name -/
def hasN (l : List ByteArray) (s : ByteArray) : Bool := l.any fun x => decide (x = s)
def addN (l : List ByteArray) (s : ByteArray) : List ByteArray := if hasN l s = true then l else l ++ [s]
def NoneN (l : List ByteArray) (s : ByteArray) (k : Nat) : Prop := ∀ j x, j < k → l[j]? = some x → x ≠ s
theorem NoneN.succ {l : List ByteArray} {s x : ByteArray} {k : Nat} (h : NoneN l s k) (hk : l[k]? = some x) (hx : x ≠ s) : NoneN l s (k + 1) := fun j y hj hy => by
  rcases Nat.lt_or_ge j k with q | q
  · exact h j y q hy
  · obtain rfl : j = k := by omega
    rw [hk] at hy
    exact Option.some.inj hy ▸ hx
theorem has_no {l : List ByteArray} {s : ByteArray} (h : NoneN l s l.length) : hasN l s = false := by
  unfold hasN
  rw [List.any_eq_false]
  intro x hx
  obtain ⟨j, hj⟩ := List.getElem?_of_mem hx
  simpa using h j x (List.getElem?_eq_some_iff.1 hj).1 hj
theorem has_yes {l : List ByteArray} {s x : ByteArray} {k : Nat} (hk : l[k]? = some x) (hx : x = s) : hasN l s = true :=
  List.any_eq_true.2 ⟨x, List.mem_of_getElem? hk, by simpa using hx⟩
set_option maxHeartbeats 1000000 in
set_option maxRecDepth 100000 in
theorem rhas_any (v : Value) (l : List ByteArray) (s : ByteArray) (w : World) (hv : NmsAt w v l) (hl : l.length ≤ 1000000000) : Calls Tryd.prog 44 #[v, .string s] w (RetB w (hasN l s)) := by
  obtain ⟨a, c, rfl⟩ := hv.shape
  have H := Lib.hid hv
  clear hv
  obtain ⟨n, hn⟩ : ∃ n, n = l.length := ⟨_, rfl⟩
  have HN := Lib.hid hn
  rw [← hn] at H hl ⊢
  clear hn
  go_enter Tryd.func44, Tryd.ntmps44
  go_wp2
  go_loop [6, 9] (fun _ i_ => ∃ k : Nat, k ≤ n ∧ i_ = .int .i64 k ∧ NoneN l s k) (fun _ i_ => n - (intOf i_).toNat)
  case atStart => exact ⟨0, Nat.zero_le _, rfl, fun j x hj => by omega⟩
  case round =>
    obtain ⟨k, hk, rfl, hN⟩ := hrel
    have HNN := Lib.hid hN
    clear hN
    by_cases hlt : k < n
    · obtain ⟨x, hx⟩ : ∃ x, l[k]? = some x := ⟨_, List.getElem?_eq_getElem (by rw [← HN.out]; exact hlt)⟩
      obtain ⟨b, o, c', hv, _, c0⟩ := H.out.elem hx
      obtain ⟨rfl, -, rfl⟩ := Value.slice.inj hv
      have HX := Lib.hid hx
      have hki : (k : Int) < (n : Int) := by omega
      clear hv hx
      by_cases hs : x = s
      · have hq := tstr_eq hs
        have Hs := Lib.hid hs
        clear hs
        go_wp2
        go_ret
        exact retB (has_yes HX.out Hs.out).symm (Below.refl _ _)
      · have hq := tstr_ne hs
        have Hs := Lib.hid hs
        clear hs
        go_wp2
        go_round
        case rel => exact ⟨k + 1, by omega, by go_num, HNN.out.succ HX.out Hs.out⟩
        case measure => simp [intOf]; omega
    · obtain rfl : k = n := by omega
      have HF := Lib.hid (has_no (by rw [← HN.out]; exact HNN.out) : hasN l s = false)
      go_wp2
      go_ret
      exact retB HF.out.symm (Below.refl _ _)
end Go.Proofs.YtilholgbepfopaaDoor
