/- Op, and the reference's. -/
import Derived.Test.YtilholgbepfopaaDoorVName
import Derived.WalkLawsBesides
namespace Go.Proofs.YtilholgbepfopaaDoor
open Go.RowKit Go.MapKept

theorem ba_ne {a b : ByteArray} (h : ¬ a = b) : (a.toList == b.toList) = false := by
  rw [beq_eq_false_iff_ne]
  intro e
  rw [ByteArray.toList_eq, ByteArray.toList_eq] at e
  obtain ⟨⟨x⟩⟩ := a
  obtain ⟨⟨y⟩⟩ := b
  exact h (by cases e; rfl)
def opAt : List ByteArray → Int → ByteArray → Int × Bool
  | [], _, _ => (0, false)
  | x :: l, i, s => if x = s then (i, true) else opAt l (i + 1) s
/-- the operator with a name -/
def opR (s : ByteArray) : Int × Bool := opAt nmL 1 s
def NoneOf (s : ByteArray) (k : Nat) : Prop := ∀ j, j < k → nm j ≠ s
theorem NoneOf.zero (s : ByteArray) : NoneOf s 0 := fun j hj => by omega
theorem NoneOf.succ {s : ByteArray} {k : Nat} (h : NoneOf s k) (hk : nm k ≠ s) : NoneOf s (k + 1) := fun j hj => by
  rcases Nat.lt_or_ge j k with q | q
  · exact h j q
  · obtain rfl : j = k := by omega
    exact hk
theorem opAt_hit (l : List ByteArray) (i : Int) (s : ByteArray) (k : Nat) (hk : k < l.length) (hn : ∀ j, j < k → l.getD j ⟨#[]⟩ ≠ s) (hs : l.getD k ⟨#[]⟩ = s) : opAt l i s = (i + k, true) := by
  induction l generalizing i k with
  | nil => simp at hk
  | cons x l ih =>
    cases k with
    | zero =>
      have : x = s := by simpa using hs
      simp [opAt, this]
    | succ k =>
      have h0 : x ≠ s := by simpa using hn 0 (by omega)
      have := ih (i + 1) k (by simpa using hk) (fun j hj => by simpa using hn (j + 1) (by omega)) (by simpa using hs)
      rw [opAt, if_neg h0, this]
      simp
      omega
theorem opAt_miss (l : List ByteArray) (i : Int) (s : ByteArray) (hn : ∀ j, j < l.length → l.getD j ⟨#[]⟩ ≠ s) : opAt l i s = (0, false) := by
  induction l generalizing i with
  | nil => rfl
  | cons x l ih =>
    have h0 : x ≠ s := by simpa using hn 0 (by simp)
    rw [opAt, if_neg h0]
    exact ih (i + 1) (fun j hj => by simpa using hn (j + 1) (by simpa using hj))
theorem opR_hit {s : ByteArray} {k : Nat} (hk : k < 11) (h : NoneOf s k) (hs : nm k = s) : opR s = ((k : Int) + 1, true) := by
  unfold opR
  rw [opAt_hit nmL 1 s k hk h hs]
  simp
  omega
theorem opR_miss {s : ByteArray} (h : NoneOf s 11) : opR s = (0, false) := opAt_miss nmL 1 s h
def RetOp (w : World) (s : ByteArray) (e : Ending) (w' : World) : Prop := e = .returned (.tuple #[.int .i64 (opR s).1, .bool (opR s).2]) ∧ Below w.heap.size w w'
theorem retO_hit {w w' : World} {s : ByteArray} {k : Nat} (hk : k < 11) (h : NoneOf s k) (hs : nm k = s) (hb : Below w.heap.size w w') : RetOp w s (.returned (.tuple #[.int .i64 (1 + (k : Int)), .bool true])) w' := by
  unfold RetOp
  rw [opR_hit hk h hs, Int.add_comm]
  exact ⟨rfl, hb⟩
theorem retO_miss {w w' : World} {s : ByteArray} (h : NoneOf s 11) (hb : Below w.heap.size w w') : RetOp w s (.returned (.tuple #[.int .i64 0, .bool false])) w' := by
  unfold RetOp
  rw [opR_miss h]
  exact ⟨rfl, hb⟩

theorem run_index_nm0 (w : World) : (Instr.index 102 (.agg nmA) (.int .i64 (0 : Nat))).run Tryd.prog w = .ok (.string (nm 0)) w := by kernel_rfl
theorem run_index_nm1 (w : World) : (Instr.index 102 (.agg nmA) (.int .i64 (1 : Nat))).run Tryd.prog w = .ok (.string (nm 1)) w := by kernel_rfl
theorem run_index_nm2 (w : World) : (Instr.index 102 (.agg nmA) (.int .i64 (2 : Nat))).run Tryd.prog w = .ok (.string (nm 2)) w := by kernel_rfl
theorem run_index_nm3 (w : World) : (Instr.index 102 (.agg nmA) (.int .i64 (3 : Nat))).run Tryd.prog w = .ok (.string (nm 3)) w := by kernel_rfl
theorem run_index_nm4 (w : World) : (Instr.index 102 (.agg nmA) (.int .i64 (4 : Nat))).run Tryd.prog w = .ok (.string (nm 4)) w := by kernel_rfl
theorem run_index_nm5 (w : World) : (Instr.index 102 (.agg nmA) (.int .i64 (5 : Nat))).run Tryd.prog w = .ok (.string (nm 5)) w := by kernel_rfl
theorem run_index_nm6 (w : World) : (Instr.index 102 (.agg nmA) (.int .i64 (6 : Nat))).run Tryd.prog w = .ok (.string (nm 6)) w := by kernel_rfl
theorem run_index_nm7 (w : World) : (Instr.index 102 (.agg nmA) (.int .i64 (7 : Nat))).run Tryd.prog w = .ok (.string (nm 7)) w := by kernel_rfl
theorem run_index_nm8 (w : World) : (Instr.index 102 (.agg nmA) (.int .i64 (8 : Nat))).run Tryd.prog w = .ok (.string (nm 8)) w := by kernel_rfl
theorem run_index_nm9 (w : World) : (Instr.index 102 (.agg nmA) (.int .i64 (9 : Nat))).run Tryd.prog w = .ok (.string (nm 9)) w := by kernel_rfl
theorem run_index_nm10 (w : World) : (Instr.index 102 (.agg nmA) (.int .i64 (10 : Nat))).run Tryd.prog w = .ok (.string (nm 10)) w := by kernel_rfl
theorem run_index_nm (w : World) (k : Nat) (hk : k < 11) : (Instr.index 102 (.agg nmA) (.int .i64 k)).run Tryd.prog w = .ok (.string (nm k)) w := by
  have : k = 0 ∨ k = 1 ∨ k = 2 ∨ k = 3 ∨ k = 4 ∨ k = 5 ∨ k = 6 ∨ k = 7 ∨ k = 8 ∨ k = 9 ∨ k = 10 := by omega
  rcases this with rfl | rfl | rfl | rfl | rfl | rfl | rfl | rfl | rfl | rfl | rfl
  · exact run_index_nm0 w
  · exact run_index_nm1 w
  · exact run_index_nm2 w
  · exact run_index_nm3 w
  · exact run_index_nm4 w
  · exact run_index_nm5 w
  · exact run_index_nm6 w
  · exact run_index_nm7 w
  · exact run_index_nm8 w
  · exact run_index_nm9 w
  · exact run_index_nm10 w
theorem size_names : (Tryd.prog.info? 102).map (·.size) = some nmA.size := by kernel_rfl

set_option maxHeartbeats 1000000 in
set_option maxRecDepth 100000 in
theorem op_any (s : ByteArray) (w : World) (hg : Glob w) : Calls Tryd.prog 55 #[.string s] w (RetOp w s) := by
  obtain ⟨t, fr, hg1⟩ := hg
  have Hg := Lib.hid hg1
  clear hg1
  go_enter Tryd.func55, Tryd.ntmps55
  go_wp2_with (refine wpList_load_row rfl 102 _ rfl 0 rfl t nmA fr _ Hg.out Tryd.underlying102 rfl size_names ?_)
  go_loop [4, 5, 7] (fun _ _ i => ∃ k : Nat, k ≤ 11 ∧ i = .int .i64 k ∧ NoneOf s k) (fun _ _ i => 11 - (intOf i).toNat)
  case atStart => exact ⟨0, by omega, rfl, NoneOf.zero s⟩
  case round =>
    obtain ⟨k, hk, rfl, hN⟩ := hrel
    have HN := Lib.hid hN
    clear hN
    by_cases hlt : k < 11
    · have hi := run_index_nm w k hlt
      by_cases hs : nm k = s
      · have hq : ((nm k).toList == s.toList) = true := by rw [hs]; simp
        have Hs := Lib.hid hs
        clear hs
        go_wp2
        go_ret2
        exact retO_hit hlt HN.out Hs.out (Below.refl _ _)
      · have hq : ((nm k).toList == s.toList) = false := ba_ne hs
        have Hs := Lib.hid hs
        clear hs
        go_wp2
        go_round
        case rel => exact ⟨k + 1, by omega, by go_num, HN.out.succ Hs.out⟩
        case measure => simp [intOf]; omega
    · obtain rfl : k = 11 := by omega
      go_wp2
      go_ret2
      exact retO_miss HN.out (Below.refl _ _)

theorem retO_rhit {w w' : World} {s : ByteArray} {k : Nat} (h0 : 0 < k) (hk : k < 12) (h : NoneOf s (k - 1)) (hs : rnm k = s) (hb : Below w.heap.size w w') : RetOp w s (.returned (.tuple #[.int .i64 (k : Int), .bool true])) w' := by
  obtain ⟨j, rfl⟩ : ∃ j, k = j + 1 := ⟨k - 1, by omega⟩
  unfold RetOp
  rw [opR_hit (k := j) (by omega) h hs]
  exact ⟨rfl, hb⟩
set_option maxHeartbeats 1000000 in
set_option maxRecDepth 100000 in
theorem rop_any (s : ByteArray) (w : World) : Calls Tryd.prog 56 #[.string s] w (RetOp w s) := by
  go_enter Tryd.func56, Tryd.ntmps56
  go_wp2_with fail
  refine (names_any _).mono ?_
  rintro e w1 ⟨rfl, hcell, hb, -⟩
  have Hc := Lib.hid hcell
  have Hb := Lib.hid hb
  clear hcell hb
  go_wp2_with fail
  go_loop [4, 5, 8] (fun _ _ i => ∃ k : Nat, k ≤ 12 ∧ i = .int .i64 k ∧ NoneOf s (k - 1)) (fun _ _ i => 12 - (intOf i).toNat)
  case atStart => exact ⟨0, by omega, rfl, NoneOf.zero s⟩
  case round =>
    obtain ⟨k, hk, rfl, hN⟩ := hrel
    have HN := Lib.hid hN
    clear hN
    by_cases hlt : k < 12
    · have hi := Hc.out k hlt
      by_cases h0 : 0 < k
      · by_cases hs : rnm k = s
        · have hq : ((rnm k).toList == s.toList) = true := by rw [hs]; simp
          have Hs := Lib.hid hs
          clear hs
          go_wp2
          go_ret2
          exact retO_rhit h0 hlt HN.out Hs.out Hb.out
        · have hq : ((rnm k).toList == s.toList) = false := ba_ne hs
          have Hs := Lib.hid hs
          clear hs
          go_wp2
          go_round
          case rel => exact ⟨k + 1, by omega, by go_num, by
            have := HN.out.succ (k := k - 1) (by rw [← rnm_succ, show k - 1 + 1 = k by omega]; exact Hs.out)
            rw [show k - 1 + 1 = k by omega] at this
            exact this⟩
          case measure => simp [intOf]; omega
      · obtain rfl : k = 0 := by omega
        go_wp2
        go_round
        case rel => exact ⟨1, by omega, by go_num, NoneOf.zero s⟩
        case measure => simp [intOf]
    · obtain rfl : k = 12 := by omega
      go_wp2
      go_ret2
      exact retO_miss HN.out Hb.out
end Go.Proofs.YtilholgbepfopaaDoor
