/- Contracts of the tests on a string: isPlain, Plain; the pairs: pair, swap. -/
import Derived.Test.YtfolocahchohdaaDoorWLeaf
import Derived.Test.YtfolocahchohdaaDoorShelf
namespace Go.Proofs.YtfolocahchohdaaDoor
open Go.RowKit WMath

theorem isPlainL_eq (s : ByteArray) (h : ((bl s).take s.size).all plainB = true) : (!s.toList.isEmpty) = isPlainL (bl s) := by
  rw [bl_take_all s s.size (Nat.le_refl _)] at h
  rw [bl_toList]
  unfold isPlainL
  rw [h]
  rfl
theorem isPlainL_hit (s : ByteArray) (k : Nat) (h : k < s.size) (hb : plainB s[k] = false) : isPlainL (bl s) = false := by
  have hm : s[k] ∈ bl s := List.mem_of_getElem? (bl_get s k h)
  unfold isPlainL
  rw [List.all_eq_false.2 ⟨_, hm, by simp [hb]⟩]
  rfl

theorem all_take_snoc (s : ByteArray) (k : Nat) (h : k < s.size) (ha : ((bl s).take k).all plainB = true) (hb : plainB s[k] = true) : ((bl s).take (k + 1)).all plainB = true := by
  rw [bl_take s k h, List.all_append, ha]
  simp [hb]

set_option maxHeartbeats 400000 in
set_option maxRecDepth 100000 in
theorem isPlain_any (s : ByteArray) (w : World) (hs : s.size ≤ maxLen) :
    Calls Tryd.prog 37 #[.string s] w fun e w' => e = .returned (.bool (isPlainL (bl s))) ∧ Below w.heap.size w w' := by
  unfold maxLen at hs
  obtain ⟨W, c, hcv, hB, hcell, hsz⟩ := bytes_of_string (P := Tryd.prog) w 9 47 5 s Tryd.underlying9 Tryd.underlying47 Tryd.underlying5
  have HB := Lib.hid hB
  clear hB hsz
  go_enter Tryd.func37, Tryd.ntmps37
  go_wp2
  clear hcv
  go_loop [4, 8] (fun _ i => ∃ k : Nat, k ≤ s.size ∧ i = .int .i64 k ∧ (((bl s).take k).all plainB = true)) (fun _ i => s.size - (intOf i).toNat)
  case atStart => exact ⟨0, Nat.zero_le _, rfl, rfl⟩
  case round =>
    obtain ⟨k, hk, rfl, hall⟩ := hrel
    have Hall := Lib.hid hall
    clear hall
    by_cases hlt : k < s.size
    · have hc := hcell k hlt
      clear hcell
      go_wp2_with (first | (go_at_call 47; refine (isPlainByte_any _ _).mono ?_; rintro e w' ⟨rfl, rfl⟩))
      · go_ret
        exact ⟨by rw [isPlainL_hit s k hlt (of_not (by assumption))]; rfl, HB.out⟩
      · go_round
        case rel => exact ⟨k + 1, by omega, by go_num, all_take_snoc s k hlt Hall.out (of_not' (by assumption))⟩
        case measure => simp [intOf]; omega
    · obtain rfl : k = s.size := by omega
      clear hcell
      go_wp2
      go_ret
      exact ⟨by rw [← isPlainL_eq s Hall.out]; rfl, HB.out⟩

set_option maxHeartbeats 400000 in
set_option maxRecDepth 100000 in
theorem plain_any (s : ByteArray) (w : World) (hs : s.size ≤ maxLen) :
    Calls Tryd.prog 39 #[.string s] w fun e w' => e = .returned (.bool (isPlainL (bl s))) ∧ w = w' := by
  unfold maxLen at hs
  go_enter Tryd.func39, Tryd.ntmps39
  go_wp2
  go_loop [3] (fun i => ∃ k : Nat, k ≤ s.size ∧ i = .int .i64 k ∧ (((bl s).take k).all plainB = true)) (fun i => s.size - (intOf i).toNat)
  case atStart => exact ⟨0, Nat.zero_le _, rfl, rfl⟩
  case round =>
    obtain ⟨k, hk, rfl, hall⟩ := hrel
    have Hall := Lib.hid hall
    clear hall
    by_cases hlt : k < s.size
    · go_wp2_with (first | (go_at_call 33; refine (plainByte_any _ _).mono ?_; rintro e w' ⟨rfl, rfl⟩))
      · go_ret
        exact ⟨by rw [isPlainL_hit s k hlt (of_not (by assumption))]; rfl, rfl⟩
      · go_round
        case rel => exact ⟨k + 1, by omega, by go_num, all_take_snoc s k hlt Hall.out (of_not' (by assumption))⟩
        case measure => simp [intOf]; omega
    · obtain rfl : k = s.size := by omega
      go_wp2
      go_ret
      exact ⟨by rw [← isPlainL_eq s Hall.out]; rfl, rfl⟩

set_option maxHeartbeats 400000 in
theorem pair_any (b : UInt8) (w : World) :
    Calls Tryd.prog 34 #[.int .u8 (b.toNat : Int)] w fun e w' => e = .returned (.tuple #[.int .u8 ((unesc b).getD 0).toNat, .bool (unesc b).isSome]) ∧ w = w' := by
  go_enter Tryd.func34, Tryd.ntmps34
  go_wp2
  · have h1 := u8_eq b 34 (by assumption)
    go_ret2
    subst h1
    exact ⟨rfl, rfl⟩
  · have h1 := u8_eq b 92 (by assumption)
    go_ret2
    subst h1
    exact ⟨rfl, rfl⟩
  · have h1 := u8_eq b 110 (by assumption)
    go_ret2
    subst h1
    exact ⟨rfl, rfl⟩
  · have h1 := u8_eq b 114 (by assumption)
    go_ret2
    subst h1
    exact ⟨rfl, rfl⟩
  · have h1 := u8_ne b 34 (by assumption)
    have h2 := u8_ne b 92 (by assumption)
    have h3 := u8_ne b 110 (by assumption)
    have h4 := u8_ne b 114 (by assumption)
    have hu : unesc b = none := by unfold unesc; rw [if_neg h1, if_neg h2, if_neg h3, if_neg h4]
    go_ret2
    rw [hu]
    exact ⟨rfl, rfl⟩

theorem indexByte4 (a b c d x : UInt8) : Lib.indexByte [a, b, c, d] x = if a = x then 0 else if b = x then 1 else if c = x then 2 else if d = x then 3 else -1 := by
  simp only [Lib.indexByte, beq_iff_eq]
  by_cases h1 : a = x <;> by_cases h2 : b = x <;> by_cases h3 : c = x <;> by_cases h4 : d = x <;> simp [h1, h2, h3, h4]

/-- the byte of the second four at the place of c among the first four -/
def swapD (c p0 p1 p2 p3 q0 q1 q2 q3 : UInt8) : Option UInt8 := if p0 = c then some q0 else if p1 = c then some q1 else if p2 = c then some q2 else if p3 = c then some q3 else none
theorem swapD_cases (c p0 p1 p2 p3 q0 q1 q2 q3 : UInt8) :
    (Lib.indexByte [p0, p1, p2, p3] c = 0 ∧ swapD c p0 p1 p2 p3 q0 q1 q2 q3 = some q0) ∨ (Lib.indexByte [p0, p1, p2, p3] c = 1 ∧ swapD c p0 p1 p2 p3 q0 q1 q2 q3 = some q1) ∨
    (Lib.indexByte [p0, p1, p2, p3] c = 2 ∧ swapD c p0 p1 p2 p3 q0 q1 q2 q3 = some q2) ∨ (Lib.indexByte [p0, p1, p2, p3] c = 3 ∧ swapD c p0 p1 p2 p3 q0 q1 q2 q3 = some q3) ∨
    (Lib.indexByte [p0, p1, p2, p3] c = -1 ∧ swapD c p0 p1 p2 p3 q0 q1 q2 q3 = none) := by
  rw [indexByte4]
  unfold swapD
  by_cases h1 : p0 = c <;> by_cases h2 : p1 = c <;> by_cases h3 : p2 = c <;> by_cases h4 : p3 = c <;> simp [h1, h2, h3, h4]
theorem swapD_unesc (c : UInt8) : swapD c 34 92 110 114 34 92 10 13 = unesc c := by
  unfold swapD unesc
  simp only [eq_comm]
theorem swapD_escB (c : UInt8) : swapD c 34 92 10 13 34 92 110 114 = escB c := by
  unfold swapD escB
  simp only [eq_comm]
/-- what swap hands back -/
def Swapped (o : Option UInt8) (w : World) (e : Ending) (w' : World) : Prop := e = .returned (.tuple #[.int .u8 (o.getD 0).toNat, .bool o.isSome]) ∧ w = w'

set_option maxHeartbeats 400000 in
theorem swap_any (c p0 p1 p2 p3 q0 q1 q2 q3 : UInt8) (w : World) :
    Calls Tryd.prog 38 #[.int .u8 (c.toNat : Int), .string ⟨#[p0, p1, p2, p3]⟩, .string ⟨#[q0, q1, q2, q3]⟩] w (Swapped (swapD c p0 p1 p2 p3 q0 q1 q2 q3) w) := by
  rcases swapD_cases c p0 p1 p2 p3 q0 q1 q2 q3 with ⟨hi, hs⟩ | ⟨hi, hs⟩ | ⟨hi, hs⟩ | ⟨hi, hs⟩ | ⟨hi, hs⟩
  all_goals
    rw [hs]
    have Hi := Lib.hid hi
    clear hi hs
    go_enter Tryd.func38, Tryd.ntmps38
    go_wp2_with (go_at_call 48; refine (Tryd.strings_IndexByte _ _ _).mono ?_; rintro e w' ⟨rfl, rfl⟩; rw [show (Int.toNat (c.toNat : Int)).toUInt8 = c by simp, Hi.out])
    go_ret2
    exact ⟨rfl, rfl⟩
end Go.Proofs.YtfolocahchohdaaDoor
