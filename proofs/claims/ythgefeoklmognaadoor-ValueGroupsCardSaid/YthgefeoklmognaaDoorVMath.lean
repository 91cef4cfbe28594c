/- Numbers: what groups, what is exchanged, units, quotients. -/
import Derived.Test.YthgefeoklmognaaDoorVSane
namespace Go.Proofs.YthgefeoklmognaaDoor
open Go.RowKit

def In64 (x : Int) : Prop := -9223372036854775808 ≤ x ∧ x ≤ 9223372036854775807
abbrev bv (x : Int) : BitVec 64 := BitVec.ofInt 64 x
theorem wrap64_bmod (n : Int) : wrap64 n = Int.bmod n 18446744073709551616 := by
  unfold wrap64 Int.bmod
  dsimp only
  split <;> omega
theorem wrap64_bv (n : Int) : wrap64 n = (bv n).toInt := by rw [wrap64_bmod, BitVec.toInt_ofInt]
theorem bv_wrap (n : Int) : bv (wrap64 n) = bv n := by rw [wrap64_bv, bv, BitVec.ofInt_toInt]
theorem wrap64_in' {n : Int} (h : In64 n) : wrap64 n = n := by unfold In64 at h; unfold wrap64; omega
theorem in_wrap (n : Int) : In64 (wrap64 n) := by unfold In64 wrap64; omega
theorem wrap_nat (v : BitVec 64) : IntKind.i64.wrap (v.toNat : Int) = v.toInt := by
  rw [IntWalk.i64_left, wrap64_bmod, BitVec.toInt_eq_toNat_bmod]
theorem bits_and (x y : Int) : bits .and .i64 x y = (bv x &&& bv y).toInt := wrap_nat _
theorem bits_or (x y : Int) : bits .or .i64 x y = (bv x ||| bv y).toInt := wrap_nat _
theorem bits_xor (x y : Int) : bits .xor .i64 x y = (bv x ^^^ bv y).toInt := wrap_nat _
theorem bv_toInt (v : BitVec 64) : bv v.toInt = v := BitVec.ofInt_toInt
theorem toInt_bv {x : Int} (h : In64 x) : (bv x).toInt = x := by rw [← wrap64_bv]; exact wrap64_in' h

/-- the operators that may be grouped, one by one -/
theorem add_a (a b c : Int) : wrap64 (wrap64 (a + b) + c) = wrap64 (a + wrap64 (b + c)) := by unfold wrap64; omega
theorem mul_a (a b c : Int) : wrap64 (wrap64 (a * b) * c) = wrap64 (a * wrap64 (b * c)) := by
  rw [wrap64_bv (wrap64 (a * b) * c), wrap64_bv (a * wrap64 (b * c))]
  unfold bv
  rw [BitVec.ofInt_mul, BitVec.ofInt_mul]
  have e1 := bv_wrap (a * b)
  have e2 := bv_wrap (b * c)
  unfold bv at e1 e2
  rw [e1, e2, BitVec.ofInt_mul, BitVec.ofInt_mul, BitVec.mul_assoc]
theorem min_a (a b c : Int) : minN (minN a b) c = minN a (minN b c) := by unfold minN; repeat' split <;> omega
theorem max_a (a b c : Int) : maxN (maxN a b) c = maxN a (maxN b c) := by unfold maxN; repeat' split <;> omega
theorem and_a (a b c : Int) : bits .and .i64 (bits .and .i64 a b) c = bits .and .i64 a (bits .and .i64 b c) := by
  rw [bits_and, bits_and, bits_and a, bits_and b, bv_toInt, bv_toInt, BitVec.and_assoc]
theorem or_a (a b c : Int) : bits .or .i64 (bits .or .i64 a b) c = bits .or .i64 a (bits .or .i64 b c) := by
  rw [bits_or, bits_or, bits_or a, bits_or b, bv_toInt, bv_toInt, BitVec.or_assoc]
theorem xor_a (a b c : Int) : bits .xor .i64 (bits .xor .i64 a b) c = bits .xor .i64 a (bits .xor .i64 b c) := by
  rw [bits_xor, bits_xor, bits_xor a, bits_xor b, bv_toInt, bv_toInt, BitVec.xor_assoc]
theorem min_c (a b : Int) : minN a b = minN b a := by unfold minN; split <;> split <;> omega
theorem max_c (a b : Int) : maxN a b = maxN b a := by unfold maxN; split <;> split <;> omega

theorem atN1 (x y : Int) : atN 1 x y = wrap64 (x + y) := rfl
theorem atN2 (x y : Int) : atN 2 x y = wrap64 (x - y) := rfl
theorem atN3 (x y : Int) : atN 3 x y = wrap64 (x * y) := rfl
theorem atN5 (x y : Int) : atN 5 x y = minN x y := rfl
theorem atN6 (x y : Int) : atN 6 x y = maxN x y := rfl
theorem atN7 (x y : Int) : atN 7 x y = bits .and .i64 x y := rfl
theorem atN8 (x y : Int) : atN 8 x y = bits .or .i64 x y := rfl
theorem atN9 (x y : Int) : atN 9 x y = bits .xor .i64 x y := rfl
theorem atN10 (x y : Int) : atN 10 x y = lessN x y := rfl
theorem atN11 (x y : Int) : atN 11 x y = sameN false false x y := rfl
theorem atN4 {x y : Int} (h : ¬ y = 0) : atN 4 x y = wrap64 (x.tdiv y) := by
  unfold atN apN
  rw [if_neg (by omega), if_neg (by simp), if_neg (by simp [h])]
  rfl

theorem groups_a {o : Int} (h : assocB o = true) (a b c : Int) : atN o (atN o a b) c = atN o a (atN o b c) := by
  rcases assoc_cases h with rfl | rfl | rfl | rfl | rfl | rfl | rfl
  · simp only [atN1]; exact add_a a b c
  · simp only [atN3]; exact mul_a a b c
  · simp only [atN5]; exact min_a a b c
  · simp only [atN6]; exact max_a a b c
  · simp only [atN7]; exact and_a a b c
  · simp only [atN8]; exact or_a a b c
  · simp only [atN9]; exact xor_a a b c
theorem groups_c {o : Int} (h : assocB o = true) (a b : Int) : atN o a b = atN o b a := by
  rcases assoc_cases h with rfl | rfl | rfl | rfl | rfl | rfl | rfl
  · simp only [atN1, Int.add_comm]
  · simp only [atN3, Int.mul_comm]
  · simp only [atN5]; exact min_c a b
  · simp only [atN6]; exact max_c a b
  · simp only [atN7, bits_and, BitVec.and_comm]
  · simp only [atN8, bits_or, BitVec.or_comm]
  · simp only [atN9, bits_xor, BitVec.xor_comm]
theorem groups_u {o : Int} (h : assocB o = true) {a : Int} (ha : In64 a) : atN o a (unitN o) = a := by
  have ha' := ha
  unfold In64 at ha'
  rcases assoc_cases h with rfl | rfl | rfl | rfl | rfl | rfl | rfl
  · show wrap64 (a + 0) = a
    rw [Int.add_zero]
    exact wrap64_in' ha
  · show wrap64 (a * 1) = a
    rw [Int.mul_one]
    exact wrap64_in' ha
  · show minN a 9223372036854775807 = a
    unfold minN
    split <;> omega
  · show maxN a (-9223372036854775808) = a
    unfold maxN
    split <;> omega
  · show bits .and .i64 a (-1) = a
    rw [bits_and, show bv (-1) = BitVec.allOnes 64 by decide, BitVec.and_allOnes]
    exact toInt_bv ha
  · show bits .or .i64 a 0 = a
    rw [bits_or, show bv 0 = 0#64 by decide, BitVec.or_zero]
    exact toInt_bv ha
  · show bits .xor .i64 a 0 = a
    rw [bits_xor, show bv 0 = 0#64 by decide, BitVec.xor_zero]
    exact toInt_bv ha
theorem groups_v {o : Int} (h : assocB o = true) {a : Int} (ha : In64 a) : atN o (unitN o) a = a := by rw [groups_c h]; exact groups_u h ha

/-- how less, equal, min and max belong together -/
theorem order_one (a b : Int) : atN 10 a b + atN 10 b a + atN 11 a b = 1 := by
  rw [atN10, atN10, atN11]
  unfold lessN sameN
  rcases Int.lt_trichotomy a b with h | h | h
  · rw [if_pos h, if_neg (by omega), if_neg (fun q => by omega)]; rfl
  · subst h
    rw [if_neg (by omega), if_pos ⟨rfl, rfl⟩]; rfl
  · rw [if_neg (by omega), if_pos h, if_neg (fun q => by omega)]; rfl
theorem order_less (a b : Int) : atN 10 (atN 6 a b) (atN 5 a b) = 0 := by
  rw [atN10, atN6, atN5]
  unfold lessN maxN minN
  repeat' split <;> omega
theorem order_add (a b : Int) : atN 1 (atN 5 a b) (atN 6 a b) = atN 1 a b := by
  rw [atN1, atN1, atN6, atN5]
  unfold maxN minN
  repeat' split
  all_goals
    congr 1
    try omega
theorem order_xor (a b : Int) : atN 9 (atN 7 a b) (atN 8 a b) = atN 9 a b := by
  rw [atN9, atN9, atN7, atN8, bits_and, bits_or, bits_xor, bits_xor, bv_toInt, bv_toInt]
  congr 1
  ext i hi
  simp
  cases (bv a)[i] <;> cases (bv b)[i] <;> rfl
/-- the rest of a quotient -/
def restN (a b : Int) : Int := atN 2 a (atN 3 (atN 4 a b) b)
theorem rest_m {a : Int} (_ha : In64 a) : restN a (-1) = 0 := by
  unfold restN
  rw [atN4 (by omega), atN3, atN2, Int.tdiv_neg, Int.tdiv_one]
  unfold wrap64
  omega
theorem mul_w (q b : Int) : wrap64 (wrap64 q * b) = wrap64 (q * b) := by
  rw [wrap64_bv (wrap64 q * b), wrap64_bv (q * b)]
  have e := bv_wrap q
  unfold bv at *
  rw [BitVec.ofInt_mul, BitVec.ofInt_mul, e]
theorem sub_w (a x : Int) : wrap64 (a - wrap64 x) = wrap64 (a - x) := by unfold wrap64; omega
theorem rest_b {a b : Int} (ha : In64 a) (hb : ¬ b = 0) : restN a b = a.tmod b := by
  unfold restN
  rw [atN4 hb, atN3, atN2, mul_w, sub_w]
  have h1 : b * (a.tdiv b) + a.tmod b = a := Int.mul_tdiv_add_tmod a b
  have h2 : a - (a.tdiv b) * b = a.tmod b := by rw [Int.mul_comm]; omega
  rw [h2]
  have h3 : (a.tmod b).natAbs ≤ a.natAbs := by rw [Int.natAbs_tmod]; exact Nat.mod_le _ _
  apply wrap64_in'
  unfold In64 at *
  rcases Int.le_total 0 a with h | h
  · have := Int.tmod_nonneg b h
    omega
  · have := Int.tmod_nonneg b (a := -a) (by omega)
    rw [Int.neg_tmod] at this
    omega
end Go.Proofs.YthgefeoklmognaaDoor
