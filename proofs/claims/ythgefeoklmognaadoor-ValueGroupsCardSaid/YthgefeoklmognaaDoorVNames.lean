/- ValueNames, walked. -/
import Derived.Test.YthgefeoklmognaaDoorVApplies
namespace Go.Proofs.YthgefeoklmognaaDoor
open Go.RowKit Go.MapKept

theorem opR_nm {o : Int} (h : opB o = true) : opR (opNm o) = (o, true) := by
  have h' := of_decide_eq_true h
  have : o = 1 ∨ o = 2 ∨ o = 3 ∨ o = 4 ∨ o = 5 ∨ o = 6 ∨ o = 7 ∨ o = 8 ∨ o = 9 ∨ o = 10 ∨ o = 11 := by omega
  rcases this with rfl | rfl | rfl | rfl | rfl | rfl | rfl | rfl | rfl | rfl | rfl <;> decide +kernel

/-- what the loop knows -/
structure NamLoop (w : World) (bs : Nat) (n m : Int) (wr : World) : Prop where
  below : Below w.heap.size w wr
  two : TwoAt wr bs n m
theorem NamLoop.step {w wr w' : World} {bs : Nat} {n m : Int} (h : NamLoop w bs n m wr) (hb : Below wr.heap.size wr w') : NamLoop w bs n m w' :=
  ⟨Below.then_ h.below hb, h.two.below hb⟩
theorem retO_of {s : ByteArray} {i : Int} {b : Bool} (h : opR s = (i, b)) {w : World} {e : Ending} {w' : World} (hr : RetO w s e w') : e = .returned (.tuple #[.int .i64 i, .bool b]) ∧ Below w.heap.size w w' := by
  unfold RetO at hr
  rw [h] at hr
  exact hr

set_option maxHeartbeats 2000000 in
set_option maxRecDepth 100000 in
theorem valueNames_walk (op : Int) (s : ByteArray) (w : World) (hg : Glob w) :
    Calls Tryd.prog 4 #[.int .i64 op, .string s] w (RetB w true) := by
  have Hg := Lib.hid hg
  clear hg
  go_enter Tryd.func4, Tryd.ntmps4
  go_wp2_with fail
  refine (sane_any _ Hg.out).mono ?_
  rintro e w1 ⟨rfl, hb1⟩
  have B1 := Lib.hid hb1
  clear hb1
  go_wp2_with fail
  have HL : Hid (NamLoop w w1.heap.size op (op.tmod 16) (w1.alloc (.cells #[.int .i64 op, .int .i64 (op.tmod 16)] 3))) :=
    Lib.hid ⟨Below.new B1.out _, TwoAt.new w1 _ _ _⟩
  clear B1
  go_loopw [28] (fun i wr => ∃ k : Nat, k ≤ 2 ∧ i = .int .i64 k ∧ NamLoop w w1.heap.size op (op.tmod 16) wr) (fun i _ => 2 - (intOf i).toNat)
  case atStart => exact ⟨0, by omega, rfl, HL.out⟩
  case round =>
    obtain ⟨k, hk, rfl, hLr⟩ := hrel
    clear HL
    have H0 := Lib.hid hLr
    clear hLr
    by_cases hlt : k < 2
    · obtain ⟨o, ho, _⟩ := H0.out.two.at_ k hlt
      go_wp2_with fail
      refine (name_any _ _ (Hg.out.below H0.out.below)).mono ?_
      rintro e w2 ⟨rfl, hb2⟩
      clear ho
      have H2 := Lib.hid (H0.out.step hb2)
      clear hb2
      go_wp2_with fail
      refine (rname_any _ _).mono ?_
      rintro e w3 ⟨rfl, hb3⟩
      have H3 := Lib.hid (H2.out.step hb3)
      clear hb3
      go_wp2_with fail
      refine (unit_any _ _).mono ?_
      rintro e w4 ⟨rfl, hb4⟩
      have H4 := Lib.hid (H3.out.step (Below.new hb4 (.cells #[.bool false, .int .i64 (unitN o)] 24)))
      have U4 := Lib.hid (ValAt.new w4 false (unitN o) 24)
      clear hb4
      go_wp2_with fail
      refine (runit_any _ _).mono ?_
      rintro e w5 ⟨rfl, hb5⟩
      have H5 := Lib.hid (H4.out.step (Below.new hb5 (.cells #[.bool false, .int .i64 (unitN o)] 24)))
      have U5 := Lib.hid ((U4.out.below hb5).alloc (.cells #[.bool false, .int .i64 (unitN o)] 24))
      have V5 := Lib.hid (ValAt.new w5 false (unitN o) 24)
      clear hb5
      go_wp2_with fail
      cases hB : opB o with
      | true =>
        have HR := Lib.hid (opR_nm hB)
        have HB := Lib.hid hB
        clear hB
        refine (op_any _ _ (Hg.out.below H5.out.below)).mono ?_
        rintro e w6 hr
        obtain ⟨rfl, hb6⟩ := retO_of HR.out hr
        clear hr
        have H6 := Lib.hid (H5.out.step hb6)
        obtain ⟨u0, u1, _⟩ := U5.out.below hb6
        obtain ⟨v0, v1, _⟩ := V5.out.below hb6
        clear hb6
        go_wp2_with fail
        refine (assoc_any _ _).mono ?_
        rintro e w7 ⟨rfl, hb7⟩
        have H7 := Lib.hid (H6.out.step hb7)
        clear hb7 u0 u1 v0 v1
        go_wp2_with fail
        refine (assoc_any _ _).mono ?_
        rintro e w8 ⟨rfl, hb8⟩
        have H8 := Lib.hid (H7.out.step hb8)
        clear hb8
        go_wp2_with fail
        refine (rassoc_any _ _).mono ?_
        rintro e w9 ⟨rfl, hb9⟩
        have H9 := Lib.hid (H8.out.step hb9)
        clear hb9
        go_wp2_with fail
        go_roundw
        case rel => exact ⟨k + 1, by omega, by go_num, H9.out⟩
        case measure => simp [intOf]; omega
      | false =>
        have HB := Lib.hid hB
        clear hB
        refine (op_any _ _ (Hg.out.below H5.out.below)).mono ?_
        rintro e w6 ⟨rfl, hb6⟩
        have H6 := Lib.hid (H5.out.step hb6)
        obtain ⟨u0, u1, _⟩ := U5.out.below hb6
        obtain ⟨v0, v1, _⟩ := V5.out.below hb6
        clear hb6
        go_wp2_with fail
        refine (assoc_any _ _).mono ?_
        rintro e w7 ⟨rfl, hb7⟩
        have H7 := Lib.hid (H6.out.step hb7)
        clear hb7 u0 u1 v0 v1
        go_wp2_with fail
        refine (assoc_any _ _).mono ?_
        rintro e w8 ⟨rfl, hb8⟩
        have H8 := Lib.hid (H7.out.step hb8)
        clear hb8
        go_wp2_with fail
        refine (rassoc_any _ _).mono ?_
        rintro e w9 ⟨rfl, hb9⟩
        have H9 := Lib.hid (H8.out.step hb9)
        clear hb9
        go_wp2_with fail
        go_roundw
        case rel => exact ⟨k + 1, by omega, by go_num, H9.out⟩
        case measure => simp [intOf]; omega
    · obtain rfl : k = 2 := by omega
      go_wp2_with fail
      refine (op_any _ _ (Hg.out.below H0.out.below)).mono ?_
      rintro e w2 ⟨rfl, hb2⟩
      have H2 := Lib.hid (H0.out.step hb2)
      clear hb2
      go_wp2_with fail
      refine (rop_any _ _).mono ?_
      rintro e w3 ⟨rfl, hb3⟩
      have H3 := Lib.hid (H2.out.step hb3)
      clear hb3
      go_wp2_with fail
      go_ret
      exact ⟨rfl, H3.out.below⟩
end Go.Proofs.YthgefeoklmognaaDoor
