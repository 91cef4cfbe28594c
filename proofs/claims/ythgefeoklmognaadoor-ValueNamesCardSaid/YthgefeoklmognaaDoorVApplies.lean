/- ValueApplies, walked. -/
import Derived.Test.YthgefeoklmognaaDoorVMath
import Derived.Deep.RegionWith
namespace Go.Proofs.YthgefeoklmognaaDoor
open Go.RowKit Go.MapKept

/-- block b holds two integers -/
structure TwoAt (w : World) (b : Nat) (n m : Int) : Prop where
  c0 : w.cell? ⟨b, 0, none⟩ = some (.int .i64 n)
  c1 : w.cell? ⟨b, 1, none⟩ = some (.int .i64 m)
  lt : b < w.heap.size
theorem TwoAt.new (w : World) (n m : Int) (t : TypeId) : TwoAt (w.alloc (.cells #[.int .i64 n, .int .i64 m] t)) w.heap.size n m :=
  ⟨by rw [cell_of_row _ _ 0 _ _ _ (heap_alloc_new w _)]; rfl, by rw [cell_of_row _ _ 1 _ _ _ (heap_alloc_new w _)]; rfl, by simp⟩
theorem TwoAt.below {w w' : World} {b : Nat} {n m : Int} (h : TwoAt w b n m) (hb : Below w.heap.size w w') : TwoAt w' b n m :=
  ⟨(hb.cell (p := ⟨b, 0, none⟩) h.lt).trans h.c0, (hb.cell (p := ⟨b, 1, none⟩) h.lt).trans h.c1, Nat.lt_of_lt_of_le h.lt hb.size⟩
theorem TwoAt.at_ {w : World} {b : Nat} {n m : Int} (h : TwoAt w b n m) (k : Nat) (hk : k < 2) : ∃ o, w.cell? ⟨b, k, none⟩ = some (.int .i64 o) ∧ (o = n ∨ o = m) := by
  rcases k with _ | _ | k
  · exact ⟨n, h.c0, .inl rfl⟩
  · exact ⟨m, h.c1, .inr rfl⟩
  · omega

/-- what the loop knows -/
structure AppLoop (w : World) (bx by_ bs : Nat) (r s : Bool) (x y n m : Int) (wr : World) : Prop where
  below : Below w.heap.size w wr
  vx : ValAt wr bx r x
  vy : ValAt wr by_ s y
  two : TwoAt wr bs n m
theorem AppLoop.step {w wr w' : World} {bx by_ bs : Nat} {r s : Bool} {x y n m : Int} (h : AppLoop w bx by_ bs r s x y n m wr) (hb : Below wr.heap.size wr w') : AppLoop w bx by_ bs r s x y n m w' :=
  ⟨Below.then_ h.below hb, h.vx.below hb, h.vy.below hb, h.two.below hb⟩

theorem truthy_ex (r : Bool) (n : Int) (w : World) : Calls Tryd.prog 11 #[.agg #[.bool r, .int .i64 n]] w fun e w' => e = .returned (.bool (n != 0)) ∧ w.alloc (.cells #[.bool r, .int .i64 n] 24) = w' := by
  go_enter Tryd.func11, Tryd.ntmps11
  go_wp2
  go_ret
  exact ⟨rfl, rfl⟩
theorem rtruthy_ex (r : Bool) (n : Int) (w : World) : Calls Tryd.prog 12 #[.agg #[.bool r, .int .i64 n]] w fun e w' => e = .returned (.bool (n != 0)) ∧ w.alloc (.cells #[.bool r, .int .i64 n] 24) = w' := by
  go_enter Tryd.func12, Tryd.ntmps12
  go_wp2
  go_ret
  exact ⟨rfl, rfl⟩
set_option maxHeartbeats 1000000 in
set_option maxRecDepth 100000 in
theorem valueApplies_walk (op : Int) (r s : Bool) (x y : Int) (w : World) (hg : Glob w) (h1 : -128 ≤ op) (h2 : op ≤ 127) :
    Calls Tryd.prog 3 #[.int .i8 op, .agg #[.bool r, .int .i64 x], .agg #[.bool s, .int .i64 y]] w (RetB w true) := by
  have Hg := Lib.hid hg
  clear hg
  go_enter Tryd.func3, Tryd.ntmps3
  go_wp2_with fail
  refine (sane_any _ (Hg.out.below (below2 _ _ _))).mono ?_
  rintro e w1 ⟨rfl, hb1⟩
  have V1 := Lib.hid (((ValAt.new w r x 24).alloc (.cells #[.bool s, .int .i64 y] 24)).below hb1)
  have V2 := Lib.hid ((ValAt.new (w.alloc (.cells #[.bool r, .int .i64 x] 24)) s y 24).below hb1)
  have B1 := Lib.hid (Below.then_ (below2 w _ _) hb1)
  clear hb1
  go_wp2_with fail
  have HL : Hid (AppLoop w w.heap.size (w.heap.size + 1) w1.heap.size r s x y op (1 + op % 256 % 11) (w1.alloc (.cells #[.int .i64 op, .int .i64 (1 + op % 256 % 11)] 3))) :=
    Lib.hid ⟨Below.new B1.out _, V1.out.alloc _, by have := V2.out.alloc (.cells #[.int .i64 op, .int .i64 (1 + op % 256 % 11)] 3); simpa using this, TwoAt.new w1 _ _ _⟩
  clear V1 V2 B1 Hg
  go_loopw [28] (fun i wr => ∃ k : Nat, k ≤ 2 ∧ i = .int .i64 k ∧ AppLoop w w.heap.size (w.heap.size + 1) w1.heap.size r s x y op (1 + op % 256 % 11) wr) (fun i _ => 2 - (intOf i).toNat)
  case atStart => exact ⟨0, by omega, rfl, HL.out⟩
  case round =>
    obtain ⟨k, hk, rfl, hLr⟩ := hrel
    clear HL
    have H0 := Lib.hid hLr
    clear hLr
    by_cases hlt : k < 2
    · obtain ⟨o, ho, _⟩ := H0.out.two.at_ k hlt
      obtain ⟨x0, x1, _⟩ := H0.out.vx
      obtain ⟨y0, y1, _⟩ := H0.out.vy
      go_wp2_with fail
      refine (apply_any _ _ _ _ _ _).mono ?_
      rintro e w2 ⟨rfl, hb2⟩
      clear ho x0 x1 y0 y1
      have H2 := Lib.hid (H0.out.step (Below.new hb2 (.cells #[.bool false, .int .i64 (apN o r x s y)] 24)))
      have A1 := Lib.hid (ValAt.new w2 false (apN o r x s y) 24)
      clear hb2
      obtain ⟨x0, x1, _⟩ := H2.out.vx
      obtain ⟨y0, y1, _⟩ := H2.out.vy
      go_wp2_with fail
      refine (rapply_any _ _ _ _ _ _).mono ?_
      rintro e w3 ⟨rfl, hb3⟩
      clear x0 x1 y0 y1
      have H3 := Lib.hid (H2.out.step (Below.new hb3 (.cells #[.bool false, .int .i64 (apN o r x s y)] 24)))
      have A2 := Lib.hid ((A1.out.below hb3).alloc (.cells #[.bool false, .int .i64 (apN o r x s y)] 24))
      have R2 := Lib.hid (ValAt.new w3 false (apN o r x s y) 24)
      clear hb3
      obtain ⟨x0, x1, _⟩ := H3.out.vx
      obtain ⟨y0, y1, _⟩ := H3.out.vy
      go_wp2_with fail
      refine (apply_any _ _ _ _ _ _).mono ?_
      rintro e w4 ⟨rfl, hb4⟩
      clear x0 x1 y0 y1
      have H4 := Lib.hid (H3.out.step (Below.new hb4 (.cells #[.bool false, .int .i64 (apN o false x false y)] 24)))
      have A3 := Lib.hid ((A2.out.below hb4).alloc (.cells #[.bool false, .int .i64 (apN o false x false y)] 24))
      have R3 := Lib.hid ((R2.out.below hb4).alloc (.cells #[.bool false, .int .i64 (apN o false x false y)] 24))
      have P3 := Lib.hid (ValAt.new w4 false (apN o false x false y) 24)
      clear hb4
      obtain ⟨x0, x1, _⟩ := H4.out.vx
      obtain ⟨y0, y1, _⟩ := H4.out.vy
      go_wp2_with fail
      refine (rapply_any _ _ _ _ _ _).mono ?_
      rintro e w5 ⟨rfl, hb5⟩
      clear x0 x1 y0 y1
      have H5 := Lib.hid (H4.out.step (Below.new hb5 (.cells #[.bool false, .int .i64 (apN o false x false y)] 24)))
      obtain ⟨a0, a1, _⟩ := (A3.out.below hb5).alloc (.cells #[.bool false, .int .i64 (apN o false x false y)] 24)
      obtain ⟨r0, r1, _⟩ := (R3.out.below hb5).alloc (.cells #[.bool false, .int .i64 (apN o false x false y)] 24)
      obtain ⟨p0, p1, _⟩ := (P3.out.below hb5).alloc (.cells #[.bool false, .int .i64 (apN o false x false y)] 24)
      clear hb5
      go_wp2_with fail
      clear a0 a1 r0 r1 p0 p1
      go_roundw
      case rel => exact ⟨k + 1, by omega, by go_num, H5.out⟩
      case measure => simp [intOf]; omega
    · obtain rfl : k = 2 := by omega
      obtain ⟨x0, x1, _⟩ := H0.out.vx
      go_wp2_with fail
      go_region_with (first | (go_at_call 11; refine (truthy_ex _ _ _).mono ?_; rintro e w2 ⟨rfl, rfl⟩) | (go_at_call 12; refine (rtruthy_ex _ _ _).mono ?_; rintro e w2 ⟨rfl, rfl⟩))
      all_goals
        go_wp2_with fail
        go_ret
        exact ⟨rfl, (Below.new (Below.new H0.out.below _) _).drew⟩
end Go.Proofs.YthgefeoklmognaaDoor
