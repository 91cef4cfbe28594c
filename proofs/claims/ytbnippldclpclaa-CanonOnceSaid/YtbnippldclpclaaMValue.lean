/- Values and heaps that are made. -/
import Derived.Test.YtbnippldclpclaaMDice
namespace Go.Proofs.Ytbnippldclpclaa
open Go.RowKit

theorem At2.rolls {w w' : World} {b c : Nat} {u v : Value} (h : At2 w c u v) (hr : Rolls b w w') (hne : c ≠ b) : At2 w' c u v :=
  have hb := hr.grown.block c h.lt (fun e => hne (Option.some.inj e))
  ⟨(World.cell?_of_block (a := ⟨c, 0, none⟩) hb).trans h.c0, (World.cell?_of_block (a := ⟨c, 1, none⟩) hb).trans h.c1, (World.frozen?_of_block (a := ⟨c, 0, none⟩) hb).trans h.f0, (World.frozen?_of_block (a := ⟨c, 1, none⟩) hb).trans h.f1, Nat.lt_of_lt_of_le h.lt hr.grown.size⟩
theorem At1.rolls {w w' : World} {b c : Nat} {u : Value} (h : At1 w c u) (hr : Rolls b w w') (hne : c ≠ b) : At1 w' c u :=
  have hb := hr.grown.block c h.lt (fun e => hne (Option.some.inj e))
  ⟨(World.cell?_of_block (a := ⟨c, 0, none⟩) hb).trans h.c0, (World.frozen?_of_block (a := ⟨c, 0, none⟩) hb).trans h.f0, Nat.lt_of_lt_of_le h.lt hr.grown.size⟩
theorem own_rolls {w w' : World} {b base : Nat} {e : TypeId} {size : Nat} {v : Value} {n : Nat} {xs : List Value} (h : w.ownsRow base e size v n xs) (hr : Rolls b w w') (hb : b < base) : w'.ownsRow base e size v n xs := by
  refine ⟨h.1, ?_⟩
  rcases h.2 with hn | ⟨g, cap, cur, rfl, hbg, hgg, rest⟩
  · exact .inl hn
  · exact .inr ⟨g, cap, cur, rfl, hbg, by rw [hr.grown.block g (Array.getElem?_eq_some_iff.1 hgg).1 (fun e => by have := Option.some.inj e; omega)]; exact hgg, rest⟩
theorem Rolls.setCell {b : Nat} {w w1 : World} (h : Rolls b w w1) {p : Addr} (hp : w.heap.size ≤ p.block) (u : Value) : Rolls b w (w1.setCell p u) :=
  ⟨⟨h.grown.os, h.grown.tape, h.grown.output, by simpa [World.setCell] using h.grown.size, fun k hk hne => (Below.heap_setCell w1 p u k (by omega)).trans (h.grown.block k hk hne)⟩, h.dice.far (Nat.lt_of_lt_of_le h.lt hp) u, h.lt⟩
theorem Rolls.grow {b : Nat} {w w1 w2 : World} (h : Rolls b w w1) {r : Option Nat} (hg : w1.grownBy w2 r) (hr : ∀ g, r = some g → w.heap.size ≤ g) : Rolls b w w2 := by
  refine ⟨⟨hg.os.trans h.grown.os, hg.tape.trans h.grown.tape, hg.output.trans h.grown.output, Nat.le_trans h.grown.size hg.size, fun k hk hne => (hg.block k (Nat.lt_of_lt_of_le hk h.grown.size) ?_).trans (h.grown.block k hk hne)⟩, h.dice.grown hg fun g e => Nat.lt_of_lt_of_le h.lt (hr g e), h.lt⟩
  intro e
  have := hr k e.symm
  omega
/-- a made value: a number from -2 to 4, or a reference from 0 to 11 -/
def OkV (x : V) : Prop := -2 ≤ x.2 ∧ x.2 ≤ 11 ∧ (x.1 = true → 0 ≤ x.2)
def RVal (b : Nat) (w : World) (e : Ending) (w' : World) : Prop := ∃ x : V, OkV x ∧ e = .returned (.agg #[.bool x.1, .int .i64 x.2]) ∧ Rolls b w w'

set_option maxHeartbeats 1000000 in
set_option maxRecDepth 100000 in
theorem made_value (b : Nat) (w : World) (h : DiceAt w b) : Calls Try.prog 9 #[.pointer (some ⟨b, 0, none⟩)] w (RVal b w) := by
  have hlt := h.lt
  have hne : w.heap.size ≠ b := by omega
  have R0 := Lib.hid ((Rolls.refl h).below (below1 w (.cells #[.bool false, .int .i64 0] 31)))
  have T0 := Lib.hid (At2.new w (.bool false) (.int .i64 0) 31)
  clear h
  go_enter Try.func9, Try.ntmps9
  go_wp2_with fail
  refine (pick_any b 2 _ R0.out.dice (by decide) (by decide)).mono ?_
  rintro e w1 ⟨k, hk, rfl, hr⟩
  have R1 := Lib.hid (R0.out.then_ hr)
  have T1 := Lib.hid (T0.out.rolls hr hne)
  clear hr R0 T0
  by_cases hk0 : k = 0
  · have d1 : ((k : Int) == 0) = true := by rw [beq_iff_eq]; omega
    go_wp2_with fail
    refine (pick_any b 7 _ R1.out.dice (by decide) (by decide)).mono ?_
    rintro e w2 ⟨j, hj, rfl, hr⟩
    have R2 := Lib.hid (R1.out.then_ hr)
    have T2 := Lib.hid (T1.out.rolls hr hne)
    have f0 := (T1.out.rolls hr hne).f0
    have f1 := (T1.out.rolls hr hne).f1
    have c0 := (T1.out.rolls hr hne).c0
    have c1 := (T1.out.rolls hr hne).c1
    clear hr R1 T1
    go_wp2_with fail
    have hc := T2.out.put2 (.bool false) (.int .i64 ((j : Int) - 2))
    have hc0 := hc.c0
    have hc1 := hc.c1
    refine bodyPost_ret (v := .agg #[.bool false, .int .i64 ((j : Int) - 2)]) (by simp [results, Try.results9, go_sem, hc0, hc1]) rfl ?_
    exact ⟨(false, (j : Int) - 2), ⟨by show -2 ≤ (j : Int) - 2; omega, by show (j : Int) - 2 ≤ 11; omega, fun h => by cases h⟩, rfl, (R2.out.setCell (p := ⟨w.heap.size, 0, none⟩) (Nat.le_refl _) _).setCell (p := ⟨w.heap.size, 1, none⟩) (Nat.le_refl _) _⟩
  · have d1 : ((k : Int) == 0) = false := by rw [beq_eq_false_iff_ne]; omega
    go_wp2_with fail
    refine (pick_any b 12 _ R1.out.dice (by decide) (by decide)).mono ?_
    rintro e w2 ⟨j, hj, rfl, hr⟩
    have R2 := Lib.hid (R1.out.then_ hr)
    have T2 := Lib.hid (T1.out.rolls hr hne)
    have f0 := (T1.out.rolls hr hne).f0
    have f1 := (T1.out.rolls hr hne).f1
    have c0 := (T1.out.rolls hr hne).c0
    have c1 := (T1.out.rolls hr hne).c1
    clear hr R1 T1
    go_wp2_with fail
    have hc := T2.out.put2 (.bool true) (.int .i64 (j : Int))
    have hc0 := hc.c0
    have hc1 := hc.c1
    refine bodyPost_ret (v := .agg #[.bool true, .int .i64 (j : Int)]) (by simp [results, Try.results9, go_sem, hc0, hc1]) rfl ?_
    exact ⟨(true, (j : Int)), ⟨by show -2 ≤ (j : Int); omega, by show (j : Int) ≤ 11; omega, fun _ => by show 0 ≤ (j : Int); omega⟩, rfl, (R2.out.setCell (p := ⟨w.heap.size, 0, none⟩) (Nat.le_refl _) _).setCell (p := ⟨w.heap.size, 1, none⟩) (Nat.le_refl _) _⟩
end Go.Proofs.Ytbnippldclpclaa
