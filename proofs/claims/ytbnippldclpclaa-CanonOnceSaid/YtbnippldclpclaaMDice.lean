/- Dice: numbers picked from seeds. -/
import Derived.Test.YtbnippldclpclaaHQ
namespace Go.Proofs.Ytbnippldclpclaa
open Go.RowKit

/-- block b holds dice: at most 200 seeds, and a place among them; the seeds lie below -/
def DiceAt (w : World) (b : Nat) : Prop := ∃ (a : Option Addr) (n c k : Nat) (l : List Nat), At2 w b (.slice a n c) (.int .i64 k) ∧ SlAt w 1 (.slice a n c) n (l.map fun (x : Nat) => Value.int .u8 (x : Int)) ∧ n ≤ 200 ∧ k ≤ n ∧ (∀ x ∈ l, x ≤ 255) ∧ ∀ ad, a = some ad → 0 < n → ad.block < b
/-- from w to w' nothing old but block b has changed, and there are dice in it again -/
structure Rolls (b : Nat) (w w' : World) : Prop where
  grown : w.grownBy w' (some b)
  dice : DiceAt w' b
  lt : b < w.heap.size
theorem grownBy_trans {w w1 w2 : World} {r : Option Nat} (h : w.grownBy w1 r) (h2 : w1.grownBy w2 r) : w.grownBy w2 r :=
  ⟨h2.os.trans h.os, h2.tape.trans h.tape, h2.output.trans h.output, Nat.le_trans h.size h2.size, fun k hk hne => (h2.block k (Nat.lt_of_lt_of_le hk h.size) hne).trans (h.block k hk hne)⟩
theorem grownBy_of_below {w w' : World} (h : Below w.heap.size w w') (r : Option Nat) : w.grownBy w' r := ⟨h.os, h.tape, h.output, h.size, fun k hk _ => h.block k hk⟩
theorem grownBy_set {w : World} {b o : Nat} (u : Value) : w.grownBy (w.setCell ⟨b, o, none⟩ u) (some b) :=
  ⟨rfl, rfl, rfl, by simp [World.setCell], fun k _ hne => Below.heap_setCell w ⟨b, o, none⟩ u k (fun e => hne (by rw [e]))⟩
theorem SlAt.agree {w w' : World} {sz n : Nat} {v : Value} {xs : List Value} (h : SlAt w sz v n xs) (hb : ∀ ad c, v = .slice (some ad) n c → 0 < n → w'.heap[ad.block]? = w.heap[ad.block]?) : SlAt w' sz v n xs := by
  rcases h with h | ⟨ad, c, hv, hnc, hl, hc⟩
  · exact .inl h
  · refine .inr ⟨ad, c, hv, hnc, hl, fun j u hj => (World.cell?_of_block ?_).trans (hc j u hj)⟩
    have e : (ad.add j).block = ad.block := by unfold Addr.add; split <;> rfl
    rw [e]
    refine hb ad c hv ?_
    have hlt := (List.getElem?_eq_some_iff.1 hj).1
    rw [hl] at hlt
    exact Nat.pos_of_ne_zero (fun e => by rw [e] at hlt; simp at hlt)
theorem At2.put1 {w : World} {b : Nat} {u0 u1 : Value} (h : At2 w b u0 u1) (v : Value) : At2 (w.setCell ⟨b, 1, none⟩ v) b u0 v :=
  ⟨(World.cell?_setCell_other _ _ _ _ (by simp)).trans h.c0, World.cell?_setCell_same' _ _ _ (by rw [h.c1]; rfl), by simpa using h.f0, by simpa using h.f1, by simpa [World.setCell] using h.lt⟩
theorem DiceAt.lt {w : World} {b : Nat} (h : DiceAt w b) : b < w.heap.size := by
  obtain ⟨a, n, c, k, l, h, _⟩ := h
  exact h.lt
theorem DiceAt.below {w w' : World} {b : Nat} (h : DiceAt w b) (hb : Below w.heap.size w w') : DiceAt w' b := by
  obtain ⟨a, n, c, k, l, h1, h2, h3⟩ := h
  exact ⟨a, n, c, k, l, h1.below hb, h2.below hb, h3⟩
theorem DiceAt.far {w : World} {b : Nat} (h : DiceAt w b) {p : Addr} (hp : b < p.block) (u : Value) : DiceAt (w.setCell p u) b := by
  obtain ⟨a, n, c, k, l, h1, h2, h3, h4, h5, h6⟩ := h
  refine ⟨a, n, c, k, l, h1.far (by omega) u, h2.agree fun ad c e hn => heap_far w p u _ ?_, h3, h4, h5, h6⟩
  have := h6 ad (Value.slice.inj e).1 hn
  omega
theorem DiceAt.grown {w w' : World} {b : Nat} (h : DiceAt w b) {r : Option Nat} (hg : w.grownBy w' r) (hr : ∀ g, r = some g → b < g) : DiceAt w' b := by
  obtain ⟨a, n, c, k, l, h1, h2, h3, h4, h5, h6⟩ := h
  have hne : ∀ j, j ≤ b → some j ≠ r := fun j hj e => by have := hr j e.symm; omega
  refine ⟨a, n, c, k, l, ⟨(World.cell?_of_block (hg.block b h1.lt (hne b (Nat.le_refl _)))).trans h1.c0, (World.cell?_of_block (hg.block b h1.lt (hne b (Nat.le_refl _)))).trans h1.c1, (World.frozen?_of_block (hg.block b h1.lt (hne b (Nat.le_refl _)))).trans h1.f0, (World.frozen?_of_block (hg.block b h1.lt (hne b (Nat.le_refl _)))).trans h1.f1, Nat.lt_of_lt_of_le h1.lt hg.size⟩,
    h2.agree fun ad c e hn => hg.block _ ?_ ?_, h3, h4, h5, h6⟩
  · have := h6 ad (Value.slice.inj e).1 hn
    have := h1.lt
    omega
  · have := h6 ad (Value.slice.inj e).1 hn
    exact hne _ (by omega)
theorem Rolls.then_ {b : Nat} {w w1 w2 : World} (h : Rolls b w w1) (h2 : Rolls b w1 w2) : Rolls b w w2 := ⟨grownBy_trans h.grown h2.grown, h2.dice, h.lt⟩
theorem Rolls.below {b : Nat} {w w1 w2 : World} (h : Rolls b w w1) (h2 : Below w1.heap.size w1 w2) : Rolls b w w2 := ⟨grownBy_trans h.grown (grownBy_of_below h2 _), h.dice.below h2, h.lt⟩
theorem Rolls.refl {b : Nat} {w : World} (h : DiceAt w b) : Rolls b w w := ⟨World.grownBy.refl _ _, h, h.lt⟩

/-- a number that was picked -/
def RPick (b n : Nat) (w : World) (e : Ending) (w' : World) : Prop := ∃ k : Nat, k < n ∧ e = .returned (.int .i64 k) ∧ Rolls b w w'

set_option maxHeartbeats 1000000 in
set_option maxRecDepth 100000 in
theorem pick_any (b n : Nat) (w : World) (h : DiceAt w b) (hn : 0 < n) (hn2 : n ≤ 1000000) :
    Calls Try.prog 18 #[.pointer (some ⟨b, 0, none⟩), .int .i64 n] w (RPick b n w) := by
  have HD := Lib.hid h
  obtain ⟨a, m, c, k, l, h1, h2, h3, h4, h5, h6⟩ := h
  have H1 := Lib.hid h1
  have H2 := Lib.hid h2
  have c0 := h1.c0
  have c1 := h1.c1
  have f1 := h1.f1
  have hlt := h1.lt
  clear h1 h2
  go_enter Try.func18, Try.ntmps18
  by_cases hk : k < m
  · have d1 : decide ((m : Int) ≤ (k : Int)) = false := decide_eq_false (by omega)
    have hkm : (k : Int) < (m : Int) := by omega
    obtain ⟨ab, ao, c', hv, hab, hcell⟩ := H2.out.pos (by omega) (by decide)
    obtain ⟨rfl, -, rfl⟩ := Value.slice.inj hv
    have hab2 : ab < b := h6 _ rfl (by omega)
    have hll : l.length = m := by have := H2.out.len; rw [List.length_map] at this; omega
    obtain ⟨x, hx⟩ : ∃ x, l[k]? = some x := ⟨_, List.getElem?_eq_getElem (by omega)⟩
    have hx2 : x ≤ 255 := h5 x (List.mem_of_getElem? hx)
    have e0 := hcell k (.int .u8 (x : Int)) (by rw [List.getElem?_map, hx]; rfl)
    have HX := Lib.hid hx
    have HH6 := Lib.hid h6
    have HH5 := Lib.hid h5
    clear hv hcell hx h6 h5
    go_wp2_with fail
    go_quiet (fail)
    go_wp2_with fail
    have HH1 : At2 (w.drewN nq) b (.slice (some ⟨ab, ao, none⟩) m c) (.int .i64 (k : Int)) := H1.out.below (Below.drewN (Below.refl _ _) _)
    have G1 : w.grownBy ((w.drewN nq).setCell ⟨b, 1, none⟩ (.int .i64 ((k : Int) + 1))) (some b) := grownBy_trans (grownBy_of_below (Below.drewN (Below.refl _ _) _) _) (grownBy_set _)
    have HW1 := HH1.put1 (.int .i64 ((k : Int) + 1))
    have e1 : ((w.drewN nq).setCell ⟨b, 1, none⟩ (.int .i64 ((k : Int) + 1))).cell? ⟨ab, ao + k, none⟩ = some (.int .u8 (x : Int)) := (World.cell?_of_block (G1.block ab hab (fun e => by cases e; omega))).trans e0
    have hD1 : DiceAt ((w.drewN nq).setCell ⟨b, 1, none⟩ (.int .i64 ((k : Int) + 1))) b :=
      ⟨_, m, c, k + 1, l, HW1, H2.out.agree (fun ad c e _ => G1.block _ (by obtain ⟨e, -, -⟩ := Value.slice.inj e; cases e; exact hab) (by obtain ⟨e, -, -⟩ := Value.slice.inj e; cases e; intro e; have e2 : ab = b := Option.some.inj e; omega)), h3, by omega, HH5.out, HH6.out⟩
    generalize (w.drewN nq).setCell ⟨b, 1, none⟩ (.int .i64 ((k : Int) + 1)) = W at *
    have HG := Lib.hid G1
    have HDD := Lib.hid hD1
    have hk0 : (0 : Int) ≤ (k : Int) := by omega
    have hn0 : ((n : Int) = 0) = False := by simp only [eq_iff_iff, iff_false]; omega
    have hn1 : ((n : Int) == 0) = false := by rw [beq_eq_false_iff_ne]; omega
    have hsub : (k : Int) + 1 - 1 = (k : Int) := by omega
    have y0 := HW1.c0
    have y1 := HW1.c1
    clear G1 HW1 hD1 c0 c1 f1 e0 HH1
    go_quiet (fail)
    go_wp2_with fail
    go_ret
    exact ⟨x % n, Nat.mod_lt _ hn, by rw [Int.natCast_emod]; rfl, (Rolls.mk HG.out HDD.out hlt).below (Below.drewN (Below.refl _ _) _)⟩
  · have d1 : decide ((m : Int) ≤ (k : Int)) = true := decide_eq_true (by omega)
    go_wp2_with fail
    go_quiet (fail)
    go_wp2
    go_ret
    exact ⟨0, hn, rfl, (Rolls.refl HD.out).below (Below.drewN (Below.refl _ _) _)⟩

/-- new dice -/
def RDice (w : World) (e : Ending) (w' : World) : Prop := e = .returned (.pointer (some ⟨w.heap.size, 0, none⟩)) ∧ DiceAt w' w.heap.size ∧ Below w.heap.size w w'
theorem SlAt.cut {w : World} {n c : Nat} {a : Option Addr} {xs : List Value} (h : SlAt w 1 (.slice a n c) n xs) {k : Nat} (hk : k ≤ n) : SlAt w 1 (.slice a k c) k (xs.take k) := by
  rcases h with ⟨e, h0, h1⟩ | ⟨ad, c', e, hnc, hl, hc⟩
  · obtain ⟨rfl, rfl, rfl⟩ := Value.slice.inj e
    obtain rfl : k = 0 := by omega
    exact .inl ⟨rfl, rfl, by simp⟩
  · obtain ⟨rfl, -, rfl⟩ := Value.slice.inj e
    refine .inr ⟨ad, c, rfl, by omega, by rw [List.length_take]; omega, fun j u hj => ?_⟩
    rw [List.getElem?_take] at hj
    split at hj
    · exact hc j u hj
    · cases hj
set_option maxHeartbeats 1000000 in
set_option maxRecDepth 100000 in
theorem new_any (a : Option Addr) (n c : Nat) (l : List Nat) (w : World) (h : SlAt w 1 (.slice a n c) n (l.map fun (x : Nat) => Value.int .u8 (x : Int))) (hl : ∀ x ∈ l, x ≤ 255) :
    Calls Try.prog 7 #[.slice a n c] w (RDice w) := by
  have H := Lib.hid h
  have hcap : n ≤ c := SlAt.cap h
  have hpos : Hid (∀ ad, a = some ad → 0 < n → ad.block < w.heap.size) := Lib.hid (fun ad e hn => by
    obtain ⟨b, o, c', e2, hb, _⟩ := h.pos hn (by decide)
    obtain ⟨e3, -, -⟩ := Value.slice.inj e2
    rw [e] at e3
    cases e3
    exact hb)
  clear h
  go_enter Try.func7, Try.ntmps7
  by_cases hn : 200 < n
  · have hn2 : (200 : Int) < (n : Int) := by omega
    have h200 : (200 : Int) ≤ (c : Int) := by omega
    have hN := Lib.hid (At2.new w (.slice a 200 c) (.int .i64 0) 50)
    have hB := Lib.hid (below1 w (.cells #[.slice a 200 c, .int .i64 0] 50))
    obtain ⟨ab, ao, c', e2, hb, _⟩ := H.out.pos (by omega) (by decide)
    obtain ⟨rfl, -, -⟩ := Value.slice.inj e2
    clear e2
    go_wp2_with fail
    go_ret
    have hc := H.out.cut (k := 200) (by omega)
    rw [← List.map_take] at hc
    exact ⟨rfl, ⟨_, 200, c, 0, l.take 200, hN.out, hc.below hB.out, by omega, Nat.zero_le _, fun x hx => hl x (List.mem_of_mem_take hx), fun ad e _ => hpos.out ad e (by omega)⟩, hB.out⟩
  · have hn2 : ¬ (200 : Int) < (n : Int) := by omega
    have hN := Lib.hid (At2.new w (.slice a n c) (.int .i64 0) 50)
    have hB := Lib.hid (below1 w (.cells #[.slice a n c, .int .i64 0] 50))
    go_wp2_with fail
    go_ret
    exact ⟨rfl, ⟨a, n, c, 0, l, hN.out, H.out.below hB.out, by omega, Nat.zero_le _, hl, hpos.out⟩, hB.out⟩
end Go.Proofs.Ytbnippldclpclaa
