/- SourceLimits, walked. -/
import Derived.Test.YtilholgbepfopaaDoorSSane
import Derived.Test.YtilholgbepfopaaDoorSOwn
namespace Go.Proofs.YtilholgbepfopaaDoor
open Go.RowKit

/-- the statement that is made n times -/
def lS : St := .mk 10 ⟨#[]⟩ ⟨#[]⟩ 0 0 [.mk 1 0 ⟨#[]⟩ 0 []] [] []
/-- a statement d + 1 deep -/
def deepS : Nat → St
  | 0 => lS
  | d + 1 => .mk 4 ⟨#[]⟩ ⟨#[]⟩ 0 0 [.mk 2 0 ⟨#[]⟩ 0 []] [deepS d] []
theorem lS_n (n : Nat) (hn : n < 70) : shp [⟨⟨#[102]⟩, [], List.replicate n lS⟩] = if n ≤ 64 then 0 else 3 := by
  have h : ∀ n, n < 70 → (shp [⟨⟨#[102]⟩, [], List.replicate n lS⟩] = if n ≤ 64 then 0 else 3) := by decide +kernel
  exact h n hn
theorem deepS_d (d : Nat) (hd : d < 9) : shp [⟨⟨#[102]⟩, [], [deepS d]⟩] = if d + 1 ≤ 6 then 0 else 3 := by
  have h : ∀ d, d < 9 → (shp [⟨⟨#[102]⟩, [], [deepS d]⟩] = if d + 1 ≤ 6 then 0 else 3) := by decide +kernel
  exact h d hd
theorem lS_sz (n : Nat) (hn : n < 70) : szP [⟨⟨#[102]⟩, [], List.replicate n lS⟩] ≤ 5000000 := by
  have h : ∀ n, n < 70 → szP [⟨⟨#[102]⟩, [], List.replicate n lS⟩] ≤ 5000000 := by decide +kernel
  exact h n hn
theorem deepS_sz (d : Nat) (hd : d < 9) : szP [⟨⟨#[102]⟩, [], [deepS d]⟩] ≤ 5000000 := by
  have h : ∀ d, d < 9 → szP [⟨⟨#[102]⟩, [], [deepS d]⟩] ≤ 5000000 := by decide +kernel
  exact h d hd

theorem CsT.same {w : World} {b : Nat} {cs ds : List Value} {t : TypeId} (h : CsT w b cs t) (e : cs = ds) : CsT w b ds t := e ▸ h
def lE : Ex := .mk 1 0 ⟨#[]⟩ 0 []
/-- what lies before the first loop: the expression's block, the statement's box -/
structure LSt (w : World) (eb bx : Nat) : Prop where
  e : CsT w eb (exC lE (.slice none 0 0)) 42
  s : CsT w bx (stC lS (.slice (some ⟨eb, 0, none⟩) 1 1) (.slice none 0 0) (.slice none 0 0)) 40
theorem l_new (w : World) : ∃ W, ((w.alloc (.cells #[.int .i64 1, .int .i64 0, .string ⟨#[]⟩, .int .i64 0, .slice none 0 0] 42)).alloc (.cells #[.int .i64 10, .string ⟨#[]⟩, .string ⟨#[]⟩, .int .i64 0, .int .i64 0, .slice (some ⟨w.heap.size, 0, none⟩) 1 1, .slice none 0 0, .slice none 0 0] 40)) = W ∧ Below w.heap.size w W ∧ LSt W w.heap.size (w.heap.size + 1) ∧ W.heap.size = w.heap.size + 1 + 1 := by
  have h1 := CsT.new w (exC lE (.slice none 0 0)) 42
  have h2 := CsT.new (w.alloc (.cells (exC lE (.slice none 0 0)).toArray 42)) (stC lS (.slice (some ⟨w.heap.size, 0, none⟩) 1 1) (.slice none 0 0) (.slice none 0 0)) 40
  rw [show (w.alloc (.cells (exC lE (.slice none 0 0)).toArray 42)).heap.size = w.heap.size + 1 from by simp] at h2
  exact ⟨_, rfl, (below1 _ _).then_' (below1 _ _), ⟨h1.below (below1 _ _), h2⟩, by simp⟩
theorem LSt.grown {w w' : World} {eb bx : Nat} (h : LSt w eb bx) {r : Option Nat} (hg : w.grownBy w' r) (h1 : r ≠ some eb) (h2 : r ≠ some bx) : LSt w' eb bx := ⟨(hg.block eb h.e.lt (fun e => h1 e.symm)).trans h.e, (hg.block bx h.s.lt (fun e => h2 e.symm)).trans h.s⟩
theorem LSt.below {w w' : World} {eb bx : Nat} (h : LSt w eb bx) (hb : Below w.heap.size w w') : LSt w' eb bx := ⟨h.e.below hb, h.s.below hb⟩
/-- the copy of the statement that is appended -/
theorem l_copy (w : World) (eb bx B : Nat) (row : Option Nat) (h : LSt w eb bx) (hB : B ≤ eb) (hr : row ≠ some eb) :
    ∃ css, SlAt (w.alloc (.cells #[.int .i64 10, .string ⟨#[]⟩, .string ⟨#[]⟩, .int .i64 0, .int .i64 0, .slice (some ⟨eb, 0, none⟩) 1 1, .slice none 0 0, .slice none 0 0] 40)) 8 (.slice (some ⟨w.heap.size, 0, none⟩) 1 1) [lS].length css.flatten ∧
      InP (fun k => B ≤ k ∧ row ≠ some k) (w.alloc (.cells #[.int .i64 10, .string ⟨#[]⟩, .string ⟨#[]⟩, .int .i64 0, .int .i64 0, .slice (some ⟨eb, 0, none⟩) 1 1, .slice none 0 0, .slice none 0 0] 40)) (fun w => StL w [lS] css) :=
  ⟨[stC lS (.slice (some ⟨eb, 0, none⟩) 1 1) (.slice none 0 0) (.slice none 0 0)], sl_one w (stC lS (.slice (some ⟨eb, 0, none⟩) 1 1) (.slice none 0 0) (.slice none 0 0)) 40,
    fun w' ha => stl_one lS (exs_in lE (h.e.below (below1 _ _)) (P := fun k => B ≤ k ∧ row ≠ some k) ⟨hB, hr⟩ exs_nil_in w' ha) (StsAt.nil _) (StsAt.nil _)⟩
theorem row_ne {row row' : Option Nat} {n k : Nat} (h : row ≠ some k) (h2 : row' = row ∨ row' = some n) (hk : k < n) : row' ≠ some k := by
  rcases h2 with e | e
  · rw [e]; exact h
  · rw [e]; intro e2; have := Option.some.inj e2; omega
/-- the box while the statement grows deeper -/
structure DSt (w : World) (bx B j : Nat) (ua xa : Option Addr) (un uc xn xc : Nat) : Prop where
  c : CsT w bx [.int .i64 (deepS j).kind, .string ⟨#[]⟩, .string ⟨#[]⟩, .int .i64 0, .int .i64 0, .slice ua un uc, .slice xa xn xc, .slice none 0 0] 40
  e : InP (fun k => B ≤ k ∧ k ≠ bx) w (fun w => ExsAt w (.slice ua un uc) (deepS j).exprs)
  b : InP (fun k => B ≤ k ∧ k ≠ bx) w (fun w => StsAt w (.slice xa xn xc) (deepS j).body)
theorem LSt.deep {w : World} {eb : Nat} (h : LSt w eb (eb + 1)) : DSt w (eb + 1) eb 0 (some ⟨eb, 0, none⟩) none 1 1 0 0 :=
  ⟨h.s, exs_in lE h.e ⟨Nat.le_refl _, by omega⟩ exs_nil_in, sts_nil_in⟩
theorem deep_parts (j : Nat) : (deepS j).name = ⟨#[]⟩ ∧ (deepS j).fn = ⟨#[]⟩ ∧ (deepS j).n = 0 ∧ (deepS j).op = 0 ∧ (deepS j).els = [] := by
  cases j <;> exact ⟨rfl, rfl, rfl, rfl, rfl⟩

theorem CsT.setAt {w : World} {b : Nat} {cs : List Value} {t : TypeId} (h : CsT w b cs t) (k : Nat) (u : Value) : CsT (w.setCell ⟨b, k, none⟩ u) b (cs.set k u) t := by
  unfold CsT World.setCell at *
  simp [Array.getElem?_modify, h]
theorem deep_step {w : World} {bx B j : Nat} {ua xa : Option Addr} {un uc xn xc : Nat} (h : DSt w bx B j ua xa un uc xn xc) (hB : B ≤ w.heap.size) {w0 : World} (hw : Below w0.heap.size w0 w) (hb : w0.heap.size ≤ bx) :
    DSt ((((((((((w.alloc (.cells #[.int .i64 2, .int .i64 0, .string ⟨#[]⟩, .int .i64 0, .slice none 0 0] 42)).alloc (.cells #[.int .i64 (deepS j).kind, .string ⟨#[]⟩, .string ⟨#[]⟩, .int .i64 0, .int .i64 0, .slice ua un uc, .slice xa xn xc, .slice none 0 0] 40)).setCell ⟨bx, 0, none⟩ (.int .i64 4)).setCell ⟨bx, 1, none⟩ (.string ⟨#[]⟩)).setCell ⟨bx, 2, none⟩ (.string ⟨#[]⟩)).setCell ⟨bx, 3, none⟩ (.int .i64 0)).setCell ⟨bx, 4, none⟩ (.int .i64 0)).setCell ⟨bx, 5, none⟩ (.slice (some ⟨w.heap.size, 0, none⟩) 1 1)).setCell ⟨bx, 6, none⟩ (.slice (some ⟨w.heap.size + 1, 0, none⟩) 1 1)).setCell ⟨bx, 7, none⟩ (.slice none 0 0)) bx B (j + 1) (some ⟨w.heap.size, 0, none⟩) (some ⟨w.heap.size + 1, 0, none⟩) 1 1 1 1 ∧ Below w0.heap.size w0 ((((((((((w.alloc (.cells #[.int .i64 2, .int .i64 0, .string ⟨#[]⟩, .int .i64 0, .slice none 0 0] 42)).alloc (.cells #[.int .i64 (deepS j).kind, .string ⟨#[]⟩, .string ⟨#[]⟩, .int .i64 0, .int .i64 0, .slice ua un uc, .slice xa xn xc, .slice none 0 0] 40)).setCell ⟨bx, 0, none⟩ (.int .i64 4)).setCell ⟨bx, 1, none⟩ (.string ⟨#[]⟩)).setCell ⟨bx, 2, none⟩ (.string ⟨#[]⟩)).setCell ⟨bx, 3, none⟩ (.int .i64 0)).setCell ⟨bx, 4, none⟩ (.int .i64 0)).setCell ⟨bx, 5, none⟩ (.slice (some ⟨w.heap.size, 0, none⟩) 1 1)).setCell ⟨bx, 6, none⟩ (.slice (some ⟨w.heap.size + 1, 0, none⟩) 1 1)).setCell ⟨bx, 7, none⟩ (.slice none 0 0)) := by
  have b1 := below1 w (.cells #[.int .i64 2, .int .i64 0, .string ⟨#[]⟩, .int .i64 0, .slice none 0 0] 42)
  have b2 := below1 (w.alloc (.cells #[.int .i64 2, .int .i64 0, .string ⟨#[]⟩, .int .i64 0, .slice none 0 0] 42)) (.cells #[.int .i64 (deepS j).kind, .string ⟨#[]⟩, .string ⟨#[]⟩, .int .i64 0, .int .i64 0, .slice ua un uc, .slice xa xn xc, .slice none 0 0] 40)
  have hlt := h.c.lt
  have z1 : (w.alloc (.cells #[.int .i64 2, .int .i64 0, .string ⟨#[]⟩, .int .i64 0, .slice none 0 0] 42)).heap.size = w.heap.size + 1 := by simp
  have e1 : CsT (w.alloc (.cells #[.int .i64 2, .int .i64 0, .string ⟨#[]⟩, .int .i64 0, .slice none 0 0] 42)) w.heap.size (exC (.mk 2 0 ⟨#[]⟩ 0 []) (.slice none 0 0)) 42 := CsT.new w (exC (.mk 2 0 ⟨#[]⟩ 0 []) (.slice none 0 0)) 42
  have e2 := e1.below b2
  obtain ⟨q1, q2, q3, q4, q5⟩ := deep_parts j
  have s1 : CsT ((w.alloc (.cells #[.int .i64 2, .int .i64 0, .string ⟨#[]⟩, .int .i64 0, .slice none 0 0] 42)).alloc (.cells #[.int .i64 (deepS j).kind, .string ⟨#[]⟩, .string ⟨#[]⟩, .int .i64 0, .int .i64 0, .slice ua un uc, .slice xa xn xc, .slice none 0 0] 40)) (w.alloc (.cells #[.int .i64 2, .int .i64 0, .string ⟨#[]⟩, .int .i64 0, .slice none 0 0] 42)).heap.size (stC (deepS j) (.slice ua un uc) (.slice xa xn xc) (.slice none 0 0)) 40 := by
    have := CsT.new (w.alloc (.cells #[.int .i64 2, .int .i64 0, .string ⟨#[]⟩, .int .i64 0, .slice none 0 0] 42)) [.int .i64 (deepS j).kind, .string ⟨#[]⟩, .string ⟨#[]⟩, .int .i64 0, .int .i64 0, .slice ua un uc, .slice xa xn xc, .slice none 0 0] 40
    refine this.same ?_
    unfold stC
    rw [q1, q2, q3, q4]
  rw [z1] at s1
  have c := (h.c.below b1).below b2
  have hag : Agree (fun k => B ≤ k ∧ k ≠ bx) ((w.alloc (.cells #[.int .i64 2, .int .i64 0, .string ⟨#[]⟩, .int .i64 0, .slice none 0 0] 42)).alloc (.cells #[.int .i64 (deepS j).kind, .string ⟨#[]⟩, .string ⟨#[]⟩, .int .i64 0, .int .i64 0, .slice ua un uc, .slice xa xn xc, .slice none 0 0] 40)) ((((((((((w.alloc (.cells #[.int .i64 2, .int .i64 0, .string ⟨#[]⟩, .int .i64 0, .slice none 0 0] 42)).alloc (.cells #[.int .i64 (deepS j).kind, .string ⟨#[]⟩, .string ⟨#[]⟩, .int .i64 0, .int .i64 0, .slice ua un uc, .slice xa xn xc, .slice none 0 0] 40)).setCell ⟨bx, 0, none⟩ (.int .i64 4)).setCell ⟨bx, 1, none⟩ (.string ⟨#[]⟩)).setCell ⟨bx, 2, none⟩ (.string ⟨#[]⟩)).setCell ⟨bx, 3, none⟩ (.int .i64 0)).setCell ⟨bx, 4, none⟩ (.int .i64 0)).setCell ⟨bx, 5, none⟩ (.slice (some ⟨w.heap.size, 0, none⟩) 1 1)).setCell ⟨bx, 6, none⟩ (.slice (some ⟨w.heap.size + 1, 0, none⟩) 1 1)).setCell ⟨bx, 7, none⟩ (.slice none 0 0)) :=
    ((((((((Agree.set _ (p := ⟨bx, 0, none⟩) (fun h => h.2 rfl) _).trans (Agree.set _ (p := ⟨bx, 1, none⟩) (fun h => h.2 rfl) _)).trans (Agree.set _ (p := ⟨bx, 2, none⟩) (fun h => h.2 rfl) _)).trans (Agree.set _ (p := ⟨bx, 3, none⟩) (fun h => h.2 rfl) _)).trans (Agree.set _ (p := ⟨bx, 4, none⟩) (fun h => h.2 rfl) _)).trans (Agree.set _ (p := ⟨bx, 5, none⟩) (fun h => h.2 rfl) _)).trans (Agree.set _ (p := ⟨bx, 6, none⟩) (fun h => h.2 rfl) _)).trans (Agree.set _ (p := ⟨bx, 7, none⟩) (fun h => h.2 rfl) _))
  refine ⟨⟨((((((((c.setAt 0 _).setAt 1 _).setAt 2 _).setAt 3 _).setAt 4 _).setAt 5 _).setAt 6 _).setAt 7 _), ?_, ?_⟩, ?_⟩
  · exact InP.step (exs_in (.mk 2 0 ⟨#[]⟩ 0 []) e2 ⟨hB, by omega⟩ exs_nil_in) hag
  · refine InP.step (sts_in (deepS j) s1 ⟨by omega, by omega⟩ ?_ ?_ ?_) hag
    · exact InP.step h.e ((Agree.of_below b1).trans (.of_below b2))
    · exact InP.step h.b ((Agree.of_below b1).trans (.of_below b2))
    · rw [q5]; exact sts_nil_in
  · exact ((((((((((hw.then_' b1).then_' b2).setCell (p := ⟨bx, 0, none⟩) hb _).setCell (p := ⟨bx, 1, none⟩) hb _).setCell (p := ⟨bx, 2, none⟩) hb _).setCell (p := ⟨bx, 3, none⟩) hb _).setCell (p := ⟨bx, 4, none⟩) hb _).setCell (p := ⟨bx, 5, none⟩) hb _).setCell (p := ⟨bx, 6, none⟩) hb _).setCell (p := ⟨bx, 7, none⟩) hb _)

theorem deep_prog {w : World} {bx B j : Nat} {ua xa : Option Addr} {un uc xn xc : Nat} (h : DSt w bx B j ua xa un uc xn xc) :
    FnsAt ((w.alloc (.cells #[.int .i64 (deepS j).kind, .string ⟨#[]⟩, .string ⟨#[]⟩, .int .i64 0, .int .i64 0, .slice ua un uc, .slice xa xn xc, .slice none 0 0] 40)).alloc (.cells #[.string ⟨#[102]⟩, .slice none 0 0, .slice (some ⟨w.heap.size, 0, none⟩) 1 1] 35)) (.slice (some ⟨w.heap.size + 1, 0, none⟩) 1 1) [⟨⟨#[102]⟩, [], [deepS j]⟩] ∧ Below w.heap.size w ((w.alloc (.cells #[.int .i64 (deepS j).kind, .string ⟨#[]⟩, .string ⟨#[]⟩, .int .i64 0, .int .i64 0, .slice ua un uc, .slice xa xn xc, .slice none 0 0] 40)).alloc (.cells #[.string ⟨#[102]⟩, .slice none 0 0, .slice (some ⟨w.heap.size, 0, none⟩) 1 1] 35)) := by
  obtain ⟨q1, q2, q3, q4, q5⟩ := deep_parts j
  have h1 := sts_one w (deepS j) (.slice ua un uc) (.slice xa xn xc) (.slice none 0 0) h.e.here h.b.here (by rw [q5]; exact StsAt.nil _)
  rw [q1, q2, q3, q4] at h1
  have h2 := fns_one (w.alloc (.cells #[.int .i64 (deepS j).kind, .string ⟨#[]⟩, .string ⟨#[]⟩, .int .i64 0, .int .i64 0, .slice ua un uc, .slice xa xn xc, .slice none 0 0] 40)) ⟨⟨#[102]⟩, [], [deepS j]⟩ (.slice none 0 0) _ (NmsAt.nil _) h1
  rw [show (w.alloc (.cells #[.int .i64 (deepS j).kind, .string ⟨#[]⟩, .string ⟨#[]⟩, .int .i64 0, .int .i64 0, .slice ua un uc, .slice xa xn xc, .slice none 0 0] 40)).heap.size = w.heap.size + 1 from by simp] at h2
  exact ⟨h2, (below1 _ _).then_' (below1 _ _)⟩

set_option maxHeartbeats 4000000 in
set_option maxRecDepth 100000 in
theorem sourceLimits_walk (n dp : Int) (w : World) (hg : Glob w) (hn0 : 0 ≤ n) (hn1 : n ≤ 255) (hd0 : 0 ≤ dp) (hd1 : dp ≤ 255) : Calls Tryd.prog 7 #[.int .u8 n, .int .u8 dp] w (RetB w true) := by
  have HG := Lib.hid hg
  have HG0 := Lib.hid hg
  clear hg
  obtain ⟨N, hN, hNlt⟩ : ∃ N : Nat, n % 70 = (N : Int) ∧ N < 70 := ⟨(n % 70).toNat, by omega, by omega⟩
  obtain ⟨D, hD, hDlt⟩ : ∃ D : Nat, dp % 9 = (D : Int) ∧ D < 9 := ⟨(dp % 9).toNat, by omega, by omega⟩
  go_enter Tryd.func7, Tryd.ntmps7
  go_wp2_with fail
  refine (sane5_any _ HG.out).mono ?_
  rintro e w1 ⟨rfl, hb⟩
  have B1 := Lib.hid hb
  have G1 := Lib.hid (HG.out.below hb)
  obtain ⟨W, hW, hBW, hL, hz⟩ := l_new w1
  have HW := Lib.hid hW
  have BW := Lib.hid (hb.then_' hBW)
  have GW := Lib.hid (G1.out.below hBW)
  have LW := Lib.hid hL
  have HZ := Lib.hid hz
  clear hb HG hW hBW hL hz
  go_wp2_with fail
  rw [HW.out, hN]
  clear HW hN
  go_loopw [6, 7] (fun l_ i_ wr => ∃ (k : Nat) (a : Option Addr) (m c : Nat), k ≤ N ∧ l_ = .slice a m c ∧ i_ = .int .i64 ((N - k : Nat) : Int) ∧ StsOwn wr w1.heap.size (.slice a m c) (List.replicate k lS) ∧ m = k ∧ LSt wr w1.heap.size (w1.heap.size + 1) ∧ (Value.slice a m c).ownBlock ≠ some w1.heap.size ∧ (Value.slice a m c).ownBlock ≠ some (w1.heap.size + 1) ∧ Below w.heap.size w wr) (fun _ i_ _ => (intOf i_).toNat)
  case atStart => exact ⟨0, none, 0, 0, Nat.zero_le _, rfl, rfl, StsOwn.nil _ _, rfl, LW.out, by simp [Value.ownBlock], by simp [Value.ownBlock], BW.out⟩
  case round =>
    obtain ⟨k, a, m, c, hk, rfl, rfl, hown, rfl, hl, hr1, hr2, hbel⟩ := hrel
    have OW := Lib.hid hown
    have LR := Lib.hid hl
    have HR1 := Lib.hid hr1
    have HR2 := Lib.hid hr2
    have BR := Lib.hid hbel
    clear hown hl hr1 hr2 hbel LW BW
    by_cases hlt : m < N
    · have hpos : (0 : Int) < ((N - m : Nat) : Int) := by omega
      have s0 := LR.out.s.at_.cell 0 _ rfl
      have s1 := LR.out.s.at_.cell 1 _ rfl
      have s2 := LR.out.s.at_.cell 2 _ rfl
      have s3 := LR.out.s.at_.cell 3 _ rfl
      have s4 := LR.out.s.at_.cell 4 _ rfl
      have s5 := LR.out.s.at_.cell 5 _ rfl
      have s6 := LR.out.s.at_.cell 6 _ rfl
      have s7 := LR.out.s.at_.cell 7 _ rfl
      have CP := Lib.hid (l_copy wr w1.heap.size (w1.heap.size + 1) w1.heap.size _ LR.out (Nat.le_refl _) HR1.out)
      have b1 := below1 wr (.cells #[.int .i64 10, .string ⟨#[]⟩, .string ⟨#[]⟩, .int .i64 0, .int .i64 0, .slice (some ⟨w1.heap.size, 0, none⟩) 1 1, .slice none 0 0, .slice none 0 0] 40)
      have O1 := Lib.hid (OW.out.below b1)
      have L1 := Lib.hid (LR.out.below b1)
      have BB := Lib.hid (BR.out.then_' b1)
      have HS1 : Hid (w1.heap.size + 1 < (wr.alloc (.cells #[.int .i64 10, .string ⟨#[]⟩, .string ⟨#[]⟩, .int .i64 0, .int .i64 0, .slice (some ⟨w1.heap.size, 0, none⟩) 1 1, .slice none 0 0, .slice none 0 0] 40)).heap.size) := Lib.hid L1.out.s.lt
      have HLEN : Hid ((List.replicate m lS).length + [lS].length ≤ 1000000000) := Lib.hid (by simp; omega)
      clear b1
      go_wp2_with (first
        | (at_builtin; refine appS rfl _ _ rfl w1.heap.size (.slice a m c) (List.replicate m lS) rfl O1.out _ [lS] rfl CP.out HLEN.out (Nat.le_of_lt (Nat.lt_trans (Nat.lt_succ_self _) HS1.out)) ?_; intro v' w7 ho hg hat; rw [← List.replicate_succ'] at ho; obtain ⟨a7, c7, rfl⟩ := ho.at_.shape; rw [List.length_replicate] at ho hat; have O7 := Lib.hid ho; have L7 := Lib.hid (L1.out.grown hg HR1.out HR2.out); have G7 := Lib.hid hg; have A7 := Lib.hid hat; clear ho hg hat)
        | fail)
      go_roundw
      case rel =>
        exact ⟨m + 1, a7, m + 1, c7, by omega, rfl, by congr 1; omega, O7.out, rfl, L7.out, row_ne HR1.out A7.out (Nat.lt_trans (Nat.lt_succ_self _) HS1.out), row_ne HR2.out A7.out HS1.out, BB.out.grown G7.out BB.out.size (fun g e => by have := (World.ownsRow.lt O1.out.choose_spec.1 g e).1; have := B1.out.size; omega)⟩
      case measure => simp [intOf]; omega
    · obtain rfl : m = N := by omega
      have HS := Lib.hid (lS_n m hNlt)
      have HSZ := Lib.hid (lS_sz m hNlt)
      have F1 := Lib.hid (fns_one wr ⟨⟨#[102]⟩, [], List.replicate m lS⟩ (.slice none 0 0) _ (NmsAt.nil _) OW.out.at_)
      have b1 := below1 wr (.cells #[.string ⟨#[102]⟩, .slice none 0 0, .slice a m c] 35)
      have b2 := b1.then_' (below1 _ (.cells #[.slice (some ⟨wr.heap.size, 0, none⟩) 1 1] 26))
      have F2 := Lib.hid (F1.out.below (below1 _ (.cells #[.slice (some ⟨wr.heap.size, 0, none⟩) 1 1] 26)))
      have L2 := Lib.hid (LR.out.below b2)
      have B2 := Lib.hid (BR.out.then_' b2)
      have G2 := Lib.hid (HG0.out.below B2.out)
      clear b1 b2 F1 OW LR BR HR1 HR2
      go_wp2_with fail
      generalize (wr.alloc (.cells #[.string ⟨#[102]⟩, .slice none 0 0, .slice a m c] 35)).alloc (.cells #[.slice (some ⟨wr.heap.size, 0, none⟩) 1 1] 26) = w2 at *
      refine (shaped_any _ _ w2 HSZ.out F2.out G2.out).mono ?_
      rw [HS.out]
      rintro e w3 ⟨rfl, hb⟩
      have L3 := Lib.hid (L2.out.below hb)
      have B3 := Lib.hid (B2.out.then_' hb)
      have G3 := Lib.hid (G2.out.below hb)
      clear hb L2 B2 G2 F2
      have D3 := Lib.hid L3.out.deep
      clear L3
      by_cases h64 : m ≤ 64
      rw [if_pos h64]
      rotate_left
      rw [if_neg h64]
      all_goals
        have t1 : ((m : Int) ≤ 64) = decide (m ≤ 64) := by simp only [decide_eq_true_eq]; exact propext ⟨fun h => by omega, fun h => by omega⟩
        clear t1
        have t2 : (m : Int) ≤ 64 ∨ ¬ (m : Int) ≤ 64 := by omega
        clear t2
        first
          | (have t3 : (m : Int) ≤ 64 := by omega)
          | (have t3 : ¬ (m : Int) ≤ 64 := by omega)
        clear h64
        go_wp2_with fail
        rw [hD]
        clear hD
        go_loopw [10] (fun i_ wx => ∃ (j : Nat) (ua xa : Option Addr) (un uc xn xc : Nat), j ≤ D ∧ i_ = .int .i64 (1 + (j : Int)) ∧ DSt wx (w1.heap.size + 1) w1.heap.size j ua xa un uc xn xc ∧ Below w.heap.size w wx) (fun i_ _ => D + 1 - (intOf i_).toNat)
        case atStart => exact ⟨0, _, _, _, _, _, _, Nat.zero_le _, rfl, D3.out, B3.out⟩
        case round =>
          obtain ⟨j, ua, xa, un, uc, xn, xc, hj, rfl, hds, hbel⟩ := hrel
          have DD := Lib.hid hds
          have BB := Lib.hid hbel
          clear hds hbel D3 B3
          by_cases hlt : j < D
          · have hji : (1 + (j : Int)) < 1 + (D : Int) := by omega
            have b1 := below1 wr (.cells #[.int .i64 2, .int .i64 0, .string ⟨#[]⟩, .int .i64 0, .slice none 0 0] 42)
            have b2 := below1 (wr.alloc (.cells #[.int .i64 2, .int .i64 0, .string ⟨#[]⟩, .int .i64 0, .slice none 0 0] 42)) (.cells #[.int .i64 (deepS j).kind, .string ⟨#[]⟩, .string ⟨#[]⟩, .int .i64 0, .int .i64 0, .slice ua un uc, .slice xa xn xc, .slice none 0 0] 40)
            have D1 := Lib.hid (DD.out.c.below b1).at_
            have D2 := Lib.hid ((DD.out.c.below b1).below b2).at_
            clear b1 b2
            have c0 := D1.out.cell 0 _ rfl
            have c1 := D1.out.cell 1 _ rfl
            have c2 := D1.out.cell 2 _ rfl
            have c3 := D1.out.cell 3 _ rfl
            have c4 := D1.out.cell 4 _ rfl
            have c5 := D1.out.cell 5 _ rfl
            have c6 := D1.out.cell 6 _ rfl
            have c7 := D1.out.cell 7 _ rfl
            have d0 := D2.out.cell 0 _ rfl
            have d1 := D2.out.cell 1 _ rfl
            have d2 := D2.out.cell 2 _ rfl
            have d3 := D2.out.cell 3 _ rfl
            have d4 := D2.out.cell 4 _ rfl
            have d5 := D2.out.cell 5 _ rfl
            have d6 := D2.out.cell 6 _ rfl
            have d7 := D2.out.cell 7 _ rfl
            have f0 := D2.out.fr 0
            have f1 := D2.out.fr 1
            have f2 := D2.out.fr 2
            have f3 := D2.out.fr 3
            have f4 := D2.out.fr 4
            have f5 := D2.out.fr 5
            have f6 := D2.out.fr 6
            have f7 := D2.out.fr 7
            have HB1 : Hid (w1.heap.size ≤ wr.heap.size ∧ w.heap.size ≤ w1.heap.size + 1) := Lib.hid (by have := DD.out.c.lt; have := B1.out.size; omega)
            go_wp2_with fail
            go_roundw
            case rel => exact ⟨j + 1, _, _, _, _, _, _, by omega, by congr 1 <;> omega, (deep_step DD.out HB1.out.1 BB.out HB1.out.2).1, (deep_step DD.out HB1.out.1 BB.out HB1.out.2).2⟩
            case measure => simp [intOf]; omega
          · obtain rfl : j = D := by omega
            have c0 := DD.out.c.at_.cell 0 _ rfl
            have c1 := DD.out.c.at_.cell 1 _ rfl
            have c2 := DD.out.c.at_.cell 2 _ rfl
            have c3 := DD.out.c.at_.cell 3 _ rfl
            have c4 := DD.out.c.at_.cell 4 _ rfl
            have c5 := DD.out.c.at_.cell 5 _ rfl
            have c6 := DD.out.c.at_.cell 6 _ rfl
            have c7 := DD.out.c.at_.cell 7 _ rfl
            have t1 : ¬ (1 + (j : Int)) < 1 + (j : Int) := by omega
            have HS2 := Lib.hid (deepS_d j hDlt)
            have HSZ2 := Lib.hid (deepS_sz j hDlt)
            obtain ⟨hf, hb⟩ := deep_prog DD.out
            have F5 := Lib.hid hf
            have B5 := Lib.hid (BB.out.then_' hb)
            have G5 := Lib.hid (HG0.out.below B5.out)
            clear hf hb
            go_wp2_with fail
            refine (shaped_any _ _ _ HSZ2.out F5.out G5.out).mono ?_
            rw [HS2.out]
            rintro e w6 ⟨rfl, hb⟩
            have B6 := Lib.hid (B5.out.then_' hb)
            clear hb c0 c1 c2 c3 c4 c5 c6 c7
            by_cases h6 : j + 1 ≤ 6
            · rw [if_pos h6]
              have t6 : (1 + (j : Int)) ≤ 6 := by omega
              have t7 : ¬ (6 : Int) < 1 + (j : Int) := by omega
              go_wp2_with fail
              go_ret
              exact ⟨rfl, B6.out⟩
            · rw [if_neg h6]
              have t6 : ¬ (1 + (j : Int)) ≤ 6 := by omega
              have t7 : (6 : Int) < 1 + (j : Int) := by omega
              go_wp2_with fail
              go_ret
              exact ⟨rfl, B6.out⟩
end Go.Proofs.YtilholgbepfopaaDoor
