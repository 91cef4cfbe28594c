import Derived.Test.YtilholgbepfopaaDoorZ8
import Derived.Test.YtilholgbepfopaaDoorZ6
import Derived.Test.YtilholgbepfopaaDoorZ7
import Derived.Test.YtilholgbepfopaaDoorZ2
/- SourceSames, walked. -/
namespace Go.Proofs.YtilholgbepfopaaDoor
open Go.RowKit

theorem two_t1 (w : World) (p q : Value) (t : TypeId) : ∃ W, (w.alloc (.cells #[p] t)).alloc (.cells #[q] t) = W ∧ Below w.heap.size w W ∧ CsT W w.heap.size [p] t ∧ CsT W (w.heap.size + 1) [q] t := by
  have h2 := CsT.new (w.alloc (.cells #[p] t)) [q] t
  rw [show (w.alloc (.cells #[p] t)).heap.size = w.heap.size + 1 from by simp] at h2
  exact ⟨_, rfl, Below.new (below1 _ _) _, (CsT.new w [p] t).below (below1 _ _), h2⟩
theorem pickB (at_ n : Nat) (hn : 0 < n) (h : at_ ≤ 255) : ∃ k : Nat, (IntKind.i64.wrap (at_ : Int)).tmod (n : Int) = (k : Int) ∧ (at_ : Int) % (n : Int) = (k : Int) ∧ k < n := by
  have e3 : IntKind.i64.wrap (at_ : Int) = (at_ : Int) := by rw [IntKind.wrap_i64]; omega
  rw [e3, Int.tmod_eq_emod_of_nonneg (by omega)]
  exact ⟨at_ % n, by rw [Int.natCast_emod], by rw [Int.natCast_emod], Nat.mod_lt _ hn⟩
/-- a block that holds slices is not the one in which a string lies -/
theorem far_string {w : World} {b : Nat} {t : TypeId} {a : Option Addr} {n c : Nat} (h : CsT w b [.slice a n c] t) {p : Addr} {s : ByteArray} (hp : w.cell? p = some (.string s)) : b ≠ p.block := by
  rintro rfl
  obtain ⟨pb, po, ps⟩ := p
  have hs := addr_spot hp
  simp only at hs
  subst hs
  unfold World.cell? at hp
  rw [show w.heap[(⟨pb, po, none⟩ : Addr).block]? = some (.cells #[.slice a n c] t) from h] at hp
  cases po with
  | zero => simp at hp
  | succ q => simp at hp
/-- what is known of the three boxes, of both programs and of the copy -/
structure Sm (w0 : Nat) (bx : Nat) (va vb vx : Value) (A B X : List Fn) (w : World) : Prop where
  p : CsT w w0 [va] 26
  q : CsT w (w0 + 1) [vb] 26
  x : CsT w bx [vx] 26
  a : FnsAt w va A
  b : FnsAt w vb B
  c : FnsAt w vx X
theorem Sm.below {w0 bx : Nat} {va vb vx : Value} {A B X : List Fn} {w w' : World} (h : Sm w0 bx va vb vx A B X w) (hb : Below w.heap.size w w') : Sm w0 bx va vb vx A B X w' :=
  ⟨h.p.below hb, h.q.below hb, h.x.below hb, h.a.below hb, h.b.below hb, h.c.below hb⟩
theorem Sm.str {w0 bx : Nat} {a0 a1 a2 : Option Addr} {n0 n1 n2 c0 c1 c2 : Nat} {A B X : List Fn} {w w1 : World} (h : Sm w0 bx (.slice a0 n0 c0) (.slice a1 n1 c1) (.slice a2 n2 c2) A B X w) (hb1 : Below w1.heap.size w1 w) (hA : FnsAt w1 (.slice a0 n0 c0) A) (hB : FnsAt w1 (.slice a1 n1 c1) B)
    {p : Addr} {s0 : ByteArray} (hp : w.cell? p = some (.string s0)) (hlo : w1.heap.size ≤ p.block) (s : ByteArray) :
    ∃ X', Sm w0 bx (.slice a0 n0 c0) (.slice a1 n1 c1) (.slice a2 n2 c2) A B X' (w.setCell p (.string s)) ∧ szP X' = szP X := by
  obtain ⟨X', h1, h2, h3⟩ := FnsAt.str (s := s) hp h.c
  have hb2 : Below w1.heap.size w1 (w.setCell p (.string s)) := hb1.setCell hlo _
  exact ⟨X', ⟨h.p.far (far_string h.p hp) _, h.q.far (far_string h.q hp) _, h.x.far (far_string h.x hp) _, hA.below hb2, hB.below hb2, h1⟩, h3⟩

theorem FnsOwn2.elem {w : World} {B : Nat} {v : Value} {l : List Fn} (h : FnsOwn2 w B v l) {k : Nat} {e : Fn} (hk : l[k]? = some e) :
    ∃ b o c y, v = .slice (some ⟨b, o, none⟩) l.length c ∧ B ≤ b ∧ (∀ j, w.frozen? ⟨b, j, none⟩ = false) ∧ w.cell? ⟨b, o + k * 3, none⟩ = some (.string e.name) ∧ w.cell? ⟨b, o + k * 3 + 2, none⟩ = some y ∧ StsAt w y e.body ∧
      ∀ a n c, y = .slice (some a) n c → B ≤ a.block ∧ ∀ j, w.frozen? ⟨a.block, j, none⟩ = false := by
  obtain ⟨css, h0, h00⟩ := h
  obtain ⟨h2, h3⟩ := h00.here
  have h1 := own_sl h0
  have hlt := (List.getElem?_eq_some_iff.1 hk).1
  obtain ⟨b, o, c, hv, hb, hc⟩ := h1.pos (by omega) (by decide)
  obtain ⟨cs, hcs, he⟩ := h2.get hk
  obtain ⟨hl1, hl2⟩ := h2.len
  have at_ : ∀ j u, cs[j]? = some u → w.cell? ⟨b, o + k * 3 + j, none⟩ = some u := fun j u hj => by
    have hj3 : j < 3 := by have := (List.getElem?_eq_some_iff.1 hj).1; rw [hl2 cs (List.mem_of_getElem? hcs)] at this; exact this
    rw [Nat.add_assoc]
    exact hc _ _ (by rw [flatten_at hl2 hcs hj3]; exact hj)
  obtain ⟨u, x, rfl, h5, h4⟩ := he
  have h6 := own_unf h0 (P := fun _ => True) (fun _ _ => trivial) w (Agree.refl _ _) _ _ _ hv
  exact ⟨b, o, c, x, hv, h6.1, h6.2, at_ 0 _ rfl, at_ 2 _ rfl, h4, fun a n c e => h3 _ (List.mem_of_getElem? hcs) a n c (by rw [← e]; rfl)⟩
theorem pickC (at_ n : Nat) (hn : 0 < n) : ∃ k : Nat, ((at_ : Int) / 4) % (n : Int) = (k : Int) ∧ k < n := by
  refine ⟨(at_ / 4) % n, ?_, Nat.mod_lt _ hn⟩
  rw [Int.natCast_emod, Int.natCast_ediv]
  rfl

set_option maxHeartbeats 8000000 in
set_option maxRecDepth 100000 in
theorem sourceSames_walk (A B : List Fn) (va vb : Value) (at_ : Nat) (s : ByteArray) (w : World) (hA : szP A ≤ 2000000) (hB : szP B ≤ 2000000) (hva : FnsAt w va A) (hvb : FnsAt w vb B) (ht : at_ ≤ 255) (hg : Glob w) :
    Calls Tryd.prog 6 #[.agg #[va], .agg #[vb], .int .u8 (at_ : Int), .string s] w (RetB w true) := by
  obtain ⟨a, cp, rfl⟩ := hva.shape
  obtain ⟨a2, cp2, rfl⟩ := hvb.shape
  have H := Lib.hid hva
  have H2 := Lib.hid hvb
  have HG := Lib.hid hg
  have HSA : Hid (szP A ≤ 5000000 ∧ szP A ≤ 50000000 ∧ szP A ≤ 100000000 ∧ szP A ≤ 4000000) := Lib.hid (by omega)
  have HSB : Hid (szP B ≤ 5000000) := Lib.hid (by omega)
  have hl : A.length ≤ 2000000 := Nat.le_trans (szP_len A) hA
  obtain ⟨n, hn⟩ : ∃ n, n = A.length := ⟨_, rfl⟩
  obtain ⟨m, hm⟩ : ∃ m, m = B.length := ⟨_, rfl⟩
  have HN := Lib.hid hn
  rw [← hn] at H hl ⊢
  rw [← hm] at H2 ⊢
  clear hva hvb hA hB hg hn hm
  obtain ⟨W, hW, hBW, hP, hR⟩ := two_t1 w (.slice a n cp) (.slice a2 m cp2) 26
  have HW := Lib.hid hW
  have B1 := Lib.hid hBW
  have P1 := Lib.hid hP
  have R1 := Lib.hid hR
  clear hW hBW hP hR
  go_enter Tryd.func6, Tryd.ntmps6
  go_wp2_with fail
  rw [HW.out]
  refine (sane5_any _ (HG.out.below B1.out)).mono ?_
  rintro e w2 ⟨rfl, hb⟩
  have B2 := Lib.hid (B1.out.then_' hb)
  have P2 := Lib.hid (P1.out.below hb)
  have R2 := Lib.hid (R1.out.below hb)
  have p0 := P2.out.at_.cell 0 _ rfl
  clear hb B1 P1 R1 HW
  go_wp2_with fail
  refine (small_any A (.slice a n cp) w2 HSA.out.1 (H.out.below B2.out)).mono ?_
  rintro e w3 ⟨b, rfl, hb⟩
  have B3 := Lib.hid (B2.out.then_' hb)
  have P3 := Lib.hid (P2.out.below hb)
  have R3 := Lib.hid (R2.out.below hb)
  clear hb B2 P2 R2 p0
  have p0 := P3.out.at_.cell 0 _ rfl
  have r0 := R3.out.at_.cell 0 _ rfl
  cases b with
  | false =>
    go_wp2_with fail
    go_ret
    exact ⟨rfl, B3.out⟩
  | true =>
  go_wp2_with fail
  refine (small_any B (.slice a2 m cp2) w3 HSB.out (H2.out.below B3.out)).mono ?_
  rintro e w4 ⟨b, rfl, hb⟩
  have B4 := Lib.hid (B3.out.then_' hb)
  have P4 := Lib.hid (P3.out.below hb)
  have R4 := Lib.hid (R3.out.below hb)
  clear hb B3 P3 R3 p0 r0
  have p0 := P4.out.at_.cell 0 _ rfl
  have r0 := R4.out.at_.cell 0 _ rfl
  cases b with
  | false =>
    go_wp2_with fail
    go_ret
    exact ⟨rfl, B4.out⟩
  | true =>
  by_cases hs : 100 < s.size
  · have hs1 : (100 : Int) < (s.size : Int) := by omega
    go_wp2_with fail
    go_ret
    exact ⟨rfl, B4.out⟩
  · have hs1 : ¬ (100 : Int) < (s.size : Int) := by omega
    go_wp2_with fail
    refine (kprog_any A (.slice a n cp) w4 HSA.out.2.2.2 (H.out.below B4.out)).mono ?_
    rintro e w5 ⟨a3, c3, Bk, rfl, hBk, hown, hb⟩
    rw [← HN.out] at hown ⊢
    have hbx := below1 w5 (.cells #[.slice a3 n c3] 26)
    have O6 := Lib.hid (hown.below hbx)
    have X6 := Lib.hid (CsT.new w5 [.slice a3 n c3] 26)
    have B6 := Lib.hid (B4.out.then_' (hb.then_' hbx))
    have P6 := Lib.hid (P4.out.below (hb.then_' hbx))
    have R6 := Lib.hid (R4.out.below (hb.then_' hbx))
    have HBK : Hid (w.heap.size ≤ Bk) := Lib.hid (Nat.le_trans B4.out.size hBk)
    have HW5 : Hid (w.heap.size ≤ w5.heap.size) := Lib.hid (Nat.le_trans B4.out.size hb.size)
    clear hown hb hbx hBk p0 r0 B4 P4 R4
    go_upto_if 33 with (fail)
    obtain ⟨bx, hbx⟩ : ∃ b, b = w5.heap.size := ⟨_, rfl⟩
    have HBX := Lib.hid hbx
    rw [← hbx] at X6 ⊢
    generalize w5.alloc (.cells #[.slice a3 n c3] 26) = w6 at *
    clear hbx
    have S6 := Lib.hid (Sm.mk P6.out R6.out X6.out (H.out.below B6.out) (H2.out.below B6.out) O6.out.at_)
    go_cut [] (fun wx => ∃ X, Sm w.heap.size bx (.slice a n cp) (.slice a2 m cp2) (.slice a3 n c3) A B X wx ∧ szP X = szP A ∧ Below w.heap.size w wx)
    case first =>
      by_cases hn0 : 0 < n
      · obtain ⟨k, hk, hk', hkn⟩ := pickB at_ n hn0 ht
        obtain ⟨f, hf⟩ : ∃ f, A[k]? = some f := ⟨_, List.getElem?_eq_getElem (by rw [← HN.out]; exact hkn)⟩
        have hn1 : (0 : Int) < (n : Int) := by omega
        have hn2 : ((n : Int) == 0) = false := by rw [beq_eq_false_iff_ne]; omega
        have hn3 : ((n : Int) = 0) = False := by simp only [eq_iff_iff, iff_false]; omega
        have hki : (k : Int) < (n : Int) := by omega
        have hk0 : (0 : Int) ≤ (k : Int) := by omega
        have HF := Lib.hid hf
        obtain ⟨b, o, c', -, -, hv, -⟩ := O6.out.at_.elem hf
        obtain ⟨rfl, -, rfl⟩ := Value.slice.inj hv
        have x0 := X6.out.at_.cell 0 _ rfl
        clear hv hf
        go_upto_region 8 with (fail)
        go_quiet (fail)
        have hd : Below w6.heap.size w6 (w6.drewN nq) := Below.drewN (Below.refl _ _) nq
        have O7 := Lib.hid (O6.out.below hd)
        have S7 := Lib.hid (S6.out.below hd)
        have B7 := Lib.hid (B6.out.then_' hd)
        generalize w6.drewN nq = w7 at *
        clear hd O6 S6 B6 P6 R6 X6 x0 hk hk' hn1 hn2 hn3
        obtain ⟨b', o', c', y, hv, hbb, hfr, f0, f2, hy, hyf⟩ := O7.out.elem HF.out
        obtain ⟨e1, -, -⟩ := Value.slice.inj hv
        cases e1
        obtain ⟨ya, yc, rfl⟩ := hy.shape
        obtain ⟨q, hq⟩ : ∃ q, q = f.body.length := ⟨_, rfl⟩
        have HQ := Lib.hid hq
        have HY := Lib.hid hy
        have HYF := Lib.hid hyf
        have HFR := Lib.hid hfr
        rw [← hq] at f2 HY HYF
        have F2 := Lib.hid f2
        have HBB := Lib.hid (Nat.le_trans HBK.out hbb)
        clear hv hy hyf hfr hq
        by_cases hq0 : 0 < q
        · obtain ⟨j, hj, hjq⟩ := pickC at_ q hq0
          obtain ⟨st, hst⟩ : ∃ st, f.body[j]? = some st := ⟨_, List.getElem?_eq_getElem (by rw [← HQ.out]; exact hjq)⟩
          obtain ⟨b2, o2, c2, y1, y2, y3, hv, -, -, -, g2, -⟩ := HY.out.elem hst
          obtain ⟨rfl, -, rfl⟩ := Value.slice.inj hv
          obtain ⟨hb2, hfr2⟩ := HYF.out _ _ _ rfl
          have hq1 : (0 : Int) < (q : Int) := by omega
          have hq2 : ((q : Int) == 0) = false := by rw [beq_eq_false_iff_ne]; omega
          have hq3 : ((q : Int) = 0) = False := by simp only [eq_iff_iff, iff_false]; omega
          have hji : (j : Int) < (q : Int) := by omega
          have hj0 : (0 : Int) ≤ (j : Int) := by omega
          clear hv hst f0
          go_upto_region 10 with (fail)
          have hd : Below w7.heap.size w7 w7.drew := below_drew' _
          have f3 := (hd.cell (World.block_lt_of_cell? w7 _ f2)).trans f2
          have g3 := (hd.cell (World.block_lt_of_cell? w7 _ g2)).trans g2
          have z3 := hfr2 (o2 + j * 8 + 2)
          have z4 : w7.drew.frozen? ⟨b2, o2 + j * 8 + 2, none⟩ = false := z3
          have HLO : Hid (w.heap.size ≤ b2) := Lib.hid (Nat.le_trans HBK.out hb2)
          obtain ⟨X', hX', hz⟩ := Sm.str S7.out B7.out H.out H2.out g2 HLO.out s
          have SX := Lib.hid (hX'.below (below_drew' _))
          have HZ := Lib.hid hz
          clear hX' hz
          go_region
          go_wp2_with fail
          go_meet
          case rel => exact ⟨X', SX.out, HZ.out, (B7.out.setCell HLO.out _).drew⟩
        · obtain rfl : q = 0 := by omega
          have z0 := HFR.out (o + k * 3)
          obtain ⟨X', hX', hz⟩ := Sm.str S7.out B7.out H.out H2.out f0 HBB.out s
          have SX := Lib.hid hX'
          have HZ := Lib.hid hz
          clear hX' hz
          go_wp2_with fail
          go_meet
          case rel => exact ⟨X', SX.out, HZ.out, B7.out.setCell HBB.out _⟩
      · go_wp2_with fail
        go_meet
        case rel => exact ⟨A, S6.out, rfl, B6.out⟩
    case rest =>
      obtain ⟨X, hS, hX, hb⟩ := hcut
      have S0 := Lib.hid (hS.below (below_drew' _))
      have D0 := Lib.hid (hb.drew)
      obtain ⟨qab, hab⟩ : ∃ b, decide (A = B) = b := ⟨_, rfl⟩
      obtain ⟨qax, hax⟩ : ∃ b, decide (A = X) = b := ⟨_, rfl⟩
      have HAB := Lib.hid hab
      have HAX := Lib.hid hax
      have HXA : Hid (decide (X = A) = qax) := Lib.hid (by rw [← hax]; exact decide_eq_decide.2 eq_comm)
      have HSX : Hid (szP X ≤ 50000000) := Lib.hid (by rw [hX]; exact HSA.out.2.1)
      clear hS hX hb hab hax O6 S6 B6 P6 R6 X6
      have l0p := S0.out.p.at_.cell 0 _ rfl
      have l0q := S0.out.q.at_.cell 0 _ rfl
      have l0x := S0.out.x.at_.cell 0 _ rfl
      have M3 : Hid True := Lib.hid trivial
      have M4 : Hid True := Lib.hid trivial
      have M5 : Hid True := Lib.hid trivial
      go_upto_region 12 with (fail)
      go_region_held3 (fun wx => wx.cell? ⟨w.heap.size, 0, none⟩ = some (.slice a n cp) ∧ wx.cell? ⟨w.heap.size + 1, 0, none⟩ = some (.slice a2 m cp2) ∧ wx.cell? ⟨bx, 0, none⟩ = some (.slice a3 n c3)) (first | exact ⟨l0p, l0q, l0x⟩ | exact ⟨l1p, l1q, l1x⟩ | exact ⟨l2p, l2q, l2x⟩ | exact ⟨l3p, l3q, l3x⟩ | exact ⟨l4p, l4q, l4x⟩ | exact ⟨l5p, l5q, l5x⟩ | exact ⟨l6p, l6q, l6x⟩ | exact ⟨l7p, l7q, l7x⟩ | exact ⟨l8p, l8q, l8x⟩) (first
        | (go_at_call_of 22 (Value.slice a2 m cp2); refine (ssame_any A B _ _ _ HSA.out.2.1 S0.out.a S0.out.b).mono ?_; rw [HAB.out]; rintro e w10 ⟨rfl, hb⟩; have S1 := Lib.hid (S0.out.below hb); have D1 := Lib.hid (D0.out.then_' hb); have l1p := S1.out.p.at_.cell 0 _ rfl; have l1q := S1.out.q.at_.cell 0 _ rfl; have l1x := S1.out.x.at_.cell 0 _ rfl; clear hb)
        | (go_at_call_of 16 (Value.slice a2 m cp2); refine (sameProg_any A B _ _ _ HSA.out.2.2.1 S1.out.a S1.out.b).mono ?_; rw [HAB.out]; rintro e w11 ⟨rfl, hb⟩; have S2 := Lib.hid (S1.out.below hb); have D2 := Lib.hid (D1.out.then_' hb); have l2p := S2.out.p.at_.cell 0 _ rfl; have l2q := S2.out.q.at_.cell 0 _ rfl; have l2x := S2.out.x.at_.cell 0 _ rfl; clear hb)
        | (clear M3; go_at_call_of 22 (Value.slice a3 n c3); refine (ssame_any A X _ _ _ HSA.out.2.1 S2.out.a S2.out.c).mono ?_; rw [HAX.out]; rintro e w12 ⟨rfl, hb⟩; have S3 := Lib.hid (S2.out.below hb); have D3 := Lib.hid (D2.out.then_' hb); have l3p := S3.out.p.at_.cell 0 _ rfl; have l3q := S3.out.q.at_.cell 0 _ rfl; have l3x := S3.out.x.at_.cell 0 _ rfl; clear hb)
        | (clear M4; go_at_call_of 16 (Value.slice a3 n c3); refine (sameProg_any A X _ _ _ HSA.out.2.2.1 S3.out.a S3.out.c).mono ?_; rw [HAX.out]; rintro e w13 ⟨rfl, hb⟩; have S4 := Lib.hid (S3.out.below hb); have D4 := Lib.hid (D3.out.then_' hb); have l4p := S4.out.p.at_.cell 0 _ rfl; have l4q := S4.out.q.at_.cell 0 _ rfl; have l4x := S4.out.x.at_.cell 0 _ rfl; clear hb)
        | (clear M5; go_at_call_of 22 (Value.slice a3 n c3); refine (ssame_any X A _ _ _ HSX.out S4.out.c S4.out.a).mono ?_; rw [HXA.out]; rintro e w14 ⟨rfl, hb⟩; have S5 := Lib.hid (S4.out.below hb); have D5 := Lib.hid (D4.out.then_' hb); have l5p := S5.out.p.at_.cell 0 _ rfl; have l5q := S5.out.q.at_.cell 0 _ rfl; have l5x := S5.out.x.at_.cell 0 _ rfl; clear hb)
        | (go_at_call_of 16 (Value.slice a3 n c3); refine (sameProg_any A X _ _ _ HSA.out.2.2.1 S5.out.a S5.out.c).mono ?_; rw [HAX.out]; rintro e w15 ⟨rfl, hb⟩; have S6 := Lib.hid (S5.out.below hb); have D6 := Lib.hid (D5.out.then_' hb); have l6p := S6.out.p.at_.cell 0 _ rfl; have l6q := S6.out.q.at_.cell 0 _ rfl; have l6x := S6.out.x.at_.cell 0 _ rfl; clear hb)
        | (go_at_call 13; refine (kprog_any A _ _ HSA.out.2.2.2 S6.out.a).mono ?_; rintro e w16 ⟨a7, c7, Bk7, rfl, hBk7, hown, hb⟩; have S7 := Lib.hid (S6.out.below hb); have D7 := Lib.hid (D6.out.then_' hb); have C7 := Lib.hid hown.at_; have l7p := S7.out.p.at_.cell 0 _ rfl; have l7q := S7.out.q.at_.cell 0 _ rfl; have l7x := S7.out.x.at_.cell 0 _ rfl; clear hb hBk7 hown)
        | (go_at_call 22; refine (ssame_any A A _ _ _ HSA.out.2.1 S7.out.a C7.out).mono ?_; rw [show decide (A = A) = true from decide_eq_true rfl]; rintro e w17 ⟨rfl, hb⟩; have S8 := Lib.hid (S7.out.below hb); have D8 := Lib.hid (D7.out.then_' hb); have l8p := S8.out.p.at_.cell 0 _ rfl; have l8q := S8.out.q.at_.cell 0 _ rfl; have l8x := S8.out.x.at_.cell 0 _ rfl; clear hb)
        | fail)
      all_goals
        go_wp2_with fail
        go_ret
        exact ⟨rfl, D8.out⟩
end Go.Proofs.YtilholgbepfopaaDoor
