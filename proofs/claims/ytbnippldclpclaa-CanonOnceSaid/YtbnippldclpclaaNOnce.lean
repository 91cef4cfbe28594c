/- CanonOnce, walked. -/
import Derived.Test.YtbnippldclpclaaNSane
import Derived.Test.YtbnippldclpclaaMIn
namespace Go.Proofs.Ytbnippldclpclaa
open Go.RowKit

/-- of what the call has made since w0 nothing changes for w0 -/
theorem Rolls.base {b : Nat} {w0 w w' : World} (h : Rolls b w w') (h0 : Below w0.heap.size w0 w) (hb : w0.heap.size ≤ b) : Below w0.heap.size w0 w' :=
  h0.grown h.grown h0.size (fun k e => by have := Option.some.inj e; omega)
theorem MadeH.short {O : List Ob} (h : MadeH O) : ShortO O := ⟨by have := h.len; omega, fun x hx => by have := (h.ok x hx).1; omega⟩

theorem len2 (x y : V) : [x, y].length ≤ 1000000 := by simp
theorem len2' (R : List Int) (x y : V) : ([x, y].map (turnV R)).length ≤ 1000000 := by rw [List.length_map]; exact len2 x y
theorem canon2 (hC : CanonOK) {w : World} {v u : Value} {C : List Ob} {l : List V} {S : List Int} (h : OAt w v C) (hu : VsAt w u l) (hs : ShortO C) (hl : l.length ≤ 1000000) (ho : ReachO C l S ∧ canonL (fldsO C) S = C ∧ l.map (turnV S) = l) :
    Calls Try.prog 10 #[.agg #[v], u] w (fun e w' => ∃ a n c a2 n2 c2, e = .returned (.tuple #[.agg #[.slice a n c], .slice a2 n2 c2]) ∧ OAt w' (.slice a n c) C ∧ VsAt w' (.slice a2 n2 c2) l ∧ Below w.heap.size w w') :=
  (hC v u C l w h hu hs hl).mono fun e w' ⟨R, a, n, c, a2, n2, c2, hR, he, h1, h2, h3⟩ => by
    have := hR.det ho.1
    subst this
    rw [ho.2.1] at h1
    rw [ho.2.2] at h2
    exact ⟨a, n, c, a2, n2, c2, he, h1, h2, h3⟩
theorem reach_k (hR : ReachOK) {w : World} {v u : Value} {C : List Ob} {l : List V} {S : List Int} (h : OAt w v C) (hu : VsAt w u l) (hs : ShortO C) (hl : l.length ≤ 1000000) (ho : ReachO C l S) :
    Calls Try.prog 14 #[.agg #[v], u] w (fun e w' => ∃ a c, e = .returned (.slice a S.length c) ∧ Below w.heap.size w w') :=
  (hR v u C l w h hu hs hl).mono fun e w' ⟨R, a, c, hr, he, h1, h3⟩ => by
    have := hr.det ho
    subst this
    exact ⟨a, c, he, h3⟩
theorem same_t {w : World} {v u : Value} {C : List Ob} (h : OAt w v C) (h2 : OAt w u C) (hs : ShortO C) : Calls Try.prog 11 #[.agg #[v], .agg #[u]] w (RetB w true) := by
  have := rsame_ok h h2 hs hs
  rw [decide_eq_true rfl] at this
  exact this
theorem values_t {w : World} {v u : Value} {l : List V} (h : VsAt w v l) (h2 : VsAt w u l) (hs : l.length ≤ 1000000) : Calls Try.prog 12 #[v, u] w (RetB w true) := by
  have := sameValues_any v u l l w h h2 (by omega)
  rw [decide_eq_true rfl] at this
  exact this
theorem valid_t {w : World} {v : Value} {C : List Ob} (h : OAt w v C) (hs : ShortO C) (ha : ascO 0 C = true) : Calls Try.prog 13 #[.agg #[v]] w (RetB w true) := by
  have := rvalid_ok h hs
  rw [ha] at this
  exact this
set_option maxHeartbeats 2000000 in
set_option maxRecDepth 100000 in
theorem canonOnce_walk (hC : CanonOK) (hR : ReachOK) (a : Option Addr) (n c : Nat) (w : World) (h : BytesAt w a n c) :
    Calls Try.prog 3 #[.slice a n c] w (RetB w true) := by
  have HC := Lib.hid hC
  have HR := Lib.hid hR
  have H := Lib.hid h
  clear hC hR h
  go_enter Try.func3, Try.ntmps3
  go_wp2_with fail
  refine (sane4_any HC.out HR.out _).mono ?_
  rintro e w1 ⟨rfl, hb⟩
  have B := Lib.hid hb
  clear hb
  go_wp2_with fail
  refine (new_ok a n c _ (H.out.below B.out)).mono ?_
  rintro e w2 ⟨rfl, hd, hb⟩
  have hbw : w.heap.size ≤ w1.heap.size := B.out.size
  replace B := Lib.hid (B.out.then_' hb)
  have D := Lib.hid hd
  clear hd hb
  go_wp2_with fail
  refine (made_heap w1.heap.size w2 D.out).mono ?_
  rintro e w3 ⟨a1, n1, c1, O, rfl, ho, hm, hr⟩
  have HM := Lib.hid hm
  have b1 := below1 w3 (.cells #[.slice a1 n1 c1] 28)
  have R3 := Lib.hid (hr.below b1)
  have HO := Lib.hid (ho.below b1)
  have hlt2 : w1.heap.size < w2.heap.size := D.out.lt
  have P := Lib.hid (At1.new w3 (.slice a1 n1 c1) 28)
  have hpb : w3.heap.size ≠ w1.heap.size := by have := hr.grown.size; omega
  replace B := Lib.hid (hr.base B.out hbw |>.then_' b1)
  clear ho hm hr b1
  go_wp2_with fail
  generalize w3.alloc (.cells #[.slice a1 n1 c1] 28) = w4 at *
  refine (made_value w1.heap.size w4 R3.out.dice).mono ?_
  rintro e w5 ⟨⟨x1, x2⟩, hx, rfl, hr⟩
  have HX := Lib.hid hx
  replace R3 := Lib.hid (R3.out.then_ hr)
  replace HO := Lib.hid (own_in HO.out hr hlt2)
  replace P := Lib.hid (P.out.rolls hr hpb)
  replace B := Lib.hid (hr.base B.out hbw)
  clear hx hr
  go_wp2_with fail
  refine (made_value w1.heap.size w5 R3.out.dice).mono ?_
  rintro e w6 ⟨⟨y1, y2⟩, hy, rfl, hr⟩
  have HY := Lib.hid hy
  have b1 := below1 w6 (.cells #[.bool x1, .int .i64 x2, .bool y1, .int .i64 y2] 31)
  replace HO := Lib.hid ((own_in HO.out hr hlt2).below b1)
  replace P := Lib.hid ((P.out.rolls hr hpb).below b1)
  replace B := Lib.hid ((hr.base B.out hbw).then_' b1)
  have V := Lib.hid (vs_two w6 (x1, x2) (y1, y2))
  clear hy hr b1 R3
  have p0 := P.out.c0
  go_wp2_with fail
  generalize w6.alloc (.cells #[.bool x1, .int .i64 x2, .bool y1, .int .i64 y2] 31) = w7 at *
  clear p0
  refine (HC.out _ _ O [(x1, x2), (y1, y2)] w7 HO.out.at_ V.out HM.out.short (len2 _ _)).mono ?_
  rintro e w8 ⟨R, a2, n2, c2, a3, n3, c3, hreach, rfl, h1, h2, hb⟩
  have HRe := Lib.hid hreach
  have b1 := hb.then_' (below1 w8 (.cells #[.slice a2 n2 c2] 28))
  replace B := Lib.hid (B.out.then_' b1)
  replace HO := Lib.hid (HO.out.below b1)
  replace P := Lib.hid (P.out.below b1)
  replace V := Lib.hid (V.out.below b1)
  have HA := Lib.hid (h1.below (below1 w8 (.cells #[.slice a2 n2 c2] 28)))
  have VA := Lib.hid (h2.below (below1 w8 (.cells #[.slice a2 n2 c2] 28)))
  have PA := Lib.hid (At1.new w8 (.slice a2 n2 c2) 28)
  have p0 := PA.out.c0
  clear hreach hb b1 h1 h2
  go_wp2_with fail
  generalize w8.alloc (.cells #[.slice a2 n2 c2] 28) = w9 at *
  clear p0
  have HS := Lib.hid (canonL_short HM.out.short (reach_len HRe.out))
  have HON := Lib.hid (canon_once HRe.out)
  refine (canon2 HC.out HA.out VA.out HS.out (len2' _ _ _) HON.out).mono ?_
  rintro e w10 ⟨a4, n4, c4, a5, n5, c5, rfl, h1, h2, hb⟩
  have b1 := hb.then_' (below1 w10 (.cells #[.slice a4 n4 c4] 28))
  replace B := Lib.hid (B.out.then_' b1)
  replace HO := Lib.hid (HO.out.below b1)
  replace P := Lib.hid (P.out.below b1)
  replace V := Lib.hid (V.out.below b1)
  replace HA := Lib.hid (HA.out.below b1)
  replace VA := Lib.hid (VA.out.below b1)
  replace PA := Lib.hid (PA.out.below b1)
  have HB := Lib.hid (h1.below (below1 w10 (.cells #[.slice a4 n4 c4] 28)))
  have VB := Lib.hid (h2.below (below1 w10 (.cells #[.slice a4 n4 c4] 28)))
  have PB := Lib.hid (At1.new w10 (.slice a4 n4 c4) 28)
  obtain rfl : n2 = R.length := by rw [HA.out.len, canonL_len]
  clear hb b1 h1 h2
  go_wp2_with fail
  generalize w10.alloc (.cells #[.slice a4 n4 c4] 28) = wq at *
  have p0 := P.out.c0
  have pA := PA.out.c0
  have pB := PB.out.c0
  have QB := Lib.hid (below_drew wq)
  have HMark := Lib.hid True.intro
  go_region_held3 (fun wx => wx.cell? ⟨w3.heap.size, 0, none⟩ = some (.slice a1 n1 c1) ∧ wx.cell? ⟨w8.heap.size, 0, none⟩ = some (.slice a2 R.length c2) ∧ wx.cell? ⟨w10.heap.size, 0, none⟩ = some (.slice a4 n4 c4)) (first | exact ⟨p0, pA, pB⟩ | exact ⟨(P.out.below QB.out).c0, (PA.out.below QB.out).c0, (PB.out.below QB.out).c0⟩ | fail) (first
    | (go_at_call 11; refine (same_t (HA.out.below QB.out) (HB.out.below QB.out) HS.out).mono ?_; rintro e wx ⟨rfl, hb⟩; have QB := Lib.hid (QB.out.then_' hb); clear hb)
    | (go_at_call 12; refine (values_t (VA.out.below QB.out) (VB.out.below QB.out) (len2' _ _ _)).mono ?_; rintro e wx ⟨rfl, hb⟩; have QB := Lib.hid (QB.out.then_' hb); clear hb)
    | (go_at_call 13; refine (valid_t (HA.out.below QB.out) HS.out (canonL_asc _ _)).mono ?_; rintro e wx ⟨rfl, hb⟩; have QB := Lib.hid (QB.out.then_' hb); clear hb)
    | (clear HMark; go_at_call 14; refine (reach_k HR.out (HA.out.below QB.out) (VA.out.below QB.out) HS.out (len2' _ _ _) HON.out.1).mono ?_; rintro e wx ⟨a6, c6, rfl, hb⟩; have QB := Lib.hid (QB.out.then_' hb); clear hb)
    | (go_at_call 14; refine (reach_k HR.out (HO.out.at_.below QB.out) (V.out.below QB.out) HM.out.short (len2 _ _) HRe.out).mono ?_; rintro e wx ⟨a6, c6, rfl, hb⟩; have QB := Lib.hid (QB.out.then_' hb); clear hb)
    | fail)
  all_goals
    go_wp2
    go_ret
    exact ⟨rfl, B.out.then_' QB.out⟩
end Go.Proofs.Ytbnippldclpclaa
