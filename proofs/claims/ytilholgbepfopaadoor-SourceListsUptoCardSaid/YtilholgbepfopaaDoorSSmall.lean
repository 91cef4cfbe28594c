/- Small (of what statements share): it answers, whatever it is. -/
import Derived.Test.YtilholgbepfopaaDoorSSane
namespace Go.Proofs.YtilholgbepfopaaDoor
open Go.RowKit

def RSome (w : World) (e : Ending) (w' : World) : Prop := ∃ z : Int, e = .returned (.int .i64 z) ∧ Below w.heap.size w w'
def RSomeB (w : World) (e : Ending) (w' : World) : Prop := ∃ b : Bool, e = .returned (.bool b) ∧ Below w.heap.size w w'

set_option maxHeartbeats 4000000 in
set_option maxRecDepth 100000 in
theorem exprnodes_any (m : Nat) (hm : m ≤ 10000000) : ∀ (e : Ex) (v : Value) (w : World), e.sz ≤ m → ExsAt w v e.l → Calls Tryd.prog 57 #[exV e v] w (RSome w) := by
  induction m with
  | zero => intro e _ _ h; have := e.sz_pos; omega
  | succ m ih =>
  intro e v w hsz hv
  obtain ⟨a, cp, rfl⟩ := hv.shape
  have H := Lib.hid hv
  have IH := Lib.hid (ih (by omega))
  have HSZ : Hid (szE e.l ≤ m) := Lib.hid (by have := e.sz_l; omega)
  have hl : e.l.length ≤ 10000000 := by have := szE_len e.l; have := e.sz_l; omega
  obtain ⟨n, hn⟩ : ∃ n, n = e.l.length := ⟨_, rfl⟩
  have HN := Lib.hid hn
  rw [← hn] at H hl ⊢
  clear ih hsz hv hn
  have P := Lib.hid (CsT.new w [.int .i64 e.kind, .int .i64 e.n, .string e.name, .int .i64 e.op, .slice a n cp] 42).at_
  have B1 := Lib.hid (below1 w (.cells #[.int .i64 e.kind, .int .i64 e.n, .string e.name, .int .i64 e.op, .slice a n cp] 42))
  have p4 := P.out.cell 4 _ rfl
  unfold exV
  go_enter Tryd.func57, Tryd.ntmps57
  go_wp2_with fail
  generalize w.alloc (.cells #[.int .i64 e.kind, .int .i64 e.n, .string e.name, .int .i64 e.op, .slice a n cp] 42) = w1 at *
  clear p4
  go_loopw [3, 9] (fun z_ k_ wr => ∃ (k : Nat) (z : Int), k ≤ n ∧ k_ = .int .i64 k ∧ z_ = .int .i64 z ∧ Below w.heap.size w wr) (fun _ k_ _ => n - (intOf k_).toNat)
  case atStart => exact ⟨0, 1, Nat.zero_le _, rfl, rfl, B1.out⟩
  case round =>
    obtain ⟨k, z, hk, rfl, rfl, hb⟩ := hrel
    by_cases hlt : k < n
    · obtain ⟨x, hx⟩ : ∃ x, e.l[k]? = some x := ⟨_, List.getElem?_eq_getElem (by rw [← HN.out]; exact hlt)⟩
      obtain ⟨b, o, c', u, hv, hbb, f0, f1, f2, f3, f4, hu⟩ := (H.out.below hb).elem hx
      obtain ⟨rfl, -, rfl⟩ := Value.slice.inj hv
      obtain ⟨ua, uc, rfl⟩ := hu.shape
      have HU := Lib.hid hu
      have hxm : Hid (x.sz ≤ m) := Lib.hid (Nat.le_trans (szE_mem (List.mem_of_getElem? hx)) HSZ.out)
      have hki : (k : Int) < (n : Int) := by omega
      have Bz := Lib.hid (below1 wr (.cells #[.int .i64 x.kind, .int .i64 x.n, .string x.name, .int .i64 x.op, .slice ua x.l.length uc] 42))
      have BB := Lib.hid (hb.then_' Bz.out)
      have T := Lib.hid (CsT.new wr [.int .i64 x.kind, .int .i64 x.n, .string x.name, .int .i64 x.op, .slice ua x.l.length uc] 42).at_
      have t0 := T.out.cell 0 _ rfl
      have t1 := T.out.cell 1 _ rfl
      have t2 := T.out.cell 2 _ rfl
      have t3 := T.out.cell 3 _ rfl
      have t4 := T.out.cell 4 _ rfl
      clear hv hb hx hu
      by_cases hz : z < 1000
      · go_wp2_with fail
        generalize wr.alloc (.cells #[.int .i64 x.kind, .int .i64 x.n, .string x.name, .int .i64 x.op, .slice ua x.l.length uc] 42) = wz at *
        clear t0 t1 t2 t3 t4 f0 f1 f2 f3 f4
        refine (IH.out x (.slice ua x.l.length uc) wz hxm.out (HU.out.below Bz.out)).mono ?_
        rintro e' w2 ⟨y, rfl, hb⟩
        have B2 := Lib.hid (BB.out.then_' hb)
        clear hb
        go_wp2_with fail
        go_roundw
        case rel => exact ⟨k + 1, _, by omega, by go_num, rfl, B2.out⟩
        case measure => simp [intOf]; omega
      · go_wp2_with fail
        go_roundw
        case rel => exact ⟨k + 1, _, by omega, by go_num, rfl, BB.out⟩
        case measure => simp [intOf]; omega
    · obtain rfl : k = n := by omega
      go_wp2_with fail
      go_ret
      exact ⟨z, rfl, hb⟩

set_option maxHeartbeats 4000000 in
set_option maxRecDepth 100000 in
theorem size_any (m : Nat) (hm : m ≤ 10000000) : ∀ (l : List St) (v : Value) (w : World), szS l < m → StsAt w v l → Calls Tryd.prog 29 #[v] w (RSome w) := by
  induction m with
  | zero => intro _ _ _ h; omega
  | succ m ih =>
  intro l v w hsz hv
  obtain ⟨a, cp, rfl⟩ := hv.shape
  have H := Lib.hid hv
  have IH := Lib.hid (ih (by omega))
  have HSZ := Lib.hid hsz
  have hl : l.length ≤ 10000000 := by have := szS_len l; omega
  have hm1 : m ≤ 10000000 := by omega
  obtain ⟨n, hn⟩ : ∃ n, n = l.length := ⟨_, rfl⟩
  have HN := Lib.hid hn
  rw [← hn] at H hl ⊢
  clear ih hsz hv hn
  go_enter Tryd.func29, Tryd.ntmps29
  go_wp2_with fail
  go_loopw [3, 10] (fun z_ k_ wr => ∃ (k : Nat) (z : Int), k ≤ n ∧ k_ = .int .i64 k ∧ z_ = .int .i64 z ∧ Below w.heap.size w wr) (fun _ k_ _ => n - (intOf k_).toNat)
  case atStart => exact ⟨0, 0, Nat.zero_le _, rfl, rfl, Below.refl _ _⟩
  case round =>
    obtain ⟨k, z, hk, rfl, rfl, hb⟩ := hrel
    by_cases hlt : k < n
    · obtain ⟨x, hx⟩ : ∃ x, l[k]? = some x := ⟨_, List.getElem?_eq_getElem (by rw [← HN.out]; exact hlt)⟩
      obtain ⟨b, o, c', u, xb, xe, hv, hbl, f0, f1, f2, f3, f4, f5, f6, f7, hu, hxb, hxe⟩ := (H.out.below hb).elem hx
      obtain ⟨rfl, -, rfl⟩ := Value.slice.inj hv
      obtain ⟨ua, uc, rfl⟩ := hu.shape
      obtain ⟨ba, bc, rfl⟩ := hxb.shape
      obtain ⟨ea, ec, rfl⟩ := hxe.shape
      have HU := Lib.hid hu
      have XB := Lib.hid hxb
      have XE := Lib.hid hxe
      have HXP : Hid (szE x.exprs ≤ 10000000 ∧ szS x.body < m ∧ szS x.els < m) := Lib.hid (by have h1 := szS_mem (List.mem_of_getElem? hx); have h2 := x.sz_parts; have h3 := HSZ.out; omega)
      have hel : x.exprs.length ≤ 10000000 := by have := szE_len x.exprs; have := HXP.out.1; omega
      have hki : (k : Int) < (n : Int) := by omega
      have Bz := Lib.hid (below1 wr (.cells #[.int .i64 x.kind, .string x.name, .string x.fn, .int .i64 x.n, .int .i64 x.op, .slice ua x.exprs.length uc, .slice ba x.body.length bc, .slice ea x.els.length ec] 40))
      have BB := Lib.hid (hb.then_' Bz.out)
      have T := Lib.hid (CsT.new wr [.int .i64 x.kind, .string x.name, .string x.fn, .int .i64 x.n, .int .i64 x.op, .slice ua x.exprs.length uc, .slice ba x.body.length bc, .slice ea x.els.length ec] 40).at_
      have t1 := T.out.cell 1 _ rfl
      have t2 := T.out.cell 2 _ rfl
      have t5 := T.out.cell 5 _ rfl
      have HM := Lib.hid (Int.neg_one_mul z)
      clear hv hb hx hu hxb hxe HM
      by_cases hz : 3000 < z
      · go_wp2_with fail
        go_ret
        exact ⟨z, rfl, BB.out⟩
      · go_wp2_with fail
        generalize wr.alloc (.cells #[.int .i64 x.kind, .string x.name, .string x.fn, .int .i64 x.n, .int .i64 x.op, .slice ua x.exprs.length uc, .slice ba x.body.length bc, .slice ea x.els.length ec] 40) = wz at *
        clear t1 t2 t5 f0 f1 f2 f3 f4 f5 f6 f7
        obtain ⟨q, hq⟩ : ∃ q, q = x.exprs.length := ⟨_, rfl⟩
        have HQ := Lib.hid hq
        have HUZ := Lib.hid (HU.out.below Bz.out)
        rw [← hq] at HUZ hel T ⊢
        clear hq HU
        go_loopw [3, 30] (fun z_ k_ wx => ∃ (j : Nat) (y : Int), j ≤ q ∧ k_ = .int .i64 j ∧ z_ = .int .i64 y ∧ Below wz.heap.size wz wx) (fun _ k_ _ => q - (intOf k_).toNat)
        case atStart => exact ⟨0, _, Nat.zero_le _, rfl, rfl, Below.refl _ _⟩
        case round =>
          obtain ⟨j, y, hj, rfl, rfl, hb⟩ := hrel
          by_cases hlj : j < q
          · obtain ⟨ex, hex⟩ : ∃ ex, x.exprs[j]? = some ex := ⟨_, List.getElem?_eq_getElem (by rw [← HQ.out]; exact hlj)⟩
            obtain ⟨b5, o5, c5, u5, hv5, hb5, g0, g1, g2, g3, g4, hu5⟩ := (HUZ.out.below hb).elem hex
            obtain ⟨rfl, -, rfl⟩ := Value.slice.inj hv5
            obtain ⟨va, vc, rfl⟩ := hu5.shape
            have HV5 := Lib.hid hu5
            have hxm : Hid (ex.sz ≤ 10000000) := Lib.hid (Nat.le_trans (szE_mem (List.mem_of_getElem? hex)) HXP.out.1)
            have hji : (j : Int) < (q : Int) := by omega
            have Bv := Lib.hid (below1 wr (.cells #[.int .i64 ex.kind, .int .i64 ex.n, .string ex.name, .int .i64 ex.op, .slice va ex.l.length vc] 42))
            have BV := Lib.hid (hb.then_' Bv.out)
            have TT := Lib.hid (CsT.new wr [.int .i64 ex.kind, .int .i64 ex.n, .string ex.name, .int .i64 ex.op, .slice va ex.l.length vc] 42).at_
            have s0 := TT.out.cell 0 _ rfl
            have s1 := TT.out.cell 1 _ rfl
            have s2 := TT.out.cell 2 _ rfl
            have s3 := TT.out.cell 3 _ rfl
            have s4 := TT.out.cell 4 _ rfl
            clear hv5 hb hex hu5
            go_wp2_with fail
            generalize wr.alloc (.cells #[.int .i64 ex.kind, .int .i64 ex.n, .string ex.name, .int .i64 ex.op, .slice va ex.l.length vc] 42) = wv at *
            clear s0 s1 s2 s3 s4 g0 g1 g2 g3 g4
            refine (exprnodes_any 10000000 (by decide) ex (.slice va ex.l.length vc) wv hxm.out (HV5.out.below Bv.out)).mono ?_
            rintro e' w2 ⟨y2, rfl, hb⟩
            have B2 := Lib.hid (BV.out.then_' hb)
            clear hb
            go_wp2_with fail
            go_roundw
            case rel => exact ⟨j + 1, _, by omega, by go_num, rfl, B2.out⟩
            case measure => simp [intOf]; omega
          · obtain rfl : j = q := by omega
            have TX := Lib.hid (T.out.below hb)
            have BX := Lib.hid (BB.out.then_' hb)
            have WX := Lib.hid (Bz.out.then_' hb)
            have y6 := (TX.out.below (below_drew' _)).cell 6 _ rfl
            have y7 := (TX.out.below (below_drew' _)).cell 7 _ rfl
            have y6' := TX.out.cell 6 _ rfl
            have y7' := TX.out.cell 7 _ rfl
            have HMark : Hid True := Lib.hid trivial
            clear hb
            go_wp2_with fail
            go_region_law (first
              | (clear HMark; go_simp; go_at_call 29; refine (IH.out x.body (.slice ba x.body.length bc) _ HXP.out.2.1 (XB.out.below (WX.out.then_' (below_drew' _)))).mono ?_; rintro e4 w4 ⟨z4, rfl, hb⟩; have T4 := Lib.hid ((TX.out.below (below_drew' _)).below hb); have B4 := Lib.hid ((BX.out.then_' (below_drew' _)).then_' hb); have W4 := Lib.hid ((WX.out.then_' (below_drew' _)).then_' hb); have r7 := T4.out.cell 7 _ rfl; clear hb)
              | (go_simp; go_at_call 29; refine (IH.out x.els (.slice ea x.els.length ec) _ HXP.out.2.2 (XE.out.below W4.out)).mono ?_; rintro e5 w5 ⟨z5, rfl, hb⟩; have B5 := Lib.hid (B4.out.then_' hb); clear hb)
              | fail)
            all_goals
              go_wp2_with fail
              go_roundw
              case rel => exact ⟨k + 1, _, by omega, by go_num, rfl, B5.out⟩
              case measure => simp [intOf]; omega
    · obtain rfl : k = n := by omega
      go_wp2_with fail
      go_ret
      exact ⟨z, rfl, hb⟩

set_option maxHeartbeats 4000000 in
set_option maxRecDepth 100000 in
theorem small_any (l : List Fn) (v : Value) (w : World) (hsz : szP l ≤ 5000000) (hv : FnsAt w v l) : Calls Tryd.prog 12 #[.agg #[v]] w (RSomeB w) := by
  obtain ⟨a, cp, rfl⟩ := hv.shape
  have H := Lib.hid hv
  have HSZ := Lib.hid hsz
  have hl : l.length ≤ 5000000 := Nat.le_trans (szP_len l) hsz
  obtain ⟨n, hn⟩ : ∃ n, n = l.length := ⟨_, rfl⟩
  have HN := Lib.hid hn
  rw [← hn] at H hl ⊢
  clear hv hsz hn
  have P := Lib.hid (CsT.new w [.slice a n cp] 26).at_
  have B1 := Lib.hid (below1 w (.cells #[.slice a n cp] 26))
  have p0 := P.out.cell 0 _ rfl
  go_enter Tryd.func12, Tryd.ntmps12
  go_wp2_with fail
  generalize w.alloc (.cells #[.slice a n cp] 26) = w1 at *
  clear p0
  go_loopw [3, 9] (fun z_ k_ wr => ∃ (k : Nat) (z : Int), k ≤ n ∧ k_ = .int .i64 k ∧ z_ = .int .i64 z ∧ Below w.heap.size w wr) (fun _ k_ _ => n - (intOf k_).toNat)
  case atStart => exact ⟨0, 0, Nat.zero_le _, rfl, rfl, B1.out⟩
  case round =>
    obtain ⟨k, z, hk, rfl, rfl, hb⟩ := hrel
    by_cases hlt : k < n
    · obtain ⟨x, hx⟩ : ∃ x, l[k]? = some x := ⟨_, List.getElem?_eq_getElem (by rw [← HN.out]; exact hlt)⟩
      obtain ⟨b, o, c', u, y, hv, hbb, f0, f1, f2, hu, hy⟩ := (H.out.below hb).elem hx
      obtain ⟨rfl, -, rfl⟩ := Value.slice.inj hv
      obtain ⟨ua, uc, rfl⟩ := hu.shape
      obtain ⟨ya, yc, rfl⟩ := hy.shape
      have HY := Lib.hid hy
      have HXZ : Hid (szS x.body < 5000001) := Lib.hid (by have h1 := szP_mem (List.mem_of_getElem? hx); have h2 := HSZ.out; unfold szF at h1; omega)
      have hki : (k : Int) < (n : Int) := by omega
      have Bz := Lib.hid (below1 wr (.cells #[.string x.name, .slice ua x.params.length uc, .slice ya x.body.length yc] 35))
      have BB := Lib.hid (hb.then_' Bz.out)
      have T := Lib.hid (CsT.new wr [.string x.name, .slice ua x.params.length uc, .slice ya x.body.length yc] 35).at_
      have t1 := T.out.cell 1 _ rfl
      have t2 := T.out.cell 2 _ rfl
      clear hv hb hx hu hy
      go_wp2_with fail
      generalize wr.alloc (.cells #[.string x.name, .slice ua x.params.length uc, .slice ya x.body.length yc] 35) = wz at *
      have t1' := (T.out.below (below_drew' _)).cell 1 _ rfl
      have t2' := (T.out.below (below_drew' _)).cell 2 _ rfl
      go_region_law (first
        | (go_simp; go_at_call 29; refine (size_any 5000001 (by decide) x.body (.slice ya x.body.length yc) _ HXZ.out (HY.out.below (Bz.out.then_' (below_drew' _)))).mono ?_; rintro e4 w4 ⟨z4, rfl, hb⟩; have B4 := Lib.hid ((BB.out.then_' (below_drew' _)).then_' hb); have T4 := Lib.hid ((T.out.below (below_drew' _)).below hb); have r1 := T4.out.cell 1 _ rfl; clear hb)
        | fail)
      all_goals
        go_wp2_with fail
        all_goals first
          | (go_ret
             exact ⟨false, rfl, B4.out⟩)
          | (go_roundw
             case rel => exact ⟨k + 1, _, by omega, by go_num, rfl, B4.out⟩
             case measure => simp [intOf]; omega)
    · obtain rfl : k = n := by omega
      go_wp2_with fail
      go_ret
      exact ⟨true, rfl, hb⟩
end Go.Proofs.YtilholgbepfopaaDoor
