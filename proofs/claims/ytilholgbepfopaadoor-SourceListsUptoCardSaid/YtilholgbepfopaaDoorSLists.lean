/- SourceLists, walked. -/
import Derived.Test.YtilholgbepfopaaDoorSSmall
import Derived.Test.YtilholgbepfopaaDoorTNms
namespace Go.Proofs.YtilholgbepfopaaDoor
open Go.RowKit

theorem varsO_len (f : Fn) : (varsO f).length ≤ szF f := by
  unfold varsO szF
  have h1 := walkL_len (addAll [] f.params) f.body
  have h2 := addAll_len [] f.params
  simp only [List.length_nil] at h2
  omega

set_option maxHeartbeats 8000000 in
set_option maxRecDepth 100000 in
theorem sourceLists_walk (l : List Fn) (v : Value) (w : World) (hsz : szP l ≤ 2000000) (hv : FnsAt w v l) (hg : Glob w) : Calls Tryd.prog 5 #[.agg #[v]] w (RetB w true) := by
  obtain ⟨a, cp, rfl⟩ := hv.shape
  have H := Lib.hid hv
  have HG := Lib.hid hg
  have HSZ := Lib.hid hsz
  have hl : l.length ≤ 2000000 := Nat.le_trans (szP_len l) hsz
  obtain ⟨n, hn⟩ : ∃ n, n = l.length := ⟨_, rfl⟩
  have HN := Lib.hid hn
  rw [← hn] at H hl ⊢
  clear hv hsz hn hg
  have P := Lib.hid (CsT.new w [.slice a n cp] 26).at_
  have B1 := Lib.hid (below1 w (.cells #[.slice a n cp] 26))
  go_enter Tryd.func5, Tryd.ntmps5
  go_wp2_with fail
  generalize w.alloc (.cells #[.slice a n cp] 26) = w1 at *
  refine (sane5_any _ (HG.out.below B1.out)).mono ?_
  rintro e w2 ⟨rfl, hb⟩
  have B2 := Lib.hid (B1.out.then_' hb)
  have P2 := Lib.hid (P.out.below hb)
  have p0 := P2.out.cell 0 _ rfl
  clear hb B1 P
  go_wp2_with fail
  have H2 := Lib.hid (H.out.below B2.out)
  have HS : Hid (szP l ≤ 5000000) := Lib.hid (by have := HSZ.out; omega)
  rw [show (Value.slice a n cp) = Value.slice a n cp from rfl]
  refine (small_any l (.slice a n cp) w2 HS.out H2.out).mono ?_
  rintro e w3 ⟨b, rfl, hb⟩
  have B3 := Lib.hid (B2.out.then_' hb)
  have P3 := Lib.hid (P2.out.below hb)
  have p1 := P3.out.cell 0 _ rfl
  clear hb B2 P2 H2 p0
  cases b with
  | false =>
    go_wp2_with fail
    go_ret
    exact ⟨rfl, B3.out⟩
  | true =>
  go_wp2_with fail
  clear p1
  go_loopw [17] (fun k_ wr => ∃ (k : Nat), k ≤ n ∧ k_ = .int .i64 k ∧ Below w.heap.size w wr) (fun k_ _ => n - (intOf k_).toNat)
  case atStart => exact ⟨0, Nat.zero_le _, rfl, B3.out⟩
  case round =>
    obtain ⟨k, hk, rfl, hb⟩ := hrel
    by_cases hlt : k < n
    · obtain ⟨x, hx⟩ : ∃ x, l[k]? = some x := ⟨_, List.getElem?_eq_getElem (by rw [← HN.out]; exact hlt)⟩
      obtain ⟨b, o, c', u, y, hv, hbb, f0, f1, f2, hu, hy⟩ := (H.out.below hb).elem hx
      obtain ⟨rfl, -, rfl⟩ := Value.slice.inj hv
      obtain ⟨ua, uc, rfl⟩ := hu.shape
      obtain ⟨ya, yc, rfl⟩ := hy.shape
      have HU := Lib.hid hu
      have HY := Lib.hid hy
      have HXZ : Hid (szF x ≤ 2000000) := Lib.hid (Nat.le_trans (szP_mem (List.mem_of_getElem? hx)) HSZ.out)
      have HX5 : Hid (szF x ≤ 5000000 ∧ szF x ≤ 10000000 ∧ (varsO x).length ≤ 1000000000) := Lib.hid (by have := HXZ.out; have := varsO_len x; omega)
      have hki : (k : Int) < (n : Int) := by omega
      have Bz := Lib.hid (below1 wr (.cells #[.string x.name, .slice ua x.params.length uc, .slice ya x.body.length yc] 35))
      have BB := Lib.hid (hb.then_' Bz.out)
      have T := Lib.hid (CsT.new wr [.string x.name, .slice ua x.params.length uc, .slice ya x.body.length yc] 35).at_
      clear hv hb hx hu hy
      go_wp2_with fail
      have HUZ := Lib.hid (HU.out.below Bz.out)
      have HYZ := Lib.hid (HY.out.below Bz.out)
      generalize wr.alloc (.cells #[.string x.name, .slice ua x.params.length uc, .slice ya x.body.length yc] 35) = wz at *
      clear f0 f1 f2 HU HY Bz
      have t0 := (T.out.below (below_drew' _)).cell 0 _ rfl
      have t1 := (T.out.below (below_drew' _)).cell 1 _ rfl
      have t2 := (T.out.below (below_drew' _)).cell 2 _ rfl
      go_region_law (first
        | (go_simp; go_at_call 18; refine (svars_any x (.slice ua x.params.length uc) (.slice ya x.body.length yc) _ HX5.out.1 (HUZ.out.below (below_drew' _)) (HYZ.out.below (below_drew' _))).mono ?_; rintro e4 w4 ⟨a4, n4, c4, rfl, ho, hb⟩; have O4 := Lib.hid ho; have W4 := Lib.hid ((below_drew' _).then_' hb); have T4 := Lib.hid (T.out.below W4.out); have r0 := T4.out.cell 0 _ rfl; have r1 := T4.out.cell 1 _ rfl; have r2 := T4.out.cell 2 _ rfl; clear ho hb)
        | (go_simp; go_at_call 19; refine (rvars_any x (.slice ua x.params.length uc) (.slice ya x.body.length yc) _ HX5.out.2.1 (HUZ.out.below W4.out) (HYZ.out.below W4.out)).mono ?_; rintro e5 w5 ⟨a5, n5, c5, rfl, ho, hb⟩; have O5 := Lib.hid ho; have W5 := Lib.hid (W4.out.then_' hb); have O45 := Lib.hid (O4.out.below hb); clear ho hb)
        | (go_simp; go_at_call 17; refine (sameNames_any _ _ (varsO x) (varsO x) _ O45.out.at_ O5.out.at_ HX5.out.2.2).mono ?_; rw [show decide (varsO x = varsO x) = true from decide_eq_true rfl]; rintro e6 w6 ⟨rfl, hb⟩; have W6 := Lib.hid (W5.out.then_' hb); clear hb)
        | fail)
      all_goals
        have T6 := Lib.hid (T.out.below W6.out)
        have y2 := T6.out.cell 2 _ rfl
        have BB6 := Lib.hid (BB.out.then_' W6.out)
        have HY6 := Lib.hid (HYZ.out.below W6.out)
        have HSB : Hid (szS x.body ≤ 2000000) := Lib.hid (by have := HXZ.out; unfold szF at this; omega)
        have hql : x.body.length ≤ 2000000 := Nat.le_trans (szS_len x.body) HSB.out
        obtain ⟨q, hq⟩ : ∃ q, q = x.body.length := ⟨_, rfl⟩
        have HQ := Lib.hid hq
        rw [← hq] at HY6 hql y2
        clear hq t0 t1 t2 r0 r1 r2 O4 O5 O45 W4 W5 T4 HUZ HYZ T T6 W6 BB
        simp only [← HQ.out]
        go_wp2_with fail
        go_loopw [30] (fun k_ wx => ∃ (j : Nat), j ≤ q ∧ k_ = .int .i64 j ∧ Below w6.heap.size w6 wx) (fun k_ _ => q - (intOf k_).toNat)
        case atStart => exact ⟨0, Nat.zero_le _, rfl, Below.refl _ _⟩
        case round =>
          obtain ⟨j, hj, rfl, hb⟩ := hrel
          clear y2
          by_cases hlj : j < q
          · obtain ⟨s, hs⟩ : ∃ s, x.body[j]? = some s := ⟨_, List.getElem?_eq_getElem (by rw [← HQ.out]; exact hlj)⟩
            obtain ⟨b, o, c', u, xb, xe, hv, hbl, f0, f1, f2, f3, f4, f5, f6, f7, hu, hxb, hxe⟩ := (HY6.out.below hb).elem hs
            obtain ⟨rfl, -, rfl⟩ := Value.slice.inj hv
            obtain ⟨sa, sc, rfl⟩ := hu.shape
            obtain ⟨ba, bc, rfl⟩ := hxb.shape
            obtain ⟨ea, ec, rfl⟩ := hxe.shape
            have HU := Lib.hid hu
            have HSE : Hid (szE s.exprs ≤ 2000000) := Lib.hid (by have h1 := szS_mem (List.mem_of_getElem? hs); have h2 := s.sz_parts; have h3 := HSB.out; omega)
            have hel : s.exprs.length ≤ 2000000 := Nat.le_trans (szE_len s.exprs) HSE.out
            have hji : (j : Int) < (q : Int) := by omega
            have Bz := Lib.hid (below1 wr (.cells #[.int .i64 s.kind, .string s.name, .string s.fn, .int .i64 s.n, .int .i64 s.op, .slice sa s.exprs.length sc, .slice ba s.body.length bc, .slice ea s.els.length ec] 40))
            have BB := Lib.hid (hb.then_' Bz.out)
            have T := Lib.hid (CsT.new wr [.int .i64 s.kind, .string s.name, .string s.fn, .int .i64 s.n, .int .i64 s.op, .slice sa s.exprs.length sc, .slice ba s.body.length bc, .slice ea s.els.length ec] 40).at_
            have t5 := T.out.cell 5 _ rfl
            clear hv hb hs hu hxb hxe
            go_wp2_with fail
            have HUZ := Lib.hid (HU.out.below Bz.out)
            generalize wr.alloc (.cells #[.int .i64 s.kind, .string s.name, .string s.fn, .int .i64 s.n, .int .i64 s.op, .slice sa s.exprs.length sc, .slice ba s.body.length bc, .slice ea s.els.length ec] 40) = wz2 at *
            clear t5 f0 f1 f2 f3 f4 f5 f6 f7 HU Bz
            obtain ⟨z, hz⟩ : ∃ z, z = s.exprs.length := ⟨_, rfl⟩
            have HZ := Lib.hid hz
            rw [← hz] at HUZ hel
            simp only [← hz]
            clear hz T
            go_loopw [37] (fun k_ wx => ∃ (i : Nat), i ≤ z ∧ k_ = .int .i64 i ∧ Below wz2.heap.size wz2 wx) (fun k_ _ => z - (intOf k_).toNat)
            case atStart => exact ⟨0, Nat.zero_le _, rfl, Below.refl _ _⟩
            case round =>
              obtain ⟨i, hi, rfl, hb⟩ := hrel
              by_cases hli : i < z
              · obtain ⟨ex, hex⟩ : ∃ ex, s.exprs[i]? = some ex := ⟨_, List.getElem?_eq_getElem (by rw [← HZ.out]; exact hli)⟩
                obtain ⟨b5, o5, c5, u5, hv5, hb5, g0, g1, g2, g3, g4, hu5⟩ := (HUZ.out.below hb).elem hex
                obtain ⟨rfl, -, rfl⟩ := Value.slice.inj hv5
                obtain ⟨va, vc, rfl⟩ := hu5.shape
                have HV5 := Lib.hid hu5
                have HXM : Hid (ex.sz ≤ 5000000 ∧ ex.sz ≤ 10000000 ∧ (readsE ex).length ≤ 1000000000) := Lib.hid (by have h1 := szE_mem (List.mem_of_getElem? hex); have h2 := HSE.out; have h3 := readsE_len ex; omega)
                have hii : (i : Int) < (z : Int) := by omega
                have Bv := Lib.hid (below1 wr (.cells #[.int .i64 ex.kind, .int .i64 ex.n, .string ex.name, .int .i64 ex.op, .slice va ex.l.length vc] 42))
                have BV := Lib.hid (hb.then_' Bv.out)
                have TT := Lib.hid (CsT.new wr [.int .i64 ex.kind, .int .i64 ex.n, .string ex.name, .int .i64 ex.op, .slice va ex.l.length vc] 42).at_
                clear hv5 hb hex hu5
                go_wp2_with fail
                have HVZ := Lib.hid (HV5.out.below Bv.out)
                generalize wr.alloc (.cells #[.int .i64 ex.kind, .int .i64 ex.n, .string ex.name, .int .i64 ex.op, .slice va ex.l.length vc] 42) = wv at *
                clear g0 g1 g2 g3 g4 HV5 Bv
                have s0 := (TT.out.below (below_drew' _)).cell 0 _ rfl
                have s1 := (TT.out.below (below_drew' _)).cell 1 _ rfl
                have s2 := (TT.out.below (below_drew' _)).cell 2 _ rfl
                have s3 := (TT.out.below (below_drew' _)).cell 3 _ rfl
                have s4 := (TT.out.below (below_drew' _)).cell 4 _ rfl
                go_region_law (first
                  | (go_simp; go_at_call 20; refine (sreads_any ex (.slice va ex.l.length vc) _ HXM.out.1 (HVZ.out.below (below_drew' _))).mono ?_; rintro e4 w7 ⟨a4, n4, c4, rfl, ho, hb⟩; have O4 := Lib.hid ho; have W4 := Lib.hid ((below_drew' _).then_' hb); have T4 := Lib.hid (TT.out.below W4.out); have r0 := T4.out.cell 0 _ rfl; have r1 := T4.out.cell 1 _ rfl; have r2 := T4.out.cell 2 _ rfl; have r3 := T4.out.cell 3 _ rfl; have r4 := T4.out.cell 4 _ rfl; clear ho hb)
                  | (go_simp; go_at_call 21; refine (rreads_any 10000000 (by decide) ex (.slice va ex.l.length vc) _ HXM.out.2.1 (HVZ.out.below W4.out)).mono ?_; rintro e5 w8 ⟨a5, n5, c5, rfl, ho, hb⟩; have O5 := Lib.hid ho; have W5 := Lib.hid (W4.out.then_' hb); have O45 := Lib.hid (O4.out.below hb); clear ho hb)
                  | (go_simp; go_at_call 17; refine (sameNames_any _ _ (readsE ex) (readsE ex) _ O45.out.at_ O5.out.at_ HXM.out.2.2).mono ?_; rw [show decide (readsE ex = readsE ex) = true from decide_eq_true rfl]; rintro e6 w9 ⟨rfl, hb⟩; have W6 := Lib.hid (W5.out.then_' hb); clear hb)
                  | fail)
                all_goals
                  go_wp2_with fail
                  go_roundw
                  case rel => exact ⟨i + 1, by omega, by go_num, BV.out.then_' W6.out⟩
                  case measure => simp [intOf]; omega
              · obtain rfl : i = z := by omega
                have BE := Lib.hid (BB.out.then_' hb)
                clear hb
                go_wp2_with fail
                go_roundw
                case rel => exact ⟨j + 1, by omega, by go_num, BE.out⟩
                case measure => simp [intOf]; omega
          · obtain rfl : j = q := by omega
            have BE := Lib.hid (BB6.out.then_' hb)
            clear hb
            go_wp2_with fail
            go_roundw
            case rel => exact ⟨k + 1, by omega, by go_num, BE.out⟩
            case measure => simp [intOf]; omega
    · obtain rfl : k = n := by omega
      go_wp2_with fail
      go_ret
      exact ⟨rfl, hb⟩
end Go.Proofs.YtilholgbepfopaaDoor
