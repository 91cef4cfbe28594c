import Derived.Deep.DeepCutAuto
import Derived.Test.YtilholgbepfopaaDoorZ1
import Derived.Test.YtilholgbepfopaaDoorZ5
/- Equal trees (of the reference). -/
namespace Go.Proofs.YtilholgbepfopaaDoor
open Go.RowKit

set_option maxHeartbeats 2000000 in
set_option maxRecDepth 100000 in
theorem sameExpr_any (m : Nat) (hm : m ≤ 1000000000) : ∀ (a b : Ex) (va vb : Value) (w : World), a.sz ≤ m → ExsAt w va a.l → ExsAt w vb b.l →
    Calls Tryd.prog 64 #[exV a va, exV b vb] w (RetB w (decide (a = b))) := by
  induction m with
  | zero => intro a _ _ _ _ h; have := a.sz_pos; omega
  | succ m ih =>
    intro a b va vb w hsz hva hvb
    obtain ⟨a0, c0, e0⟩ := hva.shape
    obtain ⟨a1, c1, e1⟩ := hvb.shape
    have HA := Lib.hid hva
    have HB := Lib.hid hvb
    have HSZ : Hid (szE a.l ≤ m) := Lib.hid (by have := a.sz_l; omega)
    have hla : a.l.length ≤ 1000000000 := by have := szE_len a.l; have := HSZ.out; omega
    have IH := Lib.hid (ih (by omega))
    clear ih hsz hva hvb
    subst e0 e1
    go_enter Tryd.func64, Tryd.ntmps64
    have HBB := Lib.hid (Below.new (below1 w (.cells (exC a (.slice a0 a.l.length c0)).toArray 42)) (.cells (exC b (.slice a1 b.l.length c1)).toArray 42))
    unfold exC at HBB
    by_cases h : a.kind = b.kind
    · have e1 := Lib.hid h
      have d1 : (a.kind != b.kind) = false := by rw [bne_eq_false_iff_eq]; exact h
      have d2 : (a.kind == b.kind) = true := by rw [beq_iff_eq]; exact h
      clear h
      by_cases h : a.n = b.n
      · have e2 := Lib.hid h
        have d3 : (a.n != b.n) = false := by rw [bne_eq_false_iff_eq]; exact h
        have d4 : (a.n == b.n) = true := by rw [beq_iff_eq]; exact h
        clear h
        by_cases h : a.name = b.name
        · have e3 := Lib.hid h
          have d5 := tstr_eq h
          clear h
          by_cases h : a.op = b.op
          · have e4 := Lib.hid h
            have d6 : (a.op != b.op) = false := by rw [bne_eq_false_iff_eq]; exact h
            have d7 : (a.op == b.op) = true := by rw [beq_iff_eq]; exact h
            clear h
            by_cases h : a.l.length = b.l.length
            · have hd : decide (a = b) = eqFrom a.l b.l 0 := by rw [eqFrom_zero]; exact decide_eq_decide.2 ⟨fun e => by rw [e], fun e => Ex.ext' e1.out e2.out e3.out e4.out e⟩
              generalize decide (a = b) = q at *
              have HQ := Lib.hid hd
              clear hd
              obtain ⟨n, hn⟩ : ∃ n, n = a.l.length := ⟨_, rfl⟩
              have HN := Lib.hid hn
              have HM : Hid (n = b.l.length) := Lib.hid (by rw [hn]; exact h)
              have d8 : ((n : Int) != (n : Int)) = false := by rw [bne_eq_false_iff_eq]
              have d9 : ((n : Int) == (n : Int)) = true := by rw [beq_iff_eq]
              rw [← h, ← hn] at HB ⊢
              rw [← hn] at HA hla
              clear h HBB hn
              obtain ⟨W, hW, hB, hP, hR⟩ := two_boxes w (exC a (.slice a0 n c0)) (exC b (.slice a1 n c1)) 42
              unfold exC at hW
              have HW := Lib.hid hW
              have BW := Lib.hid hB
              have PW := Lib.hid hP
              have RW := Lib.hid hR
              have p4 := hP.cell 4 _ rfl
              clear hW hB hR hP
              unfold exV
              go_wp2_with fail
              rw [HW.out]
              go_loopw [5, 44] (fun _ k_ wr => ∃ k : Nat, k ≤ n ∧ k_ = .int .i64 k ∧ Below w.heap.size w wr ∧ CsAt wr w.heap.size (exC a (.slice a0 n c0)) ∧ CsAt wr (w.heap.size + 1) (exC b (.slice a1 n c1)) ∧ Hid (q = eqFrom a.l b.l k)) (fun _ k_ _ => n - (intOf k_).toNat)
              case atStart => exact ⟨0, Nat.zero_le _, rfl, BW.out, PW.out, RW.out, HQ.out⟩
              case round =>
                clear p4 BW PW RW
                obtain ⟨k, hk, rfl, hb, hP, hR, hi⟩ := hrel
                have PX := Lib.hid hP
                have RX := Lib.hid hR
                have BX := Lib.hid hb
                by_cases hlt : k < n
                · obtain ⟨x, hx⟩ : ∃ x, a.l[k]? = some x := ⟨_, List.getElem?_eq_getElem (by rw [← HN.out]; exact hlt)⟩
                  obtain ⟨y, hy⟩ : ∃ x, b.l[k]? = some x := ⟨_, List.getElem?_eq_getElem (by rw [← HM.out]; exact hlt)⟩
                  obtain ⟨ab, ao, ac, au, hv, _, f0, f1, f2, f3, f4, hau⟩ := (HA.out.below hb).elem hx
                  obtain ⟨rfl, -, rfl⟩ := Value.slice.inj hv
                  obtain ⟨bb, bo, bc, bu, hv2, _, g0, g1, g2, g3, g4, hbu⟩ := (HB.out.below hb).elem hy
                  obtain ⟨rfl, -, rfl⟩ := Value.slice.inj hv2
                  have HX := Lib.hid hx
                  have HY := Lib.hid hy
                  have AU := Lib.hid hau
                  have BU := Lib.hid hbu
                  have hki : (k : Int) < (n : Int) := by omega
                  have p4 := hP.cell 4 _ rfl
                  have r4 := hR.cell 4 _ rfl
                  have hxm : Hid (x.sz ≤ m) := Lib.hid (Nat.le_trans (szE_mem (List.mem_of_getElem? hx)) HSZ.out)
                  clear hv hv2 hb hP hR hx hy hau hbu
                  go_wp2_with fail
                  go_region_law (first
                    | (go_simp; go_at_call 64; refine (IH.out x y au bu _ hxm.out (AU.out.below (below_drew' _)) (BU.out.below (below_drew' _))).mono ?_; rintro e w2 ⟨rfl, hb⟩; have B2 := Lib.hid ((below_drew' _).then_' hb); clear hb)
                    | fail)
                  all_goals
                    by_cases hxy : x = y
                    · have hd : decide (x = y) = true := decide_eq_true hxy
                      have HE := Lib.hid (eqFrom_same HX.out (by rw [hxy]; exact HY.out))
                      rw [hd]
                      clear hxy
                      go_wp2
                      go_roundw
                      case rel => exact ⟨k + 1, by omega, by go_num, BX.out.then_' B2.out, PX.out.below B2.out, RX.out.below B2.out, by rw [hi.out]; exact HE.out⟩
                      case measure => simp [intOf]; omega
                    · have hd : decide (x = y) = false := decide_eq_false hxy
                      have HE := Lib.hid (eqFrom_other HX.out HY.out hxy)
                      rw [hd]
                      clear hxy
                      go_wp2
                      go_ret
                      exact ⟨by rw [hi.out, HE.out]; rfl, BX.out.then_' B2.out⟩
                · obtain rfl : k = n := by omega
                  have HG := Lib.hid (eqFrom_end a.l b.l k (Nat.le_of_eq HN.out.symm) (Nat.le_of_eq HM.out.symm))
                  clear hb hP hR
                  go_wp2
                  go_ret
                  exact ⟨by rw [hi.out, HG.out]; rfl, BX.out⟩
            · have d8 : ((a.l.length : Int) != (b.l.length : Int)) = true := by rw [bne_iff_ne]; omega
              have d9 : ((a.l.length : Int) == (b.l.length : Int)) = false := by rw [beq_eq_false_iff_ne]; omega
              have hd : decide (a = b) = false := decide_eq_false (fun e => h (by rw [e]))
              rw [hd]
              unfold exV
              go_wp2_with fail
              go_ret
              exact ⟨rfl, HBB.out⟩
          · have d6 : (a.op != b.op) = true := by rw [bne_iff_ne]; exact h
            have d7 : (a.op == b.op) = false := by rw [beq_eq_false_iff_ne]; exact h
            have hd : decide (a = b) = false := decide_eq_false (fun e => h (by rw [e]))
            rw [hd]
            unfold exV
            go_wp2_with fail
            go_ret
            exact ⟨rfl, HBB.out⟩
        · have d5 := tstr_ne h
          have hd : decide (a = b) = false := decide_eq_false (fun e => h (by rw [e]))
          rw [hd]
          unfold exV
          go_wp2_with fail
          go_ret
          exact ⟨rfl, HBB.out⟩
      · have d3 : (a.n != b.n) = true := by rw [bne_iff_ne]; exact h
        have d4 : (a.n == b.n) = false := by rw [beq_eq_false_iff_ne]; exact h
        have hd : decide (a = b) = false := decide_eq_false (fun e => h (by rw [e]))
        rw [hd]
        unfold exV
        go_wp2_with fail
        go_ret
        exact ⟨rfl, HBB.out⟩
    · have d1 : (a.kind != b.kind) = true := by rw [bne_iff_ne]; exact h
      have d2 : (a.kind == b.kind) = false := by rw [beq_eq_false_iff_ne]; exact h
      have hd : decide (a = b) = false := decide_eq_false (fun e => h (by rw [e]))
      rw [hd]
      unfold exV
      go_wp2_with fail
      go_ret
      exact ⟨rfl, HBB.out⟩
end Go.Proofs.YtilholgbepfopaaDoor
/- Equal lists of names (of the reference). -/
namespace Go.Proofs.YtilholgbepfopaaDoor
open Go.RowKit

set_option maxHeartbeats 1000000 in
set_option maxRecDepth 100000 in
theorem sameNames_any (v u : Value) (l m : List ByteArray) (w : World) (hv : NmsAt w v l) (hu : NmsAt w u m) (hl : l.length ≤ 1000000000) :
    Calls Tryd.prog 17 #[v, u] w (RetB w (decide (l = m))) := by
  obtain ⟨a, c, rfl⟩ := hv.shape
  obtain ⟨a2, c2, rfl⟩ := hu.shape
  have H := Lib.hid hv
  have H2 := Lib.hid hu
  clear hv hu
  by_cases he : l.length = m.length
  · have hd : decide (l = m) = eqFrom l m 0 := by rw [eqFrom_zero]
    generalize decide (l = m) = q at *
    have HD := Lib.hid hd
    clear hd
    obtain ⟨n, hn⟩ : ∃ n, n = l.length := ⟨_, rfl⟩
    have HN := Lib.hid hn
    have HM : Hid (n = m.length) := Lib.hid (by rw [hn]; exact he)
    rw [← he, ← hn] at H2 ⊢
    rw [← hn] at H hl
    have HG : Hid (eqFrom l m n = true) := Lib.hid (eqFrom_end l m n (Nat.le_of_eq HN.out.symm) (Nat.le_of_eq HM.out.symm))
    clear he hn
    go_enter Tryd.func17, Tryd.ntmps17
    go_wp2
    go_loopw [5, 13] (fun _ k_ wr => ∃ k : Nat, k ≤ n ∧ k_ = .int .i64 k ∧ Below w.heap.size w wr ∧ Hid (q = eqFrom l m k)) (fun _ k_ _ => n - (intOf k_).toNat)
    case atStart => exact ⟨0, Nat.zero_le _, rfl, Below.refl _ _, HD.out⟩
    case round =>
      obtain ⟨k, hk, rfl, hb, hi⟩ := hrel
      by_cases hlt : k < n
      · obtain ⟨x, hx⟩ : ∃ x, l[k]? = some x := ⟨_, List.getElem?_eq_getElem (by rw [← HN.out]; exact hlt)⟩
        obtain ⟨y, hy⟩ : ∃ x, m[k]? = some x := ⟨_, List.getElem?_eq_getElem (by rw [← HM.out]; exact hlt)⟩
        obtain ⟨b, o, c', hv, _, hc0⟩ := (H.out.below hb).elem hx
        obtain ⟨rfl, -, rfl⟩ := Value.slice.inj hv
        obtain ⟨b2, o2, c2', hw, _, hd0⟩ := (H2.out.below hb).elem hy
        obtain ⟨rfl, -, rfl⟩ := Value.slice.inj hw
        clear hv hw
        have HX := Lib.hid hx
        have HY := Lib.hid hy
        have HB := Lib.hid hb
        clear hb hx hy
        have hki : (k : Int) < (n : Int) := by omega
        by_cases hq : x = y
        · have HE : Hid (eqFrom l m k = eqFrom l m (k + 1)) := Lib.hid (eqFrom_same HX.out (by rw [hq]; exact HY.out))
          have hs := tstr_eq hq
          clear hq
          go_wp2_with fail
          go_quiet (fail)
          go_wp2
          go_roundw
          case rel => exact ⟨k + 1, by omega, by go_num, Below.drewN HB.out _, by rw [hi.out]; exact HE.out⟩
          case measure => simp [intOf]; omega
        · have HE : Hid (eqFrom l m k = false) := Lib.hid (eqFrom_other HX.out HY.out hq)
          have hs := tstr_ne hq
          clear hq
          go_wp2_with fail
          go_quiet (fail)
          go_wp2
          go_ret
          exact ⟨by rw [hi.out, HE.out]; rfl, Below.drewN HB.out _⟩
      · obtain rfl : k = n := by omega
        go_wp2
        go_ret
        exact ⟨by rw [hi.out, HG.out]; rfl, hb⟩
  · have he' : ((l.length : Int) == (m.length : Int)) = false := by rw [beq_eq_false_iff_ne]; omega
    rw [eq_lens he]
    go_enter Tryd.func17, Tryd.ntmps17
    go_wp2
    go_ret
    exact ⟨rfl, Below.refl _ _⟩
end Go.Proofs.YtilholgbepfopaaDoor
/- Equal lists of names, of statements; equal programs (of the reference). -/
namespace Go.Proofs.YtilholgbepfopaaDoor
open Go.RowKit

set_option maxHeartbeats 4000000 in
set_option maxRecDepth 100000 in
theorem sameStmts_any (m : Nat) (hm : m ≤ 1000000000) : ∀ (A B : List St) (va vb : Value) (w : World), szS A < m → StsAt w va A → StsAt w vb B →
    Calls Tryd.prog 36 #[va, vb] w (RetB w (decide (A = B))) := by
  induction m with
  | zero => intro _ _ _ _ _ h; omega
  | succ m ih =>
    intro A B va vb w hsz hva hvb
    obtain ⟨a, c, rfl⟩ := hva.shape
    obtain ⟨a2, c2, rfl⟩ := hvb.shape
    have H := Lib.hid hva
    have H2 := Lib.hid hvb
    have HSZ : Hid (szS A ≤ m) := Lib.hid (by omega)
    have hl : A.length ≤ 1000000000 := by have := szS_len A; omega
    have IH := Lib.hid (ih (by omega))
    clear ih hsz hva hvb
    by_cases he : A.length = B.length
    · have hd : decide (A = B) = eqFrom A B 0 := by rw [eqFrom_zero]
      generalize decide (A = B) = q at *
      have HD := Lib.hid hd
      clear hd
      obtain ⟨n, hn⟩ : ∃ n, n = A.length := ⟨_, rfl⟩
      have HN := Lib.hid hn
      have HM : Hid (n = B.length) := Lib.hid (by rw [hn]; exact he)
      rw [← he, ← hn] at H2 ⊢
      rw [← hn] at H hl
      have HG : Hid (eqFrom A B n = true) := Lib.hid (eqFrom_end A B n (Nat.le_of_eq HN.out.symm) (Nat.le_of_eq HM.out.symm))
      clear he hn
      go_enter Tryd.func36, Tryd.ntmps36
      go_wp2
      go_loopw [5, 6, 7, 8, 16] (fun _ _ _ _ k_ wr => ∃ k : Nat, k ≤ n ∧ k_ = .int .i64 k ∧ Below w.heap.size w wr ∧ Hid (q = eqFrom A B k)) (fun _ _ _ _ k_ _ => n - (intOf k_).toNat)
      case atStart => exact ⟨0, Nat.zero_le _, rfl, Below.refl _ _, HD.out⟩
      case round =>
        obtain ⟨k, hk, rfl, hb, hi⟩ := hrel
        by_cases hlt : k < n
        · obtain ⟨x, hx⟩ : ∃ x, A[k]? = some x := ⟨_, List.getElem?_eq_getElem (by rw [← HN.out]; exact hlt)⟩
          obtain ⟨y, hy⟩ : ∃ x, B[k]? = some x := ⟨_, List.getElem?_eq_getElem (by rw [← HM.out]; exact hlt)⟩
          obtain ⟨ab, ao, ac, au, ax, ay, hv, hab, f0, f1, f2, f3, f4, f5, f6, f7, hau, hax, hay⟩ := (H.out.below hb).elem hx
          obtain ⟨rfl, -, rfl⟩ := Value.slice.inj hv
          obtain ⟨bb, bo, bc, bu, bx, by_, hw, hbb, g0, g1, g2, g3, g4, g5, g6, g7, hbu, hbx, hby⟩ := (H2.out.below hb).elem hy
          obtain ⟨rfl, -, rfl⟩ := Value.slice.inj hw
          obtain ⟨ua, uc, rfl⟩ := hau.shape
          obtain ⟨xa, xc, rfl⟩ := hax.shape
          obtain ⟨ya, yc, rfl⟩ := hay.shape
          obtain ⟨ua2, uc2, rfl⟩ := hbu.shape
          obtain ⟨xa2, xc2, rfl⟩ := hbx.shape
          obtain ⟨ya2, yc2, rfl⟩ := hby.shape
          have HX := Lib.hid hx
          have HY := Lib.hid hy
          have HBB := Lib.hid hb
          have AU := Lib.hid hau
          have AX := Lib.hid hax
          have AY := Lib.hid hay
          have BU := Lib.hid hbu
          have BX := Lib.hid hbx
          have BY := Lib.hid hby
          have hki : (k : Int) < (n : Int) := by omega
          have hxm : Hid (x.sz ≤ m) := Lib.hid (Nat.le_trans (szS_mem (List.mem_of_getElem? hx)) HSZ.out)
          clear hv hw hb hx hy hau hax hay hbu hbx hby
          go_upto_region 6 with (fail)
          go_cut [6, 7] (fun p6 p7 wx => ∃ z6 z7 : Nat, p6 = .pointer (some ⟨z6, 0, none⟩) ∧ p7 = .pointer (some ⟨z7, 0, none⟩) ∧ CsAt wx z6 (stC x (.slice ua x.exprs.length uc) (.slice xa x.body.length xc) (.slice ya x.els.length yc)) ∧ CsAt wx z7 (stC y (.slice ua2 y.exprs.length uc2) (.slice xa2 y.body.length xc2) (.slice ya2 y.els.length yc2)) ∧ Below wr.heap.size wr wx)
          case first =>
            go_region_law (fail)
            all_goals
              go_wp2
              go_meet
              case rel =>
                first
                  | exact ⟨_, _, rfl, rfl, ((CsAt.new wr (stC x (.slice ua x.exprs.length uc) (.slice xa x.body.length xc) (.slice ya x.els.length yc)) _).alloc _).below (below_drew' _), (CsAt.newAt _ _ (by simp) (stC y (.slice ua2 y.exprs.length uc2) (.slice xa2 y.body.length xc2) (.slice ya2 y.els.length yc2)) _).below (below_drew' _), (Below.new (below1 _ _) _).drew⟩
                  | exact ⟨_, _, rfl, rfl, (CsAt.newAt _ _ (by simp) (stC x (.slice ua x.exprs.length uc) (.slice xa x.body.length xc) (.slice ya x.els.length yc)) _).below (below_drew' _), ((CsAt.new wr (stC y (.slice ua2 y.exprs.length uc2) (.slice xa2 y.body.length xc2) (.slice ya2 y.els.length yc2)) _).alloc _).below (below_drew' _), (Below.new (below1 _ _) _).drew⟩
                  | fail
          case rest =>
            obtain ⟨z6, z7, rfl, rfl, hz6, hz7, hbx⟩ := hcut
            have p0 := hz6.cell 0 _ rfl
            have r0 := hz7.cell 0 _ rfl
            have p1 := hz6.cell 1 _ rfl
            have r1 := hz7.cell 1 _ rfl
            have p2 := hz6.cell 2 _ rfl
            have r2 := hz7.cell 2 _ rfl
            have p3 := hz6.cell 3 _ rfl
            have r3 := hz7.cell 3 _ rfl
            have p4 := hz6.cell 4 _ rfl
            have r4 := hz7.cell 4 _ rfl
            have p5 := hz6.cell 5 _ rfl
            have r5 := hz7.cell 5 _ rfl
            have p6 := hz6.cell 6 _ rfl
            have r6 := hz7.cell 6 _ rfl
            have p7 := hz6.cell 7 _ rfl
            have r7 := hz7.cell 7 _ rfl
            have P6 := Lib.hid hz6
            have P7 := Lib.hid hz7
            have BC := Lib.hid (HBB.out.then_' hbx)
            replace AU := Lib.hid (AU.out.below hbx)
            replace AX := Lib.hid (AX.out.below hbx)
            replace AY := Lib.hid (AY.out.below hbx)
            replace BU := Lib.hid (BU.out.below hbx)
            replace BX := Lib.hid (BX.out.below hbx)
            replace BY := Lib.hid (BY.out.below hbx)
            have HNE : Hid (x ≠ y → eqFrom A B k = false) := Lib.hid (fun h => eqFrom_other HX.out HY.out h)
            have HSB : Hid (szS x.body < m ∧ szS x.els < m ∧ szE x.exprs ≤ m) := Lib.hid (by have := x.sz_parts; have := hxm.out; omega)
            clear hz6 hz7 hbx HBB f0 f1 f2 f3 f4 f5 f6 f7 g0 g1 g2 g3 g4 g5 g6 g7
            by_cases h : x.kind = y.kind
            · have e0 := Lib.hid h
              have d0 : (x.kind != y.kind) = false := by rw [bne_eq_false_iff_eq]; exact h
              have d0' : (x.kind == y.kind) = true := by rw [beq_iff_eq]; exact h
              clear h
              by_cases h : x.name = y.name
              · have e1 := Lib.hid h
                have d1 := tstr_eq h
                clear h
                by_cases h : x.fn = y.fn
                · have e2 := Lib.hid h
                  have d2 := tstr_eq h
                  clear h
                  by_cases h : x.n = y.n
                  · have e3 := Lib.hid h
                    have d3 : (x.n != y.n) = false := by rw [bne_eq_false_iff_eq]; exact h
                    have d3' : (x.n == y.n) = true := by rw [beq_iff_eq]; exact h
                    clear h
                    by_cases h : x.op = y.op
                    · have e4 := Lib.hid h
                      have d4 : (x.op != y.op) = false := by rw [bne_eq_false_iff_eq]; exact h
                      have d4' : (x.op == y.op) = true := by rw [beq_iff_eq]; exact h
                      clear h
                      by_cases h : x.exprs.length = y.exprs.length
                      · have e5 := Lib.hid h
                        have d5 : ((x.exprs.length : Int) != (y.exprs.length : Int)) = false := by rw [bne_eq_false_iff_eq]; omega
                        have d5' : ((x.exprs.length : Int) == (y.exprs.length : Int)) = true := by rw [beq_iff_eq]; omega
                        clear h
                        have HM1 := Lib.hid True.intro
                        by_cases h : x.body = y.body
                        · have e6 := Lib.hid h
                          have HDB := Lib.hid (decide_eq_true h)
                          clear h
                          by_cases h : x.els = y.els
                          · have e7 := Lib.hid h
                            have HDE := Lib.hid (decide_eq_true h)
                            clear h
                            go_wp2_with (first
                              | (clear HM1; go_at_call 36; refine (IH.out x.body y.body _ _ _ HSB.out.1 AX.out BX.out).mono ?_; rw [HDB.out]; rintro e w2 ⟨rfl, hb⟩; have B2 := Lib.hid hb; have P62 := P6.out.below hb; have P72 := P7.out.below hb; have s5 := P62.cell 5 _ rfl; have s6 := P62.cell 6 _ rfl; have s7 := P62.cell 7 _ rfl; have t5 := P72.cell 5 _ rfl; have t6 := P72.cell 6 _ rfl; have t7 := P72.cell 7 _ rfl; clear hb P62 P72)
                              | (go_at_call 36; refine (IH.out x.els y.els _ _ _ HSB.out.2.1 (AY.out.below B2.out) (BY.out.below B2.out)).mono ?_; rw [HDE.out]; rintro e w3 ⟨rfl, hb⟩; have B3 := Lib.hid (B2.out.then_' hb); have P63 := P6.out.below B3.out; have P73 := P7.out.below B3.out; have u5 := P63.cell 5 _ rfl; have v5 := P73.cell 5 _ rfl; clear hb P63 P73)
                              | fail)
                            obtain ⟨qe, hqe⟩ : ∃ qe, qe = decide (x.exprs = y.exprs) := ⟨_, rfl⟩
                            have HQE : Hid (qe = eqFrom x.exprs y.exprs 0) := Lib.hid (by rw [hqe, eqFrom_zero])
                            have HQX : Hid (qe = false → eqFrom A B k = false) := Lib.hid (fun hf => HNE.out (fun e => by rw [hf] at hqe; exact of_decide_eq_false hqe.symm (by rw [e])))
                            have HQT : Hid (qe = true → x = y) := Lib.hid (fun hf => St.ext' e0.out e1.out e2.out e3.out e4.out (by rw [hf] at hqe; exact of_decide_eq_true hqe.symm) e6.out e7.out)
                            obtain ⟨ne, hne⟩ : ∃ ne, ne = x.exprs.length := ⟨_, rfl⟩
                            have HNx := Lib.hid hne
                            have HNy : Hid (ne = y.exprs.length) := Lib.hid (by rw [hne]; exact e5.out)
                            have hnl : ne ≤ 1000000000 := by rw [hne]; have h1 := szE_len x.exprs; have h2 := HSB.out.2.2; omega
                            have BC3 := Lib.hid (BC.out.then_' B3.out)
                            have P63 := Lib.hid (P6.out.below B3.out)
                            have P73 := Lib.hid (P7.out.below B3.out)
                            have AU3 := Lib.hid (AU.out.below B3.out)
                            have BU3 := Lib.hid (BU.out.below B3.out)
                            clear hqe
                            rw [← HNy.out] at P73 BU3
                            rw [← hne] at P63 AU3 ⊢
                            clear hne s5 s6 s7 t5 t6 t7 u5 v5
                            go_loopw [8, 88] (fun _ k_ wx => ∃ j : Nat, j ≤ ne ∧ k_ = .int .i64 j ∧ Below w3.heap.size w3 wx ∧ Hid (qe = eqFrom x.exprs y.exprs j)) (fun _ k_ _ => ne - (intOf k_).toNat)
                            case atStart => exact ⟨0, Nat.zero_le _, rfl, Below.refl _ _, HQE.out⟩
                            case round =>
                              obtain ⟨j, hj, rfl, hb, hie⟩ := hrel
                              have B4 := Lib.hid hb
                              by_cases hjt : j < ne
                              · obtain ⟨ex, hex⟩ : ∃ ex, x.exprs[j]? = some ex := ⟨_, List.getElem?_eq_getElem (by rw [← HNx.out]; exact hjt)⟩
                                obtain ⟨ey, hey⟩ : ∃ ex, y.exprs[j]? = some ex := ⟨_, List.getElem?_eq_getElem (by rw [← HNy.out]; exact hjt)⟩
                                obtain ⟨eb, eo, ec, eu, hv, _, f0, f1, f2, f3, f4, heu⟩ := (AU3.out.below hb).elem hex
                                obtain ⟨rfl, -, rfl⟩ := Value.slice.inj hv
                                obtain ⟨eb2, eo2, ec2, eu2, hv2, _, g0, g1, g2, g3, g4, heu2⟩ := (BU3.out.below hb).elem hey
                                obtain ⟨rfl, -, rfl⟩ := Value.slice.inj hv2
                                have HEX := Lib.hid hex
                                have HEY := Lib.hid hey
                                have EU := Lib.hid heu
                                have EU2 := Lib.hid heu2
                                have hjn : (j : Int) < (ne : Int) := by omega
                                have q5 := (P63.out.below hb).cell 5 _ rfl
                                have q5' := (P73.out.below hb).cell 5 _ rfl
                                have hem : Hid (ex.sz ≤ m) := Lib.hid (Nat.le_trans (szE_mem (List.mem_of_getElem? hex)) HSB.out.2.2)
                                clear hv hv2 hb hex hey heu heu2
                                go_wp2_with fail
                                go_region_law (first
                                  | (go_simp; go_at_call 64; refine (sameExpr_any m (by omega) ex ey eu eu2 _ hem.out (EU.out.below (below_drew' _)) (EU2.out.below (below_drew' _))).mono ?_; rintro e w5 ⟨rfl, hb⟩; have B5 := Lib.hid ((below_drew' _).then_' hb); clear hb)
                                  | fail)
                                all_goals
                                  by_cases hxy : ex = ey
                                  · have hd : decide (ex = ey) = true := decide_eq_true hxy
                                    have HE := Lib.hid (eqFrom_same HEX.out (by rw [hxy]; exact HEY.out))
                                    rw [hd]
                                    clear hxy
                                    go_wp2
                                    go_roundw
                                    case rel => exact ⟨j + 1, by omega, by go_num, B4.out.then_' B5.out, by rw [hie.out]; exact HE.out⟩
                                    case measure => simp [intOf]; omega
                                  · have hd : decide (ex = ey) = false := decide_eq_false hxy
                                    have HE := Lib.hid (HQX.out (by rw [hie.out]; exact eqFrom_other HEX.out HEY.out hxy))
                                    rw [hd]
                                    clear hxy
                                    go_wp2
                                    go_ret
                                    exact ⟨by rw [hi.out, HE.out]; rfl, BC3.out.then_' (B4.out.then_' B5.out)⟩
                              · obtain rfl : j = ne := by omega
                                have HG2 := Lib.hid (HQT.out (by rw [hie.out]; exact eqFrom_end x.exprs y.exprs j (Nat.le_of_eq HNx.out.symm) (Nat.le_of_eq HNy.out.symm)))
                                have HE := Lib.hid (eqFrom_same HX.out (by rw [HG2.out]; exact HY.out))
                                clear hb
                                go_wp2
                                go_roundw
                                case rel => exact ⟨k + 1, by omega, by go_num, BC3.out.then_' B4.out, by rw [hi.out]; exact HE.out⟩
                                case measure => simp [intOf]; omega
                          · have HDE := Lib.hid (decide_eq_false h)
                            have HE := Lib.hid (HNE.out (fun e => h (by rw [e])))
                            clear h
                            go_wp2_with (first
                              | (clear HM1; go_at_call 36; refine (IH.out x.body y.body _ _ _ HSB.out.1 AX.out BX.out).mono ?_; rw [HDB.out]; rintro e w2 ⟨rfl, hb⟩; have B2 := Lib.hid hb; have P62 := P6.out.below hb; have P72 := P7.out.below hb; have s5 := P62.cell 5 _ rfl; have s6 := P62.cell 6 _ rfl; have s7 := P62.cell 7 _ rfl; have t5 := P72.cell 5 _ rfl; have t6 := P72.cell 6 _ rfl; have t7 := P72.cell 7 _ rfl; clear hb P62 P72)
                              | (go_at_call 36; refine (IH.out x.els y.els _ _ _ HSB.out.2.1 (AY.out.below B2.out) (BY.out.below B2.out)).mono ?_; rw [HDE.out]; rintro e w3 ⟨rfl, hb⟩; have B3 := Lib.hid (B2.out.then_' hb); have P63 := P6.out.below B3.out; have P73 := P7.out.below B3.out; have u5 := P63.cell 5 _ rfl; have v5 := P73.cell 5 _ rfl; clear hb P63 P73)
                              | fail)
                            go_ret
                            exact ⟨by rw [hi.out, HE.out]; rfl, BC.out.then_' B3.out⟩
                        · have HDB := Lib.hid (decide_eq_false h)
                          have HE := Lib.hid (HNE.out (fun e => h (by rw [e])))
                          clear h
                          go_wp2_with (first
                            | (clear HM1; go_at_call 36; refine (IH.out x.body y.body _ _ _ HSB.out.1 AX.out BX.out).mono ?_; rw [HDB.out]; rintro e w2 ⟨rfl, hb⟩; have B2 := Lib.hid hb; have P62 := P6.out.below hb; have P72 := P7.out.below hb; have s5 := P62.cell 5 _ rfl; have s6 := P62.cell 6 _ rfl; have s7 := P62.cell 7 _ rfl; have t5 := P72.cell 5 _ rfl; have t6 := P72.cell 6 _ rfl; have t7 := P72.cell 7 _ rfl; clear hb P62 P72)
                            | fail)
                          go_ret
                          exact ⟨by rw [hi.out, HE.out]; rfl, BC.out.then_' B2.out⟩
                      · have d5 : ((x.exprs.length : Int) != (y.exprs.length : Int)) = true := by rw [bne_iff_ne]; omega
                        have d5' : ((x.exprs.length : Int) == (y.exprs.length : Int)) = false := by rw [beq_eq_false_iff_ne]; omega
                        have HE := Lib.hid (HNE.out (fun e => h (by rw [e])))
                        clear h
                        go_wp2_with fail
                        go_ret
                        exact ⟨by rw [hi.out, HE.out]; rfl, BC.out⟩
                    · have d4 : (x.op != y.op) = true := by rw [bne_iff_ne]; exact h
                      have d4' : (x.op == y.op) = false := by rw [beq_eq_false_iff_ne]; exact h
                      have HE := Lib.hid (HNE.out (fun e => h (by rw [e])))
                      clear h
                      go_wp2_with fail
                      go_ret
                      exact ⟨by rw [hi.out, HE.out]; rfl, BC.out⟩
                  · have d3 : (x.n != y.n) = true := by rw [bne_iff_ne]; exact h
                    have d3' : (x.n == y.n) = false := by rw [beq_eq_false_iff_ne]; exact h
                    have HE := Lib.hid (HNE.out (fun e => h (by rw [e])))
                    clear h
                    go_wp2_with fail
                    go_ret
                    exact ⟨by rw [hi.out, HE.out]; rfl, BC.out⟩
                · have d2 := tstr_ne h
                  have HE := Lib.hid (HNE.out (fun e => h (by rw [e])))
                  clear h
                  go_wp2_with fail
                  go_ret
                  exact ⟨by rw [hi.out, HE.out]; rfl, BC.out⟩
              · have d1 := tstr_ne h
                have HE := Lib.hid (HNE.out (fun e => h (by rw [e])))
                clear h
                go_wp2_with fail
                go_ret
                exact ⟨by rw [hi.out, HE.out]; rfl, BC.out⟩
            · have d0 : (x.kind != y.kind) = true := by rw [bne_iff_ne]; exact h
              have d0' : (x.kind == y.kind) = false := by rw [beq_eq_false_iff_ne]; exact h
              have HE := Lib.hid (HNE.out (fun e => h (by rw [e])))
              clear h
              go_wp2_with fail
              go_ret
              exact ⟨by rw [hi.out, HE.out]; rfl, BC.out⟩
        · obtain rfl : k = n := by omega
          go_wp2
          go_ret
          exact ⟨by rw [hi.out, HG.out]; rfl, hb⟩
    · have he' : ((A.length : Int) == (B.length : Int)) = false := by rw [beq_eq_false_iff_ne]; omega
      rw [eq_lens he]
      go_enter Tryd.func36, Tryd.ntmps36
      go_wp2
      go_ret
      exact ⟨rfl, Below.refl _ _⟩
end Go.Proofs.YtilholgbepfopaaDoor
/- Equal programs (of the reference). -/
namespace Go.Proofs.YtilholgbepfopaaDoor
open Go.RowKit

def fnC (f : Fn) (u x : Value) : List Value := [.string f.name, u, x]
set_option maxHeartbeats 4000000 in
set_option maxRecDepth 100000 in
theorem sameProg_any (A B : List Fn) (va vb : Value) (w : World) (hsz : szP A ≤ 100000000) (hva : FnsAt w va A) (hvb : FnsAt w vb B) :
    Calls Tryd.prog 16 #[.agg #[va], .agg #[vb]] w (RetB w (decide (A = B))) := by
  obtain ⟨a, c, rfl⟩ := hva.shape
  obtain ⟨a2, c2, rfl⟩ := hvb.shape
  have H := Lib.hid hva
  have H2 := Lib.hid hvb
  have HSZ := Lib.hid hsz
  have hl : A.length ≤ 1000000000 := by have := szP_len A; omega
  clear hsz hva hvb
  obtain ⟨W, hW, hB, hP, hR⟩ := two_b1 w (.slice a A.length c) (.slice a2 B.length c2) 26
  have HW := Lib.hid hW
  have BW := Lib.hid hB
  have PW := Lib.hid hP
  have RW := Lib.hid hR
  have p0 := hP.cell 0 _ rfl
  have r0 := hR.cell 0 _ rfl
  clear hW hB hP hR
  by_cases he : A.length = B.length
  · have hd : decide (A = B) = eqFrom A B 0 := by rw [eqFrom_zero]
    generalize decide (A = B) = q at *
    have HD := Lib.hid hd
    clear hd
    obtain ⟨n, hn⟩ : ∃ n, n = A.length := ⟨_, rfl⟩
    have HN := Lib.hid hn
    have HM : Hid (n = B.length) := Lib.hid (by rw [hn]; exact he)
    rw [← he, ← hn] at H2 HW RW r0 ⊢
    rw [← hn] at H hl PW p0
    have HG : Hid (eqFrom A B n = true) := Lib.hid (eqFrom_end A B n (Nat.le_of_eq HN.out.symm) (Nat.le_of_eq HM.out.symm))
    clear he hn
    go_enter Tryd.func16, Tryd.ntmps16
    go_wp2_with fail
    rw [HW.out]
    go_loopw [5, 6, 7, 18] (fun _ _ _ k_ wr => ∃ k : Nat, k ≤ n ∧ k_ = .int .i64 k ∧ Below W.heap.size W wr ∧ Hid (q = eqFrom A B k)) (fun _ _ _ k_ _ => n - (intOf k_).toNat)
    case atStart => exact ⟨0, Nat.zero_le _, rfl, Below.refl _ _, HD.out⟩
    case round =>
      clear p0 r0
      obtain ⟨k, hk, rfl, hb, hi⟩ := hrel
      have HBW := Lib.hid hb
      have HBB := Lib.hid (BW.out.then_' hb)
      by_cases hlt : k < n
      · obtain ⟨x, hx⟩ : ∃ x, A[k]? = some x := ⟨_, List.getElem?_eq_getElem (by rw [← HN.out]; exact hlt)⟩
        obtain ⟨y, hy⟩ : ∃ x, B[k]? = some x := ⟨_, List.getElem?_eq_getElem (by rw [← HM.out]; exact hlt)⟩
        obtain ⟨ab, ao, ac, au, ax, hv, hab, f0, f1, f2, hau, hax⟩ := (H.out.below HBB.out).elem hx
        obtain ⟨rfl, -, rfl⟩ := Value.slice.inj hv
        obtain ⟨bb, bo, bc, bu, bx, hw, hbb, g0, g1, g2, hbu, hbx⟩ := (H2.out.below HBB.out).elem hy
        obtain ⟨rfl, -, rfl⟩ := Value.slice.inj hw
        obtain ⟨ua, uc, rfl⟩ := hau.shape
        obtain ⟨xa, xc, rfl⟩ := hax.shape
        obtain ⟨ua2, uc2, rfl⟩ := hbu.shape
        obtain ⟨xa2, xc2, rfl⟩ := hbx.shape
        have HX := Lib.hid hx
        have HY := Lib.hid hy
        have AU := Lib.hid hau
        have AX := Lib.hid hax
        have BU := Lib.hid hbu
        have BX := Lib.hid hbx
        have hki : (k : Int) < (n : Int) := by omega
        have p0 := (PW.out.below hb).cell 0 _ rfl
        have r0 := (RW.out.below hb).cell 0 _ rfl
        have hz1 : w.heap.size < wr.heap.size := Nat.lt_of_lt_of_le PW.out.lt hb.size
        have hz2 : w.heap.size + 1 < wr.heap.size := Nat.lt_of_lt_of_le RW.out.lt hb.size
        have hxm : Hid (szF x ≤ 100000000) := Lib.hid (Nat.le_trans (szP_mem (List.mem_of_getElem? hx)) HSZ.out)
        clear hv hw hb hx hy hau hax hbu hbx
        go_upto_region 6 with (fail)
        go_cut [6, 7] (fun p6 p7 wx => ∃ z6 z7 : Nat, p6 = .pointer (some ⟨z6, 0, none⟩) ∧ p7 = .pointer (some ⟨z7, 0, none⟩) ∧ CsAt wx z6 (fnC x (.slice ua x.params.length uc) (.slice xa x.body.length xc)) ∧ CsAt wx z7 (fnC y (.slice ua2 y.params.length uc2) (.slice xa2 y.body.length xc2)) ∧ Below wr.heap.size wr wx)
        case first =>
          go_region_law (fail)
          all_goals
            go_wp2
            go_meet
            case rel =>
              first
                | exact ⟨_, _, rfl, rfl, ((CsAt.new wr (fnC x (.slice ua x.params.length uc) (.slice xa x.body.length xc)) _).alloc _).below (below_drew' _), (CsAt.newAt _ _ (by simp) (fnC y (.slice ua2 y.params.length uc2) (.slice xa2 y.body.length xc2)) _).below (below_drew' _), (Below.new (below1 _ _) _).drew⟩
                | exact ⟨_, _, rfl, rfl, (CsAt.newAt _ _ (by simp) (fnC x (.slice ua x.params.length uc) (.slice xa x.body.length xc)) _).below (below_drew' _), ((CsAt.new wr (fnC y (.slice ua2 y.params.length uc2) (.slice xa2 y.body.length xc2)) _).alloc _).below (below_drew' _), (Below.new (below1 _ _) _).drew⟩
        case rest =>
          obtain ⟨z6, z7, rfl, rfl, hz6, hz7, hbx⟩ := hcut
          have p6 := hz6.cell 0 _ rfl
          have p7 := hz6.cell 1 _ rfl
          have p8 := hz6.cell 2 _ rfl
          have r6 := hz7.cell 0 _ rfl
          have r7 := hz7.cell 1 _ rfl
          have r8 := hz7.cell 2 _ rfl
          have P6 := Lib.hid hz6
          have P7 := Lib.hid hz7
          have BC := Lib.hid (HBW.out.then_' hbx)
          replace AU := Lib.hid (AU.out.below hbx)
          replace AX := Lib.hid (AX.out.below hbx)
          replace BU := Lib.hid (BU.out.below hbx)
          replace BX := Lib.hid (BX.out.below hbx)
          have HNE : Hid (x ≠ y → eqFrom A B k = false) := Lib.hid (fun h => eqFrom_other HX.out HY.out h)
          have HSB : Hid (szS x.body < 100000001 ∧ x.params.length ≤ 1000000000) := Lib.hid (by have := hxm.out; unfold szF at this; omega)
          clear hz6 hz7 hbx HBB f0 f1 f2 g0 g1 g2 p0 r0
          by_cases h : x.name = y.name
          · have e0 := Lib.hid h
            have d0 := tstr_eq h
            clear h
            by_cases h : x.params = y.params
            · have e1 := Lib.hid h
              have HDB := Lib.hid (decide_eq_true h)
              clear h
              by_cases h : x.body = y.body
              · have HDE := Lib.hid (decide_eq_true h)
                have HE := Lib.hid (eqFrom_same HX.out (by rw [Fn.ext' e0.out e1.out h]; exact HY.out))
                clear h
                go_wp2_with (first
                  | (go_at_call 17; refine (sameNames_any _ _ x.params y.params _ AU.out BU.out HSB.out.2).mono ?_; rw [HDB.out]; rintro e w2 ⟨rfl, hb⟩; have B2 := Lib.hid hb; have s8 := (P6.out.below hb).cell 2 _ rfl; have t8 := (P7.out.below hb).cell 2 _ rfl; clear hb)
                  | (go_at_call 36; refine (sameStmts_any 100000001 (by decide) x.body y.body _ _ _ HSB.out.1 (AX.out.below B2.out) (BX.out.below B2.out)).mono ?_; rw [HDE.out]; rintro e w3 ⟨rfl, hb⟩; have B3 := Lib.hid (B2.out.then_' hb); clear hb)
                  | fail)
                go_roundw
                case rel => exact ⟨k + 1, by omega, by go_num, BC.out.then_' B3.out, by rw [hi.out]; exact HE.out⟩
                case measure => simp [intOf]; omega
              · have HDE := Lib.hid (decide_eq_false h)
                have HE := Lib.hid (HNE.out (fun e => h (by rw [e])))
                clear h
                go_wp2_with (first
                  | (go_at_call 17; refine (sameNames_any _ _ x.params y.params _ AU.out BU.out HSB.out.2).mono ?_; rw [HDB.out]; rintro e w2 ⟨rfl, hb⟩; have B2 := Lib.hid hb; have s8 := (P6.out.below hb).cell 2 _ rfl; have t8 := (P7.out.below hb).cell 2 _ rfl; clear hb)
                  | (go_at_call 36; refine (sameStmts_any 100000001 (by decide) x.body y.body _ _ _ HSB.out.1 (AX.out.below B2.out) (BX.out.below B2.out)).mono ?_; rw [HDE.out]; rintro e w3 ⟨rfl, hb⟩; have B3 := Lib.hid (B2.out.then_' hb); clear hb)
                  | fail)
                go_ret
                exact ⟨by rw [hi.out, HE.out]; rfl, BW.out.then_' (BC.out.then_' B3.out)⟩
            · have HDB := Lib.hid (decide_eq_false h)
              have HE := Lib.hid (HNE.out (fun e => h (by rw [e])))
              clear h
              go_wp2_with (first
                | (go_at_call 17; refine (sameNames_any _ _ x.params y.params _ AU.out BU.out HSB.out.2).mono ?_; rw [HDB.out]; rintro e w2 ⟨rfl, hb⟩; have B2 := Lib.hid hb; clear hb)
                | fail)
              go_ret
              exact ⟨by rw [hi.out, HE.out]; rfl, BW.out.then_' (BC.out.then_' B2.out)⟩
          · have d0 := tstr_ne h
            have HE := Lib.hid (HNE.out (fun e => h (by rw [e])))
            clear h
            go_wp2_with fail
            go_ret
            exact ⟨by rw [hi.out, HE.out]; rfl, BW.out.then_' BC.out⟩
      · obtain rfl : k = n := by omega
        go_wp2
        go_ret
        exact ⟨by rw [hi.out, HG.out]; rfl, BW.out.then_' hb⟩
  · have he' : ((A.length : Int) == (B.length : Int)) = false := by rw [beq_eq_false_iff_ne]; omega
    rw [eq_lens he]
    go_enter Tryd.func16, Tryd.ntmps16
    go_wp2_with fail
    rw [HW.out]
    go_wp2
    go_ret
    exact ⟨rfl, BW.out⟩
end Go.Proofs.YtilholgbepfopaaDoor
