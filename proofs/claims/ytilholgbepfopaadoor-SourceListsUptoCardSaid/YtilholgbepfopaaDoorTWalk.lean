/- The variables of statements (of the reference). -/
import Derived.Test.YtilholgbepfopaaDoorTAdd
import Derived.Test.YtilholgbepfopaaDoorTSize
import Derived.Deep.DeepCutAuto
namespace Go.Proofs.YtilholgbepfopaaDoor
open Go.RowKit

mutual
/-- the names that a statement adds -/
def walkS (out : List ByteArray) : St → List ByteArray
  | .mk k nm _ _ _ _ b e => walkL (walkL (if (partsOf k).name = true then addN out nm else out) b) e
def walkL (out : List ByteArray) : List St → List ByteArray
  | [] => out
  | s :: l => walkL (walkS out s) l
end
theorem walkL_snoc (out : List ByteArray) (l : List St) (x : St) : walkL out (l ++ [x]) = walkS (walkL out l) x := by
  induction l generalizing out with
  | nil => simp [walkL]
  | cons y l ih => simp only [List.cons_append, walkL]; exact ih _
theorem walkS_parts (out : List ByteArray) (x : St) : walkS out x = walkL (walkL (if (partsOf x.kind).name = true then addN out x.name else out) x.body) x.els := by
  cases x
  rw [walkS]
  rfl
theorem addN_len (l : List ByteArray) (s : ByteArray) : (addN l s).length ≤ l.length + 1 := by
  unfold addN
  split <;> simp
mutual
theorem walkS_len (out : List ByteArray) : ∀ (x : St), (walkS out x).length ≤ out.length + x.sz
  | .mk k nm f n op es b e => by
    rw [walkS]
    have h1 := walkL_len (walkL (if (partsOf k).name = true then addN out nm else out) b) e
    have h2 := walkL_len (if (partsOf k).name = true then addN out nm else out) b
    have h3 : (if (partsOf k).name = true then addN out nm else out).length ≤ out.length + 1 := by
      split
      · exact addN_len _ _
      · omega
    unfold St.sz
    omega
theorem walkL_len (out : List ByteArray) : ∀ (l : List St), (walkL out l).length ≤ out.length + szS l
  | [] => by unfold walkL szS; omega
  | x :: l => by
    unfold walkL szS
    have h1 := walkL_len (walkS out x) l
    have h2 := walkS_len out x
    omega
end
theorem szS_take (l : List St) (k : Nat) : szS (l.take k) ≤ szS l := by
  induction l generalizing k with
  | nil => simp
  | cons x l ih =>
    cases k with
    | zero => simp [szS]
    | succ k => simp only [List.take_succ_cons, szS]; have := ih k; omega
theorem szS_take_add {l : List St} {k : Nat} {x : St} (h : l[k]? = some x) : szS (l.take k) + x.sz ≤ szS l := by
  induction l generalizing k with
  | nil => simp at h
  | cons y l ih =>
    cases k with
    | zero => simp at h; subst h; simp [szS]
    | succ k =>
      rw [List.getElem?_cons_succ] at h
      have := ih h
      simp only [List.take_succ_cons, szS]
      omega
theorem take_snoc' {α : Type} {l : List α} {k : Nat} {x : α} (h : l[k]? = some x) : l.take (k + 1) = l.take k ++ [x] := by
  rw [List.take_add_one, h]
  rfl

set_option maxHeartbeats 4000000 in
set_option maxRecDepth 100000 in
theorem rwalk_any (m : Nat) : ∀ (l : List St) (v ov : Value) (out : List ByteArray) (B : Nat) (w0 w : World), szS l < m → StsAt w0 v l → Below w0.heap.size w0 w → w0.heap.size ≤ B → B ≤ w.heap.size → NmsOwn w B ov out → out.length + szS l ≤ 10000000 →
    Calls Tryd.prog 42 #[ov, v] w (RAdd w B ov.ownBlock (walkL out l)) := by
  induction m with
  | zero => intro _ _ _ _ _ _ _ h; omega
  | succ m ih =>
    intro l v ov out B w0 w hsz hv hb0 hB0 hB ho hlen
    obtain ⟨a, c, rfl⟩ := hv.shape
    obtain ⟨oa, oc, rfl⟩ := ho.at_.shape
    have H := Lib.hid hv
    have HO := Lib.hid ho
    have B0 := Lib.hid hb0
    have HLEN := Lib.hid hlen
    have HSZ := Lib.hid hsz
    have IH := Lib.hid ih
    have hl : l.length ≤ 10000000 := by have := szS_len l; omega
    obtain ⟨n, hn⟩ : ∃ n, n = l.length := ⟨_, rfl⟩
    have HN := Lib.hid hn
    rw [← hn] at H hl ⊢
    clear ih hsz hv hb0 ho hlen hn
    generalize hrow : (Value.slice oa out.length oc).ownBlock = row
    have HROW := Lib.hid hrow
    clear hrow
    go_enter Tryd.func42, Tryd.ntmps42
    go_wp2
    go_loopw [0, 6, 9] (fun o_ _ k_ wr => ∃ (k : Nat) (a2 : Option Addr) (c2 n2 : Nat), k ≤ n ∧ k_ = .int .i64 k ∧ o_ = .slice a2 n2 c2 ∧ NmsOwn wr B (.slice a2 n2 c2) (walkL out (l.take k)) ∧ Grow w row wr (.slice a2 n2 c2)) (fun _ _ k_ _ => n - (intOf k_).toNat)
    case atStart => exact ⟨0, oa, oc, _, Nat.zero_le _, rfl, rfl, by simpa [walkL] using HO.out, by rw [← HROW.out]; exact Grow.refl _ _⟩
    case round =>
      obtain ⟨k, a2, c2, n2, hk, rfl, rfl, hown, hg⟩ := hrel
      have OW := Lib.hid hown
      have GW := Lib.hid hg
      clear hown hg
      by_cases hlt : k < n
      · obtain ⟨x, hx⟩ : ∃ x, l[k]? = some x := ⟨_, List.getElem?_eq_getElem (by rw [← HN.out]; exact hlt)⟩
        have hrowB : ∀ g, row = some g → B ≤ g := fun g e => (World.ownsRow.lt HO.out g (HROW.out.trans e)).1
        have hb0r : Below w0.heap.size w0 wr := GW.out.from B0.out hB0 hrowB
        obtain ⟨b, o, c', u, xb, xe, hv, hbl, f0, f1, f2, f3, f4, f5, f6, f7, hu, hxb, hxe⟩ := H.out.elem hx
        obtain ⟨rfl, -, rfl⟩ := Value.slice.inj hv
        obtain ⟨ua, uc, rfl⟩ := hu.shape
        obtain ⟨ba, bc, rfl⟩ := hxb.shape
        obtain ⟨ea, ec, rfl⟩ := hxe.shape
        replace f0 := (hb0r.cell (p := ⟨b, o + k * 8, none⟩) hbl).trans f0
        replace f1 := (hb0r.cell (p := ⟨b, o + k * 8 + 1, none⟩) hbl).trans f1
        replace f2 := (hb0r.cell (p := ⟨b, o + k * 8 + 2, none⟩) hbl).trans f2
        replace f3 := (hb0r.cell (p := ⟨b, o + k * 8 + 3, none⟩) hbl).trans f3
        replace f4 := (hb0r.cell (p := ⟨b, o + k * 8 + 4, none⟩) hbl).trans f4
        replace f5 := (hb0r.cell (p := ⟨b, o + k * 8 + 5, none⟩) hbl).trans f5
        replace f6 := (hb0r.cell (p := ⟨b, o + k * 8 + 6, none⟩) hbl).trans f6
        replace f7 := (hb0r.cell (p := ⟨b, o + k * 8 + 7, none⟩) hbl).trans f7
        have XB := Lib.hid hxb
        have XE := Lib.hid hxe
        have BR := Lib.hid hb0r
        have HTK := Lib.hid (take_snoc' hx)
        have hxs := szS_mem (List.mem_of_getElem? hx)
        have hxp := x.sz_parts
        have HLT : Hid ((walkL out (l.take k)).length + 1 + szS x.body + szS x.els ≤ 10000000) := Lib.hid (by have h1 := walkL_len out (l.take k); have h2 := szS_take_add hx; have h3 := HLEN.out; omega)
        have HSM : Hid (szS x.body < m ∧ szS x.els < m) := Lib.hid (by have := HSZ.out; omega)
        have hki : (k : Int) < (n : Int) := by omega
        have hBw : B ≤ wr.heap.size := Nat.le_trans hB GW.out.1.size
        have zne : Hid (∀ g, (Value.slice a2 n2 c2).ownBlock = some g → g < wr.heap.size) := Lib.hid (fun g e => (World.ownsRow.lt OW.out g e).2)
        have T := Lib.hid (CsAt.new wr (stC x (.slice ua x.exprs.length uc) (.slice ba x.body.length bc) (.slice ea x.els.length ec)) 40)
        have Bz := Lib.hid (below1 wr (.cells (stC x (.slice ua x.exprs.length uc) (.slice ba x.body.length bc) (.slice ea x.els.length ec)).toArray 40))
        have t0 := T.out.cell 0 _ rfl
        have t1 := T.out.cell 1 _ rfl
        unfold stC at t0 t1 T Bz
        clear hx hv hu hxb hxe hb0r hxs hxp hrowB
        go_wp2_with fail
        generalize wr.alloc (.cells #[.int .i64 x.kind, .string x.name, .string x.fn, .int .i64 x.n, .int .i64 x.op, .slice ua x.exprs.length uc, .slice ba x.body.length bc, .slice ea x.els.length ec] 40) = wz at *
        clear t0 t1 f0 f1 f2 f3 f4 f5 f6 f7
        refine (rnames_any x.kind wz).mono ?_
        rintro e w1 ⟨rfl, hb⟩
        have T1 := Lib.hid (T.out.below hb)
        have B1 := Lib.hid (Bz.out.then_' hb)
        clear hb
        cases hnm : (partsOf x.kind).name with
        | true =>
          have HNM := Lib.hid hnm
          clear hnm
          have t1 := T1.out.cell 1 _ rfl
          go_wp2_with fail
          refine (radd_any B (.slice a2 n2 c2) (walkL out (l.take k)) x.name w1 (OW.out.below B1.out) (Nat.le_trans hBw B1.out.size) (by have := HLT.out; omega)).mono ?_
          rintro e w2 ⟨a3, n3, c3, rfl, ho3, hg3⟩
          have O1 := Lib.hid ho3
          have hG := ((Grow.refl wr (.slice a2 n2 c2)).below B1.out).step hg3
          have G01 := Lib.hid hG
          have BO := Lib.hid ((GW.out.step hG).from B0.out hB0 (fun g e => (World.ownsRow.lt HO.out g (HROW.out.trans e)).1))
          have SZ1 : Hid (B ≤ w2.heap.size) := Lib.hid (Nat.le_trans hBw hG.1.size)
          have ne1 : Hid ((Value.slice a3 n3 c3).ownBlock ≠ some wr.heap.size) := Lib.hid (fun e => by
            rcases hg3.2 with h | ⟨g, h, hge⟩
            · have := zne.out _ (h.symm.trans e); omega
            · rw [h] at e; have := Option.some.inj e; have h5 := T1.out.lt; omega)
          replace T1 := Lib.hid (T1.out.grow hg3 (fun e => by have := zne.out _ e; omega))
          have HL1 := Lib.hid (addN_len (walkL out (l.take k)) x.name)
          clear ho3 hg3 hG t1
          have HLN : Hid ((addN (walkL out (l.take k)) x.name).length + szS x.body ≤ 10000000 ∧ (walkL (addN (walkL out (l.take k)) x.name) x.body).length + szS x.els ≤ 10000000) := Lib.hid (by have h1 := HLT.out; have h2 := walkL_len (addN (walkL out (l.take k)) x.name) x.body; have h3 := HL1.out; omega)
          have HMark := Lib.hid True.intro
          have y6 := T1.out.cell 6 _ rfl
          have y7 := T1.out.cell 7 _ rfl
          go_wp2_with fail
          go_region_law (first
            | (clear HMark; go_simp; go_at_call 42; refine (IH.out x.body _ _ (addN (walkL out (l.take k)) x.name) B w0 _ HSM.out.1 XB.out (BO.out.then_' (below_drew' _)) hB0 (Nat.le_trans SZ1.out (below_drew' _).size) (O1.out.below (below_drew' _)) HLN.out.1).mono ?_; rintro e w4 ⟨a4, n4, c4, rfl, ho4, hg4⟩; have O4 := Lib.hid ho4; have G4 := Lib.hid hg4; have T4 := (T1.out.below (below_drew' _)).grow hg4 ne1.out; have y7' := T4.cell 7 _ rfl; clear ho4 hg4 T4)
            | (go_simp; go_at_call 42; refine (IH.out x.els _ _ (walkL (addN (walkL out (l.take k)) x.name) x.body) B w0 _ HSM.out.2 XE.out (G4.out.from (BO.out.then_' (below_drew' _)) hB0 (fun g e => (World.ownsRow.lt O1.out g e).1)) hB0 (Nat.le_trans SZ1.out (Nat.le_trans (below_drew' _).size G4.out.1.size)) O4.out HLN.out.2).mono ?_; rintro e w5 ⟨a5, n5, c5, rfl, ho5, hg5⟩; have O5 := Lib.hid ho5; have G5 := Lib.hid hg5; clear ho5 hg5)
            | fail)
          all_goals
            go_wp2
            go_roundw
            case rel => exact ⟨k + 1, a5, c5, n5, by omega, by go_num, rfl, by rw [HTK.out, walkL_snoc, walkS_parts, if_pos HNM.out]; exact O5.out, GW.out.step (((G01.out.below (below_drew' _)).step G4.out).step G5.out)⟩
            case measure => simp [intOf]; omega
        | false =>
          have HNM := Lib.hid hnm
          clear hnm
          have O1 := Lib.hid (OW.out.below B1.out)
          have hG := (Grow.refl wr (.slice a2 n2 c2)).below B1.out
          have G01 := Lib.hid hG
          have BO := Lib.hid ((GW.out.step hG).from B0.out hB0 (fun g e => (World.ownsRow.lt HO.out g (HROW.out.trans e)).1))
          have SZ1 : Hid (B ≤ w1.heap.size) := Lib.hid (Nat.le_trans hBw hG.1.size)
          have ne1 : Hid ((Value.slice a2 n2 c2).ownBlock ≠ some wr.heap.size) := Lib.hid (fun e => by have := zne.out _ e; omega)
          have HL1 : Hid ((walkL out (l.take k)).length ≤ (walkL out (l.take k)).length + 1) := Lib.hid (by omega)
          clear hG
          have HLN : Hid ((walkL out (l.take k)).length + szS x.body ≤ 10000000 ∧ (walkL (walkL out (l.take k)) x.body).length + szS x.els ≤ 10000000) := Lib.hid (by have h1 := HLT.out; have h2 := walkL_len (walkL out (l.take k)) x.body; have h3 := HL1.out; omega)
          have HMark := Lib.hid True.intro
          have y6 := T1.out.cell 6 _ rfl
          have y7 := T1.out.cell 7 _ rfl
          go_wp2_with fail
          go_region_law (first
            | (clear HMark; go_simp; go_at_call 42; refine (IH.out x.body _ _ (walkL out (l.take k)) B w0 _ HSM.out.1 XB.out (BO.out.then_' (below_drew' _)) hB0 (Nat.le_trans SZ1.out (below_drew' _).size) (O1.out.below (below_drew' _)) HLN.out.1).mono ?_; rintro e w4 ⟨a4, n4, c4, rfl, ho4, hg4⟩; have O4 := Lib.hid ho4; have G4 := Lib.hid hg4; have T4 := (T1.out.below (below_drew' _)).grow hg4 ne1.out; have y7' := T4.cell 7 _ rfl; clear ho4 hg4 T4)
            | (go_simp; go_at_call 42; refine (IH.out x.els _ _ (walkL (walkL out (l.take k)) x.body) B w0 _ HSM.out.2 XE.out (G4.out.from (BO.out.then_' (below_drew' _)) hB0 (fun g e => (World.ownsRow.lt O1.out g e).1)) hB0 (Nat.le_trans SZ1.out (Nat.le_trans (below_drew' _).size G4.out.1.size)) O4.out HLN.out.2).mono ?_; rintro e w5 ⟨a5, n5, c5, rfl, ho5, hg5⟩; have O5 := Lib.hid ho5; have G5 := Lib.hid hg5; clear ho5 hg5)
            | fail)
          all_goals
            go_wp2
            go_roundw
            case rel => exact ⟨k + 1, a5, c5, n5, by omega, by go_num, rfl, by rw [HTK.out, walkL_snoc, walkS_parts, if_neg (by rw [HNM.out]; decide)]; exact O5.out, GW.out.step (((G01.out.below (below_drew' _)).step G4.out).step G5.out)⟩
            case measure => simp [intOf]; omega
      · obtain rfl : k = n := by omega
        have e1 : l.take k = l := List.take_of_length_le (Nat.le_of_eq HN.out.symm)
        rw [e1] at OW
        go_wp2
        go_ret
        exact ⟨_, _, _, rfl, OW.out, GW.out⟩
end Go.Proofs.YtilholgbepfopaaDoor
