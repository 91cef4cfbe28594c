/- Reads (of the code). -/
import Derived.Test.YtilholgbepfopaaDoorSVars2
namespace Go.Proofs.YtilholgbepfopaaDoor
open Go.RowKit

mutual
def rdE (out : List ByteArray) : Ex → List ByteArray
  | .mk k _ nm _ l => rdL (if k = 3 then addN out nm else out) l
def rdL (out : List ByteArray) : List Ex → List ByteArray
  | [] => out
  | e :: l => rdL (rdE out e) l
end
theorem rdE_parts (out : List ByteArray) (e : Ex) : rdE out e = rdL (if e.kind = 3 then addN out e.name else out) e.l := by
  cases e
  rw [rdE]
  rfl
theorem rdL_snoc (out : List ByteArray) (l : List Ex) (x : Ex) : rdL out (l ++ [x]) = rdE (rdL out l) x := by
  induction l generalizing out with
  | nil => simp [rdL]
  | cons y l ih => simp only [List.cons_append, rdL]; exact ih _
theorem has_add {l : List ByteArray} {s x : ByteArray} (h : hasN l x = true) : hasN (addN l s) x = true := by
  unfold addN
  split
  · exact h
  · unfold hasN at *
    rw [List.any_append, h, Bool.true_or]
theorem has_addAll {l m : List ByteArray} {x : ByteArray} (h : hasN l x = true ∨ hasN m x = true) : hasN (addAll l m) x = true := by
  induction m generalizing l with
  | nil =>
    rcases h with h | h
    · exact h
    · cases h
  | cons y m ih =>
    show hasN (addAll (addN l y) m) x = true
    refine ih ?_
    rcases h with h | h
    · exact .inl (has_add h)
    · unfold hasN at h
      rw [List.any_cons] at h
      cases hy : decide (y = x) with
      | true =>
        obtain rfl := of_decide_eq_true hy
        refine .inl ?_
        unfold addN
        split
        · assumption
        · unfold hasN; rw [List.any_append]; simp
      | false => rw [hy, Bool.false_or] at h; exact .inr h
theorem addAll_addN (out o : List ByteArray) (s : ByteArray) : addAll out (addN o s) = addN (addAll out o) s := by
  cases h : hasN o s with
  | true => rw [add_yes h, add_yes (has_addAll (.inr h))]
  | false => rw [add_no h, addAll_snoc]
theorem addAll_addAll (out o m : List ByteArray) : addAll out (addAll o m) = addAll (addAll out o) m := by
  induction m generalizing o with
  | nil => rfl
  | cons s m ih =>
    show addAll out (addAll (addN o s) m) = addAll (addN (addAll out o) s) m
    rw [ih, addAll_addN]
mutual
theorem rdE_eq (out : List ByteArray) : ∀ (e : Ex), rdE out e = addAll out (readsE e)
  | .mk k n nm op l => by
    rw [rdE, readsE]
    by_cases hk : k = 3
    · rw [if_pos hk, if_pos hk]
      exact rdL_eq out [nm] l
    · rw [if_neg hk, if_neg hk]
      exact rdL_eq out [] l
theorem rdL_eq (out o : List ByteArray) : ∀ (l : List Ex), rdL (addAll out o) l = addAll out (readsL o l)
  | [] => by rw [rdL, readsL]
  | e :: l => by
    rw [rdL, readsL, rdE_eq _ e, ← addAll_addAll]
    exact rdL_eq out (addAll o (readsE e)) l
end
theorem readsL_once (l : List Ex) : ∀ (o : List ByteArray), addAll [] o = o → addAll [] (readsL o l) = readsL o l := by
  induction l with
  | nil => intro o h; rw [readsL]; exact h
  | cons e l ih =>
    intro o h
    rw [readsL]
    exact ih _ (by rw [addAll_addAll, h])
theorem rdE_nil (e : Ex) : rdE [] e = readsE e := by
  rw [rdE_eq, readsE_parts]
  refine readsL_once _ _ ?_
  split <;> rfl
theorem szE_snoc (l : List Ex) (x : Ex) : szE (l ++ [x]) = szE l + x.sz := by
  induction l with
  | nil => simp [szE]
  | cons y l ih => simp only [List.cons_append, szE, ih]; omega
theorem Ex.sz_eq (e : Ex) : e.sz = 1 + szE e.l := by cases e; rw [Ex.sz]; rfl

set_option maxHeartbeats 4000000 in
set_option maxRecDepth 100000 in
theorem reads1_any (B0 nb bw B : Nat) (w0 : World) (hlo : B0 ≤ nb) (hnb : nb < B) (hbw : B ≤ bw) (h0 : w0.heap.size ≤ B0) (m : Nat) : ∀ (e : Ex) (v : Value) (c : Nat) (out : List ByteArray) (w : World), e.sz ≤ m → c + e.sz < 10000000 → ExsAt w0 v e.l → Below w0.heap.size w0 w → RV B0 nb c w out →
    CsT w bw [.func (.func 43) #[] #[.pointer (some ⟨nb, 0, none⟩), .pointer (some ⟨bw, 0, none⟩)]] 73 →
    Calls Tryd.prog 43 #[exV e v, .pointer (some ⟨nb, 0, none⟩), .pointer (some ⟨bw, 0, none⟩)] w (fun e' w' => e' = .returned (.tuple #[]) ∧ RV B0 nb (c + e.sz) w' (rdE out e) ∧ Fr B (fun k => B0 ≤ k ∧ k < B) w w') := by
  induction m with
  | zero => intro e _ _ _ _ h; have := e.sz_pos; omega
  | succ m ih =>
    intro e v c out w hsz hc hv hb0 hr hbf
    obtain ⟨a, cp, rfl⟩ := hv.shape
    obtain ⟨la, ln, lc, mp, hst, hlen⟩ := hr
    have H := Lib.hid hv
    have B00 := Lib.hid hb0
    have IH := Lib.hid ih
    have ST := Lib.hid hst
    have HLN := Lib.hid hlen
    have HSQ := Lib.hid e.sz_eq
    have HSZ : Hid (szE e.l ≤ m) := Lib.hid (by have := e.sz_l; omega)
    have HC := Lib.hid hc
    have hl : e.l.length ≤ 10000000 := by have := szE_len e.l; have := e.sz_l; omega
    have hB0 : B0 ≤ w.heap.size := by have := hst.lo; have := hst.cs.lt; omega
    have hBw : B ≤ w.heap.size := by have := hbf.lt; omega
    have HB0 := Lib.hid hB0
    have HP := Lib.hid (rdE_parts out e)
    obtain ⟨n, hn⟩ : ∃ n, n = e.l.length := ⟨_, rfl⟩
    have HN := Lib.hid hn
    rw [← hn] at H hl ⊢
    clear ih hsz hv hb0 hst hlen hn hc
    have P := Lib.hid (CsT.new w (exC e (.slice a n cp)) 42)
    have B1 := Lib.hid (below1 w (.cells #[.int .i64 e.kind, .int .i64 e.n, .string e.name, .int .i64 e.op, .slice a n cp] 42))
    have F1 := Lib.hid hbf
    unfold exV
    unfold exC at P
    go_enter Tryd.func43, Tryd.ntmps43
    have p0' := P.out.at_.cell 0 _ rfl
    go_upto_if 8 with (fail)
    clear p0' hbf
    have P' : Hid (CsT (w.alloc (.cells #[.int .i64 e.kind, .int .i64 e.n, .string e.name, .int .i64 e.op, .slice a n cp] 42)) w.heap.size [.int .i64 e.kind, .int .i64 e.n, .string e.name, .int .i64 e.op, .slice a n cp] 42) := P
    clear P
    generalize w.alloc (.cells #[.int .i64 e.kind, .int .i64 e.n, .string e.name, .int .i64 e.op, .slice a n cp] 42) = w1 at *
    have p0 := P'.out.at_.cell 0 _ rfl
    have p2 := P'.out.at_.cell 2 _ rfl
    go_cut [9, 10, 11, 12] (fun _ _ _ _ wx => RV B0 nb (c + 1) wx (if e.kind = 3 then addN out e.name else out) ∧ Fr B (fun k => B0 ≤ k ∧ k < B) w wx ∧ CsT wx w.heap.size [.int .i64 e.kind, .int .i64 e.n, .string e.name, .int .i64 e.op, .slice a n cp] 42)
    case first =>
      by_cases hk : e.kind = 3
      · have d1 : (e.kind == 3) = true := by rw [beq_iff_eq]; exact hk
        have e1 : (if e.kind = 3 then addN out e.name else out) = addAll out [e.name] := if_pos hk
        have E1 := Lib.hid e1
        clear hk e1
        go_wp2_with fail
        have hst3 := ST.out.below B1.out
        have hb4 := below1 w1 (.cells #[.string e.name] 9)
        have hst4 := hst3.below hb4
        have S4 := Lib.hid hst4
        have P4 := Lib.hid (P'.out.below hb4)
        refine (nadd_any B0 nb la ln lc mp out [e.name] _ _ hst4 (nms_at1 w1 e.name) (fun b o q k e' h => ?_) (Nat.le_trans HB0.out (Nat.le_trans B1.out.size hb4.size)) (by have := HLN.out; have := HC.out; simp; omega)).mono ?_
        · have h1 := (Value.slice.inj e').1
          have h2 := (World.ownsRow.lt hst3.own b h).2
          have h3 := (Addr.mk.inj (Option.some.inj h1)).1
          omega
        rintro e' w5 ⟨a5, n5, c5, mp5, rfl, hst5, hg5⟩
        have S5 := Lib.hid hst5
        have F5' := S4.out.fr hnb hg5
        have F5 := Lib.hid ((Fr.of_below (B1.out.then_' hb4)).trans F5')
        have P5 := Lib.hid (P4.out.frame F5' (fun h => by have := h.2; omega) (by decide))
        have HL5 : Hid ((addAll out [e.name]).length ≤ c + 1) := Lib.hid (by have h1 := addAll_len out [e.name]; have h2 := HLN.out; simp at h1; omega)
        clear hst3 hb4 hst4 hst5 hg5 F5'
        go_wp2
        go_meet
        case rel => exact ⟨⟨_, _, _, _, by rw [E1.out]; exact S5.out, by rw [E1.out]; exact HL5.out⟩, F5.out, P5.out⟩
      · have d1 : (e.kind == 3) = false := by rw [beq_eq_false_iff_ne]; exact hk
        have e1 : (if e.kind = 3 then addN out e.name else out) = out := if_neg hk
        have E1 := Lib.hid e1
        clear hk e1
        go_wp2_with fail
        go_meet
        case rel => exact ⟨⟨_, _, _, _, by rw [E1.out]; exact ST.out.below B1.out, by rw [E1.out]; have := HLN.out; omega⟩, Fr.of_below B1.out, P'.out⟩
    case rest =>
      obtain ⟨hr2, hf2, hp2⟩ := hcut
      generalize (if e.kind = 3 then addN out e.name else out) = out0 at *
      have R2 := Lib.hid hr2
      have F2 := Lib.hid hf2
      have p4 := hp2.at_.cell 4 _ rfl
      clear p0 p2 hr2 hf2 hp2 ST HLN
      go_wp2_with fail
      go_loopw [16] (fun k_ wr => ∃ (k : Nat), k ≤ n ∧ k_ = .int .i64 k ∧ RV B0 nb (c + 1 + szE (e.l.take k)) wr (rdL out0 (e.l.take k)) ∧ Fr B (fun k => B0 ≤ k ∧ k < B) w wr) (fun k_ _ => n - (intOf k_).toNat)
      case atStart => exact ⟨0, Nat.zero_le _, rfl, by simpa [szE, rdL] using R2.out, F2.out⟩
      case round =>
        clear R2 F2 p4
        obtain ⟨k, hk, rfl, hrr, hfr⟩ := hrel
        have RR := Lib.hid hrr
        have FR := Lib.hid hfr
        clear hrr hfr
        by_cases hlt : k < n
        · obtain ⟨x, hx⟩ : ∃ x, e.l[k]? = some x := ⟨_, List.getElem?_eq_getElem (by rw [← HN.out]; exact hlt)⟩
          have hbr : Below w0.heap.size w0 wr := FR.out.low B00.out (Nat.le_trans h0 (by omega)) (fun k h => Nat.le_trans h0 h.1)
          obtain ⟨b, o, c', u, hv, _, f0, f1, f2, f3, f4, hu⟩ := (H.out.below hbr).elem hx
          obtain ⟨u', hu'⟩ : ∃ u', u' = u ∧ ExsAt w0 u' x.l := by
            obtain ⟨b', o', c'', u', hv', _, g0, g1, g2, g3, g4, hu'⟩ := H.out.elem hx
            obtain ⟨e1, -, -⟩ := Value.slice.inj (hv.symm.trans hv')
            obtain ⟨rfl, rfl, -⟩ := Addr.mk.inj (Option.some.inj e1)
            refine ⟨u', ?_, hu'⟩
            have := (hbr.cell (p := ⟨b, o + k * 5 + 4, none⟩) (World.block_lt_of_cell? w0 _ g4)).trans g4
            rw [f4] at this
            exact (Option.some.inj this).symm
          obtain ⟨rfl, hu0⟩ := hu'
          obtain ⟨rfl, -, rfl⟩ := Value.slice.inj hv
          obtain ⟨ua, uc, rfl⟩ := hu0.shape
          have HU := Lib.hid hu0
          have HTK := Lib.hid (take_snoc' hx)
          have hxm : Hid (x.sz ≤ m) := Lib.hid (Nat.le_trans (szE_mem (List.mem_of_getElem? hx)) HSZ.out)
          have HLT : Hid (c + 1 + szE (e.l.take k) + x.sz < 10000000) := Lib.hid (by have h2 := szE_take_add hx; have h3 := HSQ.out; have h4 := HC.out; omega)
          have hki : (k : Int) < (n : Int) := by omega
          have T := Lib.hid (CsT.new wr (exC x (.slice ua x.l.length uc)) 42)
          have Bz := Lib.hid (below1 wr (.cells #[.int .i64 x.kind, .int .i64 x.n, .string x.name, .int .i64 x.op, .slice ua x.l.length uc] 42))
          have FB := Lib.hid ((F1.out.frame FR.out (fun h => by have := h.2; omega) (by decide)).below Bz.out)
          have RZ := Lib.hid (RV.mono _ _ _ _ _ RR.out (Nat.le_refl _) Bz.out)
          have BZ0 := Lib.hid (hbr.then_' Bz.out)
          have FZ := Lib.hid (FR.out.below Bz.out)
          have s0 := FB.out.at_.cell 0 _ rfl
          unfold exC at T
          have t0 := T.out.at_.cell 0 _ rfl
          have t1 := T.out.at_.cell 1 _ rfl
          have t2 := T.out.at_.cell 2 _ rfl
          have t3 := T.out.at_.cell 3 _ rfl
          have t4 := T.out.at_.cell 4 _ rfl
          clear hv hbr hx hu hu0 RR
          go_wp2_with fail
          generalize wr.alloc (.cells #[.int .i64 x.kind, .int .i64 x.n, .string x.name, .int .i64 x.op, .slice ua x.l.length uc] 42) = wz at *
          clear t0 t1 t2 t3 t4 f0 f1 f2 f3 f4 s0
          refine (IH.out x (.slice ua x.l.length uc) _ _ wz hxm.out HLT.out HU.out BZ0.out RZ.out FB.out).mono ?_
          rintro e' w2 ⟨rfl, hr4, hf4⟩
          have R4 := Lib.hid hr4
          have F4 := Lib.hid (FZ.out.trans hf4)
          have E4 : Hid (c + 1 + szE (e.l.take k) + x.sz = c + 1 + szE (e.l.take (k + 1))) := Lib.hid (by rw [HTK.out, szE_snoc]; omega)
          clear hr4 hf4
          go_wp2
          go_roundw
          case rel => exact ⟨k + 1, by omega, by go_num, by rw [← E4.out, HTK.out, rdL_snoc]; exact R4.out, F4.out⟩
          case measure => simp [intOf]; omega
        · obtain rfl : k = n := by omega
          have e1 : e.l.take k = e.l := List.take_of_length_le (Nat.le_of_eq HN.out.symm)
          rw [e1] at RR
          have E5 : Hid (c + 1 + szE e.l = c + e.sz) := Lib.hid (by have := HSQ.out; omega)
          go_wp2
          go_end0
          exact ⟨rfl, by rw [← E5.out, HP.out]; exact RR.out, FR.out⟩

theorem rd_new (w : World) (cs : Array Value) : ∃ W, (((w.alloc (.cells cs 42)).alloc (.cells #[.slice none 0 0, .map none] 63)).alloc (.cells #[.func (.func 43) #[] #[.pointer (some ⟨w.heap.size + 1, 0, none⟩), .pointer (some ⟨w.heap.size + 1 + 1, 0, none⟩)]] 73)) = W ∧ Below w.heap.size w W ∧
    NSt W w.heap.size (w.heap.size + 1) none 0 0 none [] ∧ CsT W (w.heap.size + 1 + 1) [.func (.func 43) #[] #[.pointer (some ⟨w.heap.size + 1, 0, none⟩), .pointer (some ⟨w.heap.size + 1 + 1, 0, none⟩)]] 73 := by
  have b1 := below1 w (.cells cs 42)
  have h1 := NSt.new w _ b1
  rw [show (w.alloc (.cells cs 42)).heap.size = w.heap.size + 1 from by simp] at h1
  have b2 := b1.then_' (below1 _ (.cells #[.slice none 0 0, .map none] 63))
  have h2 := CsT.new ((w.alloc (.cells cs 42)).alloc (.cells #[.slice none 0 0, .map none] 63)) [.func (.func 43) #[] #[.pointer (some ⟨w.heap.size + 1, 0, none⟩), .pointer (some ⟨w.heap.size + 1 + 1, 0, none⟩)]] 73
  rw [show ((w.alloc (.cells cs 42)).alloc (.cells #[.slice none 0 0, .map none] 63)).heap.size = w.heap.size + 1 + 1 from by simp] at h2
  exact ⟨_, rfl, b2.then_' (below1 _ _), h1.below (below1 _ _), h2⟩
set_option maxHeartbeats 4000000 in
set_option maxRecDepth 100000 in
theorem sreads_any (e : Ex) (v : Value) (w : World) (hsz : e.sz ≤ 5000000) (hv : ExsAt w v e.l) : Calls Tryd.prog 20 #[exV e v] w (RNms w (readsE e)) := by
  obtain ⟨a, cp, rfl⟩ := hv.shape
  have H := Lib.hid hv
  have HR := Lib.hid (rdE_nil e)
  clear hv
  obtain ⟨W, hW, hB, hS, hF⟩ := rd_new w #[.int .i64 e.kind, .int .i64 e.n, .string e.name, .int .i64 e.op, .slice a e.l.length cp]
  have HW := Lib.hid hW
  have B1 := Lib.hid hB
  have S1 := Lib.hid hS
  have F1 := Lib.hid hF
  clear hW hB hS hF
  unfold exV
  go_enter Tryd.func20, Tryd.ntmps20
  go_wp2_with fail
  rw [HW.out]
  refine (reads1_any w.heap.size (w.heap.size + 1) (w.heap.size + 1 + 1) (w.heap.size + 1 + 1) w (by omega) (by omega) (by omega) (Nat.le_refl _) e.sz e (.slice a e.l.length cp) 0 [] W (Nat.le_refl _) (by omega) H.out B1.out ⟨none, 0, 0, none, S1.out, Nat.le_refl _⟩ F1.out).mono ?_
  rintro e' w2 ⟨rfl, hr, hf⟩
  rw [HR.out] at hr
  obtain ⟨a4, n4, c4, mp4, hst4, -⟩ := hr
  have S4 := Lib.hid hst4
  have B4 := Lib.hid (hf.low B1.out (by omega) (fun k h => h.1))
  have p0 := S4.out.cs.at_.cell 0 _ rfl
  clear hst4 hf
  go_wp2_with fail
  go_ret
  exact ⟨a4, n4, c4, rfl, S4.out.own, B4.out⟩
end Go.Proofs.YtilholgbepfopaaDoor
