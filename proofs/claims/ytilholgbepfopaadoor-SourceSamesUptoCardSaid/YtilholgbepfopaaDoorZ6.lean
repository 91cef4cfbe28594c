import Derived.Deep.RegionLaw
import Derived.Test.YtilholgbepfopaaDoorZ5
/- Vars (of the code), whole. -/
namespace Go.Proofs.YtilholgbepfopaaDoor
open Go.RowKit

theorem RV.mono {B0 nb : Nat} (c c' : Nat) (w : World) (l : List ByteArray) (w' : World) (h : RV B0 nb c w l) (hc : c ≤ c') (hb : Below w.heap.size w w') : RV B0 nb c' w' l := by
  obtain ⟨a, n, c2, mp, h1, h2⟩ := h
  exact ⟨a, n, c2, mp, h1.below hb, by omega⟩
theorem NSt.new (w w1 : World) (hb : Below w.heap.size w w1) : NSt (w1.alloc (.cells #[.slice none 0 0, .map none] 63)) w.heap.size w1.heap.size none 0 0 none [] :=
  ⟨CsT.new w1 [.slice none 0 0, .map none] _, NmsOwn.nil _ _, .inl ⟨rfl, rfl⟩, hb.size⟩

theorem CsT.grn {w w' : World} {b nb : Nat} {cs : List Value} {t : TypeId} {mp row mp' row' : Option Nat} (h : CsT w b cs t) (hg : GrN nb mp row w w' mp' row') (h1 : b ≠ nb) (h2 : mp ≠ some b) (h3 : row ≠ some b) : CsT w' b cs t := (hg.block b h.lt h1 h2 h3).trans h
set_option maxHeartbeats 4000000 in
set_option maxRecDepth 100000 in
theorem svars_any (f : Fn) (u x : Value) (w : World) (hsz : szF f ≤ 5000000) (hu : NmsAt w u f.params) (hx : StsAt w x f.body) :
    Calls Tryd.prog 18 #[.agg #[.string f.name, u, x]] w (RNms w (varsO f)) := by
  obtain ⟨ua, uc, rfl⟩ := hu.shape
  obtain ⟨xa, xc, rfl⟩ := hx.shape
  have HU := Lib.hid hu
  have HX := Lib.hid hx
  have HSZ := Lib.hid hsz
  clear hu hx hsz
  have P := Lib.hid (CsT.new w [.string f.name, .slice ua f.params.length uc, .slice xa f.body.length xc] 35)
  have B1 := Lib.hid (below1 w (.cells #[.string f.name, .slice ua f.params.length uc, .slice xa f.body.length xc] 35))
  have p1 := P.out.at_.cell 1 _ rfl
  go_enter Tryd.func18, Tryd.ntmps18
  go_wp2_with fail
  have hz1 : (w.alloc (.cells #[.string f.name, .slice ua f.params.length uc, .slice xa f.body.length xc] 35)).heap.size = w.heap.size + 1 := by simp
  generalize w.alloc (.cells #[.string f.name, .slice ua f.params.length uc, .slice xa f.body.length xc] 35) = w1 at *
  rw [← hz1]
  have S2 := Lib.hid (NSt.new w w1 B1.out)
  have B2 := Lib.hid (B1.out.then_' (below1 w1 (.cells #[.slice none 0 0, .map none] 63)))
  have P2 := Lib.hid (P.out.below (below1 w1 (.cells #[.slice none 0 0, .map none] 63)))
  generalize w1.alloc (.cells #[.slice none 0 0, .map none] 63) = w2 at *
  clear p1 hz1
  refine (nadd_any w.heap.size w1.heap.size none 0 0 none [] f.params _ w2 S2.out (HU.out.below B2.out) (fun b o q k _ h => by cases h) B2.out.size (by have := HSZ.out; unfold szF at this; simp; omega)).mono ?_
  rintro e w3 ⟨a3, n3, c3, mp3, rfl, hst3, hg3⟩
  have hnb : w1.heap.size < w3.heap.size := hst3.cs.lt
  have S3 := Lib.hid hst3
  have F3 := Lib.hid (S2.out.fr hnb hg3)
  have B3 := Lib.hid (F3.out.low B2.out (by have := B2.out.size; have := hg3.size; omega) (fun k h => h.1))
  have P3 := Lib.hid (P2.out.grn hg3 (by have := P.out.lt; omega) (by simp) (by simp [Value.ownBlock]))
  have p2 := P3.out.at_.cell 2 _ rfl
  have HE := Lib.hid (visVL f.body (addAll [] f.params) 1)
  have HL : Hid ((addAll [] f.params).length ≤ f.params.length) := Lib.hid (by have := addAll_len [] f.params; simpa using this)
  clear hst3 hg3
  go_wp2_with fail
  refine (visit_any 39 #[.pointer (some ⟨w1.heap.size, 0, none⟩)] (RV w.heap.size w1.heap.size) fV w3.heap.size (fun k => w.heap.size ≤ k ∧ k < w3.heap.size) w enter_vars (vars1_ok w.heap.size w1.heap.size w3.heap.size w hnb) RV.mono B3.out.size (fun k h => h) f.body _ f.params.length (addAll [] f.params) w3 (by have := HSZ.out; unfold szF at this; omega) (by have := HSZ.out; unfold szF at this; omega) HX.out B3.out ⟨a3, n3, c3, mp3, S3.out, HL.out⟩ (Nat.le_refl _)).mono ?_
  rintro e w4 ⟨rfl, hr4, hf4⟩
  rw [HE.out] at hr4
  obtain ⟨a4, n4, c4, mp4, hst4, -⟩ := hr4
  have S4 := Lib.hid hst4
  have B4 := Lib.hid (hf4.low B3.out B3.out.size (fun k h => h.1))
  have p0 := S4.out.cs.at_.cell 0 _ rfl
  clear hst4 hf4 p2
  go_wp2_with fail
  go_ret
  exact ⟨a4, n4, c4, rfl, S4.out.own, B4.out⟩
end Go.Proofs.YtilholgbepfopaaDoor
/- Reads (of the code). -/
namespace Go.Proofs.YtilholgbepfopaaDoor
open Go.RowKit

mutual
def rdE (out : List ByteArray) : Ex → List ByteArray
  | .mk k _ nm _ l => rdL (if k = 3 then addN out nm else out) l
def rdL (out : List ByteArray) : List Ex → List ByteArray
  | [] => out
  | e :: l => rdL (rdE out e) l
end
theorem rdE_parts (out : List ByteArray) (e : Ex) : rdE out e = rdL (if e.kind = 3 then addN out e.name else out) e.l := by
  cases e
  rw [rdE]
  rfl
theorem rdL_snoc (out : List ByteArray) (l : List Ex) (x : Ex) : rdL out (l ++ [x]) = rdE (rdL out l) x := by
  induction l generalizing out with
  | nil => simp [rdL]
  | cons y l ih => simp only [List.cons_append, rdL]; exact ih _
theorem has_add {l : List ByteArray} {s x : ByteArray} (h : hasN l x = true) : hasN (addN l s) x = true := by
  unfold addN
  split
  · exact h
  · unfold hasN at *
    rw [List.any_append, h, Bool.true_or]
theorem has_addAll {l m : List ByteArray} {x : ByteArray} (h : hasN l x = true ∨ hasN m x = true) : hasN (addAll l m) x = true := by
  induction m generalizing l with
  | nil =>
    rcases h with h | h
    · exact h
    · cases h
  | cons y m ih =>
    show hasN (addAll (addN l y) m) x = true
    refine ih ?_
    rcases h with h | h
    · exact .inl (has_add h)
    · unfold hasN at h
      rw [List.any_cons] at h
      cases hy : decide (y = x) with
      | true =>
        obtain rfl := of_decide_eq_true hy
        refine .inl ?_
        unfold addN
        split
        · assumption
        · unfold hasN; rw [List.any_append]; simp
      | false => rw [hy, Bool.false_or] at h; exact .inr h
theorem addAll_addN (out o : List ByteArray) (s : ByteArray) : addAll out (addN o s) = addN (addAll out o) s := by
  cases h : hasN o s with
  | true => rw [add_yes h, add_yes (has_addAll (.inr h))]
  | false => rw [add_no h, addAll_snoc]
theorem addAll_addAll (out o m : List ByteArray) : addAll out (addAll o m) = addAll (addAll out o) m := by
  induction m generalizing o with
  | nil => rfl
  | cons s m ih =>
    show addAll out (addAll (addN o s) m) = addAll (addN (addAll out o) s) m
    rw [ih, addAll_addN]
mutual
theorem rdE_eq (out : List ByteArray) : ∀ (e : Ex), rdE out e = addAll out (readsE e)
  | .mk k n nm op l => by
    rw [rdE, readsE]
    by_cases hk : k = 3
    · rw [if_pos hk, if_pos hk]
      exact rdL_eq out [nm] l
    · rw [if_neg hk, if_neg hk]
      exact rdL_eq out [] l
theorem rdL_eq (out o : List ByteArray) : ∀ (l : List Ex), rdL (addAll out o) l = addAll out (readsL o l)
  | [] => by rw [rdL, readsL]
  | e :: l => by
    rw [rdL, readsL, rdE_eq _ e, ← addAll_addAll]
    exact rdL_eq out (addAll o (readsE e)) l
end
theorem readsL_once (l : List Ex) : ∀ (o : List ByteArray), addAll [] o = o → addAll [] (readsL o l) = readsL o l := by
  induction l with
  | nil => intro o h; rw [readsL]; exact h
  | cons e l ih =>
    intro o h
    rw [readsL]
    exact ih _ (by rw [addAll_addAll, h])
theorem rdE_nil (e : Ex) : rdE [] e = readsE e := by
  rw [rdE_eq, readsE_parts]
  refine readsL_once _ _ ?_
  split <;> rfl
theorem szE_snoc (l : List Ex) (x : Ex) : szE (l ++ [x]) = szE l + x.sz := by
  induction l with
  | nil => simp [szE]
  | cons y l ih => simp only [List.cons_append, szE, ih]; omega
theorem Ex.sz_eq (e : Ex) : e.sz = 1 + szE e.l := by cases e; rw [Ex.sz]; rfl

set_option maxHeartbeats 4000000 in
set_option maxRecDepth 100000 in
theorem reads1_any (B0 nb bw B : Nat) (w0 : World) (hlo : B0 ≤ nb) (hnb : nb < B) (hbw : B ≤ bw) (h0 : w0.heap.size ≤ B0) (m : Nat) : ∀ (e : Ex) (v : Value) (c : Nat) (out : List ByteArray) (w : World), e.sz ≤ m → c + e.sz < 10000000 → ExsAt w0 v e.l → Below w0.heap.size w0 w → RV B0 nb c w out →
    CsT w bw [.func (.func 43) #[] #[.pointer (some ⟨nb, 0, none⟩), .pointer (some ⟨bw, 0, none⟩)]] 73 →
    Calls Tryd.prog 43 #[exV e v, .pointer (some ⟨nb, 0, none⟩), .pointer (some ⟨bw, 0, none⟩)] w (fun e' w' => e' = .returned (.tuple #[]) ∧ RV B0 nb (c + e.sz) w' (rdE out e) ∧ Fr B (fun k => B0 ≤ k ∧ k < B) w w') := by
  induction m with
  | zero => intro e _ _ _ _ h; have := e.sz_pos; omega
  | succ m ih =>
    intro e v c out w hsz hc hv hb0 hr hbf
    obtain ⟨a, cp, rfl⟩ := hv.shape
    obtain ⟨la, ln, lc, mp, hst, hlen⟩ := hr
    have H := Lib.hid hv
    have B00 := Lib.hid hb0
    have IH := Lib.hid ih
    have ST := Lib.hid hst
    have HLN := Lib.hid hlen
    have HSQ := Lib.hid e.sz_eq
    have HSZ : Hid (szE e.l ≤ m) := Lib.hid (by have := e.sz_l; omega)
    have HC := Lib.hid hc
    have hl : e.l.length ≤ 10000000 := by have := szE_len e.l; have := e.sz_l; omega
    have hB0 : B0 ≤ w.heap.size := by have := hst.lo; have := hst.cs.lt; omega
    have hBw : B ≤ w.heap.size := by have := hbf.lt; omega
    have HB0 := Lib.hid hB0
    have HP := Lib.hid (rdE_parts out e)
    obtain ⟨n, hn⟩ : ∃ n, n = e.l.length := ⟨_, rfl⟩
    have HN := Lib.hid hn
    rw [← hn] at H hl ⊢
    clear ih hsz hv hb0 hst hlen hn hc
    have P := Lib.hid (CsT.new w (exC e (.slice a n cp)) 42)
    have B1 := Lib.hid (below1 w (.cells #[.int .i64 e.kind, .int .i64 e.n, .string e.name, .int .i64 e.op, .slice a n cp] 42))
    have F1 := Lib.hid hbf
    unfold exV
    unfold exC at P
    go_enter Tryd.func43, Tryd.ntmps43
    have p0' := P.out.at_.cell 0 _ rfl
    go_upto_if 8 with (fail)
    clear p0' hbf
    have P' : Hid (CsT (w.alloc (.cells #[.int .i64 e.kind, .int .i64 e.n, .string e.name, .int .i64 e.op, .slice a n cp] 42)) w.heap.size [.int .i64 e.kind, .int .i64 e.n, .string e.name, .int .i64 e.op, .slice a n cp] 42) := P
    clear P
    generalize w.alloc (.cells #[.int .i64 e.kind, .int .i64 e.n, .string e.name, .int .i64 e.op, .slice a n cp] 42) = w1 at *
    have p0 := P'.out.at_.cell 0 _ rfl
    have p2 := P'.out.at_.cell 2 _ rfl
    go_cut [9, 10, 11, 12] (fun _ _ _ _ wx => RV B0 nb (c + 1) wx (if e.kind = 3 then addN out e.name else out) ∧ Fr B (fun k => B0 ≤ k ∧ k < B) w wx ∧ CsT wx w.heap.size [.int .i64 e.kind, .int .i64 e.n, .string e.name, .int .i64 e.op, .slice a n cp] 42)
    case first =>
      by_cases hk : e.kind = 3
      · have d1 : (e.kind == 3) = true := by rw [beq_iff_eq]; exact hk
        have e1 : (if e.kind = 3 then addN out e.name else out) = addAll out [e.name] := if_pos hk
        have E1 := Lib.hid e1
        clear hk e1
        go_wp2_with fail
        have hst3 := ST.out.below B1.out
        have hb4 := below1 w1 (.cells #[.string e.name] 9)
        have hst4 := hst3.below hb4
        have S4 := Lib.hid hst4
        have P4 := Lib.hid (P'.out.below hb4)
        refine (nadd_any B0 nb la ln lc mp out [e.name] _ _ hst4 (nms_at1 w1 e.name) (fun b o q k e' h => ?_) (Nat.le_trans HB0.out (Nat.le_trans B1.out.size hb4.size)) (by have := HLN.out; have := HC.out; simp; omega)).mono ?_
        · have h1 := (Value.slice.inj e').1
          have h2 := (World.ownsRow.lt hst3.own b h).2
          have h3 := (Addr.mk.inj (Option.some.inj h1)).1
          omega
        rintro e' w5 ⟨a5, n5, c5, mp5, rfl, hst5, hg5⟩
        have S5 := Lib.hid hst5
        have F5' := S4.out.fr hnb hg5
        have F5 := Lib.hid ((Fr.of_below (B1.out.then_' hb4)).trans F5')
        have P5 := Lib.hid (P4.out.frame F5' (fun h => by have := h.2; omega) (by decide))
        have HL5 : Hid ((addAll out [e.name]).length ≤ c + 1) := Lib.hid (by have h1 := addAll_len out [e.name]; have h2 := HLN.out; simp at h1; omega)
        clear hst3 hb4 hst4 hst5 hg5 F5'
        go_wp2
        go_meet
        case rel => exact ⟨⟨_, _, _, _, by rw [E1.out]; exact S5.out, by rw [E1.out]; exact HL5.out⟩, F5.out, P5.out⟩
      · have d1 : (e.kind == 3) = false := by rw [beq_eq_false_iff_ne]; exact hk
        have e1 : (if e.kind = 3 then addN out e.name else out) = out := if_neg hk
        have E1 := Lib.hid e1
        clear hk e1
        go_wp2_with fail
        go_meet
        case rel => exact ⟨⟨_, _, _, _, by rw [E1.out]; exact ST.out.below B1.out, by rw [E1.out]; have := HLN.out; omega⟩, Fr.of_below B1.out, P'.out⟩
    case rest =>
      obtain ⟨hr2, hf2, hp2⟩ := hcut
      generalize (if e.kind = 3 then addN out e.name else out) = out0 at *
      have R2 := Lib.hid hr2
      have F2 := Lib.hid hf2
      have p4 := hp2.at_.cell 4 _ rfl
      clear p0 p2 hr2 hf2 hp2 ST HLN
      go_wp2_with fail
      go_loopw [16] (fun k_ wr => ∃ (k : Nat), k ≤ n ∧ k_ = .int .i64 k ∧ RV B0 nb (c + 1 + szE (e.l.take k)) wr (rdL out0 (e.l.take k)) ∧ Fr B (fun k => B0 ≤ k ∧ k < B) w wr) (fun k_ _ => n - (intOf k_).toNat)
      case atStart => exact ⟨0, Nat.zero_le _, rfl, by simpa [szE, rdL] using R2.out, F2.out⟩
      case round =>
        clear R2 F2 p4
        obtain ⟨k, hk, rfl, hrr, hfr⟩ := hrel
        have RR := Lib.hid hrr
        have FR := Lib.hid hfr
        clear hrr hfr
        by_cases hlt : k < n
        · obtain ⟨x, hx⟩ : ∃ x, e.l[k]? = some x := ⟨_, List.getElem?_eq_getElem (by rw [← HN.out]; exact hlt)⟩
          have hbr : Below w0.heap.size w0 wr := FR.out.low B00.out (Nat.le_trans h0 (by omega)) (fun k h => Nat.le_trans h0 h.1)
          obtain ⟨b, o, c', u, hv, _, f0, f1, f2, f3, f4, hu⟩ := (H.out.below hbr).elem hx
          obtain ⟨u', hu'⟩ : ∃ u', u' = u ∧ ExsAt w0 u' x.l := by
            obtain ⟨b', o', c'', u', hv', _, g0, g1, g2, g3, g4, hu'⟩ := H.out.elem hx
            obtain ⟨e1, -, -⟩ := Value.slice.inj (hv.symm.trans hv')
            obtain ⟨rfl, rfl, -⟩ := Addr.mk.inj (Option.some.inj e1)
            refine ⟨u', ?_, hu'⟩
            have := (hbr.cell (p := ⟨b, o + k * 5 + 4, none⟩) (World.block_lt_of_cell? w0 _ g4)).trans g4
            rw [f4] at this
            exact (Option.some.inj this).symm
          obtain ⟨rfl, hu0⟩ := hu'
          obtain ⟨rfl, -, rfl⟩ := Value.slice.inj hv
          obtain ⟨ua, uc, rfl⟩ := hu0.shape
          have HU := Lib.hid hu0
          have HTK := Lib.hid (take_snoc' hx)
          have hxm : Hid (x.sz ≤ m) := Lib.hid (Nat.le_trans (szE_mem (List.mem_of_getElem? hx)) HSZ.out)
          have HLT : Hid (c + 1 + szE (e.l.take k) + x.sz < 10000000) := Lib.hid (by have h2 := szE_take_add hx; have h3 := HSQ.out; have h4 := HC.out; omega)
          have hki : (k : Int) < (n : Int) := by omega
          have T := Lib.hid (CsT.new wr (exC x (.slice ua x.l.length uc)) 42)
          have Bz := Lib.hid (below1 wr (.cells #[.int .i64 x.kind, .int .i64 x.n, .string x.name, .int .i64 x.op, .slice ua x.l.length uc] 42))
          have FB := Lib.hid ((F1.out.frame FR.out (fun h => by have := h.2; omega) (by decide)).below Bz.out)
          have RZ := Lib.hid (RV.mono _ _ _ _ _ RR.out (Nat.le_refl _) Bz.out)
          have BZ0 := Lib.hid (hbr.then_' Bz.out)
          have FZ := Lib.hid (FR.out.below Bz.out)
          have s0 := FB.out.at_.cell 0 _ rfl
          unfold exC at T
          have t0 := T.out.at_.cell 0 _ rfl
          have t1 := T.out.at_.cell 1 _ rfl
          have t2 := T.out.at_.cell 2 _ rfl
          have t3 := T.out.at_.cell 3 _ rfl
          have t4 := T.out.at_.cell 4 _ rfl
          clear hv hbr hx hu hu0 RR
          go_wp2_with fail
          generalize wr.alloc (.cells #[.int .i64 x.kind, .int .i64 x.n, .string x.name, .int .i64 x.op, .slice ua x.l.length uc] 42) = wz at *
          clear t0 t1 t2 t3 t4 f0 f1 f2 f3 f4 s0
          refine (IH.out x (.slice ua x.l.length uc) _ _ wz hxm.out HLT.out HU.out BZ0.out RZ.out FB.out).mono ?_
          rintro e' w2 ⟨rfl, hr4, hf4⟩
          have R4 := Lib.hid hr4
          have F4 := Lib.hid (FZ.out.trans hf4)
          have E4 : Hid (c + 1 + szE (e.l.take k) + x.sz = c + 1 + szE (e.l.take (k + 1))) := Lib.hid (by rw [HTK.out, szE_snoc]; omega)
          clear hr4 hf4
          go_wp2
          go_roundw
          case rel => exact ⟨k + 1, by omega, by go_num, by rw [← E4.out, HTK.out, rdL_snoc]; exact R4.out, F4.out⟩
          case measure => simp [intOf]; omega
        · obtain rfl : k = n := by omega
          have e1 : e.l.take k = e.l := List.take_of_length_le (Nat.le_of_eq HN.out.symm)
          rw [e1] at RR
          have E5 : Hid (c + 1 + szE e.l = c + e.sz) := Lib.hid (by have := HSQ.out; omega)
          go_wp2
          go_end0
          exact ⟨rfl, by rw [← E5.out, HP.out]; exact RR.out, FR.out⟩

theorem rd_new (w : World) (cs : Array Value) : ∃ W, (((w.alloc (.cells cs 42)).alloc (.cells #[.slice none 0 0, .map none] 63)).alloc (.cells #[.func (.func 43) #[] #[.pointer (some ⟨w.heap.size + 1, 0, none⟩), .pointer (some ⟨w.heap.size + 1 + 1, 0, none⟩)]] 73)) = W ∧ Below w.heap.size w W ∧
    NSt W w.heap.size (w.heap.size + 1) none 0 0 none [] ∧ CsT W (w.heap.size + 1 + 1) [.func (.func 43) #[] #[.pointer (some ⟨w.heap.size + 1, 0, none⟩), .pointer (some ⟨w.heap.size + 1 + 1, 0, none⟩)]] 73 := by
  have b1 := below1 w (.cells cs 42)
  have h1 := NSt.new w _ b1
  rw [show (w.alloc (.cells cs 42)).heap.size = w.heap.size + 1 from by simp] at h1
  have b2 := b1.then_' (below1 _ (.cells #[.slice none 0 0, .map none] 63))
  have h2 := CsT.new ((w.alloc (.cells cs 42)).alloc (.cells #[.slice none 0 0, .map none] 63)) [.func (.func 43) #[] #[.pointer (some ⟨w.heap.size + 1, 0, none⟩), .pointer (some ⟨w.heap.size + 1 + 1, 0, none⟩)]] 73
  rw [show ((w.alloc (.cells cs 42)).alloc (.cells #[.slice none 0 0, .map none] 63)).heap.size = w.heap.size + 1 + 1 from by simp] at h2
  exact ⟨_, rfl, b2.then_' (below1 _ _), h1.below (below1 _ _), h2⟩
set_option maxHeartbeats 4000000 in
set_option maxRecDepth 100000 in
theorem sreads_any (e : Ex) (v : Value) (w : World) (hsz : e.sz ≤ 5000000) (hv : ExsAt w v e.l) : Calls Tryd.prog 20 #[exV e v] w (RNms w (readsE e)) := by
  obtain ⟨a, cp, rfl⟩ := hv.shape
  have H := Lib.hid hv
  have HR := Lib.hid (rdE_nil e)
  clear hv
  obtain ⟨W, hW, hB, hS, hF⟩ := rd_new w #[.int .i64 e.kind, .int .i64 e.n, .string e.name, .int .i64 e.op, .slice a e.l.length cp]
  have HW := Lib.hid hW
  have B1 := Lib.hid hB
  have S1 := Lib.hid hS
  have F1 := Lib.hid hF
  clear hW hB hS hF
  unfold exV
  go_enter Tryd.func20, Tryd.ntmps20
  go_wp2_with fail
  rw [HW.out]
  refine (reads1_any w.heap.size (w.heap.size + 1) (w.heap.size + 1 + 1) (w.heap.size + 1 + 1) w (by omega) (by omega) (by omega) (Nat.le_refl _) e.sz e (.slice a e.l.length cp) 0 [] W (Nat.le_refl _) (by omega) H.out B1.out ⟨none, 0, 0, none, S1.out, Nat.le_refl _⟩ F1.out).mono ?_
  rintro e' w2 ⟨rfl, hr, hf⟩
  rw [HR.out] at hr
  obtain ⟨a4, n4, c4, mp4, hst4, -⟩ := hr
  have S4 := Lib.hid hst4
  have B4 := Lib.hid (hf.low B1.out (by omega) (fun k h => h.1))
  have p0 := S4.out.cs.at_.cell 0 _ rfl
  clear hst4 hf
  go_wp2_with fail
  go_ret
  exact ⟨a4, n4, c4, rfl, S4.out.own, B4.out⟩
end Go.Proofs.YtilholgbepfopaaDoor
/- every (of the code), for any function value: expressions, functions, strings. -/
namespace Go.Proofs.YtilholgbepfopaaDoor
open Go.RowKit

/-- a test of all elements in their order, with a state, to the first that fails -/
def evL {σ α : Type} (g : σ → α → Bool × σ) (st : σ) : List α → Bool × σ
  | [] => (true, st)
  | x :: l => if (g st x).1 = true then evL g (g st x).2 l else (false, (g st x).2)
theorem evL_yes {σ α : Type} {g : σ → α → Bool × σ} {st : σ} {l : List α} {x : α} {k : Nat} (hk : l[k]? = some x) (h : (evL g st (l.take k)).1 = true) (hx : (g (evL g st (l.take k)).2 x).1 = true) :
    (evL g st (l.take (k + 1))).1 = true ∧ (evL g st (l.take (k + 1))).2 = (g (evL g st (l.take k)).2 x).2 := by
  induction l generalizing st k with
  | nil => simp at hk
  | cons y l ih =>
    cases k with
    | zero =>
      simp at hk
      subst hk
      simp only [List.take_zero, evL] at hx ⊢
      simp [evL, hx]
    | succ k =>
      rw [List.getElem?_cons_succ] at hk
      simp only [List.take_succ_cons, evL] at h hx ⊢
      by_cases hy : (g st y).1 = true
      · rw [if_pos hy] at h hx ⊢
        have := ih hk h hx
        simpa [List.take_succ_cons, hy] using this
      · rw [if_neg hy] at h
        cases h
theorem evL_no {σ α : Type} {g : σ → α → Bool × σ} {st : σ} {l : List α} {x : α} {k : Nat} (hk : l[k]? = some x) (h : (evL g st (l.take k)).1 = true) (hx : (g (evL g st (l.take k)).2 x).1 = false) :
    evL g st l = (false, (g (evL g st (l.take k)).2 x).2) := by
  induction l generalizing st k with
  | nil => simp at hk
  | cons y l ih =>
    cases k with
    | zero =>
      simp at hk
      subst hk
      simp only [List.take_zero, evL] at hx ⊢
      simp [hx]
    | succ k =>
      rw [List.getElem?_cons_succ] at hk
      simp only [List.take_succ_cons, evL] at h hx ⊢
      by_cases hy : (g st y).1 = true
      · rw [if_pos hy] at h hx ⊢
        have := ih hk h hx
        simpa [hy] using this
      · rw [if_neg hy] at h
        cases h

set_option maxHeartbeats 4000000 in
set_option maxRecDepth 100000 in
theorem everyE_any {σ : Type} (N : FuncId) (caps : Array Value) (R : Bool → World → σ → Prop) (g : σ → Ex → Bool × σ) (Frm : World → World → Prop) (w0 : World) (l : List Ex)
    (hN : ∀ args w, (callFunc N args).run Tryd.prog w = .ok (.enter N args) w)
    (hg : ∀ x ∈ l, ∀ (u : Value) (st : σ) (w : World), R true w st → Below w0.heap.size w0 w → ExsAt w0 u x.l → Calls Tryd.prog N (#[exV x u] ++ caps) w (fun e w' => e = .returned (.bool (g st x).1) ∧ R (g st x).1 w' (g st x).2 ∧ Frm w w'))
    (hR : ∀ b w st w', R b w st → Below w.heap.size w w' → R b w' st) (htr : ∀ w w1 w2, Frm w w1 → Frm w1 w2 → Frm w w2) (hbl : ∀ w w', Below w.heap.size w w' → Frm w w') (hlow : ∀ w w', Below w0.heap.size w0 w → Frm w w' → Below w0.heap.size w0 w')
    (v : Value) (st : σ) (w : World) (hl : l.length ≤ 10000000) (hv : ExsAt w0 v l) (hb0 : Below w0.heap.size w0 w) (hr : R true w st) :
    Calls Tryd.prog 75 #[v, .func (.func N) #[] caps] w (fun e w' => e = .returned (.bool (evL g st l).1) ∧ R (evL g st l).1 w' (evL g st l).2 ∧ Frm w w') := by
  obtain ⟨a, cp, rfl⟩ := hv.shape
  have H := Lib.hid hv
  have B0 := Lib.hid hb0
  have R0 := Lib.hid hr
  have HG := Lib.hid hg
  have HR := Lib.hid hR
  have HTR := Lib.hid htr
  have HBL := Lib.hid hbl
  have HLW := Lib.hid hlow
  obtain ⟨n, hn⟩ : ∃ n, n = l.length := ⟨_, rfl⟩
  have HN := Lib.hid hn
  rw [← hn] at H hl ⊢
  clear hv hb0 hr hg hR htr hbl hlow hn
  go_enter Tryd.func75, Tryd.ntmps75
  go_wp2_with fail
  go_loopw [9] (fun  k_ wr => ∃ (k : Nat), k ≤ n ∧ k_ = .int .i64 k ∧ Hid ((evL g st (l.take k)).1 = true) ∧ R true wr (evL g st (l.take k)).2 ∧ Frm w wr) (fun  k_ _ => n - (intOf k_).toNat)
  case atStart => exact ⟨0, Nat.zero_le _, rfl, Lib.hid rfl, R0.out, HBL.out _ _ (Below.refl _ _)⟩
  case round =>
    obtain ⟨k, hk, rfl, hev, hrr, hfr⟩ := hrel
    have RR := Lib.hid hrr
    have FR := Lib.hid hfr
    clear hrr hfr R0
    by_cases hlt : k < n
    · obtain ⟨x, hx⟩ : ∃ x, l[k]? = some x := ⟨_, List.getElem?_eq_getElem (by rw [← HN.out]; exact hlt)⟩
      have hbr : Below w0.heap.size w0 wr := HLW.out _ _ B0.out FR.out
      obtain ⟨b, o, c', u, hv, hbb, f0, f1, f2, f3, f4, hu⟩ := H.out.elem hx
      obtain ⟨rfl, -, rfl⟩ := Value.slice.inj hv
      obtain ⟨ua, uc, rfl⟩ := hu.shape
      replace f0 := (hbr.cell (p := ⟨b, o + k * 5, none⟩) hbb).trans f0
      replace f1 := (hbr.cell (p := ⟨b, o + k * 5 + 1, none⟩) hbb).trans f1
      replace f2 := (hbr.cell (p := ⟨b, o + k * 5 + 2, none⟩) hbb).trans f2
      replace f3 := (hbr.cell (p := ⟨b, o + k * 5 + 3, none⟩) hbb).trans f3
      replace f4 := (hbr.cell (p := ⟨b, o + k * 5 + 4, none⟩) hbb).trans f4
      have HU := Lib.hid hu
      clear hu
      have HX := Lib.hid hx
      have hki : (k : Int) < (n : Int) := by omega
      clear hv hx
      have T := Lib.hid (CsT.new wr [.int .i64 x.kind, .int .i64 x.n, .string x.name, .int .i64 x.op, .slice ua x.l.length uc] 42)
      have Bz := Lib.hid (below1 wr (.cells #[.int .i64 x.kind, .int .i64 x.n, .string x.name, .int .i64 x.op, .slice ua x.l.length uc] 42))
      have RZ := Lib.hid (HR.out _ _ _ _ RR.out Bz.out)
      have BZ0 := Lib.hid (hbr.then_' Bz.out)
      have FZ := Lib.hid (HTR.out _ _ _ FR.out (HBL.out _ _ Bz.out))
      have t0 := T.out.at_.cell 0 _ rfl
      have t1 := T.out.at_.cell 1 _ rfl
      have t2 := T.out.at_.cell 2 _ rfl
      have t3 := T.out.at_.cell 3 _ rfl
      have t4 := T.out.at_.cell 4 _ rfl
      clear hbr RR FR
      go_wp2_with fail
      generalize wr.alloc (.cells #[.int .i64 x.kind, .int .i64 x.n, .string x.name, .int .i64 x.op, .slice ua x.l.length uc] 42) = wz at *
      clear t0 t1 t2 t3 t4 f0 f1 f2 f3 f4 T
      refine (HG.out x (List.mem_of_getElem? HX.out) (.slice ua x.l.length uc) _ wz RZ.out BZ0.out HU.out).mono ?_
      rintro e' w2 ⟨rfl, hr2, hf2⟩
      have R2 := Lib.hid hr2
      have F2 := Lib.hid (HTR.out _ _ _ FZ.out hf2)
      clear hr2 hf2
      cases hh : (g (evL g st (l.take k)).2 x).1 with
      | true =>
        obtain ⟨e1, e2⟩ := evL_yes HX.out hev.out hh
        have E1 := Lib.hid e1
        have E2 := Lib.hid e2
        rw [hh] at R2
        clear hh e1 e2
        go_wp2_with fail
        go_roundw
        case rel => exact ⟨k + 1, by omega, by go_num, E1, by rw [E2.out]; exact R2.out, F2.out⟩
        case measure => simp [intOf]; omega
      | false =>
        have E1 := Lib.hid (evL_no HX.out hev.out hh)
        rw [hh] at R2
        clear hh
        go_wp2_with fail
        go_ret
        exact ⟨by rw [E1.out]; rfl, by rw [E1.out]; exact R2.out, F2.out⟩
    · obtain rfl : k = n := by omega
      have e1 : l.take k = l := List.take_of_length_le (Nat.le_of_eq HN.out.symm)
      rw [e1] at RR hev
      go_wp2
      go_ret
      exact ⟨by rw [hev.out]; rfl, by rw [hev.out]; exact RR.out, FR.out⟩

set_option maxHeartbeats 4000000 in
set_option maxRecDepth 100000 in
theorem everyF_any {σ : Type} (N : FuncId) (caps : Array Value) (R : Bool → World → σ → Prop) (g : σ → Fn → Bool × σ) (Frm : World → World → Prop) (w0 : World) (l : List Fn)
    (hN : ∀ args w, (callFunc N args).run Tryd.prog w = .ok (.enter N args) w)
    (hg : ∀ x ∈ l, ∀ (u y : Value) (st : σ) (w : World), R true w st → Below w0.heap.size w0 w → NmsAt w0 u x.params → StsAt w0 y x.body → Calls Tryd.prog N (#[.agg #[.string x.name, u, y]] ++ caps) w (fun e w' => e = .returned (.bool (g st x).1) ∧ R (g st x).1 w' (g st x).2 ∧ Frm w w'))
    (hR : ∀ b w st w', R b w st → Below w.heap.size w w' → R b w' st) (htr : ∀ w w1 w2, Frm w w1 → Frm w1 w2 → Frm w w2) (hbl : ∀ w w', Below w.heap.size w w' → Frm w w') (hlow : ∀ w w', Below w0.heap.size w0 w → Frm w w' → Below w0.heap.size w0 w')
    (v : Value) (st : σ) (w : World) (hl : l.length ≤ 10000000) (hv : FnsAt w0 v l) (hb0 : Below w0.heap.size w0 w) (hr : R true w st) :
    Calls Tryd.prog 32 #[v, .func (.func N) #[] caps] w (fun e w' => e = .returned (.bool (evL g st l).1) ∧ R (evL g st l).1 w' (evL g st l).2 ∧ Frm w w') := by
  obtain ⟨a, cp, rfl⟩ := hv.shape
  have H := Lib.hid hv
  have B0 := Lib.hid hb0
  have R0 := Lib.hid hr
  have HG := Lib.hid hg
  have HR := Lib.hid hR
  have HTR := Lib.hid htr
  have HBL := Lib.hid hbl
  have HLW := Lib.hid hlow
  obtain ⟨n, hn⟩ : ∃ n, n = l.length := ⟨_, rfl⟩
  have HN := Lib.hid hn
  rw [← hn] at H hl ⊢
  clear hv hb0 hr hg hR htr hbl hlow hn
  go_enter Tryd.func32, Tryd.ntmps32
  go_wp2_with fail
  go_loopw [9] (fun  k_ wr => ∃ (k : Nat), k ≤ n ∧ k_ = .int .i64 k ∧ Hid ((evL g st (l.take k)).1 = true) ∧ R true wr (evL g st (l.take k)).2 ∧ Frm w wr) (fun  k_ _ => n - (intOf k_).toNat)
  case atStart => exact ⟨0, Nat.zero_le _, rfl, Lib.hid rfl, R0.out, HBL.out _ _ (Below.refl _ _)⟩
  case round =>
    obtain ⟨k, hk, rfl, hev, hrr, hfr⟩ := hrel
    have RR := Lib.hid hrr
    have FR := Lib.hid hfr
    clear hrr hfr R0
    by_cases hlt : k < n
    · obtain ⟨x, hx⟩ : ∃ x, l[k]? = some x := ⟨_, List.getElem?_eq_getElem (by rw [← HN.out]; exact hlt)⟩
      have hbr : Below w0.heap.size w0 wr := HLW.out _ _ B0.out FR.out
      obtain ⟨b, o, c', u, y, hv, hbb, f0, f1, f2, hu, hy⟩ := H.out.elem hx
      obtain ⟨rfl, -, rfl⟩ := Value.slice.inj hv
      obtain ⟨ua, uc, rfl⟩ := hu.shape
      obtain ⟨ya, yc, rfl⟩ := hy.shape
      replace f0 := (hbr.cell (p := ⟨b, o + k * 3, none⟩) hbb).trans f0
      replace f1 := (hbr.cell (p := ⟨b, o + k * 3 + 1, none⟩) hbb).trans f1
      replace f2 := (hbr.cell (p := ⟨b, o + k * 3 + 2, none⟩) hbb).trans f2
      have HU := Lib.hid hu
      have HY := Lib.hid hy
      clear hu hy
      have HX := Lib.hid hx
      have hki : (k : Int) < (n : Int) := by omega
      clear hv hx
      have T := Lib.hid (CsT.new wr [.string x.name, .slice ua x.params.length uc, .slice ya x.body.length yc] 35)
      have Bz := Lib.hid (below1 wr (.cells #[.string x.name, .slice ua x.params.length uc, .slice ya x.body.length yc] 35))
      have RZ := Lib.hid (HR.out _ _ _ _ RR.out Bz.out)
      have BZ0 := Lib.hid (hbr.then_' Bz.out)
      have FZ := Lib.hid (HTR.out _ _ _ FR.out (HBL.out _ _ Bz.out))
      have t0 := T.out.at_.cell 0 _ rfl
      have t1 := T.out.at_.cell 1 _ rfl
      have t2 := T.out.at_.cell 2 _ rfl
      clear hbr RR FR
      go_wp2_with fail
      generalize wr.alloc (.cells #[.string x.name, .slice ua x.params.length uc, .slice ya x.body.length yc] 35) = wz at *
      clear t0 t1 t2 f0 f1 f2 T
      refine (HG.out x (List.mem_of_getElem? HX.out) (.slice ua x.params.length uc) (.slice ya x.body.length yc) _ wz RZ.out BZ0.out HU.out HY.out).mono ?_
      rintro e' w2 ⟨rfl, hr2, hf2⟩
      have R2 := Lib.hid hr2
      have F2 := Lib.hid (HTR.out _ _ _ FZ.out hf2)
      clear hr2 hf2
      cases hh : (g (evL g st (l.take k)).2 x).1 with
      | true =>
        obtain ⟨e1, e2⟩ := evL_yes HX.out hev.out hh
        have E1 := Lib.hid e1
        have E2 := Lib.hid e2
        rw [hh] at R2
        clear hh e1 e2
        go_wp2_with fail
        go_roundw
        case rel => exact ⟨k + 1, by omega, by go_num, E1, by rw [E2.out]; exact R2.out, F2.out⟩
        case measure => simp [intOf]; omega
      | false =>
        have E1 := Lib.hid (evL_no HX.out hev.out hh)
        rw [hh] at R2
        clear hh
        go_wp2_with fail
        go_ret
        exact ⟨by rw [E1.out]; rfl, by rw [E1.out]; exact R2.out, F2.out⟩
    · obtain rfl : k = n := by omega
      have e1 : l.take k = l := List.take_of_length_le (Nat.le_of_eq HN.out.symm)
      rw [e1] at RR hev
      go_wp2
      go_ret
      exact ⟨by rw [hev.out]; rfl, by rw [hev.out]; exact RR.out, FR.out⟩

set_option maxHeartbeats 4000000 in
set_option maxRecDepth 100000 in
theorem everyS_any {σ : Type} (N : FuncId) (caps : Array Value) (R : Bool → World → σ → Prop) (g : σ → ByteArray → Bool × σ) (Frm : World → World → Prop) (w0 : World) (l : List ByteArray)
    (hN : ∀ args w, (callFunc N args).run Tryd.prog w = .ok (.enter N args) w)
    (hg : ∀ x ∈ l, ∀ (_u : Value) (st : σ) (w : World), R true w st → Below w0.heap.size w0 w → True → Calls Tryd.prog N (#[.string x] ++ caps) w (fun e w' => e = .returned (.bool (g st x).1) ∧ R (g st x).1 w' (g st x).2 ∧ Frm w w'))
    (hR : ∀ b w st w', R b w st → Below w.heap.size w w' → R b w' st) (htr : ∀ w w1 w2, Frm w w1 → Frm w1 w2 → Frm w w2) (hbl : ∀ w w', Below w.heap.size w w' → Frm w w') (hlow : ∀ w w', Below w0.heap.size w0 w → Frm w w' → Below w0.heap.size w0 w')
    (v : Value) (st : σ) (w : World) (hl : l.length ≤ 10000000) (hv : NmsAt w0 v l) (hb0 : Below w0.heap.size w0 w) (hr : R true w st) :
    Calls Tryd.prog 59 #[v, .func (.func N) #[] caps] w (fun e w' => e = .returned (.bool (evL g st l).1) ∧ R (evL g st l).1 w' (evL g st l).2 ∧ Frm w w') := by
  obtain ⟨a, cp, rfl⟩ := hv.shape
  have H := Lib.hid hv
  have B0 := Lib.hid hb0
  have R0 := Lib.hid hr
  have HG := Lib.hid hg
  have HR := Lib.hid hR
  have HTR := Lib.hid htr
  have HBL := Lib.hid hbl
  have HLW := Lib.hid hlow
  obtain ⟨n, hn⟩ : ∃ n, n = l.length := ⟨_, rfl⟩
  have HN := Lib.hid hn
  rw [← hn] at H hl ⊢
  clear hv hb0 hr hg hR htr hbl hlow hn
  go_enter Tryd.func59, Tryd.ntmps59
  go_wp2_with fail
  go_loopw [6, 9] (fun _ k_ wr => ∃ (k : Nat), k ≤ n ∧ k_ = .int .i64 k ∧ Hid ((evL g st (l.take k)).1 = true) ∧ R true wr (evL g st (l.take k)).2 ∧ Frm w wr) (fun _ k_ _ => n - (intOf k_).toNat)
  case atStart => exact ⟨0, Nat.zero_le _, rfl, Lib.hid rfl, R0.out, HBL.out _ _ (Below.refl _ _)⟩
  case round =>
    obtain ⟨k, hk, rfl, hev, hrr, hfr⟩ := hrel
    have RR := Lib.hid hrr
    have FR := Lib.hid hfr
    clear hrr hfr R0
    by_cases hlt : k < n
    · obtain ⟨x, hx⟩ : ∃ x, l[k]? = some x := ⟨_, List.getElem?_eq_getElem (by rw [← HN.out]; exact hlt)⟩
      have hbr : Below w0.heap.size w0 wr := HLW.out _ _ B0.out FR.out
      obtain ⟨b, o, c', hv, hbb, f0⟩ := H.out.elem hx
      obtain ⟨rfl, -, rfl⟩ := Value.slice.inj hv
      replace f0 := (hbr.cell (p := ⟨b, o + k, none⟩) hbb).trans f0
      have HX := Lib.hid hx
      have hki : (k : Int) < (n : Int) := by omega
      clear hv hx
      have BZ0 := Lib.hid hbr
      clear hbr
      go_wp2_with fail
      clear f0
      refine (HG.out x (List.mem_of_getElem? HX.out) (.bool true) _ wr RR.out BZ0.out trivial).mono ?_
      rintro e' w2 ⟨rfl, hr2, hf2⟩
      have R2 := Lib.hid hr2
      have F2 := Lib.hid (HTR.out _ _ _ FR.out hf2)
      clear hr2 hf2
      cases hh : (g (evL g st (l.take k)).2 x).1 with
      | true =>
        obtain ⟨e1, e2⟩ := evL_yes HX.out hev.out hh
        have E1 := Lib.hid e1
        have E2 := Lib.hid e2
        rw [hh] at R2
        clear hh e1 e2
        go_wp2_with fail
        go_roundw
        case rel => exact ⟨k + 1, by omega, by go_num, E1, by rw [E2.out]; exact R2.out, F2.out⟩
        case measure => simp [intOf]; omega
      | false =>
        have E1 := Lib.hid (evL_no HX.out hev.out hh)
        rw [hh] at R2
        clear hh
        go_wp2_with fail
        go_ret
        exact ⟨by rw [E1.out]; rfl, by rw [E1.out]; exact R2.out, F2.out⟩
    · obtain rfl : k = n := by omega
      have e1 : l.take k = l := List.take_of_length_le (Nat.le_of_eq HN.out.symm)
      rw [e1] at RR hev
      go_wp2
      go_ret
      exact ⟨by rw [hev.out]; rfl, by rw [hev.out]; exact RR.out, FR.out⟩
end Go.Proofs.YtilholgbepfopaaDoor
/- validExpr (of the code): a closure that calls itself, with a count. -/
namespace Go.Proofs.YtilholgbepfopaaDoor
open Go.RowKit

mutual
def vE (left : Int) : Ex → Bool × Int
  | .mk k n nm op l => if 0 ≤ left - 1 ∧ vNode (.mk k n nm op l) = true then vL (left - 1) l else (false, left - 1)
def vL (left : Int) : List Ex → Bool × Int
  | [] => (true, left)
  | x :: l => if (vE left x).1 = true then vL (vE left x).2 l else (false, (vE left x).2)
end
mutual
/-- all nodes are as they must be -/
def gE : Ex → Bool
  | .mk k n nm op l => vNode (.mk k n nm op l) && gL l
def gL : List Ex → Bool
  | [] => true
  | e :: l => gE e && gL l
end
theorem vE_parts (left : Int) (e : Ex) : vE left e = if 0 ≤ left - 1 ∧ vNode e = true then vL (left - 1) e.l else (false, left - 1) := by
  cases e
  rw [vE]
  rfl
theorem gE_parts (e : Ex) : gE e = (vNode e && gL e.l) := by
  cases e
  rw [gE]
  rfl
theorem vL_ev (left : Int) (l : List Ex) : vL left l = evL vE left l := by
  induction l generalizing left with
  | nil => rw [vL, evL]
  | cons x l ih => rw [vL, evL, ih]
mutual
theorem vE_val : ∀ (e : Ex) (left : Int), 0 ≤ left → (vE left e).1 = (gE e && decide ((e.sz : Int) ≤ left)) ∧ ((vE left e).1 = true → (vE left e).2 = left - e.sz)
  | .mk k n nm op l, left, h0 => by
    rw [vE, gE, Ex.sz]
    by_cases h1 : 0 ≤ left - 1
    · cases h2 : vNode (.mk k n nm op l) with
      | true =>
        rw [if_pos ⟨h1, rfl⟩]
        obtain ⟨h3, h4⟩ := vL_val l (left - 1) h1
        refine ⟨?_, fun h => ?_⟩
        · rw [h3, Bool.true_and]
          congr 1
          exact decide_eq_decide.2 (by omega)
        · rw [h4 h]; omega
      | false =>
        rw [if_neg (by rintro ⟨_, h⟩; cases h)]
        exact ⟨by simp, fun h => by cases h⟩
    · rw [if_neg (fun h => h1 h.1)]
      refine ⟨?_, fun h => by cases h⟩
      rw [decide_eq_false (by omega), Bool.and_false]
theorem vL_val : ∀ (l : List Ex) (left : Int), 0 ≤ left → (vL left l).1 = (gL l && decide ((szE l : Int) ≤ left)) ∧ ((vL left l).1 = true → (vL left l).2 = left - szE l)
  | [], left, h0 => by
    rw [vL, gL, szE]
    exact ⟨by simp [h0], fun _ => by simp⟩
  | x :: l, left, h0 => by
    rw [vL, gL, szE]
    obtain ⟨h1, h2⟩ := vE_val x left h0
    cases h3 : (vE left x).1 with
    | true =>
      rw [if_pos rfl]
      rw [h3] at h1
      have h4 := h2 h3
      obtain ⟨h5, h6⟩ : gE x = true ∧ (x.sz : Int) ≤ left := by simpa using h1.symm
      obtain ⟨h7, h8⟩ := vL_val l (vE left x).2 (by omega)
      refine ⟨?_, fun h => ?_⟩
      · rw [h7, h5, Bool.true_and, h4]
        congr 1
        exact decide_eq_decide.2 (by omega)
      · rw [h8 h, h4]; omega
    | false =>
      rw [if_neg (by decide)]
      refine ⟨?_, fun h => by cases h⟩
      rw [h3] at h1
      show false = _
      cases h5 : gE x with
      | false => simp
      | true =>
        rw [h5, Bool.true_and] at h1
        have := of_decide_eq_false h1.symm
        rw [decide_eq_false (by omega), Bool.and_false]
end
/-- the count and the closure -/
structure RX (bl bf : Nat) (b : Bool) (w : World) (left : Int) : Prop where
  c : CsT w bl [.int .i64 left] 3
  f : CsT w bf [.func (.func 84) #[] #[.pointer (some ⟨bl, 0, none⟩), .pointer (some ⟨bf, 0, none⟩)]] 107
  p : b = true → 0 ≤ left
  lo : -1 ≤ left
  hi : left ≤ 16
theorem RX.below {bl bf : Nat} (b : Bool) (w : World) (left : Int) (w' : World) (h : RX bl bf b w left) (hb : Below w.heap.size w w') : RX bl bf b w' left := ⟨h.c.below hb, h.f.below hb, h.p, h.lo, h.hi⟩
theorem enter_vexpr (args : Array Value) (w : World) : (callFunc 84 args).run Tryd.prog w = .ok (.enter 84 args) w := call_enter Tryd.func84 (by kernel_rfl) (by kernel_rfl) args w
theorem CsT.far {w : World} {b : Nat} {cs : List Value} {t : TypeId} (h : CsT w b cs t) {p : Addr} (hp : b ≠ p.block) (u : Value) : CsT (w.setCell p u) b cs t := (Below.heap_setCell w p u b hp).trans h
theorem vx_new (w : World) (cs : Array Value) : ∃ W, (((w.alloc (.cells cs 42)).alloc (.cells #[.int .i64 16] 3)).alloc (.cells #[.func (.func 84) #[] #[.pointer (some ⟨w.heap.size + 1, 0, none⟩), .pointer (some ⟨w.heap.size + 1 + 1, 0, none⟩)]] 107)) = W ∧ Below w.heap.size w W ∧
    CsT W (w.heap.size + 1) [.int .i64 16] 3 ∧ CsT W (w.heap.size + 1 + 1) [.func (.func 84) #[] #[.pointer (some ⟨w.heap.size + 1, 0, none⟩), .pointer (some ⟨w.heap.size + 1 + 1, 0, none⟩)]] 107 := by
  have b1 := below1 w (.cells cs 42)
  have h1 := CsT.new (w.alloc (.cells cs 42)) [.int .i64 16] 3
  rw [show (w.alloc (.cells cs 42)).heap.size = w.heap.size + 1 from by simp] at h1
  have b2 := b1.then_' (below1 _ (.cells #[.int .i64 16] 3))
  have h2 := CsT.new ((w.alloc (.cells cs 42)).alloc (.cells #[.int .i64 16] 3)) [.func (.func 84) #[] #[.pointer (some ⟨w.heap.size + 1, 0, none⟩), .pointer (some ⟨w.heap.size + 1 + 1, 0, none⟩)]] 107
  rw [show ((w.alloc (.cells cs 42)).alloc (.cells #[.int .i64 16] 3)).heap.size = w.heap.size + 1 + 1 from by simp] at h2
  exact ⟨_, rfl, b2.then_' (below1 _ _), h1.below (below1 _ _), h2⟩

set_option maxHeartbeats 4000000 in
set_option maxRecDepth 100000 in
theorem vexpr1_any (bl bf : Nat) (w0 : World) (hne : bf ≠ bl) (hbl : w0.heap.size ≤ bl) (hg : Glob w0) (m : Nat) : ∀ (e : Ex) (v : Value) (left : Int) (w : World), e.sz ≤ m → m ≤ 10000000 → ExsAt w0 v e.l → Below w0.heap.size w0 w → RX bl bf true w left →
    Calls Tryd.prog 84 #[exV e v, .pointer (some ⟨bl, 0, none⟩), .pointer (some ⟨bf, 0, none⟩)] w (fun e' w' => e' = .returned (.bool (vE left e).1) ∧ RX bl bf (vE left e).1 w' (vE left e).2 ∧ Fr w0.heap.size (fun k => k = bl) w w') := by
  induction m with
  | zero => intro e _ _ _ h; have := e.sz_pos; omega
  | succ m ih =>
    intro e v left w hsz hm hv hb0 hr
    obtain ⟨a, cp, rfl⟩ := hv.shape
    have H := Lib.hid hv
    have B0 := Lib.hid hb0
    have IH := Lib.hid (fun e v left w h => ih e v left w h (by omega))
    have R0 := Lib.hid hr
    have HG := Lib.hid hg
    have HP := Lib.hid (vE_parts left e)
    have HSZ : Hid (szE e.l ≤ m) := Lib.hid (by have := e.sz_l; omega)
    have hll : e.l.length ≤ 10000000 := by have := szE_len e.l; have := e.sz_l; omega
    have HLL := Lib.hid hll
    have h0 := hr.p rfl
    have h16 := hr.hi
    have P := Lib.hid (CsT.new w [.int .i64 e.kind, .int .i64 e.n, .string e.name, .int .i64 e.op, .slice a e.l.length cp] 42)
    have B1 := Lib.hid (below1 w (.cells #[.int .i64 e.kind, .int .i64 e.n, .string e.name, .int .i64 e.op, .slice a e.l.length cp] 42))
    have C1 := Lib.hid (hr.c.below B1.out)
    have hblw : bl ≠ w.heap.size := by have := hr.c.lt; omega
    clear ih hsz hm hv hb0 hr hg
    unfold exV
    go_enter Tryd.func84, Tryd.ntmps84
    have c0 := C1.out.at_.cell 0 _ rfl
    have z0 := C1.out.at_.fr 0
    have F1 := Lib.hid (R0.out.f.below B1.out)
    have C2 := Lib.hid (C1.out.set0 (v := .int .i64 (left - 1)))
    have F2 := Lib.hid (F1.out.far (p := ⟨bl, 0, none⟩) hne (.int .i64 (left - 1)))
    have P2 := Lib.hid (P.out.far (p := ⟨bl, 0, none⟩) (fun e => hblw e.symm) (.int .i64 (left - 1)))
    have FR := Lib.hid ((Fr.of_below (B := w0.heap.size) (E := fun k => k = bl) B1.out).set (p := ⟨bl, 0, none⟩) rfl (.int .i64 (left - 1)))
    by_cases hz : left < 1
    · have HF : Hid (vE left e = (false, left - 1)) := Lib.hid (by rw [HP.out, if_neg (fun h => by omega)])
      go_wp2_with fail
      go_ret
      rw [HF.out]
      exact ⟨rfl, ⟨C2.out, F2.out, fun h => (by cases h), by omega, by omega⟩, FR.out⟩
    · have h1 : 1 ≤ left := by omega
      clear hz
      go_wp2_with fail
      generalize (w.alloc (.cells #[.int .i64 e.kind, .int .i64 e.n, .string e.name, .int .i64 e.op, .slice a e.l.length cp] 42)).setCell ⟨bl, 0, none⟩ (.int .i64 (left - 1)) = w2 at *
      clear c0 z0 C1 F1 P
      have B2 := Lib.hid (FR.out.low B0.out (Nat.le_refl _) (fun k h => by rw [h]; exact hbl))
      refine (vnode_any e (.slice a e.l.length cp) w2 (H.out.below B2.out) (HG.out.below B2.out)).mono ?_
      rintro e' w3 ⟨rfl, hb⟩
      have C3 := Lib.hid (C2.out.below hb)
      have F3 := Lib.hid (F2.out.below hb)
      have P3 := Lib.hid (P2.out.below hb)
      have FR3 := Lib.hid (FR.out.below hb)
      have B3 := Lib.hid (B2.out.then_' hb)
      clear hb C2 F2 P2 FR B2
      cases hx : vNode e with
      | false =>
        have HF : Hid (vE left e = (false, left - 1)) := Lib.hid (by rw [HP.out, if_neg (fun h => by rw [hx] at h; cases h.2)])
        clear hx
        go_wp2_with fail
        go_ret
        rw [HF.out]
        exact ⟨rfl, ⟨C3.out, F3.out, fun h => (by cases h), by omega, by omega⟩, FR3.out⟩
      | true =>
        have HF : Hid (vE left e = evL vE (left - 1) e.l) := Lib.hid (by rw [HP.out, if_pos ⟨by omega, hx⟩, vL_ev])
        clear hx
        have p4 := P3.out.at_.cell 4 _ rfl
        have f0 := F3.out.at_.cell 0 _ rfl
        have R3 : Hid (RX bl bf true w3 (left - 1)) := Lib.hid ⟨C3.out, F3.out, fun _ => by omega, by omega, by omega⟩
        go_wp2_with fail
        refine (everyE_any 84 #[.pointer (some ⟨bl, 0, none⟩), .pointer (some ⟨bf, 0, none⟩)] (RX bl bf) vE (Fr w0.heap.size (fun k => k = bl)) w0 e.l enter_vexpr (fun x hx u st w' hr hb hu => IH.out x u st w' (Nat.le_trans (szE_mem hx) HSZ.out) hu hb hr) RX.below (fun _ _ _ h h' => h.trans h') (fun _ _ h => .of_below h)
          (fun _ _ h h' => h'.low h (Nat.le_refl _) (fun k hk => by rw [hk]; exact hbl)) (.slice a e.l.length cp) (left - 1) w3 HLL.out H.out B3.out R3.out).mono ?_
        rintro e' w4 ⟨rfl, hr4, hf4⟩
        have R4 := Lib.hid hr4
        have F4 := Lib.hid (FR3.out.trans hf4)
        clear hr4 hf4 p4 f0
        generalize evL vE (left - 1) e.l = rr at *
        obtain ⟨r1, r2⟩ := rr
        go_wp2_with fail
        go_ret
        rw [HF.out]
        exact ⟨rfl, R4.out, F4.out⟩

set_option maxHeartbeats 4000000 in
set_option maxRecDepth 100000 in
/-- whether an expression is as it must be -/
theorem vexpr_any (e : Ex) (v : Value) (w : World) (hsz : e.sz ≤ 10000000) (hv : ExsAt w v e.l) (hg : Glob w) : Calls Tryd.prog 76 #[exV e v] w (RetB w (gE e && decide (e.sz ≤ 16))) := by
  obtain ⟨a, cp, rfl⟩ := hv.shape
  have H := Lib.hid hv
  have HG := Lib.hid hg
  have HV : Hid ((vE 16 e).1 = (gE e && decide (e.sz ≤ 16))) := Lib.hid (by rw [(vE_val e 16 (by decide)).1]; congr 1; exact decide_eq_decide.2 (by omega))
  clear hv hg
  obtain ⟨W, hW, hB, hC, hF⟩ := vx_new w #[.int .i64 e.kind, .int .i64 e.n, .string e.name, .int .i64 e.op, .slice a e.l.length cp]
  have HW := Lib.hid hW
  have B1 := Lib.hid hB
  have C1 := Lib.hid hC
  have F1 := Lib.hid hF
  clear hW hB hC hF
  unfold exV
  go_enter Tryd.func76, Tryd.ntmps76
  go_wp2_with fail
  rw [HW.out]
  refine (vexpr1_any (w.heap.size + 1) (w.heap.size + 1 + 1) w (by omega) (by omega) HG.out e.sz e (.slice a e.l.length cp) 16 W (Nat.le_refl _) hsz H.out B1.out ⟨C1.out, F1.out, fun _ => by decide, by decide, by decide⟩).mono ?_
  rintro e' w2 ⟨rfl, hr, hf⟩
  have F2 := Lib.hid (hf.low B1.out (Nat.le_refl _) (fun k hk => by omega))
  rw [HV.out]
  clear hr hf
  go_wp2_with fail
  go_ret
  exact ⟨rfl, F2.out⟩
end Go.Proofs.YtilholgbepfopaaDoor
/- validStmt (of the code). -/
namespace Go.Proofs.YtilholgbepfopaaDoor
open Go.RowKit

def vX (e : Ex) : Bool := gE e && decide (e.sz ≤ 16)
theorem enter_vx (args : Array Value) (w : World) : (callFunc 76 args).run Tryd.prog w = .ok (.enter 76 args) w := call_enter Tryd.func76 (by kernel_rfl) (by kernel_rfl) args w
theorem ev_plain {α : Type} (f : α → Bool) (l : List α) : evL (fun (_ : Unit) x => (f x, ())) () l = (l.all f, ()) := by
  induction l with
  | nil => rfl
  | cons x l ih =>
    rw [evL, List.all_cons, ih]
    cases f x <;> rfl
theorem everyX_any (v : Value) (l : List Ex) (w : World) (hl : szE l ≤ 10000000) (hv : ExsAt w v l) (hg : Glob w) : Calls Tryd.prog 75 #[v, .func (.func 76) #[] #[]] w (RetB w (l.all vX)) := by
  refine (everyE_any 76 #[] (fun _ _ (_ : Unit) => True) (fun _ x => (vX x, ())) (fun w w' => Below w.heap.size w w') w l enter_vx (fun x hx u st w' _ hb hu => ?_) (fun _ _ _ _ _ _ => trivial) (fun _ _ _ h h' => h.then_' h') (fun _ _ h => h) (fun _ _ h h' => h.then_' h') v () w (Nat.le_trans (szE_len l) hl) hv (Below.refl _ _) trivial).mono ?_
  · refine (vexpr_any x u w' (Nat.le_trans (szE_mem hx) hl) (hu.below hb) (hg.below hb)).mono ?_
    rintro e w2 ⟨rfl, h⟩
    exact ⟨rfl, trivial, h⟩
  · rintro e w' ⟨rfl, -, h⟩
    rw [ev_plain]
    exact ⟨rfl, h⟩
def vStmtP (p : SP) (s : St) : Bool := vName s.name p.name && (vName s.fn p.fn && (vOp s.op p.op && (decide (0 ≤ s.n) && (decide (s.n ≤ p.mostN) && (decide (p.least ≤ (s.exprs.length : Int)) && (decide ((s.exprs.length : Int) ≤ p.most) && (s.exprs.all vX && ((p.body || decide (s.body.length = 0)) && (p.els || decide (s.els.length = 0))))))))))
def vStmt (s : St) : Bool := (sparts s.kind).2 && vStmtP (sparts s.kind).1 s
theorem vStmt_eq (s : St) : vStmt s = ((sparts s.kind).2 && vStmtP (sparts s.kind).1 s) := rfl
theorem vStmtP_eq (p1 p2 p3 : Bool) (p4 p5 p6 : Int) (p7 p8 : Bool) (s : St) : vStmtP ⟨p1, p2, p3, p4, p5, p6, p7, p8⟩ s = (vName s.name p1 && (vName s.fn p2 && (vOp s.op p3 && (decide (0 ≤ s.n) && (decide (s.n ≤ p4) && (decide (p5 ≤ (s.exprs.length : Int)) && (decide ((s.exprs.length : Int) ≤ p6) && (s.exprs.all vX && ((p7 || decide (s.body.length = 0)) && (p8 || decide (s.els.length = 0))))))))))) := rfl
theorem len0_t {α : Type} {l : List α} (h : l.length = 0) : ((l.length : Int) == 0) = true := by rw [beq_iff_eq]; omega
theorem len0_f {α : Type} {l : List α} (h : ¬ l.length = 0) : ((l.length : Int) == 0) = false := by rw [beq_eq_false_iff_ne]; omega

set_option maxHeartbeats 4000000 in
set_option maxRecDepth 100000 in
theorem vstmt_any (s : St) (u x y : Value) (w : World) (hsz : szE s.exprs ≤ 10000000) (hu : ExsAt w u s.exprs) (hx : StsAt w x s.body) (hy : StsAt w y s.els) (hg : Glob w) : Calls Tryd.prog 61 #[stV s u x y] w (RetB w (vStmt s)) := by
  obtain ⟨ua, uc, rfl⟩ := hu.shape
  obtain ⟨ba, bc, rfl⟩ := hx.shape
  obtain ⟨ea, ec, rfl⟩ := hy.shape
  have HG := Lib.hid hg
  have HU := Lib.hid hu
  have HSZ := Lib.hid hsz
  have HV := Lib.hid (vStmt_eq s)
  have hul : Hid (s.exprs.length ≤ 10000000) := Lib.hid (Nat.le_trans (szE_len _) hsz)
  clear hu hx hy hg hsz
  have P := Lib.hid (CsT.new w [.int .i64 s.kind, .string s.name, .string s.fn, .int .i64 s.n, .int .i64 s.op, .slice ua s.exprs.length uc, .slice ba s.body.length bc, .slice ea s.els.length ec] 40).at_
  have B1 := Lib.hid (below1 w (.cells #[.int .i64 s.kind, .string s.name, .string s.fn, .int .i64 s.n, .int .i64 s.op, .slice ua s.exprs.length uc, .slice ba s.body.length bc, .slice ea s.els.length ec] 40))
  unfold stV
  have p0 := P.out.cell 0 _ rfl
  go_enter Tryd.func61, Tryd.ntmps61
  simp only [List.append_eq, List.cons_append, List.nil_append]
  go_wp2_with fail
  generalize w.alloc (.cells #[.int .i64 s.kind, .string s.name, .string s.fn, .int .i64 s.n, .int .i64 s.op, .slice ua s.exprs.length uc, .slice ba s.body.length bc, .slice ea s.els.length ec] 40) = w1 at *
  refine (sparts_any s.kind w1).mono ?_
  rintro e' w2 ⟨rfl, hb⟩
  have B2 := Lib.hid (B1.out.then_' hb)
  have P2 := Lib.hid (P.out.below hb)
  clear p0 hb B1 P
  generalize sparts s.kind = pp at *
  obtain ⟨⟨p1, p2, p3, p4, p5, p6, p7, p8⟩, ok⟩ := pp
  unfold spV
  simp only at HV ⊢
  have BP := Lib.hid (below1 w2 (.cells #[.bool p1, .bool p2, .bool p3, .int .i64 p4, .int .i64 p5, .int .i64 p6, .bool p7, .bool p8] 67))
  have B3 := Lib.hid (B2.out.then_' BP.out)
  have P3 := Lib.hid (P2.out.below BP.out)
  have Q3 := Lib.hid (CsT.new w2 [.bool p1, .bool p2, .bool p3, .int .i64 p4, .int .i64 p5, .int .i64 p6, .bool p7, .bool p8] 67).at_
  have x1 := P3.out.cell 1 _ rfl
  have q0 := Q3.out.cell 0 _ rfl
  clear P2 B2 BP
  cases ok with
  | false =>
    go_wp2_with fail
    go_ret
    exact retB (by rw [HV.out]; rfl) B3.out
  | true =>
  go_wp2_with fail
  generalize w2.alloc (.cells #[.bool p1, .bool p2, .bool p3, .int .i64 p4, .int .i64 p5, .int .i64 p6, .bool p7, .bool p8] 67) = w3 at *
  replace HV : Hid (vStmt s = _) := Lib.hid (HV.out.trans ((Bool.true_and _).trans (vStmtP_eq p1 p2 p3 p4 p5 p6 p7 p8 s)))
  refine (vname_any s.name p1 w3 (HG.out.below B3.out)).mono ?_
  rintro e' w4 ⟨rfl, hb⟩
  cases hx : vName s.name p1 with
  | false =>
    rw [hx] at HV
    clear hx
    go_wp2_with fail
    go_ret
    exact retB (by rw [HV.out]; rfl) (B3.out.then_' hb)
  | true =>
  rw [hx] at HV
  replace HV := Lib.hid (HV.out.trans (Bool.true_and _))
  have B4 := Lib.hid (B3.out.then_' hb)
  have P4 := Lib.hid (P3.out.below hb)
  have Q4 := Lib.hid (Q3.out.below hb)
  clear hx hb B3 P3 Q3 x1 q0
  have x2 := P4.out.cell 2 _ rfl
  have q1 := Q4.out.cell 1 _ rfl
  go_wp2_with fail
  refine (vname_any s.fn p2 w4 (HG.out.below B4.out)).mono ?_
  rintro e' w5 ⟨rfl, hb⟩
  cases hx : vName s.fn p2 with
  | false =>
    rw [hx] at HV
    clear hx
    go_wp2_with fail
    go_ret
    exact retB (by rw [HV.out]; rfl) (B4.out.then_' hb)
  | true =>
  rw [hx] at HV
  replace HV := Lib.hid (HV.out.trans (Bool.true_and _))
  have B5 := Lib.hid (B4.out.then_' hb)
  have P5 := Lib.hid (P4.out.below hb)
  have Q5 := Lib.hid (Q4.out.below hb)
  clear hx hb B4 P4 Q4 x2 q1
  have x4 := P5.out.cell 4 _ rfl
  have q2 := Q5.out.cell 2 _ rfl
  go_wp2_with fail
  refine (vop_any s.op p3 w5 (HG.out.below B5.out)).mono ?_
  rintro e' w6 ⟨rfl, hb⟩
  cases hx : vOp s.op p3 with
  | false =>
    rw [hx] at HV
    clear hx
    go_wp2_with fail
    go_ret
    exact retB (by rw [HV.out]; rfl) (B5.out.then_' hb)
  | true =>
  rw [hx] at HV
  replace HV := Lib.hid (HV.out.trans (Bool.true_and _))
  have B6 := Lib.hid (B5.out.then_' hb)
  have P6 := Lib.hid (P5.out.below hb)
  have Q6 := Lib.hid (Q5.out.below hb)
  clear hx hb B5 P5 Q5 x4 q2
  have x3 := P6.out.cell 3 _ rfl
  have q3 := Q6.out.cell 3 _ rfl
  have x5 := P6.out.cell 5 _ rfl
  have q4 := Q6.out.cell 4 _ rfl
  have q5 := Q6.out.cell 5 _ rfl
  by_cases h0 : 0 ≤ s.n
  rotate_left
  · rw [decide_eq_false h0] at HV
    go_wp2_with fail
    go_ret
    exact retB (by rw [HV.out]; rfl) B6.out
  rw [decide_eq_true h0] at HV
  replace HV := Lib.hid (HV.out.trans (Bool.true_and _))
  by_cases h1 : s.n ≤ p4
  rotate_left
  · rw [decide_eq_false h1] at HV
    go_wp2_with fail
    go_ret
    exact retB (by rw [HV.out]; rfl) B6.out
  rw [decide_eq_true h1] at HV
  replace HV := Lib.hid (HV.out.trans (Bool.true_and _))
  by_cases h2 : p5 ≤ (s.exprs.length : Int)
  rotate_left
  · rw [decide_eq_false h2] at HV
    go_wp2_with fail
    go_ret
    exact retB (by rw [HV.out]; rfl) B6.out
  rw [decide_eq_true h2] at HV
  replace HV := Lib.hid (HV.out.trans (Bool.true_and _))
  by_cases h3 : (s.exprs.length : Int) ≤ p6
  rotate_left
  · rw [decide_eq_false h3] at HV
    go_wp2_with fail
    go_ret
    exact retB (by rw [HV.out]; rfl) B6.out
  rw [decide_eq_true h3] at HV
  replace HV := Lib.hid (HV.out.trans (Bool.true_and _))
  go_wp2_with fail
  refine (everyX_any _ s.exprs w6 HSZ.out (HU.out.below B6.out) (HG.out.below B6.out)).mono ?_
  rintro e' w7 ⟨rfl, hb⟩
  cases hx : s.exprs.all vX with
  | false =>
    rw [hx] at HV
    clear hx
    go_wp2_with fail
    go_ret
    exact retB (by rw [HV.out]; rfl) (B6.out.then_' hb)
  | true =>
  rw [hx] at HV
  replace HV := Lib.hid (HV.out.trans (Bool.true_and _))
  have B7 := Lib.hid (B6.out.then_' hb)
  have P7 := Lib.hid (P6.out.below hb)
  have Q7 := Lib.hid (Q6.out.below hb)
  clear hx hb B6 P6 Q6 x3 q3 x5 q4 q5
  have x6 := P7.out.cell 6 _ rfl
  have x7 := P7.out.cell 7 _ rfl
  have q6 := Q7.out.cell 6 _ rfl
  have q7 := Q7.out.cell 7 _ rfl
  by_cases ha : (p7 || decide (s.body.length = 0)) = true
  rotate_left
  · have hp : p7 = false := by cases p7 with | false => rfl | true => exact absurd rfl ha
    have hl : ¬ s.body.length = 0 := fun h => ha (by rw [decide_eq_true h, Bool.or_true])
    have ql := len0_f hl
    rw [Bool.eq_false_iff.2 ha] at HV
    subst hp
    clear ha hl
    go_wp2_with fail
    all_goals
      go_ret
      exact retB (by rw [HV.out]; rfl) B7.out
  rw [ha] at HV
  replace HV := Lib.hid (HV.out.trans (Bool.true_and _))
  cases p7 with
  | true =>
    cases p8 with
    | true =>
      go_wp2_with fail
      go_ret
      exact retB (by rw [HV.out]; rfl) B7.out
    | false =>
      by_cases hl : s.els.length = 0
      · have ql := len0_t hl
        rw [decide_eq_true hl] at HV
        clear hl
        go_wp2_with fail
        go_ret
        exact retB (by rw [HV.out]; rfl) B7.out
      · have ql := len0_f hl
        rw [decide_eq_false hl] at HV
        clear hl
        go_wp2_with fail
        go_ret
        exact retB (by rw [HV.out]; rfl) B7.out
  | false =>
    have hl0 : s.body.length = 0 := of_decide_eq_true ((Bool.false_or _).symm.trans ha)
    have ql0 := len0_t hl0
    clear hl0 ha
    cases p8 with
    | true =>
      go_wp2_with fail
      go_ret
      exact retB (by rw [HV.out]; rfl) B7.out
    | false =>
      by_cases hl : s.els.length = 0
      · have ql := len0_t hl
        rw [decide_eq_true hl] at HV
        clear hl
        go_wp2_with fail
        go_ret
        exact retB (by rw [HV.out]; rfl) B7.out
      · have ql := len0_f hl
        rw [decide_eq_false hl] at HV
        clear hl
        go_wp2_with fail
        go_ret
        exact retB (by rw [HV.out]; rfl) B7.out
end Go.Proofs.YtilholgbepfopaaDoor
/- validFunc (of the code). -/
namespace Go.Proofs.YtilholgbepfopaaDoor
open Go.RowKit

mutual
def gS : St → Bool
  | .mk k nm fn n op es b e => vStmt (.mk k nm fn n op es b e) && (gSL b && gSL e)
def gSL : List St → Bool
  | [] => true
  | s :: l => gS s && gSL l
end
def fG (b : Bool) (s : St) (_ : Nat) : Bool := b && vStmt s
mutual
theorem visG : ∀ (s : St) (b : Bool) (d : Nat), vis fG b d s = (b && gS s)
  | .mk k nm fn n op es bd e, b, d => by
    rw [vis, visGL bd, visGL e, gS]
    unfold fG
    rw [Bool.and_assoc, Bool.and_assoc]
theorem visGL : ∀ (l : List St) (b : Bool) (d : Nat), visL fG b d l = (b && gSL l)
  | [], b, d => by rw [visL, gSL, Bool.and_true]
  | s :: l, b, d => by rw [visL, visG s, visGL l, gSL, Bool.and_assoc]
end
def RG (bx : Nat) (_ : Nat) (w : World) (b : Bool) : Prop := CsT w bx [.bool b] 4
theorem RG.mono {bx : Nat} (c c' : Nat) (w : World) (l : Bool) (w' : World) (h : RG bx c w l) (_ : c ≤ c') (hb : Below w.heap.size w w') : RG bx c' w' l := h.below hb
theorem enter_vf1 (args : Array Value) (w : World) : (callFunc 60 args).run Tryd.prog w = .ok (.enter 60 args) w := call_enter Tryd.func60 (by kernel_rfl) (by kernel_rfl) args w
theorem enter_name (args : Array Value) (w : World) : (callFunc 10 args).run Tryd.prog w = .ok (.enter 10 args) w := call_enter Tryd.func10 (by kernel_rfl) (by kernel_rfl) args w
theorem everyN_any (v : Value) (l : List ByteArray) (w : World) (hl : l.length ≤ 10000000) (hv : NmsAt w v l) (hg : Glob w) : Calls Tryd.prog 59 #[v, .func (.func 10) #[] #[]] w (RetB w (l.all isNm)) := by
  refine (everyS_any 10 #[] (fun _ _ (_ : Unit) => True) (fun _ x => (isNm x, ())) (fun w w' => Below w.heap.size w w') w l enter_name (fun x hx u st w' _ hb _ => ?_) (fun _ _ _ _ _ _ => trivial) (fun _ _ _ h h' => h.then_' h') (fun _ _ h => h) (fun _ _ h h' => h.then_' h') v () w hl hv (Below.refl _ _) trivial).mono ?_
  · refine (sname_any x w' (hg.below hb)).mono ?_
    rintro e w2 ⟨rfl, h⟩
    exact ⟨rfl, trivial, h⟩
  · rintro e w' ⟨rfl, -, h⟩
    rw [ev_plain]
    exact ⟨rfl, h⟩

set_option maxHeartbeats 4000000 in
set_option maxRecDepth 100000 in
theorem vf1_ok (bx : Nat) (w0 : World) (_hbx : w0.heap.size ≤ bx) (hg : Glob w0) : SeeOK 60 #[.pointer (some ⟨bx, 0, none⟩)] (RG bx) fG (bx + 1) (fun k => k = bx) w0 := by
  intro c d s u x y b w hc hd hr hb0 hu hx hy
  obtain ⟨ua, uc, rfl⟩ := hu.shape
  obtain ⟨ba, bc, rfl⟩ := hx.shape
  obtain ⟨ea, ec, rfl⟩ := hy.shape
  have HU := Lib.hid hu
  have HX := Lib.hid hx
  have HY := Lib.hid hy
  have B0 := Lib.hid hb0
  have HG := Lib.hid hg
  have HSZ : Hid (szE s.exprs ≤ 10000000) := Lib.hid (by have := s.sz_parts; omega)
  have b1 := below1 w (.cells #[.int .i64 s.kind, .string s.name, .string s.fn, .int .i64 s.n, .int .i64 s.op, .slice ua s.exprs.length uc, .slice ba s.body.length bc, .slice ea s.els.length ec] 40)
  have B1 := Lib.hid b1
  have T := Lib.hid (stV_cells s (.slice ua s.exprs.length uc) (.slice ba s.body.length bc) (.slice ea s.els.length ec) w).at_
  have R1 : Hid (CsT _ bx [.bool b] 4) := Lib.hid (CsT.below hr b1)
  have z0 := R1.out.at_.cell 0 _ rfl
  have zf := R1.out.at_.fr 0
  clear hu hx hy hb0 hg hr b1 hc hd
  unfold stV
  show Calls Tryd.prog 60 #[.agg #[.int .i64 s.kind, .string s.name, .string s.fn, .int .i64 s.n, .int .i64 s.op, .slice ua s.exprs.length uc, .slice ba s.body.length bc, .slice ea s.els.length ec], .int .i64 (d : Int), .pointer (some ⟨bx, 0, none⟩)] w _
  go_enter Tryd.func60, Tryd.ntmps60
  unfold stC at T
  have t0 := T.out.cell 0 _ rfl
  have t1 := T.out.cell 1 _ rfl
  have t2 := T.out.cell 2 _ rfl
  have t3 := T.out.cell 3 _ rfl
  have t4 := T.out.cell 4 _ rfl
  have t5 := T.out.cell 5 _ rfl
  have t6 := T.out.cell 6 _ rfl
  have t7 := T.out.cell 7 _ rfl
  cases b with
  | false =>
    go_wp2_with fail
    go_end0
    exact ⟨rfl, R1.out.set0 (v := .bool false), (Fr.of_below (B := bx + 1) (E := fun k => k = bx) B1.out).set (p := ⟨bx, 0, none⟩) rfl _⟩
  | true =>
    go_wp2_with fail
    generalize w.alloc (.cells #[.int .i64 s.kind, .string s.name, .string s.fn, .int .i64 s.n, .int .i64 s.op, .slice ua s.exprs.length uc, .slice ba s.body.length bc, .slice ea s.els.length ec] 40) = w1 at *
    have B01 := Lib.hid (B0.out.then_' B1.out)
    clear t0 t1 t2 t3 t4 t5 t6 t7
    refine (vstmt_any s (.slice ua s.exprs.length uc) (.slice ba s.body.length bc) (.slice ea s.els.length ec) w1 HSZ.out (HU.out.below B01.out) (HX.out.below B01.out) (HY.out.below B01.out) (HG.out.below B01.out)).mono ?_
    rintro e w2 ⟨rfl, hb⟩
    have R2 := Lib.hid (R1.out.below hb)
    have F2 := Lib.hid (Fr.of_below (B := bx + 1) (E := fun k => k = bx) (B1.out.then_' hb))
    have z2 := R2.out.at_.cell 0 _ rfl
    have zf2 := R2.out.at_.fr 0
    clear hb z0 zf
    go_wp2_with fail
    go_end0
    exact ⟨rfl, R2.out.set0 (v := .bool (vStmt s)), F2.out.set (p := ⟨bx, 0, none⟩) rfl _⟩

def vFunc (f : Fn) : Bool := isNm f.name && f.params.all isNm && gSL f.body
theorem vFunc_eq (f : Fn) : vFunc f = (isNm f.name && f.params.all isNm && gSL f.body) := rfl
set_option maxHeartbeats 4000000 in
set_option maxRecDepth 100000 in
theorem vfunc_any (f : Fn) (u x : Value) (w : World) (hsz : szF f ≤ 5000000) (hu : NmsAt w u f.params) (hx : StsAt w x f.body) (hg : Glob w) : Calls Tryd.prog 33 #[.agg #[.string f.name, u, x]] w (RetB w (vFunc f)) := by
  obtain ⟨ua, uc, rfl⟩ := hu.shape
  obtain ⟨xa, xc, rfl⟩ := hx.shape
  have HU := Lib.hid hu
  have HX := Lib.hid hx
  have HG := Lib.hid hg
  have HV := Lib.hid (vFunc_eq f)
  have HSZ : Hid (f.params.length ≤ 5000000 ∧ szS f.body ≤ 5000000) := Lib.hid (by unfold szF at hsz; omega)
  have HQ := Lib.hid (fun b => visGL f.body b 1)
  clear hu hx hg hsz
  have P := Lib.hid (CsT.new w [.string f.name, .slice ua f.params.length uc, .slice xa f.body.length xc] 35).at_
  have B1 := Lib.hid (below1 w (.cells #[.string f.name, .slice ua f.params.length uc, .slice xa f.body.length xc] 35))
  have p0 := P.out.cell 0 _ rfl
  go_enter Tryd.func33, Tryd.ntmps33
  go_wp2_with fail
  generalize w.alloc (.cells #[.string f.name, .slice ua f.params.length uc, .slice xa f.body.length xc] 35) = w1 at *
  refine (sname_any f.name w1 (HG.out.below B1.out)).mono ?_
  rintro e w2 ⟨rfl, hb⟩
  have B2 := Lib.hid (B1.out.then_' hb)
  have P2 := Lib.hid (P.out.below hb)
  clear p0 hb


  cases hn : isNm f.name with
  | false =>
    have HF : Hid (vFunc f = false) := Lib.hid (by rw [HV.out, hn]; rfl)
    have p2 := P2.out.cell 2 _ rfl
    have p2' := (P2.out.below (below1 w2 (.cells #[.bool false] 4))).cell 2 _ rfl
    clear hn
    go_wp2_with fail
    have hw := CsT.new w2 [.bool false] 4
    have b3 := B2.out.then_' (below1 w2 (.cells #[.bool false] 4))
    refine (visit_any 60 #[.pointer (some ⟨w2.heap.size, 0, none⟩)] (RG w2.heap.size) fG (w2.heap.size + 1) (fun k => k = w2.heap.size) w enter_vf1 (vf1_ok w2.heap.size w B2.out.size HG.out) RG.mono (by have := B2.out.size; omega) (fun k hk => by have := B2.out.size; omega) f.body (.slice xa f.body.length xc) 0 false _ (by have := HSZ.out; omega) (by have := HSZ.out; omega) HX.out b3 hw (by simp)).mono ?_
    rintro e w4 ⟨rfl, hr4, hf4⟩
    rw [HQ.out] at hr4
    have R4 : Hid (CsT w4 w2.heap.size [.bool (false && gSL f.body)] 4) := Lib.hid hr4
    have B4 := Lib.hid (hf4.low b3 (by have := B2.out.size; omega) (fun k hk => by have := B2.out.size; omega))
    have z := R4.out.at_.cell 0 _ rfl
    clear hw b3 hr4 hf4 p2 p2'
    go_wp2_with fail
    go_ret
    exact retB (by rw [HF.out]) B4.out
  | true =>
    have p1 := P2.out.cell 1 _ rfl
    have HN := Lib.hid hn
    clear hn
    go_wp2_with fail
    refine (everyN_any _ f.params w2 (by have := HSZ.out; omega) (HU.out.below B2.out) (HG.out.below B2.out)).mono ?_
    rintro e w3 ⟨rfl, hb⟩
    have B3 := Lib.hid (B2.out.then_' hb)
    have P3 := Lib.hid (P2.out.below hb)
    clear p1 hb B2 P2
    generalize hal : f.params.all isNm = al
    rw [hal, HN.out] at HV
    have HV' : Hid (vFunc f = (al && gSL f.body)) := Lib.hid (by rw [HV.out, Bool.true_and])
    clear hal
    have p2 := P3.out.cell 2 _ rfl
    have p2' := (P3.out.below (below1 w3 (.cells #[.bool al] 4))).cell 2 _ rfl
    go_wp2_with fail
    have hw := CsT.new w3 [.bool al] 4
    have b3 := B3.out.then_' (below1 w3 (.cells #[.bool al] 4))
    refine (visit_any 60 #[.pointer (some ⟨w3.heap.size, 0, none⟩)] (RG w3.heap.size) fG (w3.heap.size + 1) (fun k => k = w3.heap.size) w enter_vf1 (vf1_ok w3.heap.size w B3.out.size HG.out) RG.mono (by have := B3.out.size; omega) (fun k hk => by have := B3.out.size; omega) f.body (.slice xa f.body.length xc) 0 al _ (by have := HSZ.out; omega) (by have := HSZ.out; omega) HX.out b3 hw (by simp)).mono ?_
    rintro e w4 ⟨rfl, hr4, hf4⟩
    rw [HQ.out] at hr4
    have R4 : Hid (CsT w4 w3.heap.size [.bool (al && gSL f.body)] 4) := Lib.hid hr4
    have B4 := Lib.hid (hf4.low b3 (by have := B3.out.size; omega) (fun k hk => by have := B3.out.size; omega))
    have z := R4.out.at_.cell 0 _ rfl
    clear hw b3 hr4 hf4 p2 p2'
    go_wp2_with fail
    go_ret
    exact retB HV'.out.symm B4.out
end Go.Proofs.YtilholgbepfopaaDoor
/- withinLimits (of the code). -/
namespace Go.Proofs.YtilholgbepfopaaDoor
open Go.RowKit

mutual
/-- statements in a statement, and how deep they are -/
def cntS : St → Nat
  | .mk _ _ _ _ _ _ b e => 1 + cntL b + cntL e
def cntL : List St → Nat
  | [] => 0
  | s :: l => cntS s + cntL l
end
mutual
def depS : St → Nat
  | .mk _ _ _ _ _ _ b e => 1 + max (depL b) (depL e)
def depL : List St → Nat
  | [] => 0
  | s :: l => max (depS s) (depL l)
end
mutual
theorem cntS_le : ∀ (s : St), cntS s ≤ s.sz
  | .mk _ _ _ _ _ es b e => by
    rw [cntS, St.sz]
    have h1 := cntL_le b
    have h2 := cntL_le e
    omega
theorem cntL_le : ∀ (l : List St), cntL l ≤ szS l
  | [] => by rw [cntL, szS]; exact Nat.le_refl _
  | s :: l => by
    rw [cntL, szS]
    have h1 := cntS_le s
    have h2 := cntL_le l
    omega
end
def addD (d k : Nat) : Nat := if k = 0 then 0 else d + k
def fL (st : Nat × Nat) (_ : St) (d : Nat) : Nat × Nat := (st.1 + 1, max st.2 d)
theorem arS (x d a b : Nat) : max (max (max x (d + 1)) (addD (d + 1) a)) (addD (d + 1) b) = max x (d + (1 + max a b)) := by
  unfold addD
  by_cases h1 : a = 0 <;> by_cases h2 : b = 0 <;> simp only [h1, h2, if_true, if_false] <;> omega
theorem arL (x d a b : Nat) (ha : 0 < a) : max (max x (d + a)) (addD d b) = max x (addD d (max a b)) := by
  unfold addD
  rw [if_neg (show ¬ max a b = 0 by omega)]
  by_cases h2 : b = 0 <;> simp only [h2, if_true, if_false] <;> omega
theorem depS_pos : ∀ (s : St), 0 < depS s
  | .mk _ _ _ _ _ _ b e => by rw [depS]; omega
mutual
theorem visM : ∀ (s : St) (st : Nat × Nat) (d : Nat), vis fL st (d + 1) s = (st.1 + cntS s, max st.2 (d + depS s))
  | .mk k nm fn n op es b e, st, d => by
    rw [vis, visML b, visML e, cntS, depS]
    refine Prod.ext (by simp only [fL]; omega) ?_
    exact arS _ _ _ _
theorem visML : ∀ (l : List St) (st : Nat × Nat) (d : Nat), visL fL st (d + 1) l = (st.1 + cntL l, max st.2 (addD d (depL l)))
  | [], st, d => by
    rw [visL, cntL, depL]
    refine Prod.ext rfl ?_
    show st.2 = max st.2 (addD d 0)
    unfold addD
    simp
  | s :: l, st, d => by
    rw [visL, visM s, visML l, cntL, depL]
    refine Prod.ext (by simp only; omega) ?_
    exact arL _ _ _ _ (depS_pos s)
end
theorem visM0 (l : List St) (st : Nat × Nat) : visL fL st 1 l = (st.1 + cntL l, max st.2 (depL l)) := by
  rw [visML l st 0]
  refine Prod.ext rfl ?_
  simp only [addD]
  split <;> omega
end Go.Proofs.YtilholgbepfopaaDoor
/- withinLimits (of the code), walked. -/
namespace Go.Proofs.YtilholgbepfopaaDoor
open Go.RowKit

/-- the two counts -/
def RL (b1 b2 : Nat) (c : Nat) (w : World) (st : Nat × Nat) : Prop := CsT w b1 [.int .i64 (st.1 : Int)] 3 ∧ CsT w b2 [.int .i64 (st.2 : Int)] 3 ∧ st.1 ≤ c ∧ st.2 ≤ 10000000
theorem RL.mono {b1 b2 : Nat} (c c' : Nat) (w : World) (st : Nat × Nat) (w' : World) (h : RL b1 b2 c w st) (hc : c ≤ c') (hb : Below w.heap.size w w') : RL b1 b2 c' w' st := ⟨h.1.below hb, h.2.1.below hb, Nat.le_trans h.2.2.1 hc, h.2.2.2⟩
theorem enter_wl1 (args : Array Value) (w : World) : (callFunc 62 args).run Tryd.prog w = .ok (.enter 62 args) w := call_enter Tryd.func62 (by kernel_rfl) (by kernel_rfl) args w

set_option maxHeartbeats 4000000 in
set_option maxRecDepth 100000 in
theorem wl1_ok (b1 b2 B : Nat) (w0 : World) (hne : b1 ≠ b2) : SeeOK 62 #[.pointer (some ⟨b1, 0, none⟩), .pointer (some ⟨b2, 0, none⟩)] (RL b1 b2) fL B (fun k => k = b1 ∨ k = b2) w0 := by
  intro c d s u x y st w hc hd hr _ _ _ _
  obtain ⟨n, dp⟩ := st
  obtain ⟨h1, h2, hn, hdp⟩ := hr
  simp only at h1 h2 hn hdp
  have b := below1 w (.cells #[.int .i64 s.kind, .string s.name, .string s.fn, .int .i64 s.n, .int .i64 s.op, u, x, y] 40)
  have BB := Lib.hid b
  have N1 := Lib.hid (h1.below b)
  have D1 := Lib.hid (h2.below b)
  have hn2 : n ≤ 10000000 := by omega
  have HN := Lib.hid hn
  have z1 := N1.out.at_.cell 0 _ rfl
  have f1 := N1.out.at_.fr 0
  have N2 := Lib.hid (N1.out.set0 (v := .int .i64 ((n : Int) + 1)))
  have D2 := Lib.hid (D1.out.far (p := ⟨b1, 0, none⟩) (fun e => hne e.symm) (.int .i64 ((n : Int) + 1)))
  have z2 := D2.out.at_.cell 0 _ rfl
  have f2 := D2.out.at_.fr 0
  clear h1 h2 b hc
  unfold stV
  show Calls Tryd.prog 62 #[.agg #[.int .i64 s.kind, .string s.name, .string s.fn, .int .i64 s.n, .int .i64 s.op, u, x, y], .int .i64 (d : Int), .pointer (some ⟨b1, 0, none⟩), .pointer (some ⟨b2, 0, none⟩)] w _
  go_enter Tryd.func62, Tryd.ntmps62
  have HF : Hid (Fr B (fun k => k = b1 ∨ k = b2) w _) := Lib.hid ((Fr.of_below (B := B) (E := fun k => k = b1 ∨ k = b2) BB.out).set (p := ⟨b1, 0, none⟩) (.inl rfl) (.int .i64 ((n : Int) + 1)))
  by_cases hm : dp < d
  · have t1 : (dp : Int) < (d : Int) := by omega
    have t2 : (dp : Int) ≤ (d : Int) := by omega
    go_wp2_with fail
    go_end0
    have e1 : fL (n, dp) s d = (n + 1, d) := Prod.ext rfl (by show max dp d = d; omega)
    rw [e1]
    exact ⟨rfl, ⟨N2.out.far (p := ⟨b2, 0, none⟩) hne _, D2.out.set0 (v := .int .i64 (d : Int)), by have := HN.out; simp only; omega, hd⟩, HF.out.set (p := ⟨b2, 0, none⟩) (.inr rfl) _⟩
  · have t1 : ¬ (dp : Int) < (d : Int) := by omega
    have t2 : (d : Int) ≤ (dp : Int) := by omega
    have e1 : fL (n, dp) s d = (n + 1, dp) := Prod.ext rfl (by show max dp d = dp; omega)
    have E1 := Lib.hid e1
    clear e1
    go_wp2_with fail
    all_goals
      go_end0
      rw [E1.out]
      refine ⟨rfl, ⟨N2.out.far (p := ⟨b2, 0, none⟩) hne _, ?_, by have := HN.out; simp only; omega, hdp⟩, HF.out.set (p := ⟨b2, 0, none⟩) (.inr rfl) _⟩
      exact D2.out.set0 (v := .int .i64 (dp : Int))

def cntP : List Fn → Nat
  | [] => 0
  | f :: l => cntL f.body + cntP l
def depP : List Fn → Nat
  | [] => 0
  | f :: l => max (depL f.body) (depP l)
def parP : List Fn → Nat
  | [] => 0
  | f :: l => max f.params.length (parP l)
theorem cntP_snoc (l : List Fn) (f : Fn) : cntP (l ++ [f]) = cntP l + cntL f.body := by
  induction l with
  | nil => simp [cntP]
  | cons g l ih => rw [List.cons_append, cntP, cntP, ih, Nat.add_assoc]
theorem depP_snoc (l : List Fn) (f : Fn) : depP (l ++ [f]) = max (depP l) (depL f.body) := by
  induction l with
  | nil => simp [depP]
  | cons g l ih => rw [List.cons_append, depP, depP, ih]; omega
theorem parP_snoc (l : List Fn) (f : Fn) : parP (l ++ [f]) = max (parP l) f.params.length := by
  induction l with
  | nil => simp [parP]
  | cons g l ih => rw [List.cons_append, parP, parP, ih]; omega
mutual
theorem depS_le : ∀ (s : St), depS s ≤ s.sz
  | .mk _ _ _ _ _ es b e => by
    rw [depS, St.sz]
    have h1 := depL_le b
    have h2 := depL_le e
    omega
theorem depL_le : ∀ (l : List St), depL l ≤ szS l
  | [] => by rw [depL, szS]; exact Nat.le_refl _
  | s :: l => by
    rw [depL, szS]
    have h1 := depS_le s
    have h2 := depL_le l
    omega
end
theorem szP_take_add {l : List Fn} {k : Nat} {x : Fn} (h : l[k]? = some x) : szP (l.take k) + szF x ≤ szP l := by
  induction l generalizing k with
  | nil => simp at h
  | cons y l ih =>
    cases k with
    | zero => simp at h; subst h; simp [szP]
    | succ k =>
      rw [List.getElem?_cons_succ] at h
      have := ih h
      simp only [List.take_succ_cons, szP]
      omega
theorem cntP_le (l : List Fn) : cntP l ≤ szP l := by
  induction l with
  | nil => simp [cntP, szP]
  | cons f l ih => rw [cntP, szP]; have := cntL_le f.body; unfold szF; omega
theorem depP_le (l : List Fn) : depP l ≤ szP l := by
  induction l with
  | nil => simp [depP, szP]
  | cons f l ih => rw [depP, szP]; have := depL_le f.body; unfold szF; omega
theorem parP_le (l : List Fn) : parP l ≤ szP l := by
  induction l with
  | nil => simp [parP, szP]
  | cons f l ih => rw [parP, szP]; unfold szF; omega
theorem szP_snoc (l : List Fn) (f : Fn) : szP (l ++ [f]) = szP l + szF f := by
  induction l with
  | nil => simp [szP]
  | cons g l ih => simp only [List.cons_append, szP, ih]; omega
def wLim (l : List Fn) : Bool := decide (1 ≤ l.length) && (decide (l.length ≤ 16) && (decide (parP l ≤ 4) && (decide (cntP l ≤ 64) && decide (depP l ≤ 6))))
theorem wLim_eq (l : List Fn) : wLim l = (decide (1 ≤ l.length) && (decide (l.length ≤ 16) && (decide (parP l ≤ 4) && (decide (cntP l ≤ 64) && decide (depP l ≤ 6))))) := rfl
theorem wl_new (w : World) (v : Value) : ∃ W, (((w.alloc (.cells #[v] 26)).alloc (.cells #[.int .i64 0] 3)).alloc (.cells #[.int .i64 0] 3)) = W ∧ Below w.heap.size w W ∧ CsT W w.heap.size [v] 26 ∧
    CsT W (w.heap.size + 1) [.int .i64 0] 3 ∧ CsT W (w.heap.size + 1 + 1) [.int .i64 0] 3 := by
  have b1 := below1 w (.cells #[v] 26)
  have h0 := CsT.new w [v] 26
  have h1 := CsT.new (w.alloc (.cells #[v] 26)) [.int .i64 0] 3
  rw [show (w.alloc (.cells #[v] 26)).heap.size = w.heap.size + 1 from by simp] at h1
  have b2 := b1.then_' (below1 _ (.cells #[.int .i64 0] 3))
  have h2 := CsT.new ((w.alloc (.cells #[v] 26)).alloc (.cells #[.int .i64 0] 3)) [.int .i64 0] 3
  rw [show ((w.alloc (.cells #[v] 26)).alloc (.cells #[.int .i64 0] 3)).heap.size = w.heap.size + 1 + 1 from by simp] at h2
  exact ⟨_, rfl, b2.then_' (below1 _ _), (h0.below (below1 _ _)).below (below1 _ _), h1.below (below1 _ _), h2⟩

set_option maxHeartbeats 4000000 in
set_option maxRecDepth 100000 in
theorem wlim_any (l : List Fn) (v : Value) (w : World) (hsz : szP l ≤ 5000000) (hv : FnsAt w v l) : Calls Tryd.prog 34 #[.agg #[v]] w (RetB w (wLim l)) := by
  obtain ⟨a, cp, rfl⟩ := hv.shape
  have H := Lib.hid hv
  have HSZ := Lib.hid hsz
  have HW := Lib.hid (wLim_eq l)
  have hl : l.length ≤ 5000000 := Nat.le_trans (szP_len l) hsz
  obtain ⟨n, hn⟩ : ∃ n, n = l.length := ⟨_, rfl⟩
  have HN := Lib.hid hn
  obtain ⟨W, hW, hB, hP, hC, hD⟩ := wl_new w (.slice a l.length cp)
  rw [← hn] at H hl hW hP HW ⊢
  have HWW := Lib.hid hW
  have B1 := Lib.hid hB
  have P1 := Lib.hid hP
  have R1 : Hid (RL (w.heap.size + 1) (w.heap.size + 1 + 1) 0 W (0, 0)) := Lib.hid ⟨hC, hD, Nat.le_refl _, Nat.zero_le _⟩
  have hWsz : w.heap.size + 1 + 1 + 1 ≤ W.heap.size := hD.lt
  have p0 := hP.at_.cell 0 _ rfl
  clear hv hsz hn hW hB hP hC hD
  go_enter Tryd.func34, Tryd.ntmps34
  go_wp2_with fail
  rw [HWW.out]
  go_loopw [5, 11] (fun m_ k_ wr => ∃ (k : Nat), k ≤ n ∧ k_ = .int .i64 k ∧ m_ = .int .i64 (parP (l.take k) : Int) ∧ RL (w.heap.size + 1) (w.heap.size + 1 + 1) (szP (l.take k)) wr (cntP (l.take k), depP (l.take k)) ∧ Fr (w.heap.size + 1 + 1 + 1) (fun k => k = w.heap.size + 1 ∨ k = w.heap.size + 1 + 1) W wr) (fun _ k_ _ => n - (intOf k_).toNat)
  case atStart => exact ⟨0, Nat.zero_le _, rfl, rfl, R1.out, Fr.refl _ _ _⟩
  case round =>
    obtain ⟨k, hk, rfl, rfl, hrr, hfr⟩ := hrel
    have RR := Lib.hid hrr
    have FR := Lib.hid hfr
    clear hrr hfr R1 p0
    have hbw : Below w.heap.size w wr := FR.out.low B1.out (by omega) (fun k h => by omega)
    by_cases hlt : k < n
    · obtain ⟨x, hx⟩ : ∃ x, l[k]? = some x := ⟨_, List.getElem?_eq_getElem (by rw [← HN.out]; exact hlt)⟩
      obtain ⟨b, o, c', u, y, hv, hbb, f0, f1, f2, hu, hy⟩ := H.out.elem hx
      obtain ⟨rfl, -, rfl⟩ := Value.slice.inj hv
      obtain ⟨ua, uc, rfl⟩ := hu.shape
      obtain ⟨ya, yc, rfl⟩ := hy.shape
      replace f0 := (hbw.cell (p := ⟨b, o + k * 3, none⟩) hbb).trans f0
      replace f1 := (hbw.cell (p := ⟨b, o + k * 3 + 1, none⟩) hbb).trans f1
      replace f2 := (hbw.cell (p := ⟨b, o + k * 3 + 2, none⟩) hbb).trans f2
      have HY := Lib.hid hy
      have HTK := Lib.hid (take_snoc' hx)
      have hst := szP_take_add hx
      have HST : Hid (szP (l.take k) + szF x ≤ 5000000) := Lib.hid (Nat.le_trans hst HSZ.out)
      have hpl : x.params.length ≤ 5000000 := by have := HST.out; unfold szF at this; omega
      have hpp : parP (l.take k) ≤ 5000000 := by have := parP_le (l.take k); have := HST.out; omega
      have hki : (k : Int) < (n : Int) := by omega
      have T := Lib.hid (CsT.new wr [.string x.name, .slice ua x.params.length uc, .slice ya x.body.length yc] 35)
      have bz := below1 wr (.cells #[.string x.name, .slice ua x.params.length uc, .slice ya x.body.length yc] 35)
      have Bz := Lib.hid bz
      have BW := Lib.hid (hbw.then_' bz)
      have RZ := Lib.hid (RL.mono _ _ _ _ _ RR.out (Nat.le_refl _) bz)
      have FZ := Lib.hid (FR.out.below bz)
      have hsz : w.heap.size + 1 + 1 + 1 ≤ wr.heap.size := Nat.le_trans hWsz FR.out.size
      have SZ : Hid (w.heap.size + 1 + 1 + 1 ≤ (wr.alloc (.cells #[.string x.name, .slice ua x.params.length uc, .slice ya x.body.length yc] 35)).heap.size) := Lib.hid (Nat.le_trans hsz bz.size)
      have t0 := T.out.at_.cell 0 _ rfl
      have t1 := T.out.at_.cell 1 _ rfl
      have t2 := T.out.at_.cell 2 _ rfl
      have HP : Hid (parP (l.take (k + 1)) = max (parP (l.take k)) x.params.length) := Lib.hid (by rw [HTK.out, parP_snoc])
      have HC : Hid ((cntP (l.take k) + cntL x.body, max (depP (l.take k)) (depL x.body)) = (cntP (l.take (k + 1)), depP (l.take (k + 1)))) := Lib.hid (by rw [HTK.out, cntP_snoc, depP_snoc])
      have HQ : Hid (szP (l.take k) + szS x.body ≤ szP (l.take (k + 1))) := Lib.hid (by rw [HTK.out, szP_snoc]; unfold szF; omega)
      have HM := Lib.hid (fun st => visM0 x.body st)
      clear hv hx hu hy hst hsz bz hbw RR FR
      generalize hpk : parP (l.take k) = pk at *
      by_cases hm : pk < x.params.length
      all_goals
        first
          | (have t3 : (pk : Int) < (x.params.length : Int) := by omega
             have t4 : (pk : Int) ≤ (x.params.length : Int) := by omega
             have HR : Hid (parP (l.take (k + 1)) = x.params.length) := Lib.hid (by rw [HP.out]; omega))
          | (have t3 : ¬ (pk : Int) < (x.params.length : Int) := by omega
             have t4 : (x.params.length : Int) ≤ (pk : Int) := by omega
             have HR : Hid (parP (l.take (k + 1)) = pk) := Lib.hid (by rw [HP.out]; omega))
        clear hpk
        go_wp2_with fail
        all_goals
          refine (visit_any 62 #[.pointer (some ⟨w.heap.size + 1, 0, none⟩), .pointer (some ⟨w.heap.size + 1 + 1, 0, none⟩)] (RL (w.heap.size + 1) (w.heap.size + 1 + 1)) fL (w.heap.size + 1 + 1 + 1) (fun k => k = w.heap.size + 1 ∨ k = w.heap.size + 1 + 1) w enter_wl1 (wl1_ok _ _ _ w (by omega)) RL.mono (by omega) (fun k h => by omega) x.body (.slice ya x.body.length yc) (szP (l.take k)) (cntP (l.take k), depP (l.take k)) _ (by have := HST.out; unfold szF at this; omega) (by have := HST.out; unfold szF at this; omega) (HY.out) BW.out RZ.out SZ.out).mono ?_
          rintro e w4 ⟨rfl, hr4, hf4⟩
          rw [HM.out, HC.out] at hr4
          have R4 := Lib.hid (RL.mono _ _ _ _ _ hr4 HQ.out (Below.refl _ _))
          have F4 := Lib.hid (FZ.out.trans hf4)
          clear hr4 hf4
          go_wp2_with fail
          go_roundw
          case rel => exact ⟨k + 1, by omega, by go_num, by rw [HR.out], R4.out, F4.out⟩
          case measure => simp [intOf]; omega
    · obtain rfl : k = n := by omega
      have e1 : l.take k = l := List.take_of_length_le (Nat.le_of_eq HN.out.symm)
      rw [e1] at RR ⊢
      have P2 := Lib.hid (P1.out.frame FR.out (fun h => by omega) (by decide))
      have p0 := P2.out.at_.cell 0 _ rfl
      obtain ⟨hc1, hc2, -, -⟩ := RR.out
      have c1 := hc1.at_.cell 0 _ rfl
      have c2 := hc2.at_.cell 0 _ rfl
      have BW := Lib.hid hbw
      clear hc1 hc2 RR FR e1 hbw
      simp only at c1 c2
      generalize parP l = pn at *
      generalize cntP l = cn at *
      generalize depP l = dn at *
      by_cases h1 : 1 ≤ k
      · by_cases h2 : k ≤ 16
        · by_cases h3 : pn ≤ 4
          · by_cases h4 : cn ≤ 64
            · by_cases h5 : dn ≤ 6
              · have t1 : (1 : Int) ≤ (k : Int) := by omega
                have t2 : (k : Int) ≤ 16 := by omega
                have t3 : (pn : Int) ≤ 4 := by omega
                have t4 : (cn : Int) ≤ 64 := by omega
                have t5 : (dn : Int) ≤ 6 := by omega
                have HR : Hid (wLim l = true) := Lib.hid (by rw [HW.out]; simp [h1, h2, h3, h4, h5])
                clear h1 h2 h3 h4 h5
                go_wp2_with fail
                go_ret
                exact retB HR.out.symm BW.out
              · have t1 : (1 : Int) ≤ (k : Int) := by omega
                have t2 : (k : Int) ≤ 16 := by omega
                have t3 : (pn : Int) ≤ 4 := by omega
                have t4 : (cn : Int) ≤ 64 := by omega
                have t5 : ¬ (dn : Int) ≤ 6 := by omega
                have HR : Hid (wLim l = false) := Lib.hid (by rw [HW.out]; simp [h5])
                clear h1 h2 h3 h4 h5
                go_wp2_with fail
                go_ret
                exact retB HR.out.symm BW.out
            · have t1 : (1 : Int) ≤ (k : Int) := by omega
              have t2 : (k : Int) ≤ 16 := by omega
              have t3 : (pn : Int) ≤ 4 := by omega
              have t4 : ¬ (cn : Int) ≤ 64 := by omega
              have HR : Hid (wLim l = false) := Lib.hid (by rw [HW.out]; simp [h4])
              clear h1 h2 h3 h4
              go_wp2_with fail
              go_ret
              exact retB HR.out.symm BW.out
          · have t1 : (1 : Int) ≤ (k : Int) := by omega
            have t2 : (k : Int) ≤ 16 := by omega
            have t3 : ¬ (pn : Int) ≤ 4 := by omega
            have HR : Hid (wLim l = false) := Lib.hid (by rw [HW.out]; simp [h3])
            clear h1 h2 h3
            go_wp2_with fail
            go_ret
            exact retB HR.out.symm BW.out
        · have t1 : (1 : Int) ≤ (k : Int) := by omega
          have t2 : ¬ (k : Int) ≤ 16 := by omega
          have HR : Hid (wLim l = false) := Lib.hid (by rw [HW.out]; simp [h2])
          clear h1 h2
          go_wp2_with fail
          go_ret
          exact retB HR.out.symm BW.out
      · have t1 : ¬ (1 : Int) ≤ (k : Int) := by omega
        have HR : Hid (wLim l = false) := Lib.hid (by rw [HW.out]; simp [h1])
        clear h1
        go_wp2_with fail
        go_ret
        exact retB HR.out.symm BW.out

def vFuncs (l : List Fn) : Bool := l.all vFunc
/-- the error of a program -/
def shp (l : List Fn) : Int := if l.all vFunc = true then (if wLim l = true then 0 else 3) else 1
theorem enter_vfn (args : Array Value) (w : World) : (callFunc 33 args).run Tryd.prog w = .ok (.enter 33 args) w := call_enter Tryd.func33 (by kernel_rfl) (by kernel_rfl) args w
theorem everyV_any (v : Value) (l : List Fn) (w : World) (hl : szP l ≤ 5000000) (hv : FnsAt w v l) (hg : Glob w) : Calls Tryd.prog 32 #[v, .func (.func 33) #[] #[]] w (RetB w (l.all vFunc)) := by
  refine (everyF_any 33 #[] (fun _ _ (_ : Unit) => True) (fun _ x => (vFunc x, ())) (fun w w' => Below w.heap.size w w') w l enter_vfn (fun x hx u y st w' _ hb hu hy => ?_) (fun _ _ _ _ _ _ => trivial) (fun _ _ _ h h' => h.then_' h') (fun _ _ h => h) (fun _ _ h h' => h.then_' h') v () w (Nat.le_trans (szP_len l) (Nat.le_trans hl (by decide))) hv (Below.refl _ _) trivial).mono ?_
  · refine (vfunc_any x u y w' (Nat.le_trans (szP_mem hx) hl) (hu.below hb) (hy.below hb) (hg.below hb)).mono ?_
    rintro e w2 ⟨rfl, h⟩
    exact ⟨rfl, trivial, h⟩
  · rintro e w' ⟨rfl, -, h⟩
    rw [ev_plain]
    exact ⟨rfl, h⟩
def RetE (w : World) (n : Int) (e : Ending) (w' : World) : Prop := e = .returned (.int .i64 n) ∧ Below w.heap.size w w'
theorem retE {w w' : World} {a b : Int} (h : a = b) (hb : Below w.heap.size w w') : RetE w b (.returned (.int .i64 a)) w' := by subst h; exact ⟨rfl, hb⟩

set_option maxHeartbeats 4000000 in
set_option maxRecDepth 100000 in
/-- Shaped -/
theorem shaped_any (l : List Fn) (v : Value) (w : World) (hsz : szP l ≤ 5000000) (hv : FnsAt w v l) (hg : Glob w) : Calls Tryd.prog 14 #[.agg #[v]] w (RetE w (shp l)) := by
  obtain ⟨a, cp, rfl⟩ := hv.shape
  have H := Lib.hid hv
  have HG := Lib.hid hg
  have P := Lib.hid (CsT.new w [.slice a l.length cp] 26).at_
  have B1 := Lib.hid (below1 w (.cells #[.slice a l.length cp] 26))
  have p0 := P.out.cell 0 _ rfl
  clear hv hg
  go_enter Tryd.func14, Tryd.ntmps14
  go_wp2_with fail
  generalize w.alloc (.cells #[.slice a l.length cp] 26) = w1 at *
  refine (everyV_any _ l w1 hsz (H.out.below B1.out) (HG.out.below B1.out)).mono ?_
  rintro e w2 ⟨rfl, hb⟩
  have B2 := Lib.hid (B1.out.then_' hb)
  have P2 := Lib.hid (P.out.below hb)
  clear hb p0
  cases hv : l.all vFunc with
  | false =>
    have HR : Hid (shp l = 1) := Lib.hid (by unfold shp; rw [if_neg (by rw [hv]; decide)])
    clear hv
    go_wp2_with fail
    go_ret
    exact retE HR.out.symm B2.out
  | true =>
    have HV := Lib.hid hv
    have p0 := P2.out.cell 0 _ rfl
    clear hv
    go_wp2_with fail
    refine (wlim_any l _ w2 hsz (H.out.below B2.out)).mono ?_
    rintro e w3 ⟨rfl, hb⟩
    have B3 := Lib.hid (B2.out.then_' hb)
    clear hb p0
    cases hw : wLim l with
    | false =>
      have HR : Hid (shp l = 3) := Lib.hid (by unfold shp; rw [if_pos HV.out, if_neg (by rw [hw]; decide)])
      clear hw
      go_wp2_with fail
      go_ret
      exact retE HR.out.symm B3.out
    | true =>
      have HR : Hid (shp l = 0) := Lib.hid (by unfold shp; rw [if_pos HV.out, if_pos hw])
      clear hw
      go_wp2_with fail
      go_ret
      exact retE HR.out.symm B3.out
end Go.Proofs.YtilholgbepfopaaDoor
/- A call of a Go function as one step of a region that draws. -/
namespace Go.Proofs.YtilholgbepfopaaDoor
open Go.RowKit
theorem call_step {w : World} {ops : Array Oper} {o : Oper} {a : Act} {K : Act → World → Prop} {Q : Exit → Act → World → Prop} {E : Prop} (hgd : o.guard = none) (N : FuncId) (x : Operand) (ts : Array TypeId)
    (ho : o.op = .call { callee := .value (.func N), args := #[x], argTypes := ts }) (u : Value) (hv : a.eval x = u) (hN : (callFunc N #[u]).run Tryd.prog w = .ok (.enter N #[u]) w)
    (h : Calls Tryd.prog N #[u] w (fun e w' => ∃ v, e = .returned v ∧ K (a.put o.dst v) w')) :
    if Region.wanted o (yielded ops a.tmps) = true then Oper.wp Tryd.prog o a w K Q else E := by
  have hw : Region.wanted o (yielded ops a.tmps) = true := by simp [Region.wanted, hgd]
  rw [if_pos hw]
  unfold Oper.wp
  have hr : (execOp a.eval o).run Tryd.prog w = .ok (.enter N #[u]) w := by
    have h0 : a.eval (.func N) = .func (.func N) #[] #[] := rfl
    simp [execOp, ho, resolve, invoke, h0, hv, hN, Deferred.ofValue]
  rw [hr]
  refine h.mono ?_
  rintro e w' ⟨v, rfl, hk⟩
  exact hk
end Go.Proofs.YtilholgbepfopaaDoor
/- A string stored where a string stood: all trees that memory holds are trees again, of the same size. -/
namespace Go.Proofs.YtilholgbepfopaaDoor
open Go.RowKit

def Rel (u u' : Value) : Prop := u' = u ∨ ∃ a b, u = .string a ∧ u' = .string b
def RelL : List Value → List Value → Prop
  | [], ys => ys = []
  | x :: xs, ys => ∃ y r, ys = y :: r ∧ Rel x y ∧ RelL xs r
theorem RelL.append {a b ys : List Value} (h : RelL (a ++ b) ys) : ∃ a' b', ys = a' ++ b' ∧ RelL a a' ∧ RelL b b' := by
  induction a generalizing ys with
  | nil => exact ⟨[], ys, rfl, rfl, h⟩
  | cons x a ih =>
    rw [List.cons_append] at h
    unfold RelL at h
    obtain ⟨y, r, rfl, h1, h2⟩ := h
    obtain ⟨a', b', rfl, h3, h4⟩ := ih h2
    exact ⟨y :: a', b', rfl, by unfold RelL; exact ⟨y, a', rfl, h1, h3⟩, h4⟩
theorem RelL.cons {x : Value} {xs ys : List Value} (h : RelL (x :: xs) ys) : ∃ y r, ys = y :: r ∧ Rel x y ∧ RelL xs r := by
  unfold RelL at h
  exact h
theorem RelL.nil {ys : List Value} (h : RelL [] ys) : ys = [] := h
theorem RelL.length {xs ys : List Value} (h : RelL xs ys) : ys.length = xs.length := by
  induction xs generalizing ys with
  | nil => rw [h.nil]
  | cons x xs ih =>
    obtain ⟨y, r, rfl, _, h2⟩ := h.cons
    simp [ih h2]
theorem Rel.int {n : Int} {t : IntKind} {y : Value} (h : Rel (.int t n) y) : y = .int t n := by
  rcases h with h | ⟨a, b, h, _⟩
  · exact h
  · cases h
theorem Rel.slice {a : Option Addr} {n c : Nat} {y : Value} (h : Rel (.slice a n c) y) : y = .slice a n c := by
  rcases h with h | ⟨a, b, h, _⟩
  · exact h
  · cases h
theorem Rel.string {s : ByteArray} {y : Value} (h : Rel (.string s) y) : ∃ s', y = .string s' := by
  rcases h with h | ⟨a, b, _, h⟩
  · exact ⟨_, h⟩
  · exact ⟨_, h⟩

section
variable {w : World} {p : Addr} {s0 s : ByteArray}
theorem cells_str (hp : w.cell? p = some (.string s0)) (ad : Addr) : ∀ (xs : List Value) (k : Nat), (∀ j u, xs[j]? = some u → w.cell? (ad.add (k + j)) = some u) →
    ∃ xs', RelL xs xs' ∧ ∀ j u, xs'[j]? = some u → (w.setCell p (.string s)).cell? (ad.add (k + j)) = some u
  | [], k, _ => ⟨[], rfl, fun j u hj => by simp at hj⟩
  | x :: xs, k, h => by
    obtain ⟨r, h1, h2⟩ := cells_str hp ad xs (k + 1) (fun j u hj => by have := h (j + 1) u (by simpa using hj); rwa [show k + (j + 1) = k + 1 + j by omega] at this)
    have h0 := h 0 x rfl
    rw [Nat.add_zero] at h0
    by_cases e : ad.add k = p
    · refine ⟨.string s :: r, by unfold RelL; exact ⟨_, _, rfl, .inr ⟨s0, s, by rw [e, hp] at h0; exact (Option.some.inj h0).symm, rfl⟩, h1⟩, fun j u hj => ?_⟩
      cases j with
      | zero => simp at hj; subst hj; rw [Nat.add_zero, e]; exact World.cell?_setCell_same' _ _ _ (by rw [hp]; rfl)
      | succ j => rw [show k + (j + 1) = k + 1 + j by omega]; exact h2 j u (by simpa using hj)
    · refine ⟨x :: r, by unfold RelL; exact ⟨_, _, rfl, .inl rfl, h1⟩, fun j u hj => ?_⟩
      cases j with
      | zero => simp at hj; subst hj; rw [Nat.add_zero]; exact (World.cell?_setCell_other _ _ _ _ (fun e2 => e e2.symm)).trans h0
      | succ j => rw [show k + (j + 1) = k + 1 + j by omega]; exact h2 j u (by simpa using hj)
theorem SlAt.str (hp : w.cell? p = some (.string s0)) {sz : Nat} {v : Value} {n : Nat} {xs : List Value} (h : SlAt w sz v n xs) : ∃ xs', SlAt (w.setCell p (.string s)) sz v n xs' ∧ RelL xs xs' := by
  rcases h with ⟨rfl, rfl, rfl⟩ | ⟨ad, c, rfl, hnc, hl, hc⟩
  · exact ⟨[], .inl ⟨rfl, rfl, rfl⟩, rfl⟩
  · obtain ⟨xs', h1, h2⟩ := cells_str (s := s) hp ad xs 0 (fun j u hj => by rw [Nat.zero_add]; exact hc j u hj)
    exact ⟨xs', .inr ⟨ad, c, rfl, hnc, by rw [h1.length]; exact hl, fun j u hj => by have := h2 j u hj; rwa [Nat.zero_add] at this⟩, h1⟩
mutual
theorem ExAt.str (hp : w.cell? p = some (.string s0)) : ∀ (e : Ex) (cs cs' : List Value), ExAt w e cs → RelL cs cs' → ∃ e', ExAt (w.setCell p (.string s)) e' cs' ∧ e'.sz = e.sz
  | .mk k n nm op l, cs, cs', h, hr => by
    unfold ExAt at h
    obtain ⟨u, rfl, css, h1, h2⟩ := h
    obtain ⟨a, c, rfl⟩ := h1.shape
    obtain ⟨y0, _, rfl, r0, hr⟩ := hr.cons
    obtain ⟨y1, _, rfl, r1, hr⟩ := hr.cons
    obtain ⟨y2, _, rfl, r2, hr⟩ := hr.cons
    obtain ⟨y3, _, rfl, r3, hr⟩ := hr.cons
    obtain ⟨y4, _, rfl, r4, hr⟩ := hr.cons
    obtain rfl := hr.nil
    obtain rfl := r0.int
    obtain rfl := r1.int
    obtain ⟨nm', rfl⟩ := r2.string
    obtain rfl := r3.int
    obtain rfl := r4.slice
    obtain ⟨xs', h3, h4⟩ := SlAt.str (s := s) hp h1
    obtain ⟨l', css', rfl, h5, h6, h7⟩ := ExL.str hp l css xs' h2 h4
    refine ⟨.mk k n nm' op l', ?_, by unfold Ex.sz; rw [h7]⟩
    unfold ExAt
    exact ⟨_, rfl, css', by rw [h6]; exact h3, h5⟩
theorem ExL.str (hp : w.cell? p = some (.string s0)) : ∀ (l : List Ex) (css : List (List Value)) (xs' : List Value), ExL w l css → RelL css.flatten xs' → ∃ l' css', xs' = css'.flatten ∧ ExL (w.setCell p (.string s)) l' css' ∧ l'.length = l.length ∧ szE l' = szE l
  | [], css, xs', h, hr => by
    unfold ExL at h
    subst h
    exact ⟨[], [], hr.nil, by unfold ExL; rfl, rfl, rfl⟩
  | e :: l, css, xs', h, hr => by
    unfold ExL at h
    obtain ⟨c, r, rfl, h1, h2⟩ := h
    rw [List.flatten_cons] at hr
    obtain ⟨c', r', rfl, h3, h4⟩ := hr.append
    obtain ⟨e', h5, h6⟩ := ExAt.str hp e c c' h1 h3
    obtain ⟨l', css', rfl, h7, h8, h9⟩ := ExL.str hp l r r' h2 h4
    exact ⟨e' :: l', c' :: css', by rw [List.flatten_cons], by unfold ExL; exact ⟨_, _, rfl, h5, h7⟩, by simp [h8], by unfold szE; rw [h6, h9]⟩
end
theorem ExsAt.str (hp : w.cell? p = some (.string s0)) {v : Value} {l : List Ex} (h : ExsAt w v l) : ∃ l', ExsAt (w.setCell p (.string s)) v l' ∧ l'.length = l.length ∧ szE l' = szE l := by
  obtain ⟨css, h1, h2⟩ := h
  obtain ⟨xs', h3, h4⟩ := SlAt.str (s := s) hp h1
  obtain ⟨l', css', rfl, h5, h6, h7⟩ := ExL.str (s := s) hp l css xs' h2 h4
  exact ⟨l', ⟨css', by rw [h6]; exact h3, h5⟩, h6, h7⟩
mutual
theorem StAt.str (hp : w.cell? p = some (.string s0)) : ∀ (e : St) (cs cs' : List Value), StAt w e cs → RelL cs cs' → ∃ e', StAt (w.setCell p (.string s)) e' cs' ∧ e'.sz = e.sz
  | .mk k nm f n op es b e, cs, cs', h, hr => by
    unfold StAt at h
    obtain ⟨u, v, x, rfl, h1, ⟨c1, h2, h3⟩, ⟨c2, h4, h5⟩⟩ := h
    obtain ⟨a0, b0, rfl⟩ := h1.shape
    obtain ⟨a1, b1, rfl⟩ := h2.shape
    obtain ⟨a2, b2, rfl⟩ := h4.shape
    obtain ⟨y0, _, rfl, r0, hr⟩ := hr.cons
    obtain ⟨y1, _, rfl, r1, hr⟩ := hr.cons
    obtain ⟨y2, _, rfl, r2, hr⟩ := hr.cons
    obtain ⟨y3, _, rfl, r3, hr⟩ := hr.cons
    obtain ⟨y4, _, rfl, r4, hr⟩ := hr.cons
    obtain ⟨y5, _, rfl, r5, hr⟩ := hr.cons
    obtain ⟨y6, _, rfl, r6, hr⟩ := hr.cons
    obtain ⟨y7, _, rfl, r7, hr⟩ := hr.cons
    obtain rfl := hr.nil
    obtain rfl := r0.int
    obtain ⟨nm', rfl⟩ := r1.string
    obtain ⟨f', rfl⟩ := r2.string
    obtain rfl := r3.int
    obtain rfl := r4.int
    obtain rfl := r5.slice
    obtain rfl := r6.slice
    obtain rfl := r7.slice
    obtain ⟨es', g1, g2, g3⟩ := ExsAt.str (s := s) hp h1
    obtain ⟨xb, g4, g5⟩ := SlAt.str (s := s) hp h2
    obtain ⟨b', cb, rfl, g6, g7, g8⟩ := StL.str hp b c1 xb h3 g5
    obtain ⟨xe, g9, g10⟩ := SlAt.str (s := s) hp h4
    obtain ⟨e', ce, rfl, g11, g12, g13⟩ := StL.str hp e c2 xe h5 g10
    refine ⟨.mk k nm' f' n op es' b' e', ?_, by unfold St.sz; rw [g3, g8, g13]⟩
    unfold StAt
    exact ⟨_, _, _, rfl, g1, ⟨cb, by rw [g7]; exact g4, g6⟩, ⟨ce, by rw [g12]; exact g9, g11⟩⟩
theorem StL.str (hp : w.cell? p = some (.string s0)) : ∀ (l : List St) (css : List (List Value)) (xs' : List Value), StL w l css → RelL css.flatten xs' → ∃ l' css', xs' = css'.flatten ∧ StL (w.setCell p (.string s)) l' css' ∧ l'.length = l.length ∧ szS l' = szS l
  | [], css, xs', h, hr => by
    unfold StL at h
    subst h
    exact ⟨[], [], hr.nil, by unfold StL; rfl, rfl, rfl⟩
  | e :: l, css, xs', h, hr => by
    unfold StL at h
    obtain ⟨c, r, rfl, h1, h2⟩ := h
    rw [List.flatten_cons] at hr
    obtain ⟨c', r', rfl, h3, h4⟩ := hr.append
    obtain ⟨e', h5, h6⟩ := StAt.str hp e c c' h1 h3
    obtain ⟨l', css', rfl, h7, h8, h9⟩ := StL.str hp l r r' h2 h4
    exact ⟨e' :: l', c' :: css', by rw [List.flatten_cons], by unfold StL; exact ⟨_, _, rfl, h5, h7⟩, by simp [h8], by unfold szS; rw [h6, h9]⟩
end
theorem StsAt.str (hp : w.cell? p = some (.string s0)) {v : Value} {l : List St} (h : StsAt w v l) : ∃ l', StsAt (w.setCell p (.string s)) v l' ∧ l'.length = l.length ∧ szS l' = szS l := by
  obtain ⟨css, h1, h2⟩ := h
  obtain ⟨xs', h3, h4⟩ := SlAt.str (s := s) hp h1
  obtain ⟨l', css', rfl, h5, h6, h7⟩ := StL.str (s := s) hp l css xs' h2 h4
  exact ⟨l', ⟨css', by rw [h6]; exact h3, h5⟩, h6, h7⟩
theorem relL_names : ∀ (l : List ByteArray) (xs' : List Value), RelL (l.map Value.string) xs' → ∃ l' : List ByteArray, xs' = l'.map Value.string ∧ l'.length = l.length
  | [], xs', h => ⟨[], h.nil, rfl⟩
  | x :: l, xs', h => by
    rw [List.map_cons] at h
    obtain ⟨y, r, rfl, h1, h2⟩ := h.cons
    obtain ⟨s', rfl⟩ := h1.string
    obtain ⟨l', rfl, h3⟩ := relL_names l r h2
    exact ⟨s' :: l', rfl, by simp [h3]⟩
theorem NmsAt.str (hp : w.cell? p = some (.string s0)) {v : Value} {l : List ByteArray} (h : NmsAt w v l) : ∃ l', NmsAt (w.setCell p (.string s)) v l' ∧ l'.length = l.length := by
  obtain ⟨xs', h3, h4⟩ := SlAt.str (s := s) hp h
  obtain ⟨l', rfl, h5⟩ := relL_names l xs' h4
  exact ⟨l', by unfold NmsAt; rw [h5]; exact h3, h5⟩
theorem FnL.str (hp : w.cell? p = some (.string s0)) : ∀ (l : List Fn) (css : List (List Value)) (xs' : List Value), FnL w l css → RelL css.flatten xs' → ∃ l' css', xs' = css'.flatten ∧ FnL (w.setCell p (.string s)) l' css' ∧ l'.length = l.length ∧ szP l' = szP l
  | [], css, xs', h, hr => by
    unfold FnL at h
    subst h
    exact ⟨[], [], hr.nil, by unfold FnL; rfl, rfl, rfl⟩
  | e :: l, css, xs', h, hr => by
    unfold FnL at h
    obtain ⟨c, r, rfl, ⟨u, v, rfl, h1, h1'⟩, h2⟩ := h
    obtain ⟨a0, b0, rfl⟩ := h1.shape
    obtain ⟨a1, b1, rfl⟩ := h1'.shape
    rw [List.flatten_cons] at hr
    obtain ⟨c', r', rfl, h3, h4⟩ := hr.append
    obtain ⟨y0, _, rfl, r0, h3⟩ := h3.cons
    obtain ⟨y1, _, rfl, r1, h3⟩ := h3.cons
    obtain ⟨y2, _, rfl, r2, h3⟩ := h3.cons
    obtain rfl := h3.nil
    obtain ⟨nm', rfl⟩ := r0.string
    obtain rfl := r1.slice
    obtain rfl := r2.slice
    obtain ⟨ps, g1, g2⟩ := NmsAt.str (s := s) hp h1
    obtain ⟨bd, g3, g4, g5⟩ := StsAt.str (s := s) hp h1'
    obtain ⟨l', css', rfl, h7, h8, h9⟩ := FnL.str hp l r r' h2 h4
    exact ⟨⟨nm', ps, bd⟩ :: l', _ :: css', by rw [List.flatten_cons], by unfold FnL; exact ⟨_, _, rfl, ⟨_, _, rfl, g1, g3⟩, h7⟩, by simp [h8], by unfold szP szF; simp only [g2, g5, h9]⟩
theorem FnsAt.str (hp : w.cell? p = some (.string s0)) {v : Value} {l : List Fn} (h : FnsAt w v l) : ∃ l', FnsAt (w.setCell p (.string s)) v l' ∧ l'.length = l.length ∧ szP l' = szP l := by
  obtain ⟨css, h1, h2⟩ := h
  obtain ⟨xs', h3, h4⟩ := SlAt.str (s := s) hp h1
  obtain ⟨l', css', rfl, h5, h6, h7⟩ := FnL.str (s := s) hp l css xs' h2 h4
  exact ⟨l', ⟨css', by rw [h6]; exact h3, h5⟩, h6, h7⟩
end
end Go.Proofs.YtilholgbepfopaaDoor
