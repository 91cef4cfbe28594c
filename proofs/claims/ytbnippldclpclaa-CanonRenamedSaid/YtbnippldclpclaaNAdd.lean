/- Adding what values refer to. -/
import Derived.Test.YtbnippldclpclaaNKnow
import Derived.Test.YtbnippldclpclaaNFns
namespace Go.Proofs.Ytbnippldclpclaa
open Go.RowKit

theorem zero64 (w : World) : (zeroValue 2).run Try.prog w = .ok (.int .i64 0) w := by kernel_rfl
/-- the state of the search: what was found, and what the map knows -/
structure RSt (w0 w : World) (B rb bm : Nat) (O : List Ob) (out : List Int) (a : Option Addr) (n c : Nat) : Prop where
  bel : Below w0.heap.size w0 w
  cells : At2 w rb (.slice a n c) (.map (some bm))
  own : OwnAt w B (.slice a n c) (out.map (getO O))
  len : n = out.length
  map : ∃ E, MapAt w bm E ∧ Known O out E
  base : B ≤ w.heap.size
/-- what does not change in a search -/
structure Fix (w0 : World) (B rb bm bh : Nat) (hv : Value) (O : List Ob) : Prop where
  r0 : w0.heap.size ≤ rb
  r1 : rb < B
  m0 : w0.heap.size ≤ bm
  m1 : bm < B
  rm : rb ≠ bm
  h1 : bh < B
  hr : bh ≠ rb
  hm : bh ≠ bm
  heap : OAt w0 hv O
  short : ShortO O
theorem RSt.below {w0 w w' : World} {B rb bm : Nat} {O : List Ob} {out : List Int} {a : Option Addr} {n c : Nat} (h : RSt w0 w B rb bm O out a n c) (hb : Below w.heap.size w w') : RSt w0 w' B rb bm O out a n c :=
  ⟨h.bel.then_' hb, h.cells.below hb, h.own.below hb, h.len, by obtain ⟨E, h1, h2⟩ := h.map; exact ⟨E, h1.below hb, h2⟩, Nat.le_trans h.base hb.size⟩
def RAdd (w0 : World) (B rb bm : Nat) (O : List Ob) (out : List Int) (u : Value) (l : List V) (w : World) (e : Ending) (w' : World) : Prop :=
  ∃ a n c, e = .returned (.tuple #[]) ∧ RSt w0 w' B rb bm O (findR (thereO O) out l) a n c ∧ Vals w0 w' B u l ∧ Keep B rb bm w w'

theorem grown_below {w w' : World} (h : Below w.heap.size w w') (r : Option Nat) : w.grownBy w' r := ⟨h.os, h.tape, h.output, h.size, fun k hk _ => h.block k hk⟩
theorem OwnAt.low {w w' : World} {B b : Nat} {v : Value} {O : List Ob} (h : OwnAt w B v O) (hg : w.grownBy w' (some b)) (hb : b < B) : OwnAt w' B v O := by
  have keep : ∀ {e : TypeId} {s n : Nat} {v : Value} {xs : List Value}, w.ownsRow B e s v n xs → w'.ownsRow B e s v n xs := fun {e s n v xs} h => World.ownsRow.kept h hg (by
    cases e : v.ownBlock with
    | none => exact .inl rfl
    | some g => exact .inr (fun e2 => by have := (World.ownsRow.lt h g e).1; have := Option.some.inj e2; omega))
  obtain ⟨L, ⟨h1, h2⟩, e⟩ := h
  exact ⟨L, ⟨keep h1, fun x hx => keep (h2 x hx)⟩, e⟩
theorem At2.st0 {w : World} {b : Nat} {u0 u1 : Value} (h : At2 w b u0 u1) (v : Value) : At2 (w.setCell ⟨b, 0, none⟩ v) b v u1 :=
  ⟨World.cell?_setCell_same' _ _ _ (by rw [h.c0]; rfl), (World.cell?_setCell_other _ _ _ _ (by simp)).trans h.c1, by simpa using h.f0, by simpa using h.f1, by simpa [World.setCell] using h.lt⟩
theorem find_snoc {p : Int → Bool} {l : List V} {k : Nat} {x : V} {out' : List Int} (out : List Int) (h : l.take (k + 1) = l.take k ++ [x]) (hs : stepR p (findR p out (l.take k)) x = out') : findR p out (l.take (k + 1)) = out' := by
  rw [h, ← hs]
  unfold findR
  rw [List.foldl_append]
  rfl

set_option maxHeartbeats 2000000 in
set_option maxRecDepth 100000 in
theorem add_half (w0 : World) (B rb bm bh : Nat) (hv : Value) (O : List Ob) (out : List Int) (a : Option Addr) (n c : Nat) (u : Value) (l : List V) (w : World) (hF : Fix w0 B rb bm bh hv O) (hS : RSt w0 w B rb bm O out a n c) (hV : Vals w0 w B u l) (hH : At1 w bh hv) (hl : l.length ≤ 1000000) (ha : ascO 0 O = true) :
    Calls Try.prog 25 #[.pointer (some ⟨rb, 0, none⟩), u, .func (.func 30) #[] #[.pointer (some ⟨bh, 0, none⟩)]] w (RAdd w0 B rb bm O out u l w) := by
  obtain ⟨ua, un, uc, rfl, hn⟩ := (hV.at_ hS.bel).shape
  have HF := Lib.hid hF
  have HS := Lib.hid hS
  have HV := Lib.hid hV
  have HH := Lib.hid hH
  have HA := Lib.hid ha
  rw [← hn.out] at hl
  clear hF hS hV hH ha
  go_enter Try.func25, Try.ntmps25
  go_wp2
  go_loopw [14] (fun kv wr => ∃ (k : Nat) (a : Option Addr) (n c : Nat), kv = .int .i64 k ∧ k ≤ un ∧ RSt w0 wr B rb bm O (findR (thereO O) out (l.take k)) a n c ∧ Vals w0 wr B (.slice ua un uc) l ∧ Keep B rb bm w wr) (fun kv _ => un - (intOf kv).toNat)
  case atStart => exact ⟨0, a, n, c, rfl, Nat.zero_le _, HS.out, HV.out, Keep.refl _ _ _ _⟩
  case round =>
    obtain ⟨k, a1, n1, c1, rfl, hk, hs, hv, hkeep⟩ := hrel
    have S1 := Lib.hid hs
    have V1 := Lib.hid hv
    have K1 := Lib.hid hkeep
    clear hs hv hkeep
    by_cases hlt : k < un
    · obtain ⟨x, hx⟩ : ∃ x, l[k]? = some x := ⟨_, List.getElem?_eq_getElem (by rw [← hn.out]; exact hlt)⟩
      obtain ⟨b, o, c', hv, hbl, hc0, hc1⟩ := (V1.out.at_ S1.out.bel).elem hx
      obtain ⟨rfl, hv2, rfl⟩ := Value.slice.inj hv
      have HX := Lib.hid (take_snoc hx)
      clear hv hv2 hx
      have hd : (k : Int) < (un : Int) := by omega
      obtain ⟨xb, xn⟩ := x
      simp only at hc0 hc1
      have B1 := Lib.hid (below1 wr (.cells #[.bool xb, .int .i64 xn] 31))
      have T1 := Lib.hid (At2.new wr (.bool xb) (.int .i64 xn) 31)
      have S2 := Lib.hid (S1.out.below B1.out)
      obtain ⟨E, hm, hkn⟩ := S2.out.map
      have hlook : ∀ q, (Instr.lookup 52 (.map (some bm)) (.int .i64 xn) true).run Try.prog ((wr.alloc (.cells #[.bool xb, .int .i64 xn] 31)).drewN q) = .ok (.tuple #[.int .i64 ((mlook E xn).getD 0), .bool (mlook E xn).isSome]) ((wr.alloc (.cells #[.bool xb, .int .i64 xn] 31)).drewN q) := fun q => (hm.below (Below.drewN (Below.refl _ _) q)).look_ok (P := Try.prog) (T := 52) Try.underlying52 Try.underlying2 (zero64 _) xn
      have M2 := Lib.hid hm
      have KN := Lib.hid hkn
      have r0 := S2.out.cells.c0
      have r1 := S2.out.cells.c1
      clear hm hkn
      go_wp2_with fail
      generalize wr.alloc (.cells #[.bool xb, .int .i64 xn] 31) = v1 at *
      have t0 := T1.out.c0
      have t1 := T1.out.c1
      go_quiet (fail)
      have hb2 : Below v1.heap.size v1 (v1.drewN nq) := Below.drewN (Below.refl _ _) nq
      have B2 := Lib.hid (B1.out.then_' hb2)
      have S3 := Lib.hid (S2.out.below hb2)
      have M3 := Lib.hid (M2.out.below hb2)
      have T3 := Lib.hid (T1.out.below hb2)
      clear hlook r0 r1 t0 t1 hb2 B1 T1 S2 M2
      generalize v1.drewN nq = v2 at *
      generalize hkd : (mlook E xn).isSome = kn
      generalize (mlook E xn).getD 0 = y
      have HKD := Lib.hid hkd
      clear hkd
      have t0 := T3.out.c0
      have t1 := T3.out.c1
      by_cases hskip : kn = true ∨ xb = false
      · have HST := Lib.hid (find_snoc out HX.out (KN.out.skip (v := (xb, xn)) (by simp only; rw [HKD.out]; exact hskip)))
        have hrel : ∃ (k' : Nat) (a : Option Addr) (n c : Nat), Value.int .i64 ((k : Int) + 1) = .int .i64 k' ∧ k' ≤ un ∧ RSt w0 v2 B rb bm O (findR (thereO O) out (l.take k')) a n c ∧ Vals w0 v2 B (.slice (some ⟨b, o, none⟩) un uc) l ∧ Keep B rb bm w v2 :=
          ⟨k + 1, a1, n1, c1, by go_num, by omega, by rw [HST.out]; exact S3.out, V1.out.below B2.out, K1.out.below B2.out⟩
        have HR := Lib.hid hrel
        clear hrel
        cases kn
        · obtain rfl : xb = false := by simpa using hskip
          go_wp2_with fail
          go_roundw
          case rel => exact HR.out
          case measure => simp [intOf]; omega
        · go_wp2_with fail
          go_roundw
          case rel => exact HR.out
          case measure => simp [intOf]; omega
      · obtain ⟨rfl, rfl⟩ : kn = false ∧ xb = true := by cases kn <;> cases xb <;> simp_all
        clear hskip
        have r0 := S3.out.cells.c0
        have r1 := S3.out.cells.c1
        obtain ⟨v3, hput, hm3, hg3⟩ := (M3.out.below (below_drew v2)).put (P := Try.prog) (T := 52) Try.underlying52 Try.underlying2 xn 0
        have HG3 := Lib.hid ((grown_below (below_drew v2) (some bm)).trans hg3)
        have M4 := Lib.hid hm3
        have hvb : wr.heap.size ≠ bm := by have := M3.out.lt; have := HF.out.m1; have := S1.out.base; omega
        have T4 := Lib.hid (T3.out.grown_ HG3.out (fun e => hvb (Option.some.inj e).symm))
        have C4 := Lib.hid (S3.out.cells.grown_ HG3.out (fun e => HF.out.rm (Option.some.inj e).symm))
        clear hm3 hg3
        go_wp2_with fail
        go_region
        clear hput r0 r1 t0 t1
        have t0 := T4.out.c0
        have t1 := T4.out.c1
        go_wp2_with fail
        have K4 := Lib.hid ((K1.out.below B2.out).grown HG3.out (fun q e => .inr (.inr (Option.some.inj e).symm)))
        have W4 := Lib.hid (S3.out.bel.grown HG3.out S3.out.bel.size (fun q e => by rw [← Option.some.inj e]; exact HF.out.m0))
        have V4 := Lib.hid ((V1.out.below B2.out).low HG3.out HF.out.m1)
        have O4 := Lib.hid (OwnAt.low S3.out.own HG3.out HF.out.m1)
        refine (half_any bh hv O xn v3 (HF.out.heap.below W4.out) HF.out.short HA.out (HH.out.keep K4.out HF.out.h1 HF.out.hr HF.out.hm)).mono ?_
        rintro e v4 ⟨fa, fn, fc, rfl, ho, hb⟩
        have hsz : B ≤ v3.heap.size := Nat.le_trans S3.out.base HG3.out.size
        have N5 := Lib.hid (At2.new v4 (.int .i64 (getO O xn).1) (.slice fa fn fc) 43)
        have b5 := hb.then_' (below1 v4 (.cells #[.int .i64 (getO O xn).1, .slice fa fn fc] 43))
        have F5 := Lib.hid ((VsOwn.mono ho hsz).below (below1 v4 (.cells #[.int .i64 (getO O xn).1, .slice fa fn fc] 43)))
        have B5 := Lib.hid b5
        have T5 := Lib.hid (T4.out.below b5)
        have C5 := Lib.hid (C4.out.below b5)
        have M5 := Lib.hid (M4.out.below b5)
        have K5 := Lib.hid (K4.out.below b5)
        have W5 := Lib.hid (W4.out.then_' b5)
        have V5 := Lib.hid (V4.out.below b5)
        have O5 := Lib.hid (O4.out.below b5)
        have SZ5 := Lib.hid (Nat.le_trans hsz b5.size)
        clear hb b5 ho T4 C4 M4 K4 W4 V4 O4 hsz t0 t1 B2 T3 S3 M3 HG3
        rw [in_there]
        have hin := in_there O xn
        cases hth : thereO O xn with
        | false =>
          obtain ⟨hkn1, hkn2⟩ := KN.out.miss HKD.out hth
          have HST := Lib.hid (find_snoc out HX.out hkn2)
          have hrel : ∃ (k' : Nat) (a : Option Addr) (n c : Nat), Value.int .i64 ((k : Int) + 1) = .int .i64 k' ∧ k' ≤ un ∧ RSt w0 (v4.alloc (.cells #[.int .i64 (getO O xn).1, .slice fa fn fc] 43)) B rb bm O (findR (thereO O) out (l.take k')) a n c ∧ Vals w0 (v4.alloc (.cells #[.int .i64 (getO O xn).1, .slice fa fn fc] 43)) B (.slice (some ⟨b, o, none⟩) un uc) l ∧ Keep B rb bm w (v4.alloc (.cells #[.int .i64 (getO O xn).1, .slice fa fn fc] 43)) :=
            ⟨k + 1, a1, n1, c1, by go_num, by omega, by rw [HST.out]; exact ⟨W5.out, C5.out, O5.out, S1.out.len, ⟨_, M5.out, hkn1⟩, SZ5.out⟩, V5.out, K5.out⟩
          have HR := Lib.hid hrel
          clear hrel hkn1 hkn2 hth hin
          go_wp2_with fail
          go_roundw
          case rel => exact HR.out
          case measure => simp [intOf]; omega
        | true =>
          have hgi := get_id hth
          obtain ⟨hkn1, hkn2⟩ := KN.out.hit HKD.out hth
          have KN7 := Lib.hid hkn1
          have HST := Lib.hid (find_snoc out HX.out hkn2)
          have HGI := Lib.hid hgi
          clear hkn1 hkn2 hth hin hgi
          go_wp2_with fail
          generalize v4.alloc (.cells #[.int .i64 (getO O xn).1, .slice fa fn fc] 43) = v5 at *
          generalize v4.heap.size = nb at *
          obtain ⟨L, ⟨hrow, hvals⟩, hobs⟩ := O5.out
          have hm : n1 = L.length := by obtain ⟨a', c', e⟩ := SlAt.shape (own_sl hrow); exact (Value.slice.inj e).2.1
          have HOBS := Lib.hid hobs
          rw [← hm] at hrow
          have HM := Lib.hid hm
          have hn1 : n1 ≤ 1000000 := by rw [S1.out.len]; exact Nat.le_trans KN.out.le HF.out.short.1
          have hb6 : Below v5.heap.size v5 (v5.alloc (.cells #[.int .i64 (getO O xn).1, .slice fa fn fc] 43)).drew := (below1 v5 _).drew
          have hsz6 : B ≤ (v5.alloc (.cells #[.int .i64 (getO O xn).1, .slice fa fn fc] 43)).drew.heap.size := Nat.le_trans SZ5.out hb6.size
          have N6 := Lib.hid (At2.new v5 (.int .i64 (getO O xn).1) (.slice fa fn fc) 43).drew
          have ROW := Lib.hid (own_below hrow hb6)
          have VALS : Hid (∀ y ∈ L, VsOwn (v5.alloc (.cells #[.int .i64 (getO O xn).1, .slice fa fn fc] 43)).drew B y.fv y.vals) := Lib.hid (fun y hy => (hvals y hy).below hb6)
          have F6 := Lib.hid (F5.out.below hb6)
          have T6 := Lib.hid (T5.out.below hb6)
          have C6 := Lib.hid (C5.out.below hb6)
          have M6 := Lib.hid (M5.out.below hb6)
          have K6 := Lib.hid (K5.out.below hb6)
          have W6 := Lib.hid (W5.out.then_' hb6)
          have V6 := Lib.hid (V5.out.below hb6)
          have SZ6 := Lib.hid hsz6
          have hHB6 := Lib.hid hb6
          clear hrow hvals hobs hm hsz6 hb6
          have r0 := C5.out.c0
          have n0 := N5.out.c0
          have n01 := N5.out.c1
          have rlt := C5.out.lt
          clear T5 M5 K5 W5 V5 O5
          go_region_law (first
            | (refine appO_step rfl _ _ rfl B (.slice a1 n1 c1) n1 (L.flatMap oc) rfl ROW.out _ 1 (oc ⟨(getO O xn).1, .slice fa fn fc, (getO O xn).2⟩) rfl (At2.sl (x := ⟨(getO O xn).1, .slice fa fn fc, (getO O xn).2⟩) N6.out) (At2.one _ _ _ _) (by omega) SZ6.out ?_; intro a7 c7 v7 hown hg hat; have HOWN := Lib.hid hown; have HG7 := Lib.hid hg; have C7 := Lib.hid (C6.out.grown_ hg (fun e => by have h1 := (World.ownsRow.lt ROW.out _ e).1; have h2 := HF.out.r1; omega)); have c70 := C7.out.c0; have c7f := C7.out.f0; clear hown hg hat r0 n0 n01)
            | fail)
          all_goals
            have hrow : ∀ q, (Value.slice a1 n1 c1).ownBlock = some q → B ≤ q := fun q e => (World.ownsRow.lt ROW.out q e).1
            have hrow2 : ∀ q, (Value.slice a1 n1 c1).ownBlock = some q → q < wr.heap.size := fun q e => by obtain ⟨L', ⟨h1, _⟩, _⟩ := S1.out.own; exact (World.ownsRow.lt h1 q e).2
            have hvr : wr.heap.size ≠ rb := by have := S1.out.base; have := HF.out.r1; omega
            have C8 := Lib.hid (C7.out.st0 (.slice a7 (n1 + 1) c7))
            have T8 := Lib.hid ((T6.out.grown_ HG7.out (fun e => by have := hrow2 _ e; omega)).far (p := ⟨rb, 0, none⟩) hvr (.slice a7 (n1 + 1) c7))
            have M8 := Lib.hid ((M6.out.kept HG7.out (fun e => by have := hrow _ e.symm; have := HF.out.m1; omega)).set (p := ⟨rb, 0, none⟩) HF.out.rm (.slice a7 (n1 + 1) c7))
            have K8 := Lib.hid ((K6.out.grown HG7.out (fun q e => .inl (hrow q e))).set (p := ⟨rb, 0, none⟩) rfl (.slice a7 (n1 + 1) c7))
            have W8 := Lib.hid ((W6.out.grown HG7.out W6.out.size (fun q e => by have := hrow q e; have := HF.out.r0; have := HF.out.r1; omega)).setCell (p := ⟨rb, 0, none⟩) HF.out.r0 (.slice a7 (n1 + 1) c7))
            have V8 := Lib.hid ((V6.out.row ROW.out HG7.out).set (p := ⟨rb, 0, none⟩) HF.out.r1 (.slice a7 (n1 + 1) c7))
            have O8 := Lib.hid (own_push (x := ⟨(getO O xn).1, .slice fa fn fc, (getO O xn).2⟩) (u := .slice a7 (n1 + 1) c7) (p := ⟨rb, 0, none⟩) ROW.out VALS.out F6.out HOWN.out HM.out HG7.out HF.out.r1)
            have SZ8 : Hid (B ≤ (v7.setCell ⟨rb, 0, none⟩ (.slice a7 (n1 + 1) c7)).heap.size) := Lib.hid (by rw [size_set]; exact Nat.le_trans SZ6.out HG7.out.size)
            clear C7 T6 M6 K6 W6 V6 ROW VALS F6 HOWN HG7 SZ6 c70 c7f rlt N6 hHB6 hrow hrow2
            generalize v7.setCell ⟨rb, 0, none⟩ (.slice a7 (n1 + 1) c7) = v8 at *
            obtain ⟨v9, hput, hm9, hg9⟩ := (M8.out.below (below_drew v8)).put (P := Try.prog) (T := 52) Try.underlying52 Try.underlying2 xn ((n1 : Int) + 1)
            have HG9 := Lib.hid ((grown_below (below_drew v8) (some bm)).trans hg9)
            have M9 := Lib.hid hm9
            have r0 := C8.out.c0
            have r1 := C8.out.c1
            have t0 := T8.out.c0
            have t1 := T8.out.c1
            clear hm9 hg9
            go_wp2_with fail
            go_region
            go_wp2_with fail
            go_roundw
            case rel =>
              refine ⟨k + 1, a7, n1 + 1, c7, by go_num, by omega, ?_, V8.out.low HG9.out HF.out.m1, K8.out.grown HG9.out (fun q e => .inr (.inr (Option.some.inj e).symm))⟩
              rw [HST.out]
              refine ⟨W8.out.grown HG9.out W8.out.size (fun q e => by rw [← Option.some.inj e]; exact HF.out.m0), C8.out.grown_ HG9.out (fun e => HF.out.rm (Option.some.inj e).symm), ?_, by rw [List.length_append, ← S1.out.len]; rfl, ⟨_, M9.out, by rw [S1.out.len]; exact KN7.out⟩, Nat.le_trans SZ8.out HG9.out.size⟩
              rw [List.map_append, ← HOBS.out]
              exact O8.out.low HG9.out HF.out.m1
            case measure => simp [intOf]; omega
    · obtain rfl : k = un := by omega
      go_wp2_with fail
      go_end0
      have := S1.out
      rw [List.take_of_length_le (Nat.le_of_eq hn.out.symm)] at this
      exact ⟨a1, n1, c1, rfl, this, V1.out, K1.out⟩
set_option maxHeartbeats 2000000 in
set_option maxRecDepth 100000 in
theorem add_plain (w0 : World) (B rb bm bh : Nat) (hv : Value) (O : List Ob) (out : List Int) (a : Option Addr) (n c : Nat) (u : Value) (l : List V) (w : World) (hF : Fix w0 B rb bm bh hv O) (hS : RSt w0 w B rb bm O out a n c) (hV : Vals w0 w B u l) (hH : At1 w bh hv) (hl : l.length ≤ 1000000) :
    Calls Try.prog 25 #[.pointer (some ⟨rb, 0, none⟩), u, .func (.func 28) #[] #[.pointer (some ⟨bh, 0, none⟩)]] w (RAdd w0 B rb bm O out u l w) := by
  obtain ⟨ua, un, uc, rfl, hn⟩ := (hV.at_ hS.bel).shape
  have HF := Lib.hid hF
  have HS := Lib.hid hS
  have HV := Lib.hid hV
  have HH := Lib.hid hH
  rw [← hn.out] at hl
  clear hF hS hV hH
  go_enter Try.func25, Try.ntmps25
  go_wp2
  go_loopw [14] (fun kv wr => ∃ (k : Nat) (a : Option Addr) (n c : Nat), kv = .int .i64 k ∧ k ≤ un ∧ RSt w0 wr B rb bm O (findR (thereO O) out (l.take k)) a n c ∧ Vals w0 wr B (.slice ua un uc) l ∧ Keep B rb bm w wr) (fun kv _ => un - (intOf kv).toNat)
  case atStart => exact ⟨0, a, n, c, rfl, Nat.zero_le _, HS.out, HV.out, Keep.refl _ _ _ _⟩
  case round =>
    obtain ⟨k, a1, n1, c1, rfl, hk, hs, hv, hkeep⟩ := hrel
    have S1 := Lib.hid hs
    have V1 := Lib.hid hv
    have K1 := Lib.hid hkeep
    clear hs hv hkeep
    by_cases hlt : k < un
    · obtain ⟨x, hx⟩ : ∃ x, l[k]? = some x := ⟨_, List.getElem?_eq_getElem (by rw [← hn.out]; exact hlt)⟩
      obtain ⟨b, o, c', hv, hbl, hc0, hc1⟩ := (V1.out.at_ S1.out.bel).elem hx
      obtain ⟨rfl, hv2, rfl⟩ := Value.slice.inj hv
      have HX := Lib.hid (take_snoc hx)
      clear hv hv2 hx
      have hd : (k : Int) < (un : Int) := by omega
      obtain ⟨xb, xn⟩ := x
      simp only at hc0 hc1
      have B1 := Lib.hid (below1 wr (.cells #[.bool xb, .int .i64 xn] 31))
      have T1 := Lib.hid (At2.new wr (.bool xb) (.int .i64 xn) 31)
      have S2 := Lib.hid (S1.out.below B1.out)
      obtain ⟨E, hm, hkn⟩ := S2.out.map
      have hlook : ∀ q, (Instr.lookup 52 (.map (some bm)) (.int .i64 xn) true).run Try.prog ((wr.alloc (.cells #[.bool xb, .int .i64 xn] 31)).drewN q) = .ok (.tuple #[.int .i64 ((mlook E xn).getD 0), .bool (mlook E xn).isSome]) ((wr.alloc (.cells #[.bool xb, .int .i64 xn] 31)).drewN q) := fun q => (hm.below (Below.drewN (Below.refl _ _) q)).look_ok (P := Try.prog) (T := 52) Try.underlying52 Try.underlying2 (zero64 _) xn
      have M2 := Lib.hid hm
      have KN := Lib.hid hkn
      have r0 := S2.out.cells.c0
      have r1 := S2.out.cells.c1
      clear hm hkn
      go_wp2_with fail
      generalize wr.alloc (.cells #[.bool xb, .int .i64 xn] 31) = v1 at *
      have t0 := T1.out.c0
      have t1 := T1.out.c1
      go_quiet (fail)
      have hb2 : Below v1.heap.size v1 (v1.drewN nq) := Below.drewN (Below.refl _ _) nq
      have B2 := Lib.hid (B1.out.then_' hb2)
      have S3 := Lib.hid (S2.out.below hb2)
      have M3 := Lib.hid (M2.out.below hb2)
      have T3 := Lib.hid (T1.out.below hb2)
      clear hlook r0 r1 t0 t1 hb2 B1 T1 S2 M2
      generalize v1.drewN nq = v2 at *
      generalize hkd : (mlook E xn).isSome = kn
      generalize (mlook E xn).getD 0 = y
      have HKD := Lib.hid hkd
      clear hkd
      have t0 := T3.out.c0
      have t1 := T3.out.c1
      by_cases hskip : kn = true ∨ xb = false
      · have HST := Lib.hid (find_snoc out HX.out (KN.out.skip (v := (xb, xn)) (by simp only; rw [HKD.out]; exact hskip)))
        have hrel : ∃ (k' : Nat) (a : Option Addr) (n c : Nat), Value.int .i64 ((k : Int) + 1) = .int .i64 k' ∧ k' ≤ un ∧ RSt w0 v2 B rb bm O (findR (thereO O) out (l.take k')) a n c ∧ Vals w0 v2 B (.slice (some ⟨b, o, none⟩) un uc) l ∧ Keep B rb bm w v2 :=
          ⟨k + 1, a1, n1, c1, by go_num, by omega, by rw [HST.out]; exact S3.out, V1.out.below B2.out, K1.out.below B2.out⟩
        have HR := Lib.hid hrel
        clear hrel
        cases kn
        · obtain rfl : xb = false := by simpa using hskip
          go_wp2_with fail
          go_roundw
          case rel => exact HR.out
          case measure => simp [intOf]; omega
        · go_wp2_with fail
          go_roundw
          case rel => exact HR.out
          case measure => simp [intOf]; omega
      · obtain ⟨rfl, rfl⟩ : kn = false ∧ xb = true := by cases kn <;> cases xb <;> simp_all
        clear hskip
        have r0 := S3.out.cells.c0
        have r1 := S3.out.cells.c1
        obtain ⟨v3, hput, hm3, hg3⟩ := (M3.out.below (below_drew v2)).put (P := Try.prog) (T := 52) Try.underlying52 Try.underlying2 xn 0
        have HG3 := Lib.hid ((grown_below (below_drew v2) (some bm)).trans hg3)
        have M4 := Lib.hid hm3
        have hvb : wr.heap.size ≠ bm := by have := M3.out.lt; have := HF.out.m1; have := S1.out.base; omega
        have T4 := Lib.hid (T3.out.grown_ HG3.out (fun e => hvb (Option.some.inj e).symm))
        have C4 := Lib.hid (S3.out.cells.grown_ HG3.out (fun e => HF.out.rm (Option.some.inj e).symm))
        clear hm3 hg3
        go_wp2_with fail
        go_region
        clear hput r0 r1 t0 t1
        have t0 := T4.out.c0
        have t1 := T4.out.c1
        go_wp2_with fail
        have K4 := Lib.hid ((K1.out.below B2.out).grown HG3.out (fun q e => .inr (.inr (Option.some.inj e).symm)))
        have W4 := Lib.hid (S3.out.bel.grown HG3.out S3.out.bel.size (fun q e => by rw [← Option.some.inj e]; exact HF.out.m0))
        have V4 := Lib.hid ((V1.out.below B2.out).low HG3.out HF.out.m1)
        have O4 := Lib.hid (OwnAt.low S3.out.own HG3.out HF.out.m1)
        refine (plain_any bh hv O xn v3 (HF.out.heap.below W4.out) HF.out.short (HH.out.keep K4.out HF.out.h1 HF.out.hr HF.out.hm)).mono ?_
        rintro e v4 ⟨fa, fn, fc, rfl, ho, hb⟩
        have hsz : B ≤ v3.heap.size := Nat.le_trans S3.out.base HG3.out.size
        have N5 := Lib.hid (At2.new v4 (.int .i64 (getO O xn).1) (.slice fa fn fc) 43)
        have b5 := hb.then_' (below1 v4 (.cells #[.int .i64 (getO O xn).1, .slice fa fn fc] 43))
        have F5 := Lib.hid ((VsOwn.mono ho hsz).below (below1 v4 (.cells #[.int .i64 (getO O xn).1, .slice fa fn fc] 43)))
        have B5 := Lib.hid b5
        have T5 := Lib.hid (T4.out.below b5)
        have C5 := Lib.hid (C4.out.below b5)
        have M5 := Lib.hid (M4.out.below b5)
        have K5 := Lib.hid (K4.out.below b5)
        have W5 := Lib.hid (W4.out.then_' b5)
        have V5 := Lib.hid (V4.out.below b5)
        have O5 := Lib.hid (O4.out.below b5)
        have SZ5 := Lib.hid (Nat.le_trans hsz b5.size)
        clear hb b5 ho T4 C4 M4 K4 W4 V4 O4 hsz t0 t1 B2 T3 S3 M3 HG3
        rw [in_there]
        have hin := in_there O xn
        cases hth : thereO O xn with
        | false =>
          obtain ⟨hkn1, hkn2⟩ := KN.out.miss HKD.out hth
          have HST := Lib.hid (find_snoc out HX.out hkn2)
          have hrel : ∃ (k' : Nat) (a : Option Addr) (n c : Nat), Value.int .i64 ((k : Int) + 1) = .int .i64 k' ∧ k' ≤ un ∧ RSt w0 (v4.alloc (.cells #[.int .i64 (getO O xn).1, .slice fa fn fc] 43)) B rb bm O (findR (thereO O) out (l.take k')) a n c ∧ Vals w0 (v4.alloc (.cells #[.int .i64 (getO O xn).1, .slice fa fn fc] 43)) B (.slice (some ⟨b, o, none⟩) un uc) l ∧ Keep B rb bm w (v4.alloc (.cells #[.int .i64 (getO O xn).1, .slice fa fn fc] 43)) :=
            ⟨k + 1, a1, n1, c1, by go_num, by omega, by rw [HST.out]; exact ⟨W5.out, C5.out, O5.out, S1.out.len, ⟨_, M5.out, hkn1⟩, SZ5.out⟩, V5.out, K5.out⟩
          have HR := Lib.hid hrel
          clear hrel hkn1 hkn2 hth hin
          go_wp2_with fail
          go_roundw
          case rel => exact HR.out
          case measure => simp [intOf]; omega
        | true =>
          have hgi := get_id hth
          obtain ⟨hkn1, hkn2⟩ := KN.out.hit HKD.out hth
          have KN7 := Lib.hid hkn1
          have HST := Lib.hid (find_snoc out HX.out hkn2)
          have HGI := Lib.hid hgi
          clear hkn1 hkn2 hth hin hgi
          go_wp2_with fail
          generalize v4.alloc (.cells #[.int .i64 (getO O xn).1, .slice fa fn fc] 43) = v5 at *
          generalize v4.heap.size = nb at *
          obtain ⟨L, ⟨hrow, hvals⟩, hobs⟩ := O5.out
          have hm : n1 = L.length := by obtain ⟨a', c', e⟩ := SlAt.shape (own_sl hrow); exact (Value.slice.inj e).2.1
          have HOBS := Lib.hid hobs
          rw [← hm] at hrow
          have HM := Lib.hid hm
          have hn1 : n1 ≤ 1000000 := by rw [S1.out.len]; exact Nat.le_trans KN.out.le HF.out.short.1
          have hb6 : Below v5.heap.size v5 (v5.alloc (.cells #[.int .i64 (getO O xn).1, .slice fa fn fc] 43)).drew := (below1 v5 _).drew
          have hsz6 : B ≤ (v5.alloc (.cells #[.int .i64 (getO O xn).1, .slice fa fn fc] 43)).drew.heap.size := Nat.le_trans SZ5.out hb6.size
          have N6 := Lib.hid (At2.new v5 (.int .i64 (getO O xn).1) (.slice fa fn fc) 43).drew
          have ROW := Lib.hid (own_below hrow hb6)
          have VALS : Hid (∀ y ∈ L, VsOwn (v5.alloc (.cells #[.int .i64 (getO O xn).1, .slice fa fn fc] 43)).drew B y.fv y.vals) := Lib.hid (fun y hy => (hvals y hy).below hb6)
          have F6 := Lib.hid (F5.out.below hb6)
          have T6 := Lib.hid (T5.out.below hb6)
          have C6 := Lib.hid (C5.out.below hb6)
          have M6 := Lib.hid (M5.out.below hb6)
          have K6 := Lib.hid (K5.out.below hb6)
          have W6 := Lib.hid (W5.out.then_' hb6)
          have V6 := Lib.hid (V5.out.below hb6)
          have SZ6 := Lib.hid hsz6
          have hHB6 := Lib.hid hb6
          clear hrow hvals hobs hm hsz6 hb6
          have r0 := C5.out.c0
          have n0 := N5.out.c0
          have n01 := N5.out.c1
          have rlt := C5.out.lt
          clear T5 M5 K5 W5 V5 O5
          go_region_law (first
            | (refine appO_step rfl _ _ rfl B (.slice a1 n1 c1) n1 (L.flatMap oc) rfl ROW.out _ 1 (oc ⟨(getO O xn).1, .slice fa fn fc, (getO O xn).2⟩) rfl (At2.sl (x := ⟨(getO O xn).1, .slice fa fn fc, (getO O xn).2⟩) N6.out) (At2.one _ _ _ _) (by omega) SZ6.out ?_; intro a7 c7 v7 hown hg hat; have HOWN := Lib.hid hown; have HG7 := Lib.hid hg; have C7 := Lib.hid (C6.out.grown_ hg (fun e => by have h1 := (World.ownsRow.lt ROW.out _ e).1; have h2 := HF.out.r1; omega)); have c70 := C7.out.c0; have c7f := C7.out.f0; clear hown hg hat r0 n0 n01)
            | fail)
          all_goals
            have hrow : ∀ q, (Value.slice a1 n1 c1).ownBlock = some q → B ≤ q := fun q e => (World.ownsRow.lt ROW.out q e).1
            have hrow2 : ∀ q, (Value.slice a1 n1 c1).ownBlock = some q → q < wr.heap.size := fun q e => by obtain ⟨L', ⟨h1, _⟩, _⟩ := S1.out.own; exact (World.ownsRow.lt h1 q e).2
            have hvr : wr.heap.size ≠ rb := by have := S1.out.base; have := HF.out.r1; omega
            have C8 := Lib.hid (C7.out.st0 (.slice a7 (n1 + 1) c7))
            have T8 := Lib.hid ((T6.out.grown_ HG7.out (fun e => by have := hrow2 _ e; omega)).far (p := ⟨rb, 0, none⟩) hvr (.slice a7 (n1 + 1) c7))
            have M8 := Lib.hid ((M6.out.kept HG7.out (fun e => by have := hrow _ e.symm; have := HF.out.m1; omega)).set (p := ⟨rb, 0, none⟩) HF.out.rm (.slice a7 (n1 + 1) c7))
            have K8 := Lib.hid ((K6.out.grown HG7.out (fun q e => .inl (hrow q e))).set (p := ⟨rb, 0, none⟩) rfl (.slice a7 (n1 + 1) c7))
            have W8 := Lib.hid ((W6.out.grown HG7.out W6.out.size (fun q e => by have := hrow q e; have := HF.out.r0; have := HF.out.r1; omega)).setCell (p := ⟨rb, 0, none⟩) HF.out.r0 (.slice a7 (n1 + 1) c7))
            have V8 := Lib.hid ((V6.out.row ROW.out HG7.out).set (p := ⟨rb, 0, none⟩) HF.out.r1 (.slice a7 (n1 + 1) c7))
            have O8 := Lib.hid (own_push (x := ⟨(getO O xn).1, .slice fa fn fc, (getO O xn).2⟩) (u := .slice a7 (n1 + 1) c7) (p := ⟨rb, 0, none⟩) ROW.out VALS.out F6.out HOWN.out HM.out HG7.out HF.out.r1)
            have SZ8 : Hid (B ≤ (v7.setCell ⟨rb, 0, none⟩ (.slice a7 (n1 + 1) c7)).heap.size) := Lib.hid (by rw [size_set]; exact Nat.le_trans SZ6.out HG7.out.size)
            clear C7 T6 M6 K6 W6 V6 ROW VALS F6 HOWN HG7 SZ6 c70 c7f rlt N6 hHB6 hrow hrow2
            generalize v7.setCell ⟨rb, 0, none⟩ (.slice a7 (n1 + 1) c7) = v8 at *
            obtain ⟨v9, hput, hm9, hg9⟩ := (M8.out.below (below_drew v8)).put (P := Try.prog) (T := 52) Try.underlying52 Try.underlying2 xn ((n1 : Int) + 1)
            have HG9 := Lib.hid ((grown_below (below_drew v8) (some bm)).trans hg9)
            have M9 := Lib.hid hm9
            have r0 := C8.out.c0
            have r1 := C8.out.c1
            have t0 := T8.out.c0
            have t1 := T8.out.c1
            clear hm9 hg9
            go_wp2_with fail
            go_region
            go_wp2_with fail
            go_roundw
            case rel =>
              refine ⟨k + 1, a7, n1 + 1, c7, by go_num, by omega, ?_, V8.out.low HG9.out HF.out.m1, K8.out.grown HG9.out (fun q e => .inr (.inr (Option.some.inj e).symm))⟩
              rw [HST.out]
              refine ⟨W8.out.grown HG9.out W8.out.size (fun q e => by rw [← Option.some.inj e]; exact HF.out.m0), C8.out.grown_ HG9.out (fun e => HF.out.rm (Option.some.inj e).symm), ?_, by rw [List.length_append, ← S1.out.len]; rfl, ⟨_, M9.out, by rw [S1.out.len]; exact KN7.out⟩, Nat.le_trans SZ8.out HG9.out.size⟩
              rw [List.map_append, ← HOBS.out]
              exact O8.out.low HG9.out HF.out.m1
            case measure => simp [intOf]; omega
    · obtain rfl : k = un := by omega
      go_wp2_with fail
      go_end0
      have := S1.out
      rw [List.take_of_length_le (Nat.le_of_eq hn.out.symm)] at this
      exact ⟨a1, n1, c1, rfl, this, V1.out, K1.out⟩
end Go.Proofs.Ytbnippldclpclaa
