/- The search. -/
import Derived.Test.YtbnippldclpclaaNAdd
import Derived.Test.YtbnippldclpclaaNSane
namespace Go.Proofs.Ytbnippldclpclaa
open Go.RowKit

def RFind (O : List Ob) (v : Value) (w : World) (e : Ending) (w' : World) : Prop :=
  Below w.heap.size w w' ∧ ∃ bh, w.heap.size ≤ bh ∧ At1 w' bh v ∧ ((e = .returned (.func (.func 28) #[] #[.pointer (some ⟨bh, 0, none⟩)])) ∨ (e = .returned (.func (.func 30) #[] #[.pointer (some ⟨bh, 0, none⟩)]) ∧ ascO 0 O = true))
set_option maxHeartbeats 1000000 in
set_option maxRecDepth 100000 in
theorem finder_any (v : Value) (O : List Ob) (w : World) (h : OAt w v O) (hs : ShortO O) : Calls Try.prog 24 #[.agg #[v]] w (RFind O v w) := by
  obtain ⟨a, n, c, rfl, hn⟩ := h.shape
  have H := Lib.hid h
  have HS := Lib.hid hs
  have B1 := Lib.hid (below1 w (.cells #[.slice a n c] 28))
  have P1 := Lib.hid (At1.new w (.slice a n c) 28)
  have p0 := P1.out.c0
  clear h hs
  go_enter Try.func24, Try.ntmps24
  go_wp2_with fail
  refine (valid_ok (H.out.below B1.out) HS.out).mono ?_
  rintro e w1 ⟨rfl, hb⟩
  have B2 := Lib.hid (B1.out.then_' hb)
  have P2 := Lib.hid (P1.out.below hb)
  clear hb p0
  cases ha : ascO 0 O with
  | false =>
    have HA := Lib.hid ha
    clear ha
    go_wp2_with fail
    go_ret
    exact ⟨B2.out, _, Nat.le_refl _, P2.out, .inl rfl⟩
  | true =>
    have HA := Lib.hid ha
    clear ha
    go_wp2_with fail
    go_ret
    exact ⟨B2.out, _, Nat.le_refl _, P2.out, .inr ⟨rfl, HA.out⟩⟩

/-- the function that adds, with one way or the other to get an object -/
def AddOK (g : Value) (bh : Nat) (hv : Value) (O : List Ob) : Prop := ∀ (w0 : World) (B rb bm : Nat) (out : List Int) (a : Option Addr) (n c : Nat) (u : Value) (l : List V) (w : World), Fix w0 B rb bm bh hv O → RSt w0 w B rb bm O out a n c → Vals w0 w B u l → At1 w bh hv → l.length ≤ 1000000 →
  Calls Try.prog 25 #[.pointer (some ⟨rb, 0, none⟩), u, g] w (RAdd w0 B rb bm O out u l w)
theorem finder_ok (v : Value) (O : List Ob) (w : World) (h : OAt w v O) (hs : ShortO O) : Calls Try.prog 24 #[.agg #[v]] w (fun e w' => ∃ g bh, e = .returned g ∧ Below w.heap.size w w' ∧ w.heap.size ≤ bh ∧ At1 w' bh v ∧ AddOK g bh v O) := by
  refine (finder_any v O w h hs).mono ?_
  rintro e w' ⟨hb, bh, h1, h2, rfl | ⟨rfl, ha⟩⟩
  · exact ⟨_, bh, rfl, hb, h1, h2, fun w0 B rb bm out a n c u l w hF hS hV hH hl => add_plain w0 B rb bm bh v O out a n c u l w hF hS hV hH hl⟩
  · exact ⟨_, bh, rfl, hb, h1, h2, fun w0 B rb bm out a n c u l w hF hS hV hH hl => add_half w0 B rb bm bh v O out a n c u l w hF hS hV hH hl ha⟩
theorem get_flds (O : List Ob) (x : Int) : (getO O x).2 = fldsO O x := look_get O x
theorem flds_short {O : List Ob} (h : ShortO O) (x : Int) : (fldsO O x).length ≤ 1000000 := by
  rw [← get_flds]
  unfold getO
  split
  · rename_i y hy
    exact h.2 y (List.mem_of_getElem? hy)
  · simp

def RExp (O : List Ob) (l : List V) (w : World) (e : Ending) (w' : World) : Prop :=
  ∃ a n c R bm, e = .returned (.agg #[.slice a n c, .map (some bm)]) ∧ ReachO O l R ∧ OAt w' (.slice a n c) (R.map (getO O)) ∧ n = R.length ∧ (∃ E, MapAt w' bm E ∧ Known O R E) ∧ Below w.heap.size w w'
theorem exp_new (w : World) (v : Value) : ∃ W, ((((w.alloc (.cells #[v] 28)).alloc (.cells #[.slice none 0 0, .map none] 54)).alloc (.map #[] 0)).alloc (.cells #[.slice none 0 0, .map (some (w.heap.size + 1 + 1))] 54)) = W ∧
    Below w.heap.size w W ∧ At1 W w.heap.size v ∧ At2 W (w.heap.size + 1) (.slice none 0 0) (.map none) ∧ MapAt W (w.heap.size + 1 + 1) [] ∧ At2 W (w.heap.size + 1 + 1 + 1) (.slice none 0 0) (.map (some (w.heap.size + 1 + 1))) ∧ W.heap.size = w.heap.size + 1 + 1 + 1 + 1 := by
  refine ⟨_, rfl, Below.new (Below.new (Below.new (below1 _ _) _) _) _, (((At1.new _ _ _).alloc _).alloc _).alloc _, ?_, ?_, ?_, by simp⟩
  · have h := At2.new (w.alloc (.cells #[v] 28)) (.slice none 0 0) (.map none) 54
    simp only [World.alloc, Array.size_push] at h ⊢
    exact (h.alloc _).alloc _
  · have h := MapAt.new ((w.alloc (.cells #[v] 28)).alloc (.cells #[.slice none 0 0, .map none] 54))
    simp only [World.alloc, Array.size_push] at h ⊢
    exact h.below (below1 _ _)
  · have h := At2.new (((w.alloc (.cells #[v] 28)).alloc (.cells #[.slice none 0 0, .map none] 54)).alloc (.map #[] 0)) (.slice none 0 0) (.map (some (w.heap.size + 1 + 1))) 54
    simp only [World.alloc, Array.size_push] at h ⊢
    exact h

set_option maxHeartbeats 2000000 in
set_option maxRecDepth 100000 in
theorem explore_any (v u : Value) (O : List Ob) (l : List V) (w : World) (h : OAt w v O) (hu : VsAt w u l) (hs : ShortO O) (hl : l.length ≤ 1000000) :
    Calls Try.prog 19 #[.agg #[v], u] w (RExp O l w) := by
  obtain ⟨va, vn, vc', rfl, hvn⟩ := h.shape
  obtain ⟨ua, uc, rfl⟩ := SlAt.shape hu
  have H := Lib.hid h
  have HU := Lib.hid hu
  have HS := Lib.hid hs
  have HL := Lib.hid hl
  have hmm := @run_makeMap Try.prog
  obtain ⟨W, hW, hB, hP, hR, hM, hC, hz⟩ := exp_new w (.slice va vn vc')
  have HW := Lib.hid hW
  have B1 := Lib.hid hB
  have R1 := Lib.hid hR
  have M1 := Lib.hid hM
  have C1 := Lib.hid hC
  have Z1 := Lib.hid hz
  have p0 := hP.c0
  clear h hu hs hl hW hB hP hR hM hC hz
  go_enter Try.func19, Try.ntmps19
  go_wp2_with fail
  rw [HW.out]
  refine (finder_ok _ O W (H.out.below B1.out) HS.out).mono ?_
  rintro e w1 ⟨g, bh, rfl, hb, hbh, hP, hadd⟩
  have ADD := Lib.hid hadd
  have P2 := Lib.hid hP
  have B2 := Lib.hid (B1.out.then_' hb)
  have R2 := Lib.hid (R1.out.below hb)
  have HF : Hid (Fix w w1.heap.size (w.heap.size + 1 + 1 + 1) (w.heap.size + 1 + 1) bh (.slice va vn vc') O) := by
    have hz := Z1.out
    have hz1 := hb.size
    have hp := hP.lt
    exact Lib.hid ⟨by omega, by omega, by omega, by omega, by omega, by omega, by omega, by omega, H.out, HS.out⟩
  have S2 : Hid (RSt w w1 w1.heap.size (w.heap.size + 1 + 1 + 1) (w.heap.size + 1 + 1) O [] none 0 0) := Lib.hid ⟨B2.out, C1.out.below hb, OwnAt.nil _ _, rfl, ⟨[], M1.out.below hb, Known.nil O⟩, Nat.le_refl _⟩
  have hr1 : w.heap.size + 1 < w1.heap.size := R2.out.lt
  have hbh2 : bh ≠ w.heap.size + 1 := by have := Z1.out; omega
  clear hb hP hadd hbh p0
  go_wp2_with fail
  refine (ADD.out w w1.heap.size _ _ [] none 0 0 _ l w1 HF.out S2.out (.inl HU.out) P2.out HL.out).mono ?_
  rintro e w3 ⟨a3, n3, c3, rfl, hS, -, hK⟩
  have S3 := Lib.hid hS
  have P3 := Lib.hid (P2.out.keep hK HF.out.h1 HF.out.hr HF.out.hm)
  have R3 := Lib.hid (R2.out.keep hK hr1 (by omega) (by omega))
  clear hS hK S2 P2 R2
  go_wp2_with fail
  go_loopw [7] (fun iv wr => ∃ (i : Nat) (out : List Int) (a : Option Addr) (n c : Nat), iv = .int .i64 i ∧ i ≤ n ∧ RSt w wr w1.heap.size (w.heap.size + 1 + 1 + 1) (w.heap.size + 1 + 1) O out a n c ∧ At1 wr bh (.slice va vn vc') ∧ At2 wr (w.heap.size + 1) (.slice none 0 0) (.map none) ∧ Hid (∀ R, Reaches (thereO O) (fldsO O) i out R → ReachO O l R)) (fun iv _ => O.length - (intOf iv).toNat)
  case atStart => exact ⟨0, _, a3, n3, c3, rfl, Nat.zero_le _, S3.out, P3.out, R3.out, fun R h => h⟩
  case round =>
    clear S3 P3 R3
    obtain ⟨i, out, a, n, c, rfl, hi, hS, hP, hR, hQ⟩ := hrel
    have S4 := Lib.hid hS
    have P4 := Lib.hid hP
    have R4 := Lib.hid hR
    obtain ⟨E, hE1, hE2⟩ := hS.map
    have hnO : n ≤ O.length := by rw [hS.len]; exact hE2.le
    have hnb : n ≤ 1000000 := Nat.le_trans hnO HS.out.1
    have r0 := hS.cells.c0
    have r1 := hS.cells.c1
    obtain ⟨L, ⟨hrow, hvals⟩, hobs⟩ := hS.own
    have hnL : n = L.length := by obtain ⟨a', c', e⟩ := SlAt.shape (own_sl hrow); exact (Value.slice.inj e).2.1
    have NL := Lib.hid hnL
    by_cases hlt : i < n
    · obtain ⟨x, hx⟩ : ∃ x, L[i]? = some x := ⟨_, List.getElem?_eq_getElem (by omega)⟩
      obtain ⟨id, hid⟩ : ∃ id, out[i]? = some id := ⟨_, List.getElem?_eq_getElem (by rw [← hS.len]; exact hlt)⟩
      have hxo : x.ob = getO O id := by
        have h1 : (obs L)[i]? = some x.ob := by rw [get_obs, hx]; rfl
        rw [hobs, List.getElem?_map, hid] at h1
        exact (Option.some.inj h1).symm
      have hxv : x.vals = fldsO O id := by rw [← get_flds, ← hxo]; rfl
      have hV : VsOwn wr w1.heap.size x.fv (fldsO O id) := by rw [← hxv]; exact hvals x (List.mem_of_getElem? hx)
      obtain ⟨b, o, c', hv, hbl, hc0, hc1⟩ := OsAt.elem ⟨own_sl hrow, fun y hy => (hvals y hy).at_⟩ hx
      obtain ⟨rfl, -, rfl⟩ := Value.slice.inj hv
      obtain ⟨fa, fc, hfv⟩ := SlAt.shape hV.at_
      rw [hfv] at hc1 hV
      have VV := Lib.hid hV
      have ID := Lib.hid hid
      have QQ := Lib.hid (fun R h => hQ.out R (Reaches.step hid h))
      have hin : (i : Int) < (n : Int) := by omega
      clear hS hP hR hQ hE1 hE2 hrow hvals hobs hnL hx hid hxo hxv hV hv hfv hc0 NL
      go_wp2_with fail
      refine (ADD.out w w1.heap.size _ _ out _ n c _ (fldsO O id) wr HF.out S4.out (.inr VV.out) P4.out (flds_short HS.out id)).mono ?_
      rintro e w5 ⟨a5, n5, c5, rfl, hS, -, hK⟩
      have S5 := Lib.hid hS
      have P5 := Lib.hid (P4.out.keep hK HF.out.h1 HF.out.hr HF.out.hm)
      have R5 := Lib.hid (R4.out.keep hK hr1 (by omega) (by omega))
      have hgrow : i + 1 ≤ n5 := by
        have h1 := hS.len
        have h2 := (findR_pre (thereO O) out (fldsO O id)).length_le
        have h3 := S4.out.len
        omega
      clear hS hK r0 r1 hc1
      go_wp2_with fail
      go_roundw
      case rel => exact ⟨i + 1, _, a5, n5, c5, by go_num, hgrow, S5.out, P5.out, R5.out, QQ.out⟩
      case measure => simp [intOf]; omega
    · obtain rfl : i = n := by omega
      have hO := hS.own
      have OO := Lib.hid hO
      have QQ := Lib.hid (hQ.out out (Reaches.done (by rw [← hS.len]; exact Nat.le_refl _)))
      have LL := Lib.hid hS.len
      have EE : Hid (∃ E, MapAt wr (w.heap.size + 1 + 1) E ∧ Known O out E) := Lib.hid ⟨E, hE1, hE2⟩
      have WW := Lib.hid hS.bel
      obtain ⟨q0, q1, q2, q3, _⟩ := hR
      clear hS hP hQ hE1 hE2 hrow hvals hobs hnL hO
      go_wp2_with fail
      refine bodyPost_ret (v := .agg #[.slice a i c, .map (some (w.heap.size + 1 + 1))]) (by simp [results, Try.results19, go_sem, q0, q1]) rfl ?_
      refine ⟨a, i, c, out, _, rfl, QQ.out, ?_, LL.out, ?_, ?_⟩
      · exact ((OO.out.set (p := ⟨w.heap.size + 1, 0, none⟩) hr1 _).set (p := ⟨w.heap.size + 1, 1, none⟩) hr1 _).at_
      · obtain ⟨E, h1, h2⟩ := EE.out
        exact ⟨E, (h1.set (p := ⟨w.heap.size + 1, 0, none⟩) (by simp) _).set (p := ⟨w.heap.size + 1, 1, none⟩) (by simp) _, h2⟩
      · exact (WW.out.setCell (p := ⟨w.heap.size + 1, 0, none⟩) (Nat.le_succ _) _).setCell (p := ⟨w.heap.size + 1, 1, none⟩) (Nat.le_succ _) _
end Go.Proofs.Ytbnippldclpclaa
