/- CanonRenamed, walked. -/
import Derived.Test.YtbnippldclpclaaNGarb
import Derived.Deep.DeepCutAuto
namespace Go.Proofs.Ytbnippldclpclaa
open Go.RowKit

theorem putAll_short (nm : Int → Int) (l : List Ob) : ∀ (acc : List Ob), ShortO acc → acc.length + l.length ≤ 1000 → (∀ o ∈ l, o.2.length ≤ 1000000) → ShortO (putAll nm acc l) := by
  induction l with
  | nil => intro acc h _ _; exact h
  | cons o l ih =>
    intro acc h hl ho
    simp only [List.length_cons] at hl
    refine ih (putO acc (newO nm o)) (putO_short h (by omega) (by simp [newO]; exact ho o (List.mem_cons_self ..))) ?_ (fun x hx => ho x (List.mem_cons_of_mem _ hx))
    have := putO_len acc (newO nm o)
    omega
theorem putAll_snoc (nm : Int → Int) (acc l : List Ob) (x : Ob) : putAll nm acc (l ++ [x]) = putO (putAll nm acc l) (newO nm x) := by
  unfold putAll
  rw [List.foldl_append]
  rfl
theorem put_take (nm : Int → Int) {O : List Ob} {k : Nat} {i : Int} {l : List V} (h : O[k]? = some (i, l)) : putO (putAll nm [] (O.take k)) (nm i, l.map (newV nm)) = putAll nm [] (O.take (k + 1)) := by
  rw [take_snoc h, putAll_snoc]
  rfl
theorem nm_ne (add : Nat) (turn : Bool) {O : List Ob} (h : MadeH O) : ∀ o ∈ O, nmI add turn o.1 ≠ 0 := by
  intro o ho
  have h1 := h.le o ho
  have h2 := asc_gt h.asc o ho
  unfold nmI
  split <;> omega
theorem nm_short (add : Nat) (turn : Bool) {O : List Ob} (h : MadeH O) (k : Nat) : ShortO (putAll (nmI add turn) [] (O.take k)) :=
  putAll_short _ _ [] ⟨by simp, by simp⟩ (by have := h.len; simp; omega) (fun o ho => by have := (h.ok o (List.mem_of_mem_take ho)).1; omega)
theorem nm_all_short (add : Nat) (turn : Bool) {O : List Ob} (h : MadeH O) : ShortO (putAll (nmI add turn) [] O) :=
  putAll_short _ _ [] ⟨by simp, by simp⟩ (by have := h.len; simp; omega) (fun o ho => by have := (h.ok o ho).1; omega)
theorem two_ok {x y : V} (hx : OkV x) (hy : OkV y) : ∀ v ∈ [x, y], OkV v := fun v hv => by
  rcases List.mem_cons.1 hv with rfl | hv
  · exact hx
  · simp at hv; subst hv; exact hy
theorem v_set0 {w : World} {z : Nat} {v u : Value} {l : List V} (h : VsAt w v l) {a : Option Addr} {m c : Nat} (hz : At1 w z (.slice a m c)) : VsAt (w.setCell ⟨z, 0, none⟩ u) v l :=
  sl_set0 h hz.c0 (by cases l <;> simp [vc])
theorem keepX {w w' : World} {x y : Nat} {u u0 u1 : Value} (hx : At1 w x u) (hy : At2 w y u0 u1) (hb : Below w.heap.size w w') : w'.cell? ⟨x, 0, none⟩ = some u ∧ w'.cell? ⟨y, 0, none⟩ = some u0 ∧ w'.cell? ⟨y, 1, none⟩ = some u1 := ⟨(hx.below hb).c0, (hy.below hb).c0, (hy.below hb).c1⟩

set_option maxHeartbeats 4000000 in
set_option maxRecDepth 100000 in
theorem canonRenamed_walk (hC : CanonOK) (hR : ReachOK) (a : Option Addr) (n c add : Nat) (turn : Bool) (w : World) (h : BytesAt w a n c) (ha : add ≤ 255) :
    Calls Try.prog 4 #[.slice a n c, .int .u8 (add : Int), .bool turn] w (RetB w true) := by
  have HC := Lib.hid hC
  have HR := Lib.hid hR
  have H := Lib.hid h
  clear hC hR h
  go_enter Try.func4, Try.ntmps4
  go_wp2_with fail
  refine (sane4_any HC.out HR.out _).mono ?_
  rintro e w1 ⟨rfl, hb⟩
  have B := Lib.hid hb
  clear hb
  go_wp2_with fail
  refine (new_ok a n c _ (H.out.below B.out)).mono ?_
  rintro e w2 ⟨rfl, hd, hb⟩
  have hbw : w.heap.size ≤ w1.heap.size := B.out.size
  replace B := Lib.hid (B.out.then_' hb)
  have D := Lib.hid hd
  clear hd hb
  go_wp2_with fail
  refine (made_heap w1.heap.size w2 D.out).mono ?_
  rintro e w3 ⟨a1, n1, c1, O, rfl, ho, hm, hr⟩
  have HM := Lib.hid hm
  have b1 := below1 w3 (.cells #[.slice a1 n1 c1] 28)
  have R3 := Lib.hid (hr.below b1)
  have HO := Lib.hid (ho.below b1)
  have hlt2 : w1.heap.size < w2.heap.size := D.out.lt
  have P := Lib.hid (At1.new w3 (.slice a1 n1 c1) 28)
  have hpb : w3.heap.size ≠ w1.heap.size := by have := hr.grown.size; omega
  replace B := Lib.hid (hr.base B.out hbw |>.then_' b1)
  clear ho hm hr b1
  go_wp2_with fail
  generalize w3.alloc (.cells #[.slice a1 n1 c1] 28) = w4 at *
  refine (made_value w1.heap.size w4 R3.out.dice).mono ?_
  rintro e w5 ⟨⟨x1, x2⟩, hx, rfl, hr⟩
  have HX := Lib.hid hx
  replace R3 := Lib.hid (R3.out.then_ hr)
  replace HO := Lib.hid (own_in HO.out hr hlt2)
  replace P := Lib.hid (P.out.rolls hr hpb)
  replace B := Lib.hid (hr.base B.out hbw)
  clear hx hr
  go_wp2_with fail
  refine (made_value w1.heap.size w5 R3.out.dice).mono ?_
  rintro e w6 ⟨⟨y1, y2⟩, hy, rfl, hr⟩
  have HY := Lib.hid hy
  have b1 := below1 w6 (.cells #[.bool x1, .int .i64 x2, .bool y1, .int .i64 y2] 31)
  replace HO := Lib.hid ((own_in HO.out hr hlt2).below b1)
  replace P := Lib.hid ((P.out.rolls hr hpb).below b1)
  replace B := Lib.hid ((hr.base B.out hbw).then_' b1)
  have V := Lib.hid (vs_two w6 (x1, x2) (y1, y2))
  clear hy hr b1 R3
  have hz7 : (w6.alloc (.cells #[.bool x1, .int .i64 x2, .bool y1, .int .i64 y2] 31)).heap.size = w6.heap.size + 1 := by simp
  have X := Lib.hid (At1.new (w6.alloc (.cells #[.bool x1, .int .i64 x2, .bool y1, .int .i64 y2] 31)) (.slice none 0 0) 28)
  have BX := Lib.hid (below1 (w6.alloc (.cells #[.bool x1, .int .i64 x2, .bool y1, .int .i64 y2] 31)) (.cells #[.slice none 0 0] 28))
  have p0 := (P.out.alloc (.cells #[.slice none 0 0] 28)).c0
  go_wp2_with fail
  rw [hz7] at X
  clear p0
  generalize w6.alloc (.cells #[.bool x1, .int .i64 x2, .bool y1, .int .i64 y2] 31) = w7 at *
  have HZ7 := Lib.hid hz7
  clear hz7
  have hwx : w.heap.size ≤ w6.heap.size + 1 := by rw [← HZ7.out]; exact B.out.size
  obtain ⟨L, hL, hobs⟩ := HO.out.at_
  have HL := Lib.hid hL
  have HOBS := Lib.hid hobs
  have hn1 : Hid (n1 = O.length) := Lib.hid HO.out.at_.len
  have hn5 : n1 ≤ 5 := by rw [hn1.out]; exact HM.out.len
  clear hL hobs
  go_loopw [12, 31] (fun _ i_ wr => ∃ (k : Nat) (a' : Option Addr) (m' c' : Nat), k ≤ n1 ∧ i_ = .int .i64 k ∧ At1 wr (w6.heap.size + 1) (.slice a' m' c') ∧ OAt wr (.slice a' m' c') (putAll (nmI add turn) [] (O.take k)) ∧ Below w7.heap.size w7 wr) (fun _ i_ _ => n1 - (intOf i_).toNat)
  case atStart => exact ⟨0, none, 0, 0, Nat.zero_le _, rfl, X.out, OAt.nil _, BX.out⟩
  case round =>
    clear X BX
    obtain ⟨k, a', m', c', hk, rfl, hX, hOx, hb⟩ := hrel
    have X1 := Lib.hid hX
    have O1 := Lib.hid hOx
    have B1 := Lib.hid hb
    clear hX hOx
    by_cases hlt : k < n1
    · obtain ⟨x, hx⟩ : ∃ x, L[k]? = some x := ⟨_, List.getElem?_eq_getElem (by rw [← obs_len, HOBS.out, ← hn1.out]; exact hlt)⟩
      obtain ⟨b, o, c2, hv, hbl, hc0, hc1⟩ := (HL.out.below hb).elem hx
      obtain ⟨rfl, hv2, rfl⟩ := Value.slice.inj hv
      have hxs := (HL.out.below hb).2 x (List.mem_of_getElem? hx)
      have hxO : O[k]? = some (x.id, x.vals) := by rw [← HOBS.out]; exact obs_at hx
      obtain ⟨xi, xv, xl⟩ := x
      simp only at hc0 hc1 hxs hxO
      obtain ⟨xa, xn, xc, rfl, hxn⟩ := hxs.shape
      have HXS := Lib.hid hxs
      have HXO := Lib.hid hxO
      have hmem := List.mem_of_getElem? hxO
      have hok := HM.out.ok _ hmem
      have hxl : xl.length ≤ 1000 := by have := hok.1; simp only at this; omega
      have HOK : Hid (∀ v ∈ xl, OkV v) := Lib.hid hok.2
      have hid1 : -1000 ≤ xi := by have := asc_gt HM.out.asc _ hmem; simp only at this; omega
      have hid2 : xi ≤ 1000 := by have := HM.out.le _ hmem; simp only at this; omega
      have hki : (k : Int) < (n1 : Int) := by omega
      have hltx := X1.out.lt
      clear hv hv2 hb hx hxs hxO hmem hok
      go_wp2_with fail
      have T := Lib.hid (At2.new wr (.int .i64 xi) (.slice xa xn xc) 43)
      have b1 := below1 wr (.cells #[.int .i64 xi, .slice xa xn xc] 43)
      have X2 := Lib.hid (X1.out.below b1)
      have O2 := Lib.hid (O1.out.below b1)
      have B2 := Lib.hid (B1.out.then_' b1)
      have HXS2 := Lib.hid (HXS.out.below b1)
      have hne : wr.heap.size ≠ w6.heap.size + 1 := by omega
      generalize wr.alloc (.cells #[.int .i64 xi, .slice xa xn xc] 43) = wa at *
      clear b1 hc0 hc1 hbl X1 O1 B1 HXS
      have p0 := X2.out.c0
      have t0 := T.out.c0
      have t1 := T.out.c1
      have QB := Lib.hid (below_drew wa)
      go_region_law (first
        | (go_simp; go_at_call 16; refine (name4_any xi add turn _ hid1 hid2 ha).mono ?_; rintro e wx ⟨rfl, rfl⟩)
        | (go_simp; go_at_call 17; refine (named4_any _ xl add turn _ (HXS2.out.below QB.out) hxl HOK.out ha).mono ?_; rintro e wx ⟨a4, n4, c4, rfl, h4, hb4⟩; have QB := Lib.hid (QB.out.then_' hb4); have H4 := Lib.hid h4.at_; obtain ⟨f0, f1, f2⟩ := keepX X2.out T.out QB.out; clear h4 hb4)
        | (go_simp; go_at_call 15; refine (rput_ok (nmI add turn xi) (xl.map (newV (nmI add turn))) (O2.out.below QB.out) H4.out (nm_short add turn HM.out k) (by rw [List.length_map]; omega)).mono ?_; rw [put_take _ HXO.out]; rintro e wx ⟨a5, n5, c5, rfl, h5, hb5⟩; have QB := Lib.hid (QB.out.then_' hb5); have H5 := Lib.hid h5; have hX5 := X2.out.below QB.out; have X5 := Lib.hid hX5; have xf := hX5.f0; have xcc := hX5.c0; clear h5 hb5 hX5)
        | fail)
      all_goals
        go_wp2
        go_roundw
        case rel => exact ⟨k + 1, a5, n5, c5, by omega, by go_num, X5.out.put _, o_set0 H5.out X5.out, (B2.out.then_' QB.out).setCell (p := ⟨w6.heap.size + 1, 0, none⟩) (Nat.le_of_eq HZ7.out) _⟩
        case measure => simp [intOf]; omega
    · obtain rfl : k = n1 := by omega
      have e1 : O.take k = O := List.take_of_length_le (Nat.le_of_eq hn1.out.symm)
      rw [e1] at O1
      have PX := Lib.hid (P.out.below hb)
      have HOX := Lib.hid (HO.out.below hb)
      have VX := Lib.hid (V.out.below hb)
      have BB := Lib.hid (B.out.then_' hb)
      have p0 := PX.out.c0
      clear hb e1
      go_wp2_with fail
      refine (HC.out _ _ O [(x1, x2), (y1, y2)] wr HOX.out.at_ VX.out HM.out.short (len2 _ _)).mono ?_
      rintro e w9 ⟨R, a2, n2, c2, a3, n3, c3, hreach, rfl, h1, h2, hb⟩
      have HRe := Lib.hid hreach
      have HRn := Lib.hid (canon_renamed (nmI add turn) (nmI_inj add turn) (nm_ne add turn HM.out) HM.out.asc HRe.out)
      have b1 := hb.then_' (below1 w9 (.cells #[.slice a2 n2 c2] 28))
      have B2 := Lib.hid (BB.out.then_' b1)
      have X2 := Lib.hid (X1.out.below b1)
      have O2 := Lib.hid (O1.out.below b1)
      have V2 := Lib.hid (VX.out.below b1)
      have HA := Lib.hid (h1.below (below1 w9 (.cells #[.slice a2 n2 c2] 28)))
      have VA := Lib.hid (h2.below (below1 w9 (.cells #[.slice a2 n2 c2] 28)))
      have PA := Lib.hid (At1.new w9 (.slice a2 n2 c2) 28)
      clear hreach hb b1 h1 h2 p0
      go_upto_region 13 with (fail)
      generalize w9.alloc (.cells #[.slice a2 n2 c2] 28) = wb at *
      have HS := Lib.hid (nm_all_short add turn HM.out)
      have HSA := Lib.hid (canonL_short HM.out.short (reach_len HRe.out))
      have HOK : Hid (∀ v ∈ [(x1, x2), (y1, y2)], OkV v) := Lib.hid (two_ok HX.out HY.out)
      have hx0 := X2.out.c0
      have hzx : w6.heap.size + 1 < wb.heap.size := X2.out.lt
      go_cut [15, 16] (fun bp mv wx => ∃ (z : Nat) (a5 : Option Addr) (n5 c5 : Nat) (a6 : Option Addr) (n6 c6 : Nat), bp = .pointer (some ⟨z, 0, none⟩) ∧ mv = .slice a6 n6 c6 ∧ At1 wx z (.slice a5 n5 c5) ∧ OAt wx (.slice a5 n5 c5) (canonL (fldsO O) R) ∧ VsAt wx (.slice a6 n6 c6) ([(x1, x2), (y1, y2)].map (turnV R)) ∧ Below wb.heap.size wb wx)
      case first =>
        have QB := Lib.hid (below_drew wb)
        go_region_held3 (fun wx => wx.cell? ⟨w6.heap.size + 1, 0, none⟩ = some (.slice a' m' c')) (first | exact hx0 | exact (X2.out.below QB.out).c0 | exact (X2.out.below (Below.new QB.out _)).c0 | exact (X2.out.below (set1 QB.out hzz _)).c0 | fail) (first
          | (go_at_call 17; refine (named4_any _ [(x1, x2), (y1, y2)] add turn _ (V2.out.below (by first | exact QB.out | exact Below.new QB.out _)) (by simp) HOK.out ha).mono ?_; rintro e wx ⟨a4, n4, c4, rfl, h4, hb4⟩; (first | (have hzz : wb.heap.size ≤ wb.heap.size := Nat.le_refl _; have HZ : Hid (At1 wx wb.heap.size (.slice none 0 0)) := Lib.hid (by have hh := At1.below (At1.drew (At1.new _ _ _)) hb4; exact hh)) | skip); have QB := Lib.hid (Below.then_' (by first | exact QB.out | exact Below.new QB.out _) hb4); have H4 := Lib.hid h4.at_; clear h4 hb4)
          | (go_at_call 10; refine (canon3 HC.out (O2.out.below (by first | exact QB.out | exact Below.new QB.out _)) (by first | exact H4.out | exact H4.out.below (below1 _ _)) HS.out (by simp) HRn.out.1 HRn.out.2.1 HRn.out.2.2).mono ?_; rintro e wy ⟨a5, n5, c5, a6, n6, c6, rfl, h5, h6, hb5⟩; have H5 := Lib.hid h5; have H6 := Lib.hid h6; (first | (have HZ : Hid (At1 wy wb.heap.size (.slice none 0 0)) := Lib.hid (At1.below HZ.out hb5)) | (have hzz : wb.heap.size ≤ wx.heap.size := QB.out.size; have HZ : Hid (At1 wy wx.heap.size (.slice none 0 0)) := Lib.hid (by have hh := At1.below (At1.new _ _ _) hb5; exact hh)) | skip); have QB := Lib.hid (Below.then_' (by first | exact QB.out | exact Below.new QB.out _) hb5); (first | (have hz0 := HZ.out.c0; have hzf0 := HZ.out.f0; have hzl := HZ.out.lt) | skip); (first | (have hy0 : wy.cell? ⟨wb.drew.heap.size, 0, none⟩ = some (.slice none 0 0) := hz0; have hyf0 : wy.frozen? ⟨wb.drew.heap.size, 0, none⟩ = false := hzf0) | skip); clear h5 h6 hb5)
          | fail)
        all_goals
          go_wp2
          go_meet
          case rel =>
            first
              | exact ⟨_, _, _, _, _, _, _, rfl, rfl, At1.new _ _ _, H5.out.below (below1 _ _), H6.out.below (below1 _ _), Below.new QB.out _⟩
              | exact ⟨_, _, _, _, _, _, _, rfl, rfl, HZ.out.put _, o_set0 H5.out HZ.out, v_set0 H6.out HZ.out, set1 QB.out hzz _⟩
      case rest =>
        obtain ⟨z, a5, n5, c5, a6, n6, c6, rfl, rfl, hz, ho, hv, hbx⟩ := hcut
        have PB := Lib.hid hz
        have HB := Lib.hid ho
        have VB := Lib.hid hv
        have PA2 := Lib.hid (PA.out.below hbx)
        have HA2 := Lib.hid (HA.out.below hbx)
        have VA2 := Lib.hid (VA.out.below hbx)
        have B3 := Lib.hid (B2.out.then_' hbx)
        have p0 := PA2.out.c0
        have p1 := PB.out.c0
        clear hz ho hv hbx hx0
        go_wp2_with fail
        refine (same_t HA2.out HB.out HSA.out).mono ?_
        rintro e w13 ⟨rfl, hb⟩
        have B4 := Lib.hid (B3.out.then_' hb)
        have VA3 := Lib.hid (VA2.out.below hb)
        have VB3 := Lib.hid (VB.out.below hb)
        clear hb p0 p1
        go_wp2_with fail
        refine (values_t VA3.out VB3.out (len2' _ _ _)).mono ?_
        rintro e w14 ⟨rfl, hb⟩
        go_wp2
        go_ret
        exact ⟨rfl, B4.out.then_' hb⟩
end Go.Proofs.Ytbnippldclpclaa
