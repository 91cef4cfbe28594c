/- Put of the reference. -/
import Derived.Test.YtbnippldclpclaaHPut
import Derived.Deep.DeepCutAuto
namespace Go.Proofs.Ytbnippldclpclaa
open Go.RowKit

/-- the place of an object, or where it is put -/
def putK (L : List Lob) (id : Int) : Nat := if isIn L id then idx L id else pos L id
theorem isIn_not {L : List Lob} {id : Int} (h : isIn L id = false) {k : Nat} {x : Lob} (hk : L[k]? = some x) : x.id ≠ id := by
  intro e
  have h' : ¬ idx L id < L.length := of_decide_eq_false h
  have hlt := (List.getElem?_eq_some_iff.1 hk).1
  have h1 : k < idx L id := by have := idx_le L id; omega
  have h2 := idx_here hk (Nat.le_of_lt h1) (by simp [e])
  omega
theorem putK_le (L : List Lob) (id : Int) : putK L id ≤ L.length := by
  unfold putK
  split
  · exact idx_le L id
  · exact pos_le L id
theorem four_new (w : World) (p q r s t : Value) (t1 t2 t3 t4 : TypeId) : ∃ W, (((w.alloc (.cells #[p] t1)).alloc (.cells #[q, r] t2)).alloc (.cells #[s] t3)).alloc (.cells #[t] t4) = W ∧ Below w.heap.size w W ∧ At1 W w.heap.size p ∧ At2 W (w.heap.size + 1) q r ∧ At1 W (w.heap.size + 1 + 1) s ∧ At1 W (w.heap.size + 1 + 1 + 1) t ∧ W.heap.size = w.heap.size + 4 :=
  ⟨_, rfl, Below.new (Below.new (Below.new (below1 _ _) _) _) _, (((At1.new _ _ _).alloc _).alloc _).alloc _, by simpa using ((At2.new (w.alloc (.cells #[p] t1)) q r t2).alloc _).alloc _, by simpa using (At1.new ((w.alloc (.cells #[p] t1)).alloc (.cells #[q, r] t2)) s t3).alloc _, by simpa using At1.new (((w.alloc (.cells #[p] t1)).alloc (.cells #[q, r] t2)).alloc (.cells #[s] t3)) t t4, by simp⟩

theorem OsAt.drop_ {w : World} {b o n c k : Nat} {L : List Lob} (h : OsAt w (.slice (some ⟨b, o, none⟩) n c) L) (hn : n = L.length) (hk : k < n) : SlAt w 2 (.slice (some ⟨b, o + k * 2, none⟩) (n - k) (c - k)) (n - k) ((L.drop k).flatMap oc) := by
  have hcap := SlAt.cap h.1
  refine .inr ⟨_, _, rfl, by omega, by rw [oc_len, List.length_drop, ← hn], fun j u hj => ?_⟩
  rw [flat_drop, List.getElem?_drop] at hj
  rw [addr_add, Nat.add_assoc]
  exact h.cells_ _ u hj
theorem At2.sl {w : World} {b : Nat} {x : Lob} (h : At2 w b (.int .i64 x.id) x.fv) : SlAt w 2 (.slice (some ⟨b, 0, none⟩) 1 1) 1 (oc x) := .inr ⟨_, 1, rfl, Nat.le_refl _, rfl, h.src⟩
theorem At2.one (id : Int) (a : Option Addr) (n c : Nat) {l : List V} : ∀ u ∈ oc ⟨id, .slice a n c, l⟩, u.oneCell' = true := by
  intro u hu
  simp [oc] at hu
  rcases hu with rfl | rfl <;> rfl
theorem At1.belowB {w w' : World} {b B : Nat} {u0 : Value} (h : At1 w b u0) (hb : Below B w w') (hB : b < B) : At1 w' b u0 :=
  ⟨(hb.cell (p := ⟨b, 0, none⟩) hB).trans h.c0, (hb.frozen (p := ⟨b, 0, none⟩) hB).trans h.f0, Nat.lt_of_lt_of_le h.lt hb.size⟩
theorem At1.put {w : World} {b : Nat} {u : Value} (h : At1 w b u) (v : Value) : At1 (w.setCell ⟨b, 0, none⟩ v) b v :=
  ⟨World.cell?_setCell_same' _ _ _ (by rw [h.c0]; rfl), by simpa using h.f0, by simpa [World.setCell] using h.lt⟩
theorem OsAt.take_ {w : World} {a : Option Addr} {n c : Nat} {L : List Lob} (h : OsAt w (.slice a n c) L) (hn : n = L.length) {k : Nat} (hk : k ≤ n) : SlAt w 2 (.slice a k c) k ((L.take k).flatMap oc) := by
  rcases h.1 with ⟨e, h0, h1⟩ | ⟨ad, c', e, hnc, hl, hc⟩
  · obtain ⟨rfl, rfl, rfl⟩ := Value.slice.inj e
    obtain rfl : k = 0 := by omega
    exact .inl ⟨rfl, rfl, by simp⟩
  · obtain ⟨rfl, rfl, rfl⟩ := Value.slice.inj e
    refine .inr ⟨ad, c, rfl, by omega, by rw [oc_len, List.length_take]; omega, fun j u hj => ?_⟩
    rw [flat_take, List.getElem?_take] at hj
    split at hj
    · exact hc j u hj
    · cases hj
theorem rput_obs (L : List Lob) (x : Lob) (K K2 : Nat) (hK : putK L x.id = K) (hK2 : K2 = if isIn L x.id then K + 1 else K) : obs (L.take K ++ x :: L.drop K2) = putD L x.ob := by
  have h1 : obs (L.take K ++ x :: L.drop K2) = (obs L).take K ++ x.ob :: (obs L).drop K2 := by unfold obs; rw [List.map_append, List.map_cons, List.map_take, List.map_drop]
  rw [h1]
  unfold putD
  show _ = if isIn L x.id = true then (obs L).set (idx L x.id) x.ob else _
  unfold putK at hK
  cases hin : isIn L x.id with
  | true =>
    rw [hin] at hK hK2
    simp only [if_true] at hK hK2 ⊢
    subst hK hK2
    have hlt : idx L x.id < L.length := of_decide_eq_true hin
    rw [List.set_eq_take_append_cons_drop, if_pos (by rw [obs_len]; exact hlt)]
  | false =>
    rw [hin] at hK hK2
    simp only [Bool.false_eq_true, if_false] at hK hK2 ⊢
    subst hK hK2
    rfl
/-- what Put of the reference gives: the row is its own, and each object's values are an old object's or lie in a row of its own -/
def RetPW (L : List Lob) (w : World) (O : List Ob) (e : Ending) (w' : World) : Prop := ∃ v M, e = .returned (.agg #[v]) ∧ w'.ownsRow w.heap.size 43 2 v M.length (M.flatMap oc) ∧ (∀ y ∈ M, y ∈ L ∨ VsOwn w' w.heap.size y.fv y.vals) ∧ obs M = O ∧ Below w.heap.size w w'
theorem RetPW.RetP {L : List Lob} {w : World} {O : List Ob} {e : Ending} {w' : World} (h : RetPW L w O e w') (hL : ∀ x ∈ L, VsAt w x.fv x.vals) : RetP w O e w' := by
  obtain ⟨v, M, rfl, h1, h2, h3, h4⟩ := h
  exact ⟨v, M, rfl, ⟨own_sl h1, fun y hy => by rcases h2 y hy with h | h; exact (hL y h).below h4; exact h.at_⟩, h3, h4⟩
theorem rput_fin {w wc w7 : World} {wq n c K K2 m c5 c7 n3 c3 : Nat} {a a5 a7 a3 : Option Addr} {L : List Lob} {i : Int} {l : List V} (_H : OsAt w (.slice a n c) L) (hn : n = L.length)
    (hK : putK L i = K) (hK2 : K2 = if isIn L i then K + 1 else K) (hKn : K ≤ n) (hz : w.heap.size + 4 ≤ wq)
    (hx : VsOwn wc wq (.slice a3 n3 c3) l) (hap : ∀ g, (Value.slice a3 n3 c3).ownBlock = some g → (Value.slice a5 (K + 1) c5).ownBlock ≠ some g) (hb : Below w.heap.size w wc)
    (ho : w7.ownsRow wq 43 2 (.slice a7 m c7) m ((L.take K).flatMap oc ++ oc ⟨i, .slice a3 n3 c3, l⟩ ++ (L.drop K2).flatMap oc)) (hm : m = K + 1 + (n - K2)) (hg : wc.drew.grownBy w7 (Value.slice a5 (K + 1) c5).ownBlock) (hb7 : Below wq wc.drew w7) (u v : Value) :
    RetPW L w (putD L (i, l)) (.returned (.agg #[.slice a7 m c7])) ((w7.setCell ⟨w.heap.size + 1 + 1 + 1, 0, none⟩ u).setCell ⟨w.heap.size + 1 + 1, 0, none⟩ v) := by
  have hx7 : VsOwn w7 wq (.slice a3 n3 c3) l := World.ownsRow.kept (w := wc.drew) hx hg (by
    cases hh : (Value.slice a3 n3 c3).ownBlock with
    | none => exact .inl rfl
    | some g => exact .inr (fun e => hap g hh e.symm))
  have hbf : Below w.heap.size w ((w7.setCell ⟨w.heap.size + 1 + 1 + 1, 0, none⟩ u).setCell ⟨w.heap.size + 1 + 1, 0, none⟩ v) :=
    ((hb.drew.trans (hb7.mono (by omega))).setCell (show w.heap.size ≤ w.heap.size + 1 + 1 + 1 by omega) _).setCell (show w.heap.size ≤ w.heap.size + 1 + 1 by omega) _
  have hlen : (L.take K ++ ⟨i, .slice a3 n3 c3, l⟩ :: L.drop K2).length = m := by
    rw [List.length_append, List.length_cons, List.length_take, List.length_drop, ← hn]
    omega
  refine ⟨_, L.take K ++ ⟨i, .slice a3 n3 c3, l⟩ :: L.drop K2, rfl, ?_, ?_, rput_obs L ⟨i, .slice a3 n3 c3, l⟩ K K2 hK hK2, hbf⟩
  · rw [hlen, List.flatMap_append, List.flatMap_cons, ← List.append_assoc]
    exact own_mono (ownsRow_setCell_below (ownsRow_setCell_below ho (a := ⟨w.heap.size + 1 + 1 + 1, 0, none⟩) (show w.heap.size + 1 + 1 + 1 < wq by omega) _) (a := ⟨w.heap.size + 1 + 1, 0, none⟩) (show w.heap.size + 1 + 1 < wq by omega) _) (by omega)
  · intro y hy
    rcases List.mem_append.1 hy with hy | hy
    · exact .inl (List.mem_of_mem_take hy)
    · rcases List.mem_cons.1 hy with rfl | hy
      · exact .inr (((hx7.set (p := ⟨w.heap.size + 1 + 1 + 1, 0, none⟩) (show w.heap.size + 1 + 1 + 1 < wq by omega) _).set (p := ⟨w.heap.size + 1 + 1, 0, none⟩) (show w.heap.size + 1 + 1 < wq by omega) _).mono (by omega))
      · exact .inl (List.mem_of_mem_drop hy)

set_option maxHeartbeats 4000000 in
set_option maxRecDepth 100000 in
theorem rput_all (v fv : Value) (L : List Lob) (id : Int) (l : List V) (w : World) (h : OsAt w v L) (ho : VsAt w fv l) (hL : Short L) (hl : l.length ≤ 1000000) (hLl : L.length ≤ 1000000) :
    Calls Try.prog 15 #[.agg #[v], .agg #[.int .i64 id, fv]] w (RetPW L w (putD L (id, l))) := by
  obtain ⟨a, n, c, rfl, hn⟩ := h.shape
  obtain ⟨fa, fn, fc, rfl, _⟩ := ho.shape
  have H := Lib.hid h
  have HV := Lib.hid ho
  have HL := Lib.hid hL
  rw [← hn.out] at hLl
  clear h hL ho
  obtain ⟨W, hW, hB, hP, hO, hR, hU, hz⟩ := four_new w (.slice a n c) (.int .i64 id) (.slice fa fn fc) (.slice none 0 0) (.slice none 0 0) 28 43 28 28
  have HW := Lib.hid hW
  have HB := Lib.hid hB
  have HP := Lib.hid hP
  have HO := Lib.hid hO
  have HR := Lib.hid hR
  have HU := Lib.hid hU
  have HZ := Lib.hid hz
  clear hW hB hP hO hR hU hz
  go_enter Try.func15, Try.ntmps15
  go_wp2_with fail
  rw [HW.out]
  refine (rat_any _ L id _ (H.out.below HB.out) HL.out.1).mono ?_
  rintro e w1 ⟨rfl, hb⟩
  have HB1 := Lib.hid (HB.out.then_' hb)
  have HO1 := Lib.hid (HO.out.below hb)
  have HR1 := Lib.hid (HR.out.below hb)
  have HU1 := Lib.hid (HU.out.below hb)
  have HP1 := Lib.hid (HP.out.below hb)
  have HZ1 : Hid (w.heap.size + 4 ≤ w1.heap.size) := Lib.hid (by rw [← HZ.out]; exact hb.size)
  clear hb
  go_upto_if 14 with (fail)
  go_cut [6, 7] (fun iv kv wx => iv = .int .i64 (atI L id) ∧ kv = .int .i64 (putK L id : Int) ∧ Below w1.heap.size w1 wx)
  case first =>
    cases hin : isIn L id with
    | true =>
      have HA := Lib.hid (atI_in hin)
      have HK : Hid (putK L id = idx L id) := Lib.hid (by unfold putK; rw [if_pos hin])
      have hge : ((idx L id : Int) < 0) = False := by simp only [eq_iff_iff, iff_false]; omega
      rw [HA.out]
      go_wp2
      go_meet
      case rel => exact ⟨by rw [HA.out], by rw [HK.out], Below.refl _ _⟩
    | false =>
      have HA := Lib.hid (atI_out hin)
      have HK : Hid (putK L id = pos L id) := Lib.hid (by unfold putK; rw [if_neg (by simp [hin])])
      rw [HA.out]
      go_wp2
      go_loopw [7] (fun kv wr => ∃ k : Nat, kv = .int .i64 k ∧ k ≤ n ∧ Below w1.heap.size w1 wr ∧ Hid (k ≤ pos L id)) (fun kv _ => n - (intOf kv).toNat)
      case atStart => exact ⟨0, rfl, Nat.zero_le _, Below.refl _ _, Nat.zero_le _⟩
      case round =>
        obtain ⟨k, rfl, hk, hb, hi⟩ := hrel
        have hp0 := (HP1.out.below hb).c0
        have ho0 := (HO1.out.below hb).c0
        have HBr := Lib.hid hb
        by_cases hlt : k < n
        · obtain ⟨x, hx⟩ : ∃ x, L[k]? = some x := ⟨_, List.getElem?_eq_getElem (by rw [← hn.out]; exact hlt)⟩
          obtain ⟨b, o, c', hv, hbl, hc0, hc1⟩ := (H.out.below (HB1.out.then_' hb)).elem hx
          obtain ⟨rfl, hv2, rfl⟩ := Value.slice.inj hv
          have HX := Lib.hid hx
          clear hb hv hv2 hx hc1
          have d1 : decide ((k : Int) < (n : Int)) = true := decide_eq_true (by omega)
          have hki : (k : Int) < (n : Int) := by omega
          by_cases ht : x.id < id
          · have d2 : decide (x.id < id) = true := decide_eq_true ht
            have HN : Hid (k + 1 ≤ pos L id) := Lib.hid (by
              have h1 : k ≤ pos L id := hi.out
              have h2 := pos_not HX.out (show x.id ≤ id by omega)
              omega)
            go_wp2_with fail
            go_quiet (fail)
            go_wp2
            go_roundw
            case rel => exact ⟨k + 1, by go_num, by omega, Below.drewN HBr.out _, HN.out⟩
            case measure => simp [intOf]; omega
          · have d2 : decide (x.id < id) = false := decide_eq_false ht
            have HN : Hid (pos L id = k) := Lib.hid (by
              have h1 : k ≤ pos L id := hi.out
              have h2 := isIn_not hin HX.out
              have h3 := pos_here HX.out (show id < x.id by omega)
              omega)
            go_wp2_with fail
            go_quiet (fail)
            go_wp2
            go_meet
            case rel => exact ⟨by rw [HA.out], by rw [HK.out, HN.out], Below.drewN HBr.out _⟩
        · obtain rfl : k = n := by omega
          have d1 : decide ((k : Int) < (k : Int)) = false := decide_eq_false (by omega)
          have HN : Hid (pos L id = k) := Lib.hid (by
            have h1 : k ≤ pos L id := hi.out
            have h2 := pos_le L id
            have h3 : k = L.length := hn.out
            omega)
          clear hb
          go_wp2_with fail
          go_quiet (fail)
          go_wp2
          go_meet
          case rel => exact ⟨by rw [HA.out], by rw [HK.out, HN.out], Below.drewN HBr.out _⟩
  case rest =>
    obtain ⟨rfl, rfl, hbc⟩ := hcut
    obtain ⟨wcA, hwcA⟩ : ∃ q, q = wc := ⟨_, rfl⟩
    rw [← hwcA] at hbc ⊢
    clear hwcA wc
    have HBc := Lib.hid (HB1.out.then_' hbc)
    have HPc := Lib.hid (HP1.out.below hbc)
    have HOc := Lib.hid (HO1.out.below hbc)
    have HRc := Lib.hid (HR1.out.below hbc)
    have HUc := Lib.hid (HU1.out.below hbc)
    have hzc : w.heap.size + 4 ≤ wcA.heap.size := Nat.le_trans HZ1.out hbc.size
    have hKn : putK L id ≤ n := by rw [hn.out]; exact putK_le L id
    have hcap : n ≤ c := SlAt.cap H.out.1
    have HTK := Lib.hid (H.out.take_ hn.out hKn)
    have HGET : Hid (∀ (k : Nat) (x : Lob), L[k]? = some x → VsAt w x.fv x.vals) := Lib.hid (fun k x hx => H.out.2 x (List.mem_of_getElem? hx))
    clear hbc HW
    have HKdef : ∃ K, putK L id = K := ⟨_, rfl⟩
    obtain ⟨K, hK⟩ := HKdef
    have HK := Lib.hid hK
    rw [hK] at hKn HTK ⊢
    clear hK
    have HsOf : Hid (∀ wx, Below wcA.heap.size wcA wx → wx.cell? ⟨w.heap.size, 0, none⟩ = some (.slice a n c) ∧ wx.cell? ⟨w.heap.size + 1, 0, none⟩ = some (.int .i64 id) ∧ wx.cell? ⟨w.heap.size + 1, 1, none⟩ = some (.slice fa fn fc)) :=
      Lib.hid (fun wx hb => ⟨(HPc.out.below hb).c0, (HOc.out.below hb).c0, (HOc.out.below hb).c1⟩)
    have Q0 := Lib.hid (below_drew wcA)
    have HOne := Lib.hid (fun u hu => oc_one H.out u (by rw [flat_take] at hu; exact List.mem_of_mem_take hu) : ∀ u ∈ (L.take K).flatMap oc, u.oneCell' = true)
    have hu0 := HUc.out.c0
    have huf := HUc.out.f0
    have hKc : (K : Int) ≤ (c : Int) := by omega
    have hK0 : (0 : Int) ≤ (K : Int) := by omega
    have hsz : Hid (∀ (wx : World) (o : Obj), (wx.alloc o).heap.size = wx.heap.size + 1) := Lib.hid (fun _ _ => by simp)
    go_upto_region 8 with (fail)
    go_cut [] (fun wx => ∃ a5 c5 a3 n3 c3, At1 wx (w.heap.size + 1 + 1 + 1) (.slice a5 (K + 1) c5) ∧ wx.ownsRow wcA.heap.size 43 2 (.slice a5 (K + 1) c5) (K + 1) ((L.take K).flatMap oc ++ oc ⟨id, .slice a3 n3 c3, l⟩) ∧ VsOwn wx wcA.heap.size (.slice a3 n3 c3) l ∧
      (∀ g, (Value.slice a3 n3 c3).ownBlock = some g → (Value.slice a5 (K + 1) c5).ownBlock ≠ some g) ∧ At1 wx w.heap.size (.slice a n c) ∧ At1 wx (w.heap.size + 1 + 1) (.slice none 0 0) ∧ Below w.heap.size w wx ∧ wcA.heap.size ≤ wx.heap.size)
    case first =>
      have hp0 := HPc.out.c0
      have ho0 := HOc.out.c0
      have ho1 := HOc.out.c1
      go_region_law (first
        | (refine appO_step rfl _ _ rfl wcA.heap.size (.slice none 0 0) 0 [] rfl (ownO_nil _ _) _ K ((L.take K).flatMap oc) rfl (HTK.out.below (HBc.out.then_' Q0.out)) HOne.out (by omega) (Nat.le_refl _) ?_; intro a4 c4 w4 hown4 hg4 _; simp only [Nat.zero_add, List.nil_append] at hown4 ⊢; have Q4 := Lib.hid (Q0.out.then_' (Below.grewNone hg4)); obtain ⟨e0, e1, _, _, _⟩ := HOc.out.below Q4.out; have HOWN4 := Lib.hid hown4; clear hown4 hg4)
        | (refine appO_step rfl _ _ rfl wcA.heap.size (.slice a4 K c4) K ((L.take K).flatMap oc) rfl (own_below HOWN4.out (HB3.out.then_' (below1 _ _))) _ 1 (oc ⟨id, .slice a3 n3 c3, l⟩) rfl (At2.sl (At2.new w3 (.int .i64 id) (.slice a3 n3 c3) 43)) (At2.one _ _ _ _) (by omega) (by have := Q3.out.size; simp; omega) ?_; intro a5 c5 w5 hown5 hg5 hat5; have hb5 : Below wcA.heap.size (w3.alloc (.cells #[.int .i64 id, .slice a3 n3 c3] 43)) w5 := Below.grew hg5 (by have := Q3.out.size; simp; omega) (fun g hg => (World.ownsRow.lt HOWN4.out g hg).1); have Q5 := Lib.hid ((Below.new Q3.out (.cells #[.int .i64 id, .slice a3 n3 c3] 43)).trans hb5); obtain ⟨hu5, huf5, _⟩ := HUc.out.below Q5.out; have HOWN5 := Lib.hid hown5; have HG5 := Lib.hid hg5; have HAT5 := Lib.hid hat5; clear hown5 hg5 hat5 hb5)
        | (go_simp; go_at_call 23; refine (object_any id _ l _ (HV.out.below (HBc.out.then_' Q4.out)) (by omega)).mono ?_; rintro e w3 ⟨v3, rfl, ho3, hb3⟩; obtain ⟨a3, n3, c3, rfl, _⟩ := VsAt.shape ho3.at_; have Q3 := Lib.hid (Q4.out.then_' hb3); have HFR3 := Lib.hid (World.ownsRow.lt ho3); have HO3 := Lib.hid ho3; have HB3 := Lib.hid hb3; clear ho3 hb3)
        | fail)
      all_goals
        have hap : ∀ g, (Value.slice a3 n3 c3).ownBlock = some g → (Value.slice a4 K c4).ownBlock ≠ some g := by
          intro g h3 h4
          have h5 := HFR3.out g h3
          have h6 := World.ownsRow.lt HOWN4.out g h4
          omega
        have hox := VsOwn.mono (B' := wcA.heap.size) (HO3.out.below (below1 w3 (.cells #[.int .i64 id, .slice a3 n3 c3] 43))) (by have := Q4.out.size; omega)
        have hox5 : VsOwn w5 wcA.heap.size (.slice a3 n3 c3) l := World.ownsRow.kept hox HG5.out (by
          cases hh : (Value.slice a3 n3 c3).ownBlock with
          | none => exact .inl rfl
          | some g => exact .inr (fun e => hap g hh e.symm))
        have hap5 : ∀ g, (Value.slice a3 n3 c3).ownBlock = some g → (Value.slice a5 (K + 1) c5).ownBlock ≠ some g := by
          intro g h3 h5
          rcases HAT5.out with e | e
          · rw [e] at h5; exact hap g h3 h5
          · rw [e] at h5
            have h6 := (HFR3.out g h3).2
            have h7 := hsz.out w3 (.cells #[.int .i64 id, .slice a3 n3 c3] 43)
            have h8 := Option.some.inj h5
            omega
        have HREL : Hid (∃ a5' c5' a3' n3' c3', At1 (w5.setCell ⟨w.heap.size + 1 + 1 + 1, 0, none⟩ (.slice a5 (K + 1) c5)) (w.heap.size + 1 + 1 + 1) (.slice a5' (K + 1) c5') ∧ (w5.setCell ⟨w.heap.size + 1 + 1 + 1, 0, none⟩ (.slice a5 (K + 1) c5)).ownsRow wcA.heap.size 43 2 (.slice a5' (K + 1) c5') (K + 1) ((L.take K).flatMap oc ++ oc ⟨id, .slice a3' n3' c3', l⟩) ∧ VsOwn (w5.setCell ⟨w.heap.size + 1 + 1 + 1, 0, none⟩ (.slice a5 (K + 1) c5)) wcA.heap.size (.slice a3' n3' c3') l ∧
          (∀ g, (Value.slice a3' n3' c3').ownBlock = some g → (Value.slice a5' (K + 1) c5').ownBlock ≠ some g) ∧ At1 (w5.setCell ⟨w.heap.size + 1 + 1 + 1, 0, none⟩ (.slice a5 (K + 1) c5)) w.heap.size (.slice a n c) ∧ At1 (w5.setCell ⟨w.heap.size + 1 + 1 + 1, 0, none⟩ (.slice a5 (K + 1) c5)) (w.heap.size + 1 + 1) (.slice none 0 0) ∧ Below w.heap.size w (w5.setCell ⟨w.heap.size + 1 + 1 + 1, 0, none⟩ (.slice a5 (K + 1) c5)) ∧ wcA.heap.size ≤ (w5.setCell ⟨w.heap.size + 1 + 1 + 1, 0, none⟩ (.slice a5 (K + 1) c5)).heap.size) :=
          Lib.hid ⟨a5, c5, a3, n3, c3, (HUc.out.below Q5.out).put _, ownsRow_setCell_below HOWN5.out (a := ⟨w.heap.size + 1 + 1 + 1, 0, none⟩) (by simp; omega) _, hox5.set (p := ⟨w.heap.size + 1 + 1 + 1, 0, none⟩) (by simp; omega) _, hap5, (HPc.out.below Q5.out).far (show w.heap.size ≠ w.heap.size + 1 + 1 + 1 by omega) _, (HRc.out.below Q5.out).far (show w.heap.size + 1 + 1 ≠ w.heap.size + 1 + 1 + 1 by omega) _, (HBc.out.then_' Q5.out).setCell (show w.heap.size ≤ w.heap.size + 1 + 1 + 1 by omega) _, by rw [size_set]; exact Q5.out.size⟩
        clear hap hox hox5 hap5
        go_wp2
        go_meet
        case rel => exact HREL.out
    case rest =>
      obtain ⟨a5, c5, a3, n3, c3, hu, hrow, hox, hap, hp, hr, hb, hbA⟩ := hcut
      clear Q0 hu0 huf hKc
      obtain ⟨wq, hwq'⟩ : ∃ q, q = wcA.heap.size := ⟨_, rfl⟩
      have hwq := Lib.hid hwq'
      rw [← hwq'] at hrow hox hzc
      clear hwq'
      have hzd : Hid (wq ≤ wc.heap.size) := Lib.hid (by rw [hwq.out]; exact hbA)
      have HU6 := Lib.hid hu
      have HROW6 := Lib.hid hrow
      have HX6 := Lib.hid hox
      have HAP6 := Lib.hid hap
      have HP6 := Lib.hid hp
      have HR6 := Lib.hid hr
      have HB6 := Lib.hid hb
      have hu0 := hu.c0
      have huf := hu.f0
      have hp0 := hp.c0
      clear hu hrow hox hap hp hr hb
      obtain ⟨K2, hK2⟩ : ∃ K2 : Nat, K2 = if isIn L id then K + 1 else K := ⟨_, rfl⟩
      have HK2 := Lib.hid hK2
      have hK2n : K2 ≤ n := by
        rw [hK2]
        cases hin : isIn L id with
        | true =>
          have h1 : putK L id = idx L id := by unfold putK; rw [if_pos hin]
          have h2 := of_decide_eq_true hin
          have h3 := HK.out
          have h4 := hn.out
          simp
          omega
        | false => simpa using hKn
      clear hK2
      go_upto_if 46 with (fail)
      go_cut [7] (fun kv wx => kv = .int .i64 (K2 : Int) ∧ wx = wc)
      case first =>
        cases hin : isIn L id with
        | true =>
          have hge : (0 : Int) ≤ atI L id := by rw [atI_in hin]; omega
          have HE : Hid ((K2 : Int) = (K : Int) + 1) := Lib.hid (by rw [HK2.out, hin]; simp)
          go_wp2
          go_meet
          case rel => exact ⟨by rw [HE.out], rfl⟩
        | false =>
          have hge : ¬ (0 : Int) ≤ atI L id := by rw [atI_out hin]; omega
          have HE : Hid ((K2 : Int) = (K : Int)) := Lib.hid (by rw [HK2.out, hin]; simp)
          go_wp2
          go_meet
          case rel => exact ⟨by rw [HE.out], rfl⟩
      case rest =>
        obtain ⟨rfl, rfl⟩ := hcut
        have hK2i : (K2 : Int) ≤ (n : Int) := by omega
        have hsl : (∃ b o, a = some ⟨b, o, none⟩ ∧ K2 < n) ∨ (K2 = n ∧ a = none ∧ n = 0 ∧ c = 0) ∨ (K2 = n ∧ ∃ ad, a = some ad ∧ c = n) ∨ (K2 = n ∧ ∃ ad, a = some ad ∧ n < c) := by
          rcases H.out.1 with ⟨e, h0, _⟩ | ⟨ad, c', e, _⟩
          · obtain ⟨e1, e2, e3⟩ := Value.slice.inj e
            exact .inr (.inl ⟨by omega, e1, e2, e3⟩)
          · obtain ⟨e1, e2, e3⟩ := Value.slice.inj e
            by_cases h2 : K2 < n
            · obtain ⟨b, o, c', e, _⟩ := H.out.1.pos (by rw [← hn.out]; omega) (by decide)
              exact .inl ⟨b, o, (Value.slice.inj e).1, h2⟩
            · by_cases h3 : c = n
              · exact .inr (.inr (.inl ⟨by omega, ad, e1, h3⟩))
              · exact .inr (.inr (.inr ⟨by omega, ad, e1, by omega⟩))
        have hu1 := HU6.out.c0
        rcases hsl with ⟨b, o, rfl, hlt⟩ | ⟨hkn, rfl, hn0, rfl⟩ | ⟨hkn, ad, rfl, hcn⟩ | ⟨hkn, ad, rfl, hcn⟩
        · have hne : (c = K2) = False := by simp only [eq_iff_iff, iff_false]; omega
          have HDR := Lib.hid ((H.out.drop_ hn.out hlt).below HB6.out.drew)
          have HDO : Hid (∀ u ∈ (L.drop K2).flatMap oc, u.oneCell' = true) := Lib.hid (fun u hu => oc_one H.out u (by rw [flat_drop] at hu; exact List.mem_of_mem_drop hu))
          go_upto_region 11 with (fail)
          go_region_law (first
            | (refine appO_step rfl _ _ rfl _ (.slice a5 (K + 1) c5) (K + 1) ((L.take K).flatMap oc ++ oc ⟨id, .slice a3 n3 c3, l⟩) rfl HROW6.out _ (n - K2) ((L.drop K2).flatMap oc) rfl HDR.out HDO.out (by omega) hzd.out ?_; intro a7 c7 w7 hown7 hg7 hat7; have HOWN7 := Lib.hid hown7; have HG7 := Lib.hid hg7; have HAT7 := Lib.hid hat7; have hb7 := Below.grew (B := wq) hg7 hzd.out (fun g hg => (World.ownsRow.lt HROW6.out g hg).1); have HB7 := Lib.hid hb7; have hu7 := (hb7.cell (p := ⟨w.heap.size + 1 + 1 + 1, 0, none⟩) (show w.heap.size + 1 + 1 + 1 < wq by omega)).trans hu0; have huf7 := (hb7.frozen (p := ⟨w.heap.size + 1 + 1 + 1, 0, none⟩) (show w.heap.size + 1 + 1 + 1 < wq by omega)).trans huf; have HR7 := Lib.hid (At1.belowB HR6.out.drew hb7 (show w.heap.size + 1 + 1 < wq by omega)); clear hown7 hg7 hat7 hb7)
            | fail)
          all_goals
            obtain ⟨r0, f0, _⟩ := HR7.out.far (p := ⟨w.heap.size + 1 + 1 + 1, 0, none⟩) (show w.heap.size + 1 + 1 ≠ w.heap.size + 1 + 1 + 1 by omega) (.slice a7 (K + 1 + (n - K2)) c7)
            have hu8 := World.cell?_setCell_same' w7 ⟨w.heap.size + 1 + 1 + 1, 0, none⟩ (.slice a7 (K + 1 + (n - K2)) c7) (by rw [hu7]; rfl)
            go_wp2
            refine bodyPost_ret (v := .agg #[.slice a7 (K + 1 + (n - K2)) c7]) (by simp [results, Try.results15, go_sem, r0]) rfl ?_
            exact rput_fin H.out hn.out HK.out HK2.out hKn hzc HX6.out HAP6.out HB6.out HOWN7.out rfl HG7.out HB7.out _ _
        · have HNil : Hid ((L.drop K2).flatMap oc = []) := Lib.hid (by rw [List.drop_eq_nil_of_le (by have := hn.out; omega)]; rfl)
          subst hkn
          subst hn0
          go_upto_region 11 with (fail)
          go_region_law (first
            | (refine appO_step rfl _ _ rfl _ (.slice a5 (K + 1) c5) (K + 1) ((L.take K).flatMap oc ++ oc ⟨id, .slice a3 n3 c3, l⟩) rfl HROW6.out _ 0 [] rfl (by first | exact .inl ⟨rfl, rfl, rfl⟩ | exact .inr ⟨_, _, rfl, Nat.zero_le _, rfl, fun j u hj => by cases hj⟩) (by intro u hu; cases hu) (by omega) hzd.out ?_; intro a7 c7 w7 hown7 hg7 hat7; have HOWN7 := Lib.hid hown7; have HG7 := Lib.hid hg7; have hb7 := Below.grew (B := wq) hg7 hzd.out (fun g hg => (World.ownsRow.lt HROW6.out g hg).1); have HB7 := Lib.hid hb7; have hu7 := (hb7.cell (p := ⟨w.heap.size + 1 + 1 + 1, 0, none⟩) (show w.heap.size + 1 + 1 + 1 < wq by omega)).trans hu0; have huf7 := (hb7.frozen (p := ⟨w.heap.size + 1 + 1 + 1, 0, none⟩) (show w.heap.size + 1 + 1 + 1 < wq by omega)).trans huf; have HR7 := Lib.hid (At1.belowB HR6.out.drew hb7 (show w.heap.size + 1 + 1 < wq by omega)); clear hown7 hg7 hat7 hb7)
            | fail)
          all_goals
            obtain ⟨r0, f0, _⟩ := HR7.out.far (p := ⟨w.heap.size + 1 + 1 + 1, 0, none⟩) (show w.heap.size + 1 + 1 ≠ w.heap.size + 1 + 1 + 1 by omega) (.slice a7 (K + 1 + 0) c7)
            have hu8 := World.cell?_setCell_same' w7 ⟨w.heap.size + 1 + 1 + 1, 0, none⟩ (.slice a7 (K + 1 + 0) c7) (by rw [hu7]; rfl)
            simp only [Nat.add_zero] at r0 f0 hu8
            go_wp2
            refine bodyPost_ret (v := .agg #[.slice a7 (K + 1) c7]) (by simp [results, Try.results15, go_sem, r0]) rfl ?_
            exact rput_fin H.out hn.out HK.out HK2.out hKn hzc HX6.out HAP6.out HB6.out (by rw [HNil.out]; exact HOWN7.out) (by omega) HG7.out HB7.out _ _
        · have HNil : Hid ((L.drop K2).flatMap oc = []) := Lib.hid (by rw [List.drop_eq_nil_of_le (by have := hn.out; omega)]; rfl)
          subst hkn
          subst hcn
          go_upto_region 11 with (fail)
          go_region_law (first
            | (refine appO_step rfl _ _ rfl _ (.slice a5 (K + 1) c5) (K + 1) ((L.take K).flatMap oc ++ oc ⟨id, .slice a3 n3 c3, l⟩) rfl HROW6.out _ 0 [] rfl (by first | exact .inl ⟨rfl, rfl, rfl⟩ | exact .inr ⟨_, _, rfl, Nat.zero_le _, rfl, fun j u hj => by cases hj⟩) (by intro u hu; cases hu) (by omega) hzd.out ?_; intro a7 c7 w7 hown7 hg7 hat7; have HOWN7 := Lib.hid hown7; have HG7 := Lib.hid hg7; have hb7 := Below.grew (B := wq) hg7 hzd.out (fun g hg => (World.ownsRow.lt HROW6.out g hg).1); have HB7 := Lib.hid hb7; have hu7 := (hb7.cell (p := ⟨w.heap.size + 1 + 1 + 1, 0, none⟩) (show w.heap.size + 1 + 1 + 1 < wq by omega)).trans hu0; have huf7 := (hb7.frozen (p := ⟨w.heap.size + 1 + 1 + 1, 0, none⟩) (show w.heap.size + 1 + 1 + 1 < wq by omega)).trans huf; have HR7 := Lib.hid (At1.belowB HR6.out.drew hb7 (show w.heap.size + 1 + 1 < wq by omega)); clear hown7 hg7 hat7 hb7)
            | fail)
          all_goals
            obtain ⟨r0, f0, _⟩ := HR7.out.far (p := ⟨w.heap.size + 1 + 1 + 1, 0, none⟩) (show w.heap.size + 1 + 1 ≠ w.heap.size + 1 + 1 + 1 by omega) (.slice a7 (K + 1 + 0) c7)
            have hu8 := World.cell?_setCell_same' w7 ⟨w.heap.size + 1 + 1 + 1, 0, none⟩ (.slice a7 (K + 1 + 0) c7) (by rw [hu7]; rfl)
            simp only [Nat.add_zero] at r0 f0 hu8
            go_wp2
            refine bodyPost_ret (v := .agg #[.slice a7 (K + 1) c7]) (by simp [results, Try.results15, go_sem, r0]) rfl ?_
            exact rput_fin H.out hn.out HK.out HK2.out hKn hzc HX6.out HAP6.out HB6.out (by rw [HNil.out]; exact HOWN7.out) (by omega) HG7.out HB7.out _ _
        · have HNil : Hid ((L.drop K2).flatMap oc = []) := Lib.hid (by rw [List.drop_eq_nil_of_le (by have := hn.out; omega)]; rfl)
          subst hkn
          have hne : (c = K2) = False := by simp only [eq_iff_iff, iff_false]; omega
          go_upto_region 11 with (fail)
          go_region_law (first
            | (refine appO_step rfl _ _ rfl _ (.slice a5 (K + 1) c5) (K + 1) ((L.take K).flatMap oc ++ oc ⟨id, .slice a3 n3 c3, l⟩) rfl HROW6.out _ 0 [] rfl (by first | exact .inl ⟨rfl, rfl, rfl⟩ | exact .inr ⟨_, _, rfl, Nat.zero_le _, rfl, fun j u hj => by cases hj⟩) (by intro u hu; cases hu) (by omega) hzd.out ?_; intro a7 c7 w7 hown7 hg7 hat7; have HOWN7 := Lib.hid hown7; have HG7 := Lib.hid hg7; have hb7 := Below.grew (B := wq) hg7 hzd.out (fun g hg => (World.ownsRow.lt HROW6.out g hg).1); have HB7 := Lib.hid hb7; have hu7 := (hb7.cell (p := ⟨w.heap.size + 1 + 1 + 1, 0, none⟩) (show w.heap.size + 1 + 1 + 1 < wq by omega)).trans hu0; have huf7 := (hb7.frozen (p := ⟨w.heap.size + 1 + 1 + 1, 0, none⟩) (show w.heap.size + 1 + 1 + 1 < wq by omega)).trans huf; have HR7 := Lib.hid (At1.belowB HR6.out.drew hb7 (show w.heap.size + 1 + 1 < wq by omega)); clear hown7 hg7 hat7 hb7)
            | fail)
          all_goals
            obtain ⟨r0, f0, _⟩ := HR7.out.far (p := ⟨w.heap.size + 1 + 1 + 1, 0, none⟩) (show w.heap.size + 1 + 1 ≠ w.heap.size + 1 + 1 + 1 by omega) (.slice a7 (K + 1 + 0) c7)
            have hu8 := World.cell?_setCell_same' w7 ⟨w.heap.size + 1 + 1 + 1, 0, none⟩ (.slice a7 (K + 1 + 0) c7) (by rw [hu7]; rfl)
            simp only [Nat.add_zero] at r0 f0 hu8
            go_wp2
            refine bodyPost_ret (v := .agg #[.slice a7 (K + 1) c7]) (by simp [results, Try.results15, go_sem, r0]) rfl ?_
            exact rput_fin H.out hn.out HK.out HK2.out hKn hzc HX6.out HAP6.out HB6.out (by rw [HNil.out]; exact HOWN7.out) (by omega) HG7.out HB7.out _ _
theorem rput_any (v fv : Value) (L : List Lob) (id : Int) (l : List V) (w : World) (h : OsAt w v L) (ho : VsAt w fv l) (hL : Short L) (hl : l.length ≤ 1000000) (hLl : L.length ≤ 1000000) :
    Calls Try.prog 15 #[.agg #[v], .agg #[.int .i64 id, fv]] w (RetP w (putD L (id, l))) :=
  (rput_all v fv L id l w h ho hL hl hLl).mono fun _ _ hh => hh.RetP h.2
end Go.Proofs.Ytbnippldclpclaa
