/- Heaps that are made. -/
import Derived.Test.YtbnippldclpclaaMValue
import Derived.Test.YtbnippldclpclaaHPuts
namespace Go.Proofs.Ytbnippldclpclaa
open Go.RowKit

theorem rows_apart {w : World} {b1 b2 : Nat} {e1 e2 : TypeId} {s1 s2 n1 n2 : Nat} {v1 v2 : Value} {x1 x2 : List Value} (h1 : w.ownsRow b1 e1 s1 v1 n1 x1) (h2 : w.ownsRow b2 e2 s2 v2 n2 x2) (he : e1 ≠ e2) : v1.ownBlock = none ∨ v1.ownBlock ≠ v2.ownBlock := by
  rcases h1.2 with ⟨rfl, _⟩ | ⟨g1, cap1, cur1, rfl, _, hg1, _⟩
  · exact .inl rfl
  · right
    rcases h2.2 with ⟨rfl, _⟩ | ⟨g2, cap2, cur2, rfl, _, hg2, _⟩
    · simp [Value.ownBlock]
    · intro e
      have e' : g1 = g2 := by simpa [Value.ownBlock] using e
      subst e'
      rw [hg1] at hg2
      have := Option.some.inj hg2
      injection this with _ h _
      exact he h
def OkO (x : Ob) : Prop := x.2.length ≤ 3 ∧ ∀ v ∈ x.2, OkV v
/-- the objects made so far; the last identifier is at most id -/
structure Making (O : List Ob) (id : Int) : Prop where
  asc : ascO 0 O = true
  le : ∀ x ∈ O, x.1 ≤ id
  ok : ∀ x ∈ O, OkO x
theorem asc_snoc {last : Int} {O : List Ob} (h : ascO last O = true) {id : Int} (hl : last < id) (hO : ∀ x ∈ O, x.1 < id) (l : List V) : ascO last (O ++ [(id, l)]) = true := by
  induction O generalizing last with
  | nil => simp [ascO, hl]
  | cons y O ih =>
    simp only [List.cons_append, ascO, Bool.and_eq_true, decide_eq_true_eq] at h ⊢
    exact ⟨h.1, ih h.2 (hO y (List.mem_cons_self ..)) fun x hx => hO x (List.mem_cons_of_mem _ hx)⟩
theorem Making.snoc {O : List Ob} {id : Int} (h : Making O id) {id' : Int} (h0 : 0 ≤ id) (hi : id < id') {l : List V} (hl : l.length ≤ 3) (hv : ∀ v ∈ l, OkV v) : Making (O ++ [(id', l)]) id' := by
  refine ⟨asc_snoc h.asc (by omega) (fun x hx => by have := h.le x hx; omega) l, fun x hx => ?_, fun x hx => ?_⟩
  · rcases List.mem_append.1 hx with hx | hx
    · have := h.le x hx; omega
    · simp at hx; subst hx; exact Int.le_refl _
  · rcases List.mem_append.1 hx with hx | hx
    · exact h.ok x hx
    · simp at hx; subst hx; exact ⟨hl, hv⟩
structure MadeH (O : List Ob) : Prop where
  len : O.length ≤ 5
  asc : ascO 0 O = true
  le : ∀ x ∈ O, x.1 ≤ 15
  ok : ∀ x ∈ O, OkO x
def RHeap (b : Nat) (w : World) (e : Ending) (w' : World) : Prop := ∃ a n c O, e = .returned (.agg #[.slice a n c]) ∧ OwnAt w' w.heap.size (.slice a n c) O ∧ MadeH O ∧ Rolls b w w'

theorem VsOwn.rolls {w w' : World} {b B : Nat} {v : Value} {l : List V} (h : VsOwn w B v l) (hr : Rolls b w w') (hb : b < B) : VsOwn w' B v l := own_rolls h hr hb
theorem At2.grown_ {w w' : World} {c : Nat} {u v : Value} (h : At2 w c u v) {r : Option Nat} (hg : w.grownBy w' r) (hne : r ≠ some c) : At2 w' c u v :=
  have hb := hg.block c h.lt (fun e => hne e.symm)
  ⟨(World.cell?_of_block (a := ⟨c, 0, none⟩) hb).trans h.c0, (World.cell?_of_block (a := ⟨c, 1, none⟩) hb).trans h.c1, (World.frozen?_of_block (a := ⟨c, 0, none⟩) hb).trans h.f0, (World.frozen?_of_block (a := ⟨c, 1, none⟩) hb).trans h.f1, Nat.lt_of_lt_of_le h.lt hg.size⟩
theorem At1.grown_ {w w' : World} {c : Nat} {u : Value} (h : At1 w c u) {r : Option Nat} (hg : w.grownBy w' r) (hne : r ≠ some c) : At1 w' c u :=
  have hb := hg.block c h.lt (fun e => hne e.symm)
  ⟨(World.cell?_of_block (a := ⟨c, 0, none⟩) hb).trans h.c0, (World.frozen?_of_block (a := ⟨c, 0, none⟩) hb).trans h.f0, Nat.lt_of_lt_of_le h.lt hg.size⟩
theorem own_push {w w7 : World} {B m c c7 : Nat} {a a7 : Option Addr} {L : List Lob} {x : Lob} {p : Addr} {u : Value} (hrow : w.ownsRow B 43 2 (.slice a m c) m (L.flatMap oc)) (hvals : ∀ y ∈ L, VsOwn w B y.fv y.vals) (hx : VsOwn w B x.fv x.vals)
    (hown : w7.ownsRow B 43 2 (.slice a7 (m + 1) c7) (m + 1) (L.flatMap oc ++ oc x)) (hm : m = L.length) (hg : w.grownBy w7 (Value.slice a m c).ownBlock) (hp : p.block < B) : OwnAt (w7.setCell p u) B (.slice a7 (m + 1) c7) (obs L ++ [x.ob]) := by
  have keep : ∀ y : Lob, VsOwn w B y.fv y.vals → VsOwn (w7.setCell p u) B y.fv y.vals := fun y hy => VsOwn.set (World.ownsRow.kept hy hg (rows_apart hy hrow (by decide))) hp u
  refine ⟨L ++ [x], ⟨?_, fun y hy => ?_⟩, by unfold obs; simp⟩
  · have e1 : (L ++ [x]).length = m + 1 := by simp [hm]
    rw [e1, List.flatMap_append]
    simp only [List.flatMap_cons, List.flatMap_nil, List.append_nil]
    exact ownsRow_setCell_below hown hp u
  · rcases List.mem_append.1 hy with hy | hy
    · exact keep y (hvals y hy)
    · simp at hy; subst hy; exact keep _ hx
theorem own_in {w w' : World} {B : Nat} {v : Value} {O : List Ob} (h : OwnAt w B v O) {b : Nat} (hr : Rolls b w w') (hb : b < B) : OwnAt w' B v O := by
  obtain ⟨L, ⟨h1, h2⟩, e⟩ := h
  exact ⟨L, ⟨own_rolls h1 hr hb, fun x hx => own_rolls (h2 x hx) hr hb⟩, e⟩
theorem box_two (w : World) (p q : Value) (t t' : TypeId) : ∃ W, (w.alloc (.cells #[p] t)).alloc (.cells #[q] t') = W ∧ Below w.heap.size w W ∧ At1 W w.heap.size p ∧ At1 W (w.heap.size + 1) q ∧ W.heap.size = w.heap.size + 1 + 1 :=
  ⟨_, rfl, Below.new (below1 _ _) _, (At1.new _ _ _).alloc _, by simpa using At1.new (w.alloc (.cells #[p] t)) q t', by simp⟩

set_option maxHeartbeats 2000000 in
set_option maxRecDepth 100000 in
theorem made_heap (b : Nat) (w : World) (h : DiceAt w b) : Calls Try.prog 8 #[.pointer (some ⟨b, 0, none⟩)] w (RHeap b w) := by
  have hlt := h.lt
  have hne1 : w.heap.size ≠ b := by omega
  have hne2 : w.heap.size + 1 ≠ b := by omega
  obtain ⟨W, hW, hB, hR, hH, hz⟩ := box_two w (.slice none 0 0) (.slice none 0 0) 28 28
  have R0 := Lib.hid ((Rolls.refl h).below hB)
  have HR := Lib.hid hR
  have HH := Lib.hid hH
  have HZ := Lib.hid hz
  have HW := Lib.hid hW
  clear h hW hB hR hH hz
  go_enter Try.func8, Try.ntmps8
  go_wp2_with fail
  rw [HW.out]
  refine (pick_any b 6 _ R0.out.dice (by decide) (by decide)).mono ?_
  rintro e w1 ⟨n, hn, rfl, hr⟩
  have R1 := Lib.hid (R0.out.then_ hr)
  have HR1 := Lib.hid (HR.out.rolls hr hne1)
  have HH1 := Lib.hid (HH.out.rolls hr hne2)
  have HZ1 : Hid (w.heap.size + 1 + 1 ≤ w1.heap.size) := Lib.hid (by have := hr.grown.size; rw [HZ.out] at this; exact this)
  clear hr HR HH R0 HZ HW
  go_wp2_with fail
  go_loopw [4, 6, 7, 8] (fun idv iv _ _ wr => ∃ (i : Nat) (id : Int) (a : Option Addr) (m c : Nat) (O : List Ob), i ≤ n ∧ idv = .int .i64 id ∧ iv = .int .i64 i ∧ 0 ≤ id ∧ id ≤ 3 * i ∧ At1 wr w.heap.size (.slice none 0 0) ∧ At1 wr (w.heap.size + 1) (.slice a m c) ∧ OwnAt wr (w.heap.size + 1 + 1) (.slice a m c) O ∧ m = i ∧ Making O id ∧ Rolls b w wr) (fun _ iv _ _ _ => n - (intOf iv).toNat)
  case atStart => exact ⟨0, 0, none, 0, 0, [], Nat.zero_le _, rfl, rfl, by decide, by decide, HR1.out, HH1.out, OwnAt.nil _ _, rfl, ⟨rfl, by simp, by simp⟩, R1.out⟩
  case round =>
    clear R1 HR1 HH1 HZ1
    obtain ⟨i, id, a, m, c, O, hi, rfl, rfl, hid0, hid, hr1, hh1, ho, rfl, hmk, hr⟩ := hrel
    have HR2 := Lib.hid hr1
    have HH2 := Lib.hid hh1
    have HO2 := Lib.hid ho
    have HM2 := Lib.hid hmk
    have R2 := Lib.hid hr
    clear hr1 hh1 ho hmk hr
    by_cases hlt2 : m < n
    · have d1 : decide ((m : Int) < (n : Int)) = true := decide_eq_true (by omega)
      go_wp2_with fail
      refine (pick_any b 3 _ R2.out.dice (by decide) (by decide)).mono ?_
      rintro e w3 ⟨g, hg, rfl, hr⟩
      have R3 := Lib.hid (R2.out.then_ hr)
      have HR3 := Lib.hid (HR2.out.rolls hr hne1)
      have HH3 := Lib.hid (HH2.out.rolls hr hne2)
      have HO3 := Lib.hid (own_in HO2.out hr (by omega))
      clear hr R2 HR2 HH2 HO2
      go_wp2_with fail
      have T4 := Lib.hid (At2.new w3 (.int .i64 (id + (1 + (g : Int)))) (.slice none 0 0) 43)
      have D3 := Lib.hid R3.out.dice
      have R4 := Lib.hid ((Rolls.refl D3.out).below (below1 w3 (.cells #[.int .i64 (id + (1 + (g : Int))), .slice none 0 0] 43)))
      have hlt3 : b < w3.heap.size := D3.out.lt
      have hne3 : w3.heap.size ≠ b := by omega
      refine (pick_any b 4 _ R4.out.dice (by decide) (by decide)).mono ?_
      rintro e w5 ⟨k0, hk0, rfl, hr⟩
      have R5 := Lib.hid (R4.out.then_ hr)
      have T5 := Lib.hid (T4.out.rolls hr hne3)
      clear hr R4 T4
      go_wp2_with fail
      go_loopw [8] (fun kv wx => ∃ (k : Nat) (l : List V) (fa : Option Addr) (fn fc : Nat), kv = .int .i64 k ∧ k + l.length ≤ 3 ∧ (∀ v ∈ l, OkV v) ∧ At2 wx w3.heap.size (.int .i64 (id + (1 + (g : Int)))) (.slice fa fn fc) ∧ VsOwn wx (w3.heap.size + 1) (.slice fa fn fc) l ∧ Rolls b w3 wx) (fun kv _ => (intOf kv).toNat)
      case atStart => exact ⟨k0, [], none, 0, 0, rfl, by simp; omega, by simp, T5.out, VsOwn.nil _ _, R5.out⟩
      case round =>
        clear T5 R5
        obtain ⟨k, l, fa, fn, fc, rfl, hkl, hlv, ht, hv, hr⟩ := hrel
        have T6 := Lib.hid ht
        have V6 := Lib.hid hv
        have R6 := Lib.hid hr
        have HLV := Lib.hid hlv
        clear ht hv hr hlv
        by_cases hk : 0 < k
        · have d2 : decide ((0 : Int) < (k : Int)) = true := decide_eq_true (by omega)
          have t0 := T6.out.c1
          have T6d := Lib.hid T6.out.drew
          have V6d := Lib.hid (V6.out.below (below_drew wr))
          have D6 := Lib.hid (R6.out.below (below_drew wr)).dice
          go_wp2_with fail
          go_region_law (first
            | (go_simp; go_at_call 9; refine (made_value b _ D6.out).mono ?_; rintro e w6 ⟨⟨xb, xn⟩, hx, rfl, hr⟩; have hrr := hr; have HX := Lib.hid hx; have R7 := Lib.hid ((R6.out.below (below_drew wr)).then_ hr); have T7 := Lib.hid (T6d.out.rolls hr hne3); have V7 := Lib.hid (VsOwn.rolls V6d.out hr (by omega)); have t7 := (T6d.out.rolls hr hne3).c1; have hl7 := (T6d.out.rolls hr hne3).lt; have N7 := Lib.hid (At2.new w6 (.bool xb) (.int .i64 xn) 31); have n7 := ((T6d.out.rolls hr hne3).alloc (.cells #[.bool xb, .int .i64 xn] 31)).c1; clear hrr hr hx)
            | (refine appV_step rfl _ _ rfl (w3.heap.size + 1) (.slice fa fn fc) l rfl (V7.out.below (below1 _ _)) _ [(xb, xn)] rfl (vs_one N7.out) (by simp; omega) (by simp; omega) ?_; intro v' w7 ho hg hat; obtain ⟨a7, c7, rfl⟩ := SlAt.shape ho.at_; have T8 := Lib.hid ((T7.out.alloc (.cells #[.bool xb, .int .i64 xn] 31)).grown_ hg (fun e => by have := (World.ownsRow.lt V7.out _ e).1; omega)); have t8 := T8.out.c1; have tf8 := T8.out.f1; have e1 : (l ++ [(xb, xn)]).length = l.length + 1 := (by simp); rw [e1] at ho; have HO7 := Lib.hid ho; have R8 := Lib.hid ((R7.out.below (below1 w6 (.cells #[.bool xb, .int .i64 xn] 31))).grow hg (fun g e => by have h1 := (World.ownsRow.lt V7.out _ e).1; omega)); clear e1 ho hg hat)
            | fail)
          all_goals
            go_wp2_with fail
            go_roundw
            case rel => exact ⟨k - 1, l ++ [(xb, xn)], a7, l.length + 1, c7, by go_num, by simp; omega, fun v hv => by rcases List.mem_append.1 hv with hv | hv; exact HLV.out v hv; simp at hv; subst hv; exact HX.out, T8.out.put1 _, HO7.out.set (p := ⟨w3.heap.size, 1, none⟩) (Nat.lt_succ_self _) _, R8.out.setCell (p := ⟨w3.heap.size, 1, none⟩) (Nat.le_refl _) _⟩
            case measure => simp [intOf]; omega
        · obtain rfl : k = 0 := by omega
          have h1 := T6.out.c0
          have h2 := T6.out.c1
          have HH6 := Lib.hid (HH3.out.rolls R6.out hne2)
          have HR6 := Lib.hid (HR3.out.rolls R6.out hne1)
          have HO6 := Lib.hid (own_in HO3.out R6.out (by omega))
          have h3 := HH6.out.c0
          obtain ⟨L, ⟨hrow, hvals⟩, hobs⟩ := HO6.out
          have hm : m = L.length := by obtain ⟨a', c', e⟩ := SlAt.shape (own_sl hrow); exact (Value.slice.inj e).2.1
          have HM := Lib.hid hm
          have HOBS := Lib.hid hobs
          have hBlt : w.heap.size + 1 < w3.heap.size := HH3.out.lt
          have hBlt2 : w.heap.size + 1 < wr.heap.size := HH6.out.lt
          have N6 := Lib.hid (At2.new wr (.int .i64 (id + (1 + (g : Int)))) (.slice fa fn fc) 43)
          have b6 := below1 wr (.cells #[.int .i64 (id + (1 + (g : Int))), .slice fa fn fc] 43)
          have ROW := Lib.hid (own_below hrow b6)
          have VALS : Hid (∀ y ∈ L, VsOwn (wr.alloc (.cells #[.int .i64 (id + (1 + (g : Int))), .slice fa fn fc] 43)) (w.heap.size + 1 + 1) y.fv y.vals) := Lib.hid (fun y hy => (hvals y hy).below b6)
          have VX := Lib.hid ((V6.out.below b6).mono (show w.heap.size + 1 + 1 ≤ w3.heap.size + 1 by omega))
          have HH7 := Lib.hid (HH6.out.below b6)
          have HR7 := Lib.hid (HR6.out.below b6)
          have R7 := Lib.hid ((R3.out.then_ ⟨R6.out.grown, R6.out.dice, R6.out.lt⟩).below b6)
          have hsz7 : w.heap.size + 1 + 1 ≤ (wr.alloc (.cells #[.int .i64 (id + (1 + (g : Int))), .slice fa fn fc] 43)).heap.size := by have := b6.size; omega
          have SZ7 := Lib.hid hsz7
          rw [← hm] at ROW
          clear hrow hvals hobs hm b6 hsz7
          go_wp2_with (first
            | (at_builtin; refine appO rfl _ _ rfl (w.heap.size + 1 + 1) (.slice a m c) m (L.flatMap oc) rfl ROW.out _ 1 (oc ⟨id + (1 + (g : Int)), .slice fa fn fc, l⟩) rfl (At2.sl (x := ⟨id + (1 + (g : Int)), .slice fa fn fc, l⟩) N6.out) (At2.one _ _ _ _) (by omega) SZ7.out ?_; intro a7 c7 w7 hown hg hat; have HOWN := Lib.hid hown; have HG := Lib.hid hg; have hrw : ∀ k, (Value.slice a m c).ownBlock = some k → w.heap.size + 1 + 1 ≤ k := fun k e => (World.ownsRow.lt ROW.out k e).1; have HRW := Lib.hid hrw; have HH8 := Lib.hid (HH7.out.grown_ hg (fun e => by have := hrw _ e; omega)); have HR8 := Lib.hid (HR7.out.grown_ hg (fun e => by have := hrw _ e; omega)); have h4 := HH8.out.c0; have h5 := HH8.out.f0; clear hown hg hat hrw)
            | fail)
          go_roundw
          case rel =>
            refine ⟨m + 1, id + (1 + (g : Int)), a7, m + 1, c7, O ++ [(id + (1 + (g : Int)), l)], by omega, rfl, by go_num, by omega, by omega, HR8.out.far (p := ⟨w.heap.size + 1, 0, none⟩) (by simp) _, HH8.out.put _, ?_, rfl, HM2.out.snoc hid0 (by omega) (by omega) HLV.out, ?_⟩
            · rw [← HOBS.out]
              exact own_push (x := ⟨id + (1 + (g : Int)), .slice fa fn fc, l⟩) ROW.out VALS.out VX.out HOWN.out HM.out HG.out (Nat.lt_succ_self _)
            · exact (R7.out.grow HG.out (fun k e => by have := HRW.out k e; omega)).setCell (p := ⟨w.heap.size + 1, 0, none⟩) (Nat.le_succ _) _
          case measure => simp [intOf]; omega
    · have d1 : decide ((m : Int) < (n : Int)) = false := decide_eq_false (by omega)
      have h3 := HH2.out.c0
      have h4 := HR2.out.c0
      have h5 := HR2.out.f0
      go_wp2_with fail
      have hc := HR2.out.put (.slice a m c)
      have hc0 := hc.c0
      refine bodyPost_ret (v := .agg #[.slice a m c]) (by simp [results, Try.results8, go_sem, hc0]) rfl ?_
      obtain ⟨L, hL, hobs⟩ := HO2.out
      have hm : m = L.length := by obtain ⟨a', c', e⟩ := SlAt.shape (own_sl hL.1); exact (Value.slice.inj e).2.1
      have hlen : O.length = m := by rw [← hobs, obs_len, ← hm]
      have ho2 := HO2.out.set (p := ⟨w.heap.size, 0, none⟩) (show w.heap.size < w.heap.size + 1 + 1 by omega) (.slice a m c)
      refine ⟨a, m, c, O, rfl, ?_, ⟨by omega, HM2.out.asc, fun x hx => by have := HM2.out.le x hx; omega, HM2.out.ok⟩, R2.out.setCell (p := ⟨w.heap.size, 0, none⟩) (Nat.le_refl _) _⟩
      obtain ⟨L2, ⟨h6, h7⟩, h8⟩ := ho2
      exact ⟨L2, ⟨own_mono h6 (by omega), fun x hx => (h7 x hx).mono (by omega)⟩, h8⟩
end Go.Proofs.Ytbnippldclpclaa
