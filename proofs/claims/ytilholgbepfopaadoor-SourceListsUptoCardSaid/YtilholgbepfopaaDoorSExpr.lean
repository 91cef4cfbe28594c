/- validExpr (of the code): a closure that calls itself, with a count. -/
import Derived.Test.YtilholgbepfopaaDoorSEvery
namespace Go.Proofs.YtilholgbepfopaaDoor
open Go.RowKit

mutual
def vE (left : Int) : Ex → Bool × Int
  | .mk k n nm op l => if 0 ≤ left - 1 ∧ vNode (.mk k n nm op l) = true then vL (left - 1) l else (false, left - 1)
def vL (left : Int) : List Ex → Bool × Int
  | [] => (true, left)
  | x :: l => if (vE left x).1 = true then vL (vE left x).2 l else (false, (vE left x).2)
end
mutual
/-- all nodes are as they must be -/
def gE : Ex → Bool
  | .mk k n nm op l => vNode (.mk k n nm op l) && gL l
def gL : List Ex → Bool
  | [] => true
  | e :: l => gE e && gL l
end
theorem vE_parts (left : Int) (e : Ex) : vE left e = if 0 ≤ left - 1 ∧ vNode e = true then vL (left - 1) e.l else (false, left - 1) := by
  cases e
  rw [vE]
  rfl
theorem gE_parts (e : Ex) : gE e = (vNode e && gL e.l) := by
  cases e
  rw [gE]
  rfl
theorem vL_ev (left : Int) (l : List Ex) : vL left l = evL vE left l := by
  induction l generalizing left with
  | nil => rw [vL, evL]
  | cons x l ih => rw [vL, evL, ih]
mutual
theorem vE_val : ∀ (e : Ex) (left : Int), 0 ≤ left → (vE left e).1 = (gE e && decide ((e.sz : Int) ≤ left)) ∧ ((vE left e).1 = true → (vE left e).2 = left - e.sz)
  | .mk k n nm op l, left, h0 => by
    rw [vE, gE, Ex.sz]
    by_cases h1 : 0 ≤ left - 1
    · cases h2 : vNode (.mk k n nm op l) with
      | true =>
        rw [if_pos ⟨h1, rfl⟩]
        obtain ⟨h3, h4⟩ := vL_val l (left - 1) h1
        refine ⟨?_, fun h => ?_⟩
        · rw [h3, Bool.true_and]
          congr 1
          exact decide_eq_decide.2 (by omega)
        · rw [h4 h]; omega
      | false =>
        rw [if_neg (by rintro ⟨_, h⟩; cases h)]
        exact ⟨by simp, fun h => by cases h⟩
    · rw [if_neg (fun h => h1 h.1)]
      refine ⟨?_, fun h => by cases h⟩
      rw [decide_eq_false (by omega), Bool.and_false]
theorem vL_val : ∀ (l : List Ex) (left : Int), 0 ≤ left → (vL left l).1 = (gL l && decide ((szE l : Int) ≤ left)) ∧ ((vL left l).1 = true → (vL left l).2 = left - szE l)
  | [], left, h0 => by
    rw [vL, gL, szE]
    exact ⟨by simp [h0], fun _ => by simp⟩
  | x :: l, left, h0 => by
    rw [vL, gL, szE]
    obtain ⟨h1, h2⟩ := vE_val x left h0
    cases h3 : (vE left x).1 with
    | true =>
      rw [if_pos rfl]
      rw [h3] at h1
      have h4 := h2 h3
      obtain ⟨h5, h6⟩ : gE x = true ∧ (x.sz : Int) ≤ left := by simpa using h1.symm
      obtain ⟨h7, h8⟩ := vL_val l (vE left x).2 (by omega)
      refine ⟨?_, fun h => ?_⟩
      · rw [h7, h5, Bool.true_and, h4]
        congr 1
        exact decide_eq_decide.2 (by omega)
      · rw [h8 h, h4]; omega
    | false =>
      rw [if_neg (by decide)]
      refine ⟨?_, fun h => by cases h⟩
      rw [h3] at h1
      show false = _
      cases h5 : gE x with
      | false => simp
      | true =>
        rw [h5, Bool.true_and] at h1
        have := of_decide_eq_false h1.symm
        rw [decide_eq_false (by omega), Bool.and_false]
end
/-- the count and the closure -/
structure RX (bl bf : Nat) (b : Bool) (w : World) (left : Int) : Prop where
  c : CsT w bl [.int .i64 left] 3
  f : CsT w bf [.func (.func 84) #[] #[.pointer (some ⟨bl, 0, none⟩), .pointer (some ⟨bf, 0, none⟩)]] 107
  p : b = true → 0 ≤ left
  lo : -1 ≤ left
  hi : left ≤ 16
theorem RX.below {bl bf : Nat} (b : Bool) (w : World) (left : Int) (w' : World) (h : RX bl bf b w left) (hb : Below w.heap.size w w') : RX bl bf b w' left := ⟨h.c.below hb, h.f.below hb, h.p, h.lo, h.hi⟩
theorem enter_vexpr (args : Array Value) (w : World) : (callFunc 84 args).run Tryd.prog w = .ok (.enter 84 args) w := call_enter Tryd.func84 (by kernel_rfl) (by kernel_rfl) args w
theorem CsT.far {w : World} {b : Nat} {cs : List Value} {t : TypeId} (h : CsT w b cs t) {p : Addr} (hp : b ≠ p.block) (u : Value) : CsT (w.setCell p u) b cs t := (Below.heap_setCell w p u b hp).trans h
theorem vx_new (w : World) (cs : Array Value) : ∃ W, (((w.alloc (.cells cs 42)).alloc (.cells #[.int .i64 16] 3)).alloc (.cells #[.func (.func 84) #[] #[.pointer (some ⟨w.heap.size + 1, 0, none⟩), .pointer (some ⟨w.heap.size + 1 + 1, 0, none⟩)]] 107)) = W ∧ Below w.heap.size w W ∧
    CsT W (w.heap.size + 1) [.int .i64 16] 3 ∧ CsT W (w.heap.size + 1 + 1) [.func (.func 84) #[] #[.pointer (some ⟨w.heap.size + 1, 0, none⟩), .pointer (some ⟨w.heap.size + 1 + 1, 0, none⟩)]] 107 := by
  have b1 := below1 w (.cells cs 42)
  have h1 := CsT.new (w.alloc (.cells cs 42)) [.int .i64 16] 3
  rw [show (w.alloc (.cells cs 42)).heap.size = w.heap.size + 1 from by simp] at h1
  have b2 := b1.then_' (below1 _ (.cells #[.int .i64 16] 3))
  have h2 := CsT.new ((w.alloc (.cells cs 42)).alloc (.cells #[.int .i64 16] 3)) [.func (.func 84) #[] #[.pointer (some ⟨w.heap.size + 1, 0, none⟩), .pointer (some ⟨w.heap.size + 1 + 1, 0, none⟩)]] 107
  rw [show ((w.alloc (.cells cs 42)).alloc (.cells #[.int .i64 16] 3)).heap.size = w.heap.size + 1 + 1 from by simp] at h2
  exact ⟨_, rfl, b2.then_' (below1 _ _), h1.below (below1 _ _), h2⟩

set_option maxHeartbeats 4000000 in
set_option maxRecDepth 100000 in
theorem vexpr1_any (bl bf : Nat) (w0 : World) (hne : bf ≠ bl) (hbl : w0.heap.size ≤ bl) (hg : Glob w0) (m : Nat) : ∀ (e : Ex) (v : Value) (left : Int) (w : World), e.sz ≤ m → m ≤ 10000000 → ExsAt w0 v e.l → Below w0.heap.size w0 w → RX bl bf true w left →
    Calls Tryd.prog 84 #[exV e v, .pointer (some ⟨bl, 0, none⟩), .pointer (some ⟨bf, 0, none⟩)] w (fun e' w' => e' = .returned (.bool (vE left e).1) ∧ RX bl bf (vE left e).1 w' (vE left e).2 ∧ Fr w0.heap.size (fun k => k = bl) w w') := by
  induction m with
  | zero => intro e _ _ _ h; have := e.sz_pos; omega
  | succ m ih =>
    intro e v left w hsz hm hv hb0 hr
    obtain ⟨a, cp, rfl⟩ := hv.shape
    have H := Lib.hid hv
    have B0 := Lib.hid hb0
    have IH := Lib.hid (fun e v left w h => ih e v left w h (by omega))
    have R0 := Lib.hid hr
    have HG := Lib.hid hg
    have HP := Lib.hid (vE_parts left e)
    have HSZ : Hid (szE e.l ≤ m) := Lib.hid (by have := e.sz_l; omega)
    have hll : e.l.length ≤ 10000000 := by have := szE_len e.l; have := e.sz_l; omega
    have HLL := Lib.hid hll
    have h0 := hr.p rfl
    have h16 := hr.hi
    have P := Lib.hid (CsT.new w [.int .i64 e.kind, .int .i64 e.n, .string e.name, .int .i64 e.op, .slice a e.l.length cp] 42)
    have B1 := Lib.hid (below1 w (.cells #[.int .i64 e.kind, .int .i64 e.n, .string e.name, .int .i64 e.op, .slice a e.l.length cp] 42))
    have C1 := Lib.hid (hr.c.below B1.out)
    have hblw : bl ≠ w.heap.size := by have := hr.c.lt; omega
    clear ih hsz hm hv hb0 hr hg
    unfold exV
    go_enter Tryd.func84, Tryd.ntmps84
    have c0 := C1.out.at_.cell 0 _ rfl
    have z0 := C1.out.at_.fr 0
    have F1 := Lib.hid (R0.out.f.below B1.out)
    have C2 := Lib.hid (C1.out.set0 (v := .int .i64 (left - 1)))
    have F2 := Lib.hid (F1.out.far (p := ⟨bl, 0, none⟩) hne (.int .i64 (left - 1)))
    have P2 := Lib.hid (P.out.far (p := ⟨bl, 0, none⟩) (fun e => hblw e.symm) (.int .i64 (left - 1)))
    have FR := Lib.hid ((Fr.of_below (B := w0.heap.size) (E := fun k => k = bl) B1.out).set (p := ⟨bl, 0, none⟩) rfl (.int .i64 (left - 1)))
    by_cases hz : left < 1
    · have HF : Hid (vE left e = (false, left - 1)) := Lib.hid (by rw [HP.out, if_neg (fun h => by omega)])
      go_wp2_with fail
      go_ret
      rw [HF.out]
      exact ⟨rfl, ⟨C2.out, F2.out, fun h => (by cases h), by omega, by omega⟩, FR.out⟩
    · have h1 : 1 ≤ left := by omega
      clear hz
      go_wp2_with fail
      generalize (w.alloc (.cells #[.int .i64 e.kind, .int .i64 e.n, .string e.name, .int .i64 e.op, .slice a e.l.length cp] 42)).setCell ⟨bl, 0, none⟩ (.int .i64 (left - 1)) = w2 at *
      clear c0 z0 C1 F1 P
      have B2 := Lib.hid (FR.out.low B0.out (Nat.le_refl _) (fun k h => by rw [h]; exact hbl))
      refine (vnode_any e (.slice a e.l.length cp) w2 (H.out.below B2.out) (HG.out.below B2.out)).mono ?_
      rintro e' w3 ⟨rfl, hb⟩
      have C3 := Lib.hid (C2.out.below hb)
      have F3 := Lib.hid (F2.out.below hb)
      have P3 := Lib.hid (P2.out.below hb)
      have FR3 := Lib.hid (FR.out.below hb)
      have B3 := Lib.hid (B2.out.then_' hb)
      clear hb C2 F2 P2 FR B2
      cases hx : vNode e with
      | false =>
        have HF : Hid (vE left e = (false, left - 1)) := Lib.hid (by rw [HP.out, if_neg (fun h => by rw [hx] at h; cases h.2)])
        clear hx
        go_wp2_with fail
        go_ret
        rw [HF.out]
        exact ⟨rfl, ⟨C3.out, F3.out, fun h => (by cases h), by omega, by omega⟩, FR3.out⟩
      | true =>
        have HF : Hid (vE left e = evL vE (left - 1) e.l) := Lib.hid (by rw [HP.out, if_pos ⟨by omega, hx⟩, vL_ev])
        clear hx
        have p4 := P3.out.at_.cell 4 _ rfl
        have f0 := F3.out.at_.cell 0 _ rfl
        have R3 : Hid (RX bl bf true w3 (left - 1)) := Lib.hid ⟨C3.out, F3.out, fun _ => by omega, by omega, by omega⟩
        go_wp2_with fail
        refine (everyE_any 84 #[.pointer (some ⟨bl, 0, none⟩), .pointer (some ⟨bf, 0, none⟩)] (RX bl bf) vE (Fr w0.heap.size (fun k => k = bl)) w0 e.l enter_vexpr (fun x hx u st w' hr hb hu => IH.out x u st w' (Nat.le_trans (szE_mem hx) HSZ.out) hu hb hr) RX.below (fun _ _ _ h h' => h.trans h') (fun _ _ h => .of_below h)
          (fun _ _ h h' => h'.low h (Nat.le_refl _) (fun k hk => by rw [hk]; exact hbl)) (.slice a e.l.length cp) (left - 1) w3 HLL.out H.out B3.out R3.out).mono ?_
        rintro e' w4 ⟨rfl, hr4, hf4⟩
        have R4 := Lib.hid hr4
        have F4 := Lib.hid (FR3.out.trans hf4)
        clear hr4 hf4 p4 f0
        generalize evL vE (left - 1) e.l = rr at *
        obtain ⟨r1, r2⟩ := rr
        go_wp2_with fail
        go_ret
        rw [HF.out]
        exact ⟨rfl, R4.out, F4.out⟩

set_option maxHeartbeats 4000000 in
set_option maxRecDepth 100000 in
/-- whether an expression is as it must be -/
theorem vexpr_any (e : Ex) (v : Value) (w : World) (hsz : e.sz ≤ 10000000) (hv : ExsAt w v e.l) (hg : Glob w) : Calls Tryd.prog 76 #[exV e v] w (RetB w (gE e && decide (e.sz ≤ 16))) := by
  obtain ⟨a, cp, rfl⟩ := hv.shape
  have H := Lib.hid hv
  have HG := Lib.hid hg
  have HV : Hid ((vE 16 e).1 = (gE e && decide (e.sz ≤ 16))) := Lib.hid (by rw [(vE_val e 16 (by decide)).1]; congr 1; exact decide_eq_decide.2 (by omega))
  clear hv hg
  obtain ⟨W, hW, hB, hC, hF⟩ := vx_new w #[.int .i64 e.kind, .int .i64 e.n, .string e.name, .int .i64 e.op, .slice a e.l.length cp]
  have HW := Lib.hid hW
  have B1 := Lib.hid hB
  have C1 := Lib.hid hC
  have F1 := Lib.hid hF
  clear hW hB hC hF
  unfold exV
  go_enter Tryd.func76, Tryd.ntmps76
  go_wp2_with fail
  rw [HW.out]
  refine (vexpr1_any (w.heap.size + 1) (w.heap.size + 1 + 1) w (by omega) (by omega) HG.out e.sz e (.slice a e.l.length cp) 16 W (Nat.le_refl _) hsz H.out B1.out ⟨C1.out, F1.out, fun _ => by decide, by decide, by decide⟩).mono ?_
  rintro e' w2 ⟨rfl, hr, hf⟩
  have F2 := Lib.hid (hf.low B1.out (Nat.le_refl _) (fun k hk => by omega))
  rw [HV.out]
  clear hr hf
  go_wp2_with fail
  go_ret
  exact ⟨rfl, F2.out⟩
end Go.Proofs.YtilholgbepfopaaDoor
