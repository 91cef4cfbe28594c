import Derived.Test.YtilholgbepfopaaDoorZ3
import Derived.Test.YtilholgbepfopaaDoorZ6
/- Copies of programs. -/
namespace Go.Proofs.YtilholgbepfopaaDoor
open Go.RowKit

/-- the bodies' rows may be written -/
def Unf (w : World) (B : Nat) (css : List (List Value)) : Prop := ∀ c ∈ css, ∀ a n k, c[2]? = some (Value.slice (some a) n k) → B ≤ a.block ∧ ∀ j, w.frozen? ⟨a.block, j, none⟩ = false
theorem Unf.append {w : World} {B : Nat} {c d : List (List Value)} (h : Unf w B c) (h2 : Unf w B d) : Unf w B (c ++ d) := fun x hx => by
  rcases List.mem_append.1 hx with hx | hx
  · exact h x hx
  · exact h2 x hx
/-- a row of functions that the call owns, the rows of their bodies may be written -/
def FnsOwn2 (w : World) (B : Nat) (v : Value) (l : List Fn) : Prop := ∃ css : List (List Value), w.ownsRow B 35 3 v l.length css.flatten ∧ InP (fun k => B ≤ k ∧ v.ownBlock ≠ some k) w (fun w => FnL w l css ∧ Unf w B css)
theorem FnsOwn2.nil (w : World) (B : Nat) : FnsOwn2 w B (.slice none 0 0) [] := ⟨[], World.ownsRow_nil w B 35 3, fun _ _ => ⟨by unfold FnL; rfl, fun c hc => by cases hc⟩⟩
theorem FnsOwn2.own {w : World} {B : Nat} {v : Value} {l : List Fn} (h : FnsOwn2 w B v l) : FnsOwn w B v l := by
  obtain ⟨css, h1, h2⟩ := h
  exact ⟨css, h1, fun w' ha => (h2 w' ha).1⟩
theorem FnsOwn2.at_ {w : World} {B : Nat} {v : Value} {l : List Fn} (h : FnsOwn2 w B v l) : FnsAt w v l := h.own.at_
theorem FnsOwn2.below {w w' : World} {B : Nat} {v : Value} {l : List Fn} (h : FnsOwn2 w B v l) (hb : Below w.heap.size w w') : FnsOwn2 w' B v l := by
  obtain ⟨css, h1, h2⟩ := h
  exact ⟨css, own_below h1 hb, h2.step (.of_below hb)⟩
theorem FnsOwn2.agree {w w' : World} {B : Nat} {v : Value} {l : List Fn} (h : FnsOwn2 w B v l) (ha : Agree (fun k => B ≤ k) w w') : FnsOwn2 w' B v l := by
  obtain ⟨css, h1, h2⟩ := h
  refine ⟨css, ⟨h1.1, ?_⟩, h2.step (ha.mono (fun k _ h => h.1))⟩
  rcases h1.2 with hn | ⟨g, cap, cur, rfl, hbg, hgg, rest⟩
  · exact .inl hn
  · exact .inr ⟨g, cap, cur, rfl, hbg, by rw [ha.2 g hbg (Array.getElem?_eq_some_iff.1 hgg).1]; exact hgg, rest⟩
section
variable {w : World} {ops : Array Oper} {o : Oper} {a : Act} {Q : Exit → Act → World → Prop}
theorem appF2_step {K : Act → World → Prop} {E : Prop} (hgd : o.guard = none) (s x : Operand) (ho : o.op = .call { callee := .builtin .append, args := #[s, x], argTypes := #[24, 24] })
    (B : Nat) (v : Value) (l : List Fn) (hs : a.eval s = v) (hown : FnsOwn2 w B v l) (xv : Value) (m : List Fn) (hxe : a.eval x = xv) (hxl : ∃ css, SlAt w 3 xv m.length css.flatten ∧ InP (fun k => B ≤ k ∧ v.ownBlock ≠ some k) w (fun w => FnL w m css ∧ Unf w B css)) (hn : l.length + m.length ≤ 1000000000) (hbase : B ≤ w.heap.size)
    (h : ∀ v' w', FnsOwn2 w' B v' (l ++ m) → w.grownBy w' v.ownBlock → (v'.ownBlock = v.ownBlock ∨ v'.ownBlock = some w.heap.size) → K (a.put o.dst v') w') :
    if Region.wanted o (yielded ops a.tmps) = true then Oper.wp Tryd.prog o a w K Q else E := by
  obtain ⟨css, h1, h2⟩ := hown
  obtain ⟨dss, h3, h4⟩ := hxl
  refine step_append_sl hgd s x 24 ho B 35 _ 3 64 Tryd.underlying24 info_Fn rfl (by decide) v l.length _ hs h1 xv m.length _ hxe h3 (FnL_one h4.here.1) (by unfold maxLen; omega) (by omega) hbase ?_
  intro v' w' h5 h6 h7
  refine h v' w' ⟨css ++ dss, ?_, ?_⟩ h6 h7
  · rw [List.length_append, List.flatten_append]
    exact h5
  · have hag : ∀ w2, Agree (fun k => B ≤ k ∧ v'.ownBlock ≠ some k) w' w2 → Agree (fun k => B ≤ k ∧ v.ownBlock ≠ some k) w w2 := fun w2 h8 => by
      refine ⟨Nat.le_trans h6.size h8.1, fun k hk hkw => ?_⟩
      have e1 := h6.block k hkw (fun e => hk.2 e.symm)
      refine (h8.2 k ⟨hk.1, fun e => ?_⟩ (Nat.lt_of_lt_of_le hkw h6.size)).trans e1
      rcases h7 with h7 | h7
      · rw [h7] at e; exact hk.2 e
      · rw [h7] at e; have := Option.some.inj e; omega
    exact fun w2 h8 => ⟨FnL_append (h2 w2 (hag w2 h8)).1 (h4 w2 (hag w2 h8)).1, (h2 w2 (hag w2 h8)).2.append (h4 w2 (hag w2 h8)).2⟩
end
def RKP (w : World) (l : List Fn) (en : Ending) (w' : World) : Prop := ∃ a c B, en = .returned (.agg #[.slice a l.length c]) ∧ w.heap.size ≤ B ∧ FnsOwn2 w' B (.slice a l.length c) l ∧ Below w.heap.size w w'
theorem kp_new (w : World) (v : Value) : ∃ W, (((w.alloc (.cells #[v] 26)).alloc (.cells #[.slice none 0 0] 26)).alloc (.cells #[.slice none 0 0] 26)) = W ∧ Below w.heap.size w W ∧ CsT W w.heap.size [v] 26 ∧
    CsT W (w.heap.size + 1) [.slice none 0 0] 26 ∧ CsT W (w.heap.size + 1 + 1) [.slice none 0 0] 26 ∧ W.heap.size = w.heap.size + 1 + 1 + 1 := by
  have b1 := below1 w (.cells #[v] 26)
  have h0 := CsT.new w [v] 26
  have h1 := CsT.new (w.alloc (.cells #[v] 26)) [.slice none 0 0] 26
  rw [show (w.alloc (.cells #[v] 26)).heap.size = w.heap.size + 1 from by simp] at h1
  have b2 := b1.then_' (below1 _ (.cells #[.slice none 0 0] 26))
  have h2 := CsT.new ((w.alloc (.cells #[v] 26)).alloc (.cells #[.slice none 0 0] 26)) [.slice none 0 0] 26
  rw [show ((w.alloc (.cells #[v] 26)).alloc (.cells #[.slice none 0 0] 26)).heap.size = w.heap.size + 1 + 1 from by simp] at h2
  exact ⟨_, rfl, b2.then_' (below1 _ _), (h0.below (below1 _ _)).below (below1 _ _), h1.below (below1 _ _), h2, by simp⟩
theorem own_unf {w : World} {base : Nat} {e : TypeId} {sz n : Nat} {v : Value} {xs : List Value} (h : w.ownsRow base e sz v n xs) {P : Nat → Prop} (hP : ∀ k, base ≤ k → P k) : ∀ w', Agree P w w' → ∀ a m c, v = .slice (some a) m c → base ≤ a.block ∧ ∀ j, w'.frozen? ⟨a.block, j, none⟩ = false := by
  rintro w' ha a m c rfl
  rcases h.2 with ⟨e1, _⟩ | ⟨g, cap, cur, e1, hbg, hgg, _⟩
  · cases e1
  · obtain ⟨e2, -, -⟩ := Value.slice.inj e1
    obtain rfl := Option.some.inj e2
    have h1 := ha.2 g (hP g hbg) (Array.getElem?_eq_some_iff.1 hgg).1
    exact ⟨hbg, fun j => frozen_of_row _ _ j _ _ (h1.trans hgg)⟩
theorem kp_block (w : World) (B N N2 : Nat) (row : Option Nat) (x : Fn) (u1 u2 : Value) (hB : B ≤ N) (hN : N ≤ N2) (hrow : ∀ g, row = some g → g < N) (h1 : NmsOwn w N u1 x.params) (h2 : StsOwn w N2 u2 x.body) :
    ∃ css, SlAt (w.alloc (.cells #[.string x.name, u1, u2] 35)) 3 (.slice (some ⟨w.heap.size, 0, none⟩) 1 1) [x].length css.flatten ∧ InP (fun k => B ≤ k ∧ row ≠ some k) (w.alloc (.cells #[.string x.name, u1, u2] 35)) (fun w => FnL w [x] css ∧ Unf w B css) := by
  have b1 := below1 w (.cells #[.string x.name, u1, u2] 35)
  refine ⟨[[.string x.name, u1, u2]], sl_one w [.string x.name, u1, u2] 35, fun w' ha => ?_⟩
  have ha' : Agree (fun k => N ≤ k) w w' := (Agree.of_below b1).trans (ha.mono (fun k _ h => ⟨Nat.le_trans hB h, fun e => by have := hrow k e; omega⟩))
  refine ⟨fnl_one x ((own_sl h1).agree ha' (fun a n c e => (own_block h1 a n c e).2)) (h2.in_ w' (ha'.mono (fun k _ h => Nat.le_trans hN h))), fun c hc a n k he => ?_⟩
  simp only [List.mem_cons, List.not_mem_nil, or_false] at hc
  subst hc
  obtain ⟨css, h3, _⟩ := h2
  have he' : u2 = .slice (some a) n k := by simpa using he
  have h4 := own_unf h3 (P := fun k => N ≤ k) (fun k hk => Nat.le_trans hN hk) w' ha' a n k he'
  exact ⟨Nat.le_trans hB (Nat.le_trans hN h4.1), h4.2⟩

end Go.Proofs.YtilholgbepfopaaDoor
/- keep.Program. -/
namespace Go.Proofs.YtilholgbepfopaaDoor
open Go.RowKit

/-- the load of the list so far, named: go_region_held3 is not to ask for it in S -/
def kpLoad : Oper := { dst := some 14, op := Op.load 24 (Operand.tmp 13), type := 24, pos := "keep.go:62", after := #[{ on := 0, ground := Ground.data }], guard := none }
theorem kpLoad_def : kpLoad = { dst := some 14, op := Op.load 24 (Operand.tmp 13), type := 24, pos := "keep.go:62", after := #[{ on := 0, ground := Ground.data }], guard := none } := rfl
theorem kf {w : World} {b : Nat} {u0 u1 u2 : Value} {t : TypeId} (h : CsT w b [u0, u1, u2] t) : w.cell? ⟨b, 0, none⟩ = some u0 ∧ w.cell? ⟨b, 1, none⟩ = some u1 ∧ w.cell? ⟨b, 2, none⟩ = some u2 := ⟨h.at_.cell 0 _ rfl, h.at_.cell 1 _ rfl, h.at_.cell 2 _ rfl⟩
theorem kp_rel {w W w7 : World} {a7 : Option Addr} {n c7 : Nat} {v0 v1 : Value} {m : List Fn} (hx : CsT w7 (w.heap.size + 1 + 1) [v0] 26) (hr : CsT w7 (w.heap.size + 1) [v1] 26) (ho : FnsOwn2 w7 W.heap.size (.slice a7 n c7) m) (hb : Below w.heap.size w w7) (hs : W.heap.size ≤ w7.heap.size) (hz : W.heap.size = w.heap.size + 1 + 1 + 1) :
    ∃ a7' c7', CsT (w7.setCell ⟨w.heap.size + 1 + 1, 0, none⟩ (.slice a7 n c7)) (w.heap.size + 1 + 1) [.slice a7' n c7'] 26 ∧ CsT (w7.setCell ⟨w.heap.size + 1 + 1, 0, none⟩ (.slice a7 n c7)) (w.heap.size + 1) [v1] 26 ∧ FnsOwn2 (w7.setCell ⟨w.heap.size + 1 + 1, 0, none⟩ (.slice a7 n c7)) W.heap.size (.slice a7' n c7') m ∧
      Below w.heap.size w (w7.setCell ⟨w.heap.size + 1 + 1, 0, none⟩ (.slice a7 n c7)) ∧ Hid (W.heap.size ≤ (w7.setCell ⟨w.heap.size + 1 + 1, 0, none⟩ (.slice a7 n c7)).heap.size) :=
  ⟨a7, c7, hx.setAt 0 (.slice a7 n c7), hr.far (p := ⟨w.heap.size + 1 + 1, 0, none⟩) (by simp) _, ho.agree (Agree.set (P := fun q => W.heap.size ≤ q) _ (p := ⟨w.heap.size + 1 + 1, 0, none⟩) (by simp only; omega) _), hb.setCell (p := ⟨w.heap.size + 1 + 1, 0, none⟩) (by simp only; omega) _, Lib.hid (by simpa [World.setCell] using hs)⟩

set_option maxHeartbeats 8000000 in
set_option maxRecDepth 100000 in
theorem kprog_any (l : List Fn) (v : Value) (w : World) (hsz : szP l ≤ 4000000) (hv : FnsAt w v l) : Calls Tryd.prog 13 #[.agg #[v]] w (RKP w l) := by
  obtain ⟨a, cp, rfl⟩ := hv.shape
  have H := Lib.hid hv
  have HSZ := Lib.hid hsz
  have hl : l.length ≤ 4000000 := Nat.le_trans (szP_len l) hsz
  obtain ⟨n, hn⟩ : ∃ n, n = l.length := ⟨_, rfl⟩
  have HN := Lib.hid hn
  rw [← hn] at H hl ⊢
  obtain ⟨W, hW, hB, hP, hR, hO, hz⟩ := kp_new w (.slice a n cp)
  have HW := Lib.hid hW
  have B1 := Lib.hid hB
  have R1 := Lib.hid hR
  have O1 := Lib.hid hO
  have HZ := Lib.hid hz
  have p0 := hP.at_.cell 0 _ rfl
  clear hsz hv hn hW hB hP hR hO hz
  go_enter Tryd.func13, Tryd.ntmps13
  go_wp2_with fail
  rw [HW.out]
  clear p0
  go_loopw [9] (fun k_ wr => ∃ (k : Nat) (a2 : Option Addr) (c2 : Nat), k ≤ n ∧ k_ = .int .i64 k ∧ CsT wr (w.heap.size + 1 + 1) [.slice a2 k c2] 26 ∧ CsT wr (w.heap.size + 1) [.slice none 0 0] 26 ∧ FnsOwn2 wr W.heap.size (.slice a2 k c2) (l.take k) ∧ Below w.heap.size w wr ∧ Hid (W.heap.size ≤ wr.heap.size)) (fun k_ _ => n - (intOf k_).toNat)
  case atStart => exact ⟨0, none, 0, Nat.zero_le _, rfl, O1.out, R1.out, FnsOwn2.nil _ _, B1.out, Lib.hid (Nat.le_refl _)⟩
  case round =>
    obtain ⟨k, a2, c2, hk, rfl, hbx, hbr, hown, hb, hws⟩ := hrel
    have BX := Lib.hid hbx
    have BRs := Lib.hid hbr
    have OW := Lib.hid hown
    have BR := Lib.hid hb
    clear hbx hbr hown
    by_cases hlt : k < n
    · obtain ⟨x, hx⟩ : ∃ x, l[k]? = some x := ⟨_, List.getElem?_eq_getElem (by rw [← HN.out]; exact hlt)⟩
      obtain ⟨b, o, c', u, y, hv, hbb, f0, f1, f2, hu, hy⟩ := (H.out.below hb).elem hx
      obtain ⟨rfl, -, rfl⟩ := Value.slice.inj hv
      obtain ⟨ua, uc, rfl⟩ := hu.shape
      obtain ⟨ya, yc, rfl⟩ := hy.shape
      have HU := Lib.hid hu
      have HY := Lib.hid hy
      have HTK := Lib.hid (take_snoc' hx)
      have HXZ : Hid (szS x.body < 5000000 ∧ x.params.length ≤ 100000000) := Lib.hid (by have h1 := szP_mem (List.mem_of_getElem? hx); have h2 := HSZ.out; unfold szF at h1; omega)
      have hki : (k : Int) < (n : Int) := by omega
      have Bz := Lib.hid (below1 wr (.cells #[.string x.name, .slice ua x.params.length uc, .slice ya x.body.length yc] 35))
      have BZ := Lib.hid (hb.then_' Bz.out)
      have OZ := Lib.hid (OW.out.below Bz.out)
      have T := Lib.hid (CsT.new wr [.string x.name, .slice ua x.params.length uc, .slice ya x.body.length yc] 35)
      have XZ := Lib.hid (BX.out.below Bz.out)
      have RZ := Lib.hid (BRs.out.below Bz.out)
      have hrow2 : Hid (∀ g, (Value.slice a2 k c2).ownBlock = some g → g < wr.heap.size) := Lib.hid (fun g e => by
        obtain ⟨css, h1, _⟩ := OW.out
        exact (World.ownsRow.lt h1 g e).2)
      have HLK : Hid ((l.take k).length = k) := Lib.hid (by rw [List.length_take, ← HN.out]; omega)
      have HL7 : Hid ((l.take (k + 1)).length = k + 1) := Lib.hid (by rw [List.length_take, ← HN.out]; omega)
      clear hv hb hx hu hy OW BX BRs
      go_wp2_with fail
      have UZ := Lib.hid (HU.out.below Bz.out)
      have YZ := Lib.hid (HY.out.below Bz.out)
      have HWZ := Lib.hid (Nat.le_trans hws.out Bz.out.size)
      generalize wr.alloc (.cells #[.string x.name, .slice ua x.params.length uc, .slice ya x.body.length yc] 35) = wz at *
      clear f0 f1 f2 HU HY
      have hrow : Hid (∀ g, (Value.slice a2 k c2).ownBlock = some g → g < wz.heap.size) := Lib.hid (fun g e => by
        obtain ⟨css, h1, _⟩ := OZ.out
        exact (World.ownsRow.lt h1 g e).2)
      have HOB : Hid (∀ g, (Value.slice a2 k c2).ownBlock = some g → w.heap.size ≤ g) := Lib.hid (fun g e => by
        obtain ⟨css, h1, _⟩ := OZ.out
        have := (World.ownsRow.lt h1 g e).1
        have := HZ.out
        omega)
      have hrbx : Hid ((Value.slice a2 k c2).ownBlock ≠ some (w.heap.size + 1 + 1)) := Lib.hid (fun e => by
        obtain ⟨css, h1, _⟩ := OZ.out
        have := (World.ownsRow.lt h1 _ e).1
        have := HZ.out
        omega)
      have hrbr : Hid ((Value.slice a2 k c2).ownBlock ≠ some (w.heap.size + 1)) := Lib.hid (fun e => by
        obtain ⟨css, h1, _⟩ := OZ.out
        have := (World.ownsRow.lt h1 _ e).1
        have := HZ.out
        omega)
      have HLEN : Hid ((l.take k).length + [x].length ≤ 1000000000) := Lib.hid (by rw [HLK.out]; simp; omega)
      have HFAR : Hid (wr.heap.size ≠ (⟨w.heap.size + 1 + 1, 0, none⟩ : Addr).block) := Lib.hid (by have h1 := HZ.out; have h2 := hws.out; simp only; omega)
      have ES : Hid (∀ args w, (callFunc 30 args).run Tryd.prog w = .ok (.enter 30 args) w) := Lib.hid (call_enter Tryd.func30 (by kernel_rfl) (by kernel_rfl))
      have ET : Hid (∀ args w, (callFunc 31 args).run Tryd.prog w = .ok (.enter 31 args) w) := Lib.hid (call_enter Tryd.func31 (by kernel_rfl) (by kernel_rfl))
      have t0 := (T.out.below (below_drew' _)).at_.cell 0 _ rfl
      have t1 := (T.out.below (below_drew' _)).at_.cell 1 _ rfl
      have t2 := (T.out.below (below_drew' _)).at_.cell 2 _ rfl
      have x0 := (XZ.out.below (below_drew' _)).at_.cell 0 _ rfl
      go_upto_region 5 with (fail)
      rw [← kpLoad_def]
      have hLoad := kpLoad_def
      go_region_held3 (fun wx => wx.cell? ⟨wr.heap.size, 0, none⟩ = some (.string x.name) ∧ wx.cell? ⟨wr.heap.size, 1, none⟩ = some (.slice ua x.params.length uc) ∧ wx.cell? ⟨wr.heap.size, 2, none⟩ = some (.slice ya x.body.length yc)) (first | exact kf (T.out.below (below_drew' _)) | exact kf (T.out.below W3.out) | exact kf (T.out.below W4.out) | exact kf (T.out.below (W4.out.then_' (below1 _ _))) | exact kf T7.out | exact kf (T7.out.far HFAR.out _) | fail) (first
        | (refine call_step rfl 30 _ _ rfl (.slice ua x.params.length uc) rfl (ES.out _ _) ?_; refine (kstrings_any (.slice ua x.params.length uc) x.params _ (UZ.out.below (below_drew' _)) HXZ.out.2).mono ?_; rintro e3 w3 ⟨a3, n3, c3, rfl, ho, hb⟩; refine ⟨_, rfl, ?_⟩; have O3 := Lib.hid ho; have W3 := Lib.hid ((below_drew' _).then_' hb); have r0 := (T.out.below W3.out).at_.cell 0 _ rfl; have r2 := (T.out.below W3.out).at_.cell 2 _ rfl; have rx := (XZ.out.below W3.out).at_.cell 0 _ rfl; clear ho hb)
        | (refine call_step rfl 31 _ _ rfl (.slice ya x.body.length yc) rfl (ET.out _ _) ?_; refine (kstmts_any 5000000 (by decide) x.body (.slice ya x.body.length yc) _ HXZ.out.1 (YZ.out.below W3.out)).mono ?_; rintro e4 w4 ⟨a4, c4, rfl, ho, hb⟩; refine ⟨_, rfl, ?_⟩; have O4 := Lib.hid ho; have W34 := Lib.hid hb; have W4 := Lib.hid (W3.out.then_' hb); have s0 := (T.out.below W4.out).at_.cell 0 _ rfl; have sx := (XZ.out.below W4.out).at_.cell 0 _ rfl; have sy := (XZ.out.below (W4.out.then_' (below1 _ (.cells #[.string x.name, .slice a3 n3 c3, .slice a4 x.body.length c4] 35)))).at_.cell 0 _ rfl; clear ho hb)
        | (refine appF2_step rfl _ _ rfl W.heap.size (.slice a2 k c2) (l.take k) rfl (OZ.out.below (W4.out.then_' (below1 _ _))) _ [x] rfl (kp_block w4 W.heap.size wz.heap.size w3.heap.size _ x _ _ HWZ.out W3.out.size hrow.out (own_below O3.out W34.out) O4.out) HLEN.out (Nat.le_trans HWZ.out (W4.out.then_' (below1 _ _)).size) ?_; intro v' w7 ho hg hat; rw [← HTK.out] at ho; obtain ⟨a7, c7, rfl⟩ := ho.at_.shape; rw [HL7.out] at ho ⊢; have O7 := Lib.hid ho; have G7 := Lib.hid ((BZ.out.then_' (W4.out.then_' (below1 _ _))).grown hg (Nat.le_trans BZ.out.size (W4.out.then_' (below1 _ _)).size) (fun g e => HOB.out g e)); have X7 := Lib.hid ((XZ.out.below (W4.out.then_' (below1 _ _))).agree (Agree.of_grown (P := fun q => q = w.heap.size + 1 + 1) hg (fun g e h => hrbx.out (h ▸ e))) rfl); have R7 := Lib.hid ((RZ.out.below (W4.out.then_' (below1 _ _))).agree (Agree.of_grown (P := fun q => q = w.heap.size + 1) hg (fun g e h => hrbr.out (h ▸ e))) rfl); have HS7 := Lib.hid (Nat.le_trans HWZ.out (Nat.le_trans (W4.out.then_' (below1 _ _)).size hg.size)); have T7 := Lib.hid ((T.out.below (W4.out.then_' (below1 _ _))).agree (Agree.of_grown (P := fun q => q = wr.heap.size) hg (fun g e h => by have := hrow2.out g e; omega)) rfl); have x7 := X7.out.at_.cell 0 _ rfl; have z7 := X7.out.at_.fr 0; clear ho hg hat)
        | fail)
      all_goals
        have HREL := Lib.hid (kp_rel X7.out R7.out O7.out G7.out HS7.out HZ.out)
        clear t0 t1 t2 x0 r0 r2 rx s0 sx sy x7 z7
        go_wp2_with fail
        go_roundw
        case rel =>
          obtain ⟨a8, c8, h1, h2, h3, h4, h5⟩ := HREL.out
          exact ⟨k + 1, a8, c8, by omega, by go_num, h1, h2, h3, h4, h5⟩
        case measure => simp [intOf]; omega
    · obtain rfl : k = n := by omega
      have e1 : l.take k = l := List.take_of_length_le (Nat.le_of_eq HN.out.symm)
      rw [e1] at OW
      have x0 := BX.out.at_.cell 0 _ rfl
      have r0 := BRs.out.at_.cell 0 _ rfl
      have r1 := BRs.out.at_.fr 0
      have BX2 := Lib.hid (BRs.out.setAt 0 (.slice a2 k c2))
      have y0 := BX2.out.at_.cell 0 _ rfl
      go_wp2_with fail
      refine bodyPost_ret (v := .agg #[.slice a2 k c2]) (by simp [results, Tryd.results13, go_sem, y0]) rfl ?_
      have HWL := Lib.hid (Nat.le_of_lt (show w.heap.size < W.heap.size by have := HZ.out; omega))
      rw [HN.out] at OW ⊢
      exact ⟨a2, c2, W.heap.size, rfl, HWL.out, OW.out.agree (Agree.set (P := fun q => W.heap.size ≤ q) _ (p := ⟨w.heap.size + 1, 0, none⟩) (by have := HZ.out; simp only; omega) _), BR.out.setCell (p := ⟨w.heap.size + 1, 0, none⟩) (by simp only; omega) _⟩
end Go.Proofs.YtilholgbepfopaaDoor
