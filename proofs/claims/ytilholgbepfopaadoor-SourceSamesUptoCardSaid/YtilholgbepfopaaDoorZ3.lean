import Derived.Test.YtilholgbepfopaaDoorZ7
/- Copies of trees (of what statements share): names, expressions. -/
namespace Go.Proofs.YtilholgbepfopaaDoor
open Go.RowKit

theorem kstrings_any (v : Value) (l : List ByteArray) (w : World) (hv : NmsAt w v l) (hl : l.length ≤ 100000000) : Calls Tryd.prog 30 #[v] w (RNms w l) := by
  have H := Lib.hid hv
  have HL := Lib.hid (show ([] : List ByteArray).length + l.length ≤ 1000000000 by simp; omega)
  clear hv
  go_enter Tryd.func30, Tryd.ntmps30
  go_wp2_with (first
    | (at_builtin; refine appN rfl _ _ rfl w.heap.size (.slice none 0 0) [] rfl (NmsOwn.nil _ _) _ l rfl H.out HL.out (Nat.le_refl _) ?_; intro v' w3 ho hg hat; obtain ⟨a3, c3, rfl⟩ := ho.at_.shape; have O3 := Lib.hid ho; have G3 := Lib.hid hg; clear ho hg hat)
    | fail)
  go_ret
  exact ⟨_, _, _, rfl, O3.out, Below.grewNone G3.out⟩

/-- a copy of an expression: what its list refers to is new -/
def RKE (w : World) (e : Ex) (en : Ending) (w' : World) : Prop := ∃ a c, en = .returned (exV e (.slice a e.l.length c)) ∧ InP (fun k => w.heap.size ≤ k) w' (fun w => ExsAt w (.slice a e.l.length c) e.l) ∧ Below w.heap.size w w'
def RKL (w : World) (l : List Ex) (en : Ending) (w' : World) : Prop := ∃ a c, en = .returned (.slice a l.length c) ∧ ExsOwn w' w.heap.size (.slice a l.length c) l ∧ Below w.heap.size w w'
def KL (m : Nat) : Prop := ∀ (l : List Ex) (v : Value) (w : World), szE l < m → ExsAt w v l → Calls Tryd.prog 58 #[v] w (RKL w l)
theorem ke_new (w : World) (cs : Array Value) : ∃ W, ((w.alloc (.cells cs 42)).alloc (.cells #[.int .i64 0, .int .i64 0, .string ⟨#[]⟩, .int .i64 0, .slice none 0 0] 42)) = W ∧ Below w.heap.size w W ∧ CsT W w.heap.size cs.toList 42 ∧ CsT W (w.heap.size + 1) [.int .i64 0, .int .i64 0, .string ⟨#[]⟩, .int .i64 0, .slice none 0 0] 42 := by
  have h1 := CsT.new w cs.toList 42
  simp only [Array.toArray_toList] at h1
  have h2 := CsT.new (w.alloc (.cells cs 42)) [.int .i64 0, .int .i64 0, .string ⟨#[]⟩, .int .i64 0, .slice none 0 0] 42
  rw [show (w.alloc (.cells cs 42)).heap.size = w.heap.size + 1 from by simp] at h2
  exact ⟨_, rfl, (below1 _ _).then_' (below1 _ _), h1.below (below1 _ _), h2⟩
theorem CsT.setAt {w : World} {b : Nat} {cs : List Value} {t : TypeId} (h : CsT w b cs t) (k : Nat) (u : Value) : CsT (w.setCell ⟨b, k, none⟩ u) b (cs.set k u) t := by
  unfold CsT World.setCell at *
  simp [Array.getElem?_modify, h]

set_option maxHeartbeats 4000000 in
set_option maxRecDepth 100000 in
theorem kexpr_of (m : Nat) (ih : KL m) (e : Ex) (v : Value) (w : World) (hsz : e.sz ≤ m) (hv : ExsAt w v e.l) : Calls Tryd.prog 72 #[exV e v] w (RKE w e) := by
  obtain ⟨a, cp, rfl⟩ := hv.shape
  have H := Lib.hid hv
  have IH := Lib.hid ih
  have HSZ : Hid (szE e.l < m) := Lib.hid (by have := e.sz_l; omega)
  obtain ⟨W, hW, hB, hP, hR⟩ := ke_new w #[.int .i64 e.kind, .int .i64 e.n, .string e.name, .int .i64 e.op, .slice a e.l.length cp]
  have HW := Lib.hid hW
  have B1 := Lib.hid hB
  have P1 := Lib.hid hP
  have R1 := Lib.hid hR
  have p4 := hP.at_.cell 4 _ rfl
  clear ih hsz hv hW hB hP hR
  unfold exV
  go_enter Tryd.func72, Tryd.ntmps72
  go_wp2_with fail
  rw [HW.out]
  refine (IH.out e.l _ W HSZ.out (H.out.below B1.out)).mono ?_
  rintro e' w2 ⟨a2, c2, rfl, hown, hb⟩
  have O2 := Lib.hid hown
  have B2 := Lib.hid (B1.out.then_' hb)
  have P2 := Lib.hid (P1.out.below hb)
  have R2 := Lib.hid (R1.out.below hb)
  have hne : w.heap.size ≠ w.heap.size + 1 := by omega
  have P3 := Lib.hid (P2.out.setAt 4 (.slice a2 e.l.length c2))
  have R3 := Lib.hid (R2.out.far (p := ⟨w.heap.size, 4, none⟩) (by simp) (.slice a2 e.l.length c2))
  have c4 := P2.out.at_.cell 4 _ rfl
  have z4 := P2.out.at_.fr 4
  have p0 := P3.out.at_.cell 0 _ rfl
  have p1 := P3.out.at_.cell 1 _ rfl
  have p2 := P3.out.at_.cell 2 _ rfl
  have p3 := P3.out.at_.cell 3 _ rfl
  have q4 := P3.out.at_.cell 4 _ rfl
  have r0 := R3.out.at_.cell 0 _ rfl
  have r1 := R3.out.at_.cell 1 _ rfl
  have r2 := R3.out.at_.cell 2 _ rfl
  have r3 := R3.out.at_.cell 3 _ rfl
  have r4 := R3.out.at_.cell 4 _ rfl
  have s0 := R3.out.at_.fr 0
  have s1 := R3.out.at_.fr 1
  have s2 := R3.out.at_.fr 2
  have s3 := R3.out.at_.fr 3
  have s4 := R3.out.at_.fr 4
  have R8 := Lib.hid (((((R3.out.setAt 0 (.int .i64 e.kind)).setAt 1 (.int .i64 e.n)).setAt 2 (.string e.name)).setAt 3 (.int .i64 e.op)).setAt 4 (.slice a2 e.l.length c2))
  have HSZW : Hid (w.heap.size + 1 < W.heap.size) := Lib.hid R1.out.lt
  clear hown hb p4
  go_wp2_with fail
  have d0 := R8.out.at_.cell 0 _ rfl
  have d1 := R8.out.at_.cell 1 _ rfl
  have d2 := R8.out.at_.cell 2 _ rfl
  have d3 := R8.out.at_.cell 3 _ rfl
  have d4 := R8.out.at_.cell 4 _ rfl
  refine bodyPost_ret (v := exV e (.slice a2 e.l.length c2)) (by simp [results, Tryd.results72, go_sem, d0, d1, d2, d3, d4, exV]) rfl ?_
  refine ⟨a2, c2, rfl, ?_, ?_⟩
  · have hag : Agree (fun k => W.heap.size ≤ k) w2 ((((((w2.setCell ⟨w.heap.size, 4, none⟩ (.slice a2 e.l.length c2)).setCell ⟨w.heap.size + 1, 0, none⟩ (.int .i64 e.kind)).setCell ⟨w.heap.size + 1, 1, none⟩ (.int .i64 e.n)).setCell ⟨w.heap.size + 1, 2, none⟩ (.string e.name)).setCell ⟨w.heap.size + 1, 3, none⟩ (.int .i64 e.op)).setCell ⟨w.heap.size + 1, 4, none⟩ (.slice a2 e.l.length c2)) :=
      (((((Agree.set _ (p := ⟨w.heap.size, 4, none⟩) (by have := HSZW.out; simp only; omega) _).trans (Agree.set _ (p := ⟨w.heap.size + 1, 0, none⟩) (by have := HSZW.out; simp only; omega) _)).trans (Agree.set _ (p := ⟨w.heap.size + 1, 1, none⟩) (by have := HSZW.out; simp only; omega) _)).trans (Agree.set _ (p := ⟨w.heap.size + 1, 2, none⟩) (by have := HSZW.out; simp only; omega) _)).trans (Agree.set _ (p := ⟨w.heap.size + 1, 3, none⟩) (by have := HSZW.out; simp only; omega) _)).trans (Agree.set _ (p := ⟨w.heap.size + 1, 4, none⟩) (by have := HSZW.out; simp only; omega) _)
    exact (O2.out.in_.step hag).mono (fun k _ h => Nat.le_trans (by have := HSZW.out; omega) h)
  · exact ((((((B2.out.setCell (p := ⟨w.heap.size, 4, none⟩) (Nat.le_refl _) _).setCell (p := ⟨w.heap.size + 1, 0, none⟩) (Nat.le_succ _) _).setCell (p := ⟨w.heap.size + 1, 1, none⟩) (Nat.le_succ _) _).setCell (p := ⟨w.heap.size + 1, 2, none⟩) (Nat.le_succ _) _).setCell (p := ⟨w.heap.size + 1, 3, none⟩) (Nat.le_succ _) _).setCell (p := ⟨w.heap.size + 1, 4, none⟩) (Nat.le_succ _) _)

/-- the block of a copy that is appended: what it holds stands but for the row -/
theorem ke_block (w : World) (B : Nat) (row : Option Nat) (e : Ex) (v : Value) (_hB : B ≤ w.heap.size) (hv : InP (fun k => B ≤ k ∧ row ≠ some k) w (fun w => ExsAt w v e.l)) :
    ∃ css, SlAt (w.alloc (.cells #[.int .i64 e.kind, .int .i64 e.n, .string e.name, .int .i64 e.op, v] 42)) 5 (.slice (some ⟨w.heap.size, 0, none⟩) 1 1) [e].length css.flatten ∧
      InP (fun k => B ≤ k ∧ row ≠ some k) (w.alloc (.cells #[.int .i64 e.kind, .int .i64 e.n, .string e.name, .int .i64 e.op, v] 42)) (fun w => ExL w [e] css) := by
  have b1 := below1 w (.cells #[.int .i64 e.kind, .int .i64 e.n, .string e.name, .int .i64 e.op, v] 42)
  exact ⟨[exC e v], sl_one w (exC e v) 42, fun w' ha => exl_one e (hv.step (.of_below b1) w' ha)⟩

set_option maxHeartbeats 4000000 in
set_option maxRecDepth 100000 in
theorem kexprs_any (m : Nat) (hm : m ≤ 10000000) : KL m := by
  induction m with
  | zero => intro _ _ _ h; omega
  | succ m ih =>
  intro l v w hsz hv
  obtain ⟨a, cp, rfl⟩ := hv.shape
  have H := Lib.hid hv
  have IH := Lib.hid (ih (by omega))
  have HSZ := Lib.hid hsz
  have hl : l.length ≤ 10000000 := by have := szE_len l; omega
  obtain ⟨n, hn⟩ : ∃ n, n = l.length := ⟨_, rfl⟩
  have HN := Lib.hid hn
  rw [← hn] at H hl ⊢
  clear ih hsz hv hn
  go_enter Tryd.func58, Tryd.ntmps58
  go_wp2_with fail
  go_loopw [3, 8] (fun o_ k_ wr => ∃ (k : Nat) (a2 : Option Addr) (c2 : Nat), k ≤ n ∧ k_ = .int .i64 k ∧ o_ = .slice a2 k c2 ∧ ExsOwn wr w.heap.size (.slice a2 k c2) (l.take k) ∧ Below w.heap.size w wr) (fun _ k_ _ => n - (intOf k_).toNat)
  case atStart => exact ⟨0, none, 0, Nat.zero_le _, rfl, rfl, ExsOwn.nil _ _, Below.refl _ _⟩
  case round =>
    obtain ⟨k, a2, c2, hk, rfl, rfl, hown, hb⟩ := hrel
    have OW := Lib.hid hown
    have BR := Lib.hid hb
    clear hown
    by_cases hlt : k < n
    · obtain ⟨x, hx⟩ : ∃ x, l[k]? = some x := ⟨_, List.getElem?_eq_getElem (by rw [← HN.out]; exact hlt)⟩
      obtain ⟨b, o, c', u, hv, hbb, f0, f1, f2, f3, f4, hu⟩ := (H.out.below hb).elem hx
      obtain ⟨rfl, -, rfl⟩ := Value.slice.inj hv
      obtain ⟨ua, uc, rfl⟩ := hu.shape
      have HU := Lib.hid hu
      have HTK := Lib.hid (take_snoc' hx)
      have hxm : Hid (x.sz ≤ m) := Lib.hid (by have h1 := szE_mem (List.mem_of_getElem? hx); have h2 := HSZ.out; omega)
      have hki : (k : Int) < (n : Int) := by omega
      have Bz := Lib.hid (below1 wr (.cells #[.int .i64 x.kind, .int .i64 x.n, .string x.name, .int .i64 x.op, .slice ua x.l.length uc] 42))
      have BZ := Lib.hid (hb.then_' Bz.out)
      have OZ := Lib.hid (OW.out.below Bz.out)
      have T := Lib.hid (CsT.new wr [.int .i64 x.kind, .int .i64 x.n, .string x.name, .int .i64 x.op, .slice ua x.l.length uc] 42).at_
      have t0 := T.out.cell 0 _ rfl
      have t1 := T.out.cell 1 _ rfl
      have t2 := T.out.cell 2 _ rfl
      have t3 := T.out.cell 3 _ rfl
      have t4 := T.out.cell 4 _ rfl
      have hlk : (l.take k).length = k := by rw [List.length_take, ← HN.out]; omega
      have HLK := Lib.hid hlk
      clear hv hb hx hu OW hlk
      go_wp2_with fail
      generalize wr.alloc (.cells #[.int .i64 x.kind, .int .i64 x.n, .string x.name, .int .i64 x.op, .slice ua x.l.length uc] 42) = wz at *
      clear t0 t1 t2 t3 t4 f0 f1 f2 f3 f4
      refine (kexpr_of m IH.out x (.slice ua x.l.length uc) wz hxm.out (HU.out.below Bz.out)).mono ?_
      rintro e' w2 ⟨a3, c3, rfl, hin, hb⟩
      have hrow : ∀ g, (Value.slice a2 k c2).ownBlock = some g → g < wz.heap.size := fun g e => by
        obtain ⟨css, h1, _⟩ := OZ.out
        exact (World.ownsRow.lt h1 g e).2
      have IN := Lib.hid (hin.mono (Q := fun q => w.heap.size ≤ q ∧ (Value.slice a2 k c2).ownBlock ≠ some q) (fun q _ h => ⟨Nat.le_trans BZ.out.size h, fun e => by have := hrow q e; omega⟩))
      have O2 := Lib.hid (OZ.out.below hb)
      have B2 := Lib.hid (BZ.out.then_' hb)
      have CP := Lib.hid (ke_block w2 w.heap.size (Value.slice a2 k c2).ownBlock x (.slice a3 x.l.length c3) B2.out.size IN.out)
      have b3 := below1 w2 (.cells #[.int .i64 x.kind, .int .i64 x.n, .string x.name, .int .i64 x.op, .slice a3 x.l.length c3] 42)
      have O3 := Lib.hid (O2.out.below b3)
      have B3 := Lib.hid (B2.out.then_' b3)
      have HLEN : Hid ((l.take k).length + [x].length ≤ 1000000000) := Lib.hid (by rw [HLK.out]; simp; omega)
      have HS3 : Hid (w.heap.size ≤ (w2.alloc (.cells #[.int .i64 x.kind, .int .i64 x.n, .string x.name, .int .i64 x.op, .slice a3 x.l.length c3] 42)).heap.size) := Lib.hid B3.out.size
      clear hin hb hrow b3
      have HL7 : Hid ((l.take (k + 1)).length = k + 1) := Lib.hid (by rw [List.length_take, ← HN.out]; omega)
      unfold exV
      go_wp2_with (first
        | (at_builtin; refine appE rfl _ _ rfl w.heap.size (.slice a2 k c2) (l.take k) rfl O3.out _ [x] rfl CP.out HLEN.out HS3.out ?_; intro v' w7 ho hg hat; rw [← HTK.out] at ho; obtain ⟨a7, c7, rfl⟩ := ho.at_.shape; rw [HL7.out] at ho ⊢; have O7 := Lib.hid ho; have G7 := Lib.hid hg; clear ho hg hat)
        | fail)
      go_roundw
      case rel => exact ⟨k + 1, a7, c7, by omega, by go_num, rfl, O7.out, B3.out.grown G7.out B3.out.size (fun g e => by obtain ⟨css, h1, _⟩ := O3.out; exact (World.ownsRow.lt h1 g e).1)⟩
      case measure => simp [intOf]; omega
    · obtain rfl : k = n := by omega
      have e1 : l.take k = l := List.take_of_length_le (Nat.le_of_eq HN.out.symm)
      rw [e1] at OW
      go_wp2_with fail
      go_ret
      rw [HN.out] at OW ⊢
      exact ⟨a2, c2, rfl, OW.out, BR.out⟩
end Go.Proofs.YtilholgbepfopaaDoor
/- Copies of statements. -/
namespace Go.Proofs.YtilholgbepfopaaDoor
open Go.RowKit

def RKS (w : World) (l : List St) (en : Ending) (w' : World) : Prop := ∃ a c, en = .returned (.slice a l.length c) ∧ StsOwn w' w.heap.size (.slice a l.length c) l ∧ Below w.heap.size w w'
def KS (m : Nat) : Prop := ∀ (l : List St) (v : Value) (w : World), szS l < m → StsAt w v l → Calls Tryd.prog 31 #[v] w (RKS w l)
theorem agree_box {P : Nat → Prop} {wr w5 : World} (h : Below wr.heap.size wr w5) (u5 u6 u7 : Value) : Agree P wr (((w5.setCell ⟨wr.heap.size, 5, none⟩ u5).setCell ⟨wr.heap.size, 6, none⟩ u6).setCell ⟨wr.heap.size, 7, none⟩ u7) := by
  refine ⟨by have := h.size; simp [World.setCell]; exact this, fun k _ hk => ?_⟩
  have hne : k ≠ wr.heap.size := by omega
  exact (Below.heap_setCell _ ⟨wr.heap.size, 7, none⟩ u7 k hne).trans ((Below.heap_setCell _ ⟨wr.heap.size, 6, none⟩ u6 k hne).trans ((Below.heap_setCell _ ⟨wr.heap.size, 5, none⟩ u5 k hne).trans (h.block k hk)))
theorem box_in {w5 : World} {bx N : Nat} {T : World → Prop} (hbx : bx < N) (h : InP (fun k => N ≤ k) w5 T) (u5 u6 u7 : Value) : InP (fun k => N ≤ k) (((w5.setCell ⟨bx, 5, none⟩ u5).setCell ⟨bx, 6, none⟩ u6).setCell ⟨bx, 7, none⟩ u7) T :=
  h.step (((Agree.set _ (p := ⟨bx, 5, none⟩) (by simp only; omega) u5).trans (Agree.set _ (p := ⟨bx, 6, none⟩) (by simp only; omega) u6)).trans (Agree.set _ (p := ⟨bx, 7, none⟩) (by simp only; omega) u7))
theorem ks_block (w : World) (B N : Nat) (row : Option Nat) (x : St) (u1 u2 u3 : Value) (hB : B ≤ N) (hrow : ∀ g, row = some g → g < N) (h1 : InP (fun k => N ≤ k) w (fun w => ExsAt w u1 x.exprs)) (h2 : InP (fun k => N ≤ k) w (fun w => StsAt w u2 x.body)) (h3 : InP (fun k => N ≤ k) w (fun w => StsAt w u3 x.els)) :
    ∃ css, SlAt (w.alloc (.cells #[.int .i64 x.kind, .string x.name, .string x.fn, .int .i64 x.n, .int .i64 x.op, u1, u2, u3] 40)) 8 (.slice (some ⟨w.heap.size, 0, none⟩) 1 1) [x].length css.flatten ∧
      InP (fun k => B ≤ k ∧ row ≠ some k) (w.alloc (.cells #[.int .i64 x.kind, .string x.name, .string x.fn, .int .i64 x.n, .int .i64 x.op, u1, u2, u3] 40)) (fun w => StL w [x] css) := by
  have b1 := below1 w (.cells #[.int .i64 x.kind, .string x.name, .string x.fn, .int .i64 x.n, .int .i64 x.op, u1, u2, u3] 40)
  refine ⟨[stC x u1 u2 u3], sl_one w (stC x u1 u2 u3) 40, fun w' ha => ?_⟩
  have ha' : Agree (fun k => N ≤ k) w w' := (Agree.of_below b1).trans (ha.mono (fun k _ h => ⟨Nat.le_trans hB h, fun e => by have := hrow k e; omega⟩))
  exact stl_one x (h1 w' ha') (h2 w' ha') (h3 w' ha')

set_option maxHeartbeats 8000000 in
set_option maxRecDepth 100000 in
theorem kstmts_any (m : Nat) (hm : m ≤ 5000000) : KS m := by
  induction m with
  | zero => intro _ _ _ h; omega
  | succ m ih =>
  intro l v w hsz hv
  obtain ⟨a, cp, rfl⟩ := hv.shape
  have H := Lib.hid hv
  have IH := Lib.hid (ih (by omega))
  have HSZ := Lib.hid hsz
  have hl : l.length ≤ 10000000 := by have := szS_len l; omega
  obtain ⟨n, hn⟩ : ∃ n, n = l.length := ⟨_, rfl⟩
  have HN := Lib.hid hn
  rw [← hn] at H hl ⊢
  have HM : Hid (m + 1 ≤ 5000000) := Lib.hid hm
  clear ih hsz hv hn
  go_enter Tryd.func31, Tryd.ntmps31
  go_wp2_with fail
  go_loopw [3, 8] (fun o_ k_ wr => ∃ (k : Nat) (a2 : Option Addr) (c2 : Nat), k ≤ n ∧ k_ = .int .i64 k ∧ o_ = .slice a2 k c2 ∧ StsOwn wr w.heap.size (.slice a2 k c2) (l.take k) ∧ Below w.heap.size w wr) (fun _ k_ _ => n - (intOf k_).toNat)
  case atStart => exact ⟨0, none, 0, Nat.zero_le _, rfl, rfl, StsOwn.nil _ _, Below.refl _ _⟩
  case round =>
    obtain ⟨k, a2, c2, hk, rfl, rfl, hown, hb⟩ := hrel
    have OW := Lib.hid hown
    have BR := Lib.hid hb
    clear hown
    by_cases hlt : k < n
    · obtain ⟨x, hx⟩ : ∃ x, l[k]? = some x := ⟨_, List.getElem?_eq_getElem (by rw [← HN.out]; exact hlt)⟩
      obtain ⟨b, o, c', u, xb, xe, hv, hbl, f0, f1, f2, f3, f4, f5, f6, f7, hu, hxb, hxe⟩ := (H.out.below hb).elem hx
      obtain ⟨rfl, -, rfl⟩ := Value.slice.inj hv
      obtain ⟨ua, uc, rfl⟩ := hu.shape
      obtain ⟨ba, bc, rfl⟩ := hxb.shape
      obtain ⟨ea, ec, rfl⟩ := hxe.shape
      have HU := Lib.hid hu
      have XB := Lib.hid hxb
      have XE := Lib.hid hxe
      have HTK := Lib.hid (take_snoc' hx)
      have HXP : Hid (szE x.exprs < 10000000 ∧ szS x.body < m ∧ szS x.els < m) := Lib.hid (by have h1 := szS_mem (List.mem_of_getElem? hx); have h2 := x.sz_parts; have h3 := HSZ.out; have h4 := HM.out; omega)
      have hki : (k : Int) < (n : Int) := by omega
      have Bz := Lib.hid (below1 wr (.cells #[.int .i64 x.kind, .string x.name, .string x.fn, .int .i64 x.n, .int .i64 x.op, .slice ua x.exprs.length uc, .slice ba x.body.length bc, .slice ea x.els.length ec] 40))
      have BZ := Lib.hid (hb.then_' Bz.out)
      have OZ := Lib.hid (OW.out.below Bz.out)
      have T := Lib.hid (CsT.new wr [.int .i64 x.kind, .string x.name, .string x.fn, .int .i64 x.n, .int .i64 x.op, .slice ua x.exprs.length uc, .slice ba x.body.length bc, .slice ea x.els.length ec] 40)
      have hlk : (l.take k).length = k := by rw [List.length_take, ← HN.out]; omega
      have HLK := Lib.hid hlk
      clear hv hb hx hu hxb hxe hlk
      go_wp2_with fail
      have UZ := Lib.hid (HU.out.below Bz.out)
      have XBZ := Lib.hid (XB.out.below Bz.out)
      have XEZ := Lib.hid (XE.out.below Bz.out)
      generalize wr.alloc (.cells #[.int .i64 x.kind, .string x.name, .string x.fn, .int .i64 x.n, .int .i64 x.op, .slice ua x.exprs.length uc, .slice ba x.body.length bc, .slice ea x.els.length ec] 40) = wz at *
      clear f0 f1 f2 f3 f4 f5 f6 f7 HU XB XE
      have t5 := (T.out.below (below_drew' _)).at_.cell 5 _ rfl
      have t6 := (T.out.below (below_drew' _)).at_.cell 6 _ rfl
      have t7 := (T.out.below (below_drew' _)).at_.cell 7 _ rfl
      have HMark : Hid True := Lib.hid trivial
      go_region_law (first
        | (go_simp; go_at_call 58; refine (kexprs_any 10000000 (by decide) x.exprs (.slice ua x.exprs.length uc) _ HXP.out.1 (UZ.out.below (below_drew' _))).mono ?_; rintro e3 w3 ⟨a3, c3, rfl, ho, hb⟩; have O3 := Lib.hid ho; have W3 := Lib.hid ((below_drew' _).then_' hb); have T3 := Lib.hid (T.out.below W3.out); have r6 := T3.out.at_.cell 6 _ rfl; have r7 := T3.out.at_.cell 7 _ rfl; have g5 := T3.out.at_.fr 5; clear ho hb)
        | (clear HMark; go_simp; go_at_call 31; refine (IH.out x.body (.slice ba x.body.length bc) _ HXP.out.2.1 (XBZ.out.below W3.out)).mono ?_; rintro e4 w4 ⟨a4, c4, rfl, ho, hb⟩; have O4 := Lib.hid ho; have W34 := Lib.hid hb; have W4 := Lib.hid (W3.out.then_' hb); have T4 := Lib.hid (T.out.below W4.out); have s7 := T4.out.at_.cell 7 _ rfl; clear ho hb)
        | (go_simp; go_at_call 31; refine (IH.out x.els (.slice ea x.els.length ec) _ HXP.out.2.2 (XEZ.out.below W4.out)).mono ?_; rintro e5 w5 ⟨a5, c5, rfl, ho, hb⟩; have O5 := Lib.hid ho; have W45 := Lib.hid hb; have W5 := Lib.hid (W4.out.then_' hb); have T5 := Lib.hid (T.out.below W5.out); have v5 := T5.out.at_.cell 5 _ rfl; have v6 := T5.out.at_.cell 6 _ rfl; have v7 := T5.out.at_.cell 7 _ rfl; have y5 := T5.out.at_.fr 5; have y6 := T5.out.at_.fr 6; have y7 := T5.out.at_.fr 7; clear ho hb)
        | fail)
      all_goals
        have R8 := Lib.hid (((T5.out.setAt 5 (.slice a3 x.exprs.length c3)).setAt 6 (.slice a4 x.body.length c4)).setAt 7 (.slice a5 x.els.length c5))
        have O8 := Lib.hid (OW.out.agree (agree_box (Bz.out.then_' W5.out) (.slice a3 x.exprs.length c3) (.slice a4 x.body.length c4) (.slice a5 x.els.length c5)))
        have B8 := Lib.hid ((((BZ.out.then_' W5.out).setCell (p := ⟨wr.heap.size, 5, none⟩) BR.out.size (.slice a3 x.exprs.length c3)).setCell (p := ⟨wr.heap.size, 6, none⟩) BR.out.size (.slice a4 x.body.length c4)).setCell (p := ⟨wr.heap.size, 7, none⟩) BR.out.size (.slice a5 x.els.length c5))
        have I3 := Lib.hid (box_in (T.out.lt) (O3.out.in_.step (.of_below (W34.out.then_' W45.out))) (.slice a3 x.exprs.length c3) (.slice a4 x.body.length c4) (.slice a5 x.els.length c5))
        have I4 := Lib.hid (box_in (T.out.lt) ((O4.out.in_.mono (fun q _ h => Nat.le_trans W3.out.size h)).step (.of_below W45.out)) (.slice a3 x.exprs.length c3) (.slice a4 x.body.length c4) (.slice a5 x.els.length c5))
        have I5 := Lib.hid (box_in (T.out.lt) (O5.out.in_.mono (fun q _ h => Nat.le_trans W4.out.size h)) (.slice a3 x.exprs.length c3) (.slice a4 x.body.length c4) (.slice a5 x.els.length c5))
        clear t5 t6 t7 r6 r7 s7 v5 v6 v7 y5 y6 y7 g5 O3 O4 O5 W34 W45 W3 W4 W5 T3 T4 T5
        generalize ((w5.setCell ⟨wr.heap.size, 5, none⟩ (.slice a3 x.exprs.length c3)).setCell ⟨wr.heap.size, 6, none⟩ (.slice a4 x.body.length c4)).setCell ⟨wr.heap.size, 7, none⟩ (.slice a5 x.els.length c5) = w8 at *
        have hrow : ∀ g, (Value.slice a2 k c2).ownBlock = some g → g < wz.heap.size := fun g e => by
          obtain ⟨css, h1, _⟩ := OZ.out
          exact (World.ownsRow.lt h1 g e).2
        have CP := Lib.hid (ks_block w8 w.heap.size wz.heap.size (Value.slice a2 k c2).ownBlock x (.slice a3 x.exprs.length c3) (.slice a4 x.body.length c4) (.slice a5 x.els.length c5) BZ.out.size hrow I3.out I4.out I5.out)
        have b3 := below1 w8 (.cells #[.int .i64 x.kind, .string x.name, .string x.fn, .int .i64 x.n, .int .i64 x.op, .slice a3 x.exprs.length c3, .slice a4 x.body.length c4, .slice a5 x.els.length c5] 40)
        have O9 := Lib.hid (O8.out.below b3)
        have B9 := Lib.hid (B8.out.then_' b3)
        have HLEN : Hid ((l.take k).length + [x].length ≤ 1000000000) := Lib.hid (by rw [HLK.out]; simp; omega)
        have HS9 : Hid (w.heap.size ≤ (w8.alloc (.cells #[.int .i64 x.kind, .string x.name, .string x.fn, .int .i64 x.n, .int .i64 x.op, .slice a3 x.exprs.length c3, .slice a4 x.body.length c4, .slice a5 x.els.length c5] 40)).heap.size) := Lib.hid B9.out.size
        have HL7 : Hid ((l.take (k + 1)).length = k + 1) := Lib.hid (by rw [List.length_take, ← HN.out]; omega)
        have c0' := R8.out.at_.cell 0 _ rfl
        have c1' := R8.out.at_.cell 1 _ rfl
        have c2' := R8.out.at_.cell 2 _ rfl
        have c3' := R8.out.at_.cell 3 _ rfl
        have c4' := R8.out.at_.cell 4 _ rfl
        have c5' := R8.out.at_.cell 5 _ rfl
        have c6' := R8.out.at_.cell 6 _ rfl
        have c7' := R8.out.at_.cell 7 _ rfl
        clear hrow b3
        go_wp2_with (first
          | (at_builtin; refine appS rfl _ _ rfl w.heap.size (.slice a2 k c2) (l.take k) rfl O9.out _ [x] rfl CP.out HLEN.out HS9.out ?_; intro v' w7 ho hg hat; rw [← HTK.out] at ho; obtain ⟨a7, c7, rfl⟩ := ho.at_.shape; rw [HL7.out] at ho ⊢; have O7 := Lib.hid ho; have G7 := Lib.hid hg; clear ho hg hat)
          | fail)
        go_roundw
        case rel => exact ⟨k + 1, a7, c7, by omega, by go_num, rfl, O7.out, B9.out.grown G7.out B9.out.size (fun g e => by obtain ⟨css, h1, _⟩ := O9.out; exact (World.ownsRow.lt h1 g e).1)⟩
        case measure => simp [intOf]; omega
    · obtain rfl : k = n := by omega
      have e1 : l.take k = l := List.take_of_length_le (Nat.le_of_eq HN.out.symm)
      rw [e1] at OW
      go_wp2_with fail
      go_ret
      rw [HN.out] at OW ⊢
      exact ⟨a2, c2, rfl, OW.out, BR.out⟩
end Go.Proofs.YtilholgbepfopaaDoor
