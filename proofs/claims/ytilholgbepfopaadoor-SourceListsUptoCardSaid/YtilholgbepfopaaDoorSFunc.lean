/- validFunc (of the code). -/
import Derived.Test.YtilholgbepfopaaDoorSStmt
namespace Go.Proofs.YtilholgbepfopaaDoor
open Go.RowKit

mutual
def gS : St → Bool
  | .mk k nm fn n op es b e => vStmt (.mk k nm fn n op es b e) && (gSL b && gSL e)
def gSL : List St → Bool
  | [] => true
  | s :: l => gS s && gSL l
end
def fG (b : Bool) (s : St) (_ : Nat) : Bool := b && vStmt s
mutual
theorem visG : ∀ (s : St) (b : Bool) (d : Nat), vis fG b d s = (b && gS s)
  | .mk k nm fn n op es bd e, b, d => by
    rw [vis, visGL bd, visGL e, gS]
    unfold fG
    rw [Bool.and_assoc, Bool.and_assoc]
theorem visGL : ∀ (l : List St) (b : Bool) (d : Nat), visL fG b d l = (b && gSL l)
  | [], b, d => by rw [visL, gSL, Bool.and_true]
  | s :: l, b, d => by rw [visL, visG s, visGL l, gSL, Bool.and_assoc]
end
def RG (bx : Nat) (_ : Nat) (w : World) (b : Bool) : Prop := CsT w bx [.bool b] 4
theorem RG.mono {bx : Nat} (c c' : Nat) (w : World) (l : Bool) (w' : World) (h : RG bx c w l) (_ : c ≤ c') (hb : Below w.heap.size w w') : RG bx c' w' l := h.below hb
theorem enter_vf1 (args : Array Value) (w : World) : (callFunc 60 args).run Tryd.prog w = .ok (.enter 60 args) w := call_enter Tryd.func60 (by kernel_rfl) (by kernel_rfl) args w
theorem enter_name (args : Array Value) (w : World) : (callFunc 10 args).run Tryd.prog w = .ok (.enter 10 args) w := call_enter Tryd.func10 (by kernel_rfl) (by kernel_rfl) args w
theorem everyN_any (v : Value) (l : List ByteArray) (w : World) (hl : l.length ≤ 10000000) (hv : NmsAt w v l) (hg : Glob w) : Calls Tryd.prog 59 #[v, .func (.func 10) #[] #[]] w (RetB w (l.all isNm)) := by
  refine (everyS_any 10 #[] (fun _ _ (_ : Unit) => True) (fun _ x => (isNm x, ())) (fun w w' => Below w.heap.size w w') w l enter_name (fun x hx u st w' _ hb _ => ?_) (fun _ _ _ _ _ _ => trivial) (fun _ _ _ h h' => h.then_' h') (fun _ _ h => h) (fun _ _ h h' => h.then_' h') v () w hl hv (Below.refl _ _) trivial).mono ?_
  · refine (sname_any x w' (hg.below hb)).mono ?_
    rintro e w2 ⟨rfl, h⟩
    exact ⟨rfl, trivial, h⟩
  · rintro e w' ⟨rfl, -, h⟩
    rw [ev_plain]
    exact ⟨rfl, h⟩

set_option maxHeartbeats 4000000 in
set_option maxRecDepth 100000 in
theorem vf1_ok (bx : Nat) (w0 : World) (_hbx : w0.heap.size ≤ bx) (hg : Glob w0) : SeeOK 60 #[.pointer (some ⟨bx, 0, none⟩)] (RG bx) fG (bx + 1) (fun k => k = bx) w0 := by
  intro c d s u x y b w hc hd hr hb0 hu hx hy
  obtain ⟨ua, uc, rfl⟩ := hu.shape
  obtain ⟨ba, bc, rfl⟩ := hx.shape
  obtain ⟨ea, ec, rfl⟩ := hy.shape
  have HU := Lib.hid hu
  have HX := Lib.hid hx
  have HY := Lib.hid hy
  have B0 := Lib.hid hb0
  have HG := Lib.hid hg
  have HSZ : Hid (szE s.exprs ≤ 10000000) := Lib.hid (by have := s.sz_parts; omega)
  have b1 := below1 w (.cells #[.int .i64 s.kind, .string s.name, .string s.fn, .int .i64 s.n, .int .i64 s.op, .slice ua s.exprs.length uc, .slice ba s.body.length bc, .slice ea s.els.length ec] 40)
  have B1 := Lib.hid b1
  have T := Lib.hid (stV_cells s (.slice ua s.exprs.length uc) (.slice ba s.body.length bc) (.slice ea s.els.length ec) w).at_
  have R1 : Hid (CsT _ bx [.bool b] 4) := Lib.hid (CsT.below hr b1)
  have z0 := R1.out.at_.cell 0 _ rfl
  have zf := R1.out.at_.fr 0
  clear hu hx hy hb0 hg hr b1 hc hd
  unfold stV
  show Calls Tryd.prog 60 #[.agg #[.int .i64 s.kind, .string s.name, .string s.fn, .int .i64 s.n, .int .i64 s.op, .slice ua s.exprs.length uc, .slice ba s.body.length bc, .slice ea s.els.length ec], .int .i64 (d : Int), .pointer (some ⟨bx, 0, none⟩)] w _
  go_enter Tryd.func60, Tryd.ntmps60
  unfold stC at T
  have t0 := T.out.cell 0 _ rfl
  have t1 := T.out.cell 1 _ rfl
  have t2 := T.out.cell 2 _ rfl
  have t3 := T.out.cell 3 _ rfl
  have t4 := T.out.cell 4 _ rfl
  have t5 := T.out.cell 5 _ rfl
  have t6 := T.out.cell 6 _ rfl
  have t7 := T.out.cell 7 _ rfl
  cases b with
  | false =>
    go_wp2_with fail
    go_end0
    exact ⟨rfl, R1.out.set0 (v := .bool false), (Fr.of_below (B := bx + 1) (E := fun k => k = bx) B1.out).set (p := ⟨bx, 0, none⟩) rfl _⟩
  | true =>
    go_wp2_with fail
    generalize w.alloc (.cells #[.int .i64 s.kind, .string s.name, .string s.fn, .int .i64 s.n, .int .i64 s.op, .slice ua s.exprs.length uc, .slice ba s.body.length bc, .slice ea s.els.length ec] 40) = w1 at *
    have B01 := Lib.hid (B0.out.then_' B1.out)
    clear t0 t1 t2 t3 t4 t5 t6 t7
    refine (vstmt_any s (.slice ua s.exprs.length uc) (.slice ba s.body.length bc) (.slice ea s.els.length ec) w1 HSZ.out (HU.out.below B01.out) (HX.out.below B01.out) (HY.out.below B01.out) (HG.out.below B01.out)).mono ?_
    rintro e w2 ⟨rfl, hb⟩
    have R2 := Lib.hid (R1.out.below hb)
    have F2 := Lib.hid (Fr.of_below (B := bx + 1) (E := fun k => k = bx) (B1.out.then_' hb))
    have z2 := R2.out.at_.cell 0 _ rfl
    have zf2 := R2.out.at_.fr 0
    clear hb z0 zf
    go_wp2_with fail
    go_end0
    exact ⟨rfl, R2.out.set0 (v := .bool (vStmt s)), F2.out.set (p := ⟨bx, 0, none⟩) rfl _⟩

def vFunc (f : Fn) : Bool := isNm f.name && f.params.all isNm && gSL f.body
theorem vFunc_eq (f : Fn) : vFunc f = (isNm f.name && f.params.all isNm && gSL f.body) := rfl
set_option maxHeartbeats 4000000 in
set_option maxRecDepth 100000 in
theorem vfunc_any (f : Fn) (u x : Value) (w : World) (hsz : szF f ≤ 5000000) (hu : NmsAt w u f.params) (hx : StsAt w x f.body) (hg : Glob w) : Calls Tryd.prog 33 #[.agg #[.string f.name, u, x]] w (RetB w (vFunc f)) := by
  obtain ⟨ua, uc, rfl⟩ := hu.shape
  obtain ⟨xa, xc, rfl⟩ := hx.shape
  have HU := Lib.hid hu
  have HX := Lib.hid hx
  have HG := Lib.hid hg
  have HV := Lib.hid (vFunc_eq f)
  have HSZ : Hid (f.params.length ≤ 5000000 ∧ szS f.body ≤ 5000000) := Lib.hid (by unfold szF at hsz; omega)
  have HQ := Lib.hid (fun b => visGL f.body b 1)
  clear hu hx hg hsz
  have P := Lib.hid (CsT.new w [.string f.name, .slice ua f.params.length uc, .slice xa f.body.length xc] 35).at_
  have B1 := Lib.hid (below1 w (.cells #[.string f.name, .slice ua f.params.length uc, .slice xa f.body.length xc] 35))
  have p0 := P.out.cell 0 _ rfl
  go_enter Tryd.func33, Tryd.ntmps33
  go_wp2_with fail
  generalize w.alloc (.cells #[.string f.name, .slice ua f.params.length uc, .slice xa f.body.length xc] 35) = w1 at *
  refine (sname_any f.name w1 (HG.out.below B1.out)).mono ?_
  rintro e w2 ⟨rfl, hb⟩
  have B2 := Lib.hid (B1.out.then_' hb)
  have P2 := Lib.hid (P.out.below hb)
  clear p0 hb


  cases hn : isNm f.name with
  | false =>
    have HF : Hid (vFunc f = false) := Lib.hid (by rw [HV.out, hn]; rfl)
    have p2 := P2.out.cell 2 _ rfl
    have p2' := (P2.out.below (below1 w2 (.cells #[.bool false] 4))).cell 2 _ rfl
    clear hn
    go_wp2_with fail
    have hw := CsT.new w2 [.bool false] 4
    have b3 := B2.out.then_' (below1 w2 (.cells #[.bool false] 4))
    refine (visit_any 60 #[.pointer (some ⟨w2.heap.size, 0, none⟩)] (RG w2.heap.size) fG (w2.heap.size + 1) (fun k => k = w2.heap.size) w enter_vf1 (vf1_ok w2.heap.size w B2.out.size HG.out) RG.mono (by have := B2.out.size; omega) (fun k hk => by have := B2.out.size; omega) f.body (.slice xa f.body.length xc) 0 false _ (by have := HSZ.out; omega) (by have := HSZ.out; omega) HX.out b3 hw (by simp)).mono ?_
    rintro e w4 ⟨rfl, hr4, hf4⟩
    rw [HQ.out] at hr4
    have R4 : Hid (CsT w4 w2.heap.size [.bool (false && gSL f.body)] 4) := Lib.hid hr4
    have B4 := Lib.hid (hf4.low b3 (by have := B2.out.size; omega) (fun k hk => by have := B2.out.size; omega))
    have z := R4.out.at_.cell 0 _ rfl
    clear hw b3 hr4 hf4 p2 p2'
    go_wp2_with fail
    go_ret
    exact retB (by rw [HF.out]) B4.out
  | true =>
    have p1 := P2.out.cell 1 _ rfl
    have HN := Lib.hid hn
    clear hn
    go_wp2_with fail
    refine (everyN_any _ f.params w2 (by have := HSZ.out; omega) (HU.out.below B2.out) (HG.out.below B2.out)).mono ?_
    rintro e w3 ⟨rfl, hb⟩
    have B3 := Lib.hid (B2.out.then_' hb)
    have P3 := Lib.hid (P2.out.below hb)
    clear p1 hb B2 P2
    generalize hal : f.params.all isNm = al
    rw [hal, HN.out] at HV
    have HV' : Hid (vFunc f = (al && gSL f.body)) := Lib.hid (by rw [HV.out, Bool.true_and])
    clear hal
    have p2 := P3.out.cell 2 _ rfl
    have p2' := (P3.out.below (below1 w3 (.cells #[.bool al] 4))).cell 2 _ rfl
    go_wp2_with fail
    have hw := CsT.new w3 [.bool al] 4
    have b3 := B3.out.then_' (below1 w3 (.cells #[.bool al] 4))
    refine (visit_any 60 #[.pointer (some ⟨w3.heap.size, 0, none⟩)] (RG w3.heap.size) fG (w3.heap.size + 1) (fun k => k = w3.heap.size) w enter_vf1 (vf1_ok w3.heap.size w B3.out.size HG.out) RG.mono (by have := B3.out.size; omega) (fun k hk => by have := B3.out.size; omega) f.body (.slice xa f.body.length xc) 0 al _ (by have := HSZ.out; omega) (by have := HSZ.out; omega) HX.out b3 hw (by simp)).mono ?_
    rintro e w4 ⟨rfl, hr4, hf4⟩
    rw [HQ.out] at hr4
    have R4 : Hid (CsT w4 w3.heap.size [.bool (al && gSL f.body)] 4) := Lib.hid hr4
    have B4 := Lib.hid (hf4.low b3 (by have := B3.out.size; omega) (fun k hk => by have := B3.out.size; omega))
    have z := R4.out.at_.cell 0 _ rfl
    clear hw b3 hr4 hf4 p2 p2'
    go_wp2_with fail
    go_ret
    exact retB HV'.out.symm B4.out
end Go.Proofs.YtilholgbepfopaaDoor
