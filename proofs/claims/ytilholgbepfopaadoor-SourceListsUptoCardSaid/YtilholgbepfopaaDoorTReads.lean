/- Reads (of the reference). -/
import Derived.Test.YtilholgbepfopaaDoorTVars2
namespace Go.Proofs.YtilholgbepfopaaDoor
open Go.RowKit

mutual
/-- the names that an expression reads -/
def readsE : Ex → List ByteArray
  | .mk k _ nm _ l => readsL (if k = 3 then [nm] else []) l
def readsL (out : List ByteArray) : List Ex → List ByteArray
  | [] => out
  | e :: l => readsL (addAll out (readsE e)) l
end
theorem readsE_parts (e : Ex) : readsE e = readsL (if e.kind = 3 then [e.name] else []) e.l := by
  cases e
  rw [readsE]
  rfl
theorem readsL_snoc (out : List ByteArray) (l : List Ex) (x : Ex) : readsL out (l ++ [x]) = addAll (readsL out l) (readsE x) := by
  induction l generalizing out with
  | nil => simp [readsL]
  | cons y l ih => simp only [List.cons_append, readsL]; exact ih _
mutual
theorem readsE_len : ∀ (e : Ex), (readsE e).length ≤ e.sz
  | .mk k n nm op l => by
    rw [readsE]
    have h1 := readsL_len (if k = 3 then [nm] else []) l
    have h2 : (if k = 3 then [nm] else []).length ≤ 1 := by split <;> simp
    unfold Ex.sz
    omega
theorem readsL_len (out : List ByteArray) : ∀ (l : List Ex), (readsL out l).length ≤ out.length + szE l
  | [] => by unfold readsL szE; omega
  | e :: l => by
    unfold readsL szE
    have h1 := readsL_len (addAll out (readsE e)) l
    have h2 := addAll_len out (readsE e)
    have h3 := readsE_len e
    omega
end
theorem szE_take_add {l : List Ex} {k : Nat} {x : Ex} (h : l[k]? = some x) : szE (l.take k) + x.sz ≤ szE l := by
  induction l generalizing k with
  | nil => simp at h
  | cons y l ih =>
    cases k with
    | zero => simp at h; subst h; simp [szE]
    | succ k =>
      rw [List.getElem?_cons_succ] at h
      have := ih h
      simp only [List.take_succ_cons, szE]
      omega
theorem NmsOwn.shape {w : World} {B : Nat} {v : Value} {l : List ByteArray} (h : NmsOwn w B v l) : ∃ a c, v = .slice a l.length c := h.at_.shape

set_option maxHeartbeats 4000000 in
set_option maxRecDepth 100000 in
theorem rreads_any (m : Nat) (hm : m ≤ 10000000) : ∀ (e : Ex) (v : Value) (w : World), e.sz ≤ m → ExsAt w v e.l →
    Calls Tryd.prog 21 #[exV e v] w (RNms w (readsE e)) := by
  induction m with
  | zero => intro e _ _ h; have := e.sz_pos; omega
  | succ m ih =>
    intro e v w hsz hv
    obtain ⟨a, c, rfl⟩ := hv.shape
    have H := Lib.hid hv
    have IH := Lib.hid (ih (by omega))
    have hsz2 := e.sz_l
    have HSZ : Hid (szE e.l ≤ m) := Lib.hid (by omega)
    have hl : e.l.length ≤ 10000000 := by have := szE_len e.l; omega
    clear ih hsz hsz2 hv
    obtain ⟨n, hn⟩ : ∃ n, n = e.l.length := ⟨_, rfl⟩
    have HN := Lib.hid hn
    rw [← hn] at H hl ⊢
    clear hn
    have P := Lib.hid (CsAt.new w [.int .i64 e.kind, .int .i64 e.n, .string e.name, .int .i64 e.op, .slice a n c] 42)
    have B1 := Lib.hid (below1 w (.cells #[.int .i64 e.kind, .int .i64 e.n, .string e.name, .int .i64 e.op, .slice a n c] 42))
    have HP := Lib.hid (readsE_parts e)
    unfold exV
    go_enter Tryd.func21, Tryd.ntmps21
    have p0' := P.out.cell 0 _ rfl
    go_upto_if 10 with (fail)
    clear p0'
    generalize w.alloc (.cells #[.int .i64 e.kind, .int .i64 e.n, .string e.name, .int .i64 e.op, .slice a n c] 42) = w1 at *
    have p0 := P.out.cell 0 _ rfl
    have p2 := P.out.cell 2 _ rfl
    go_cut [3] (fun o_ wx => ∃ a2 n2 c2, o_ = .slice a2 n2 c2 ∧ NmsOwn wx w1.heap.size (.slice a2 n2 c2) (if e.kind = 3 then [e.name] else []) ∧ Below w1.heap.size w1 wx)
    case first =>
      by_cases hk : e.kind = 3
      · have d1 : (e.kind == 3) = true := by rw [beq_iff_eq]; exact hk
        have e1 : (if e.kind = 3 then [e.name] else []) = [e.name] := if_pos hk
        have E1 := Lib.hid e1
        have hB2 : w1.heap.size ≤ (w1.alloc (.cells #[.string e.name] 9)).heap.size := (below1 w1 _).size
        have HB2 := Lib.hid hB2
        clear hk e1 hB2
        go_wp2_with (first
          | (at_builtin; refine appN rfl _ _ rfl w1.heap.size (.slice none 0 0) [] rfl (NmsOwn.nil _ _) _ [e.name] rfl (nms_at1 w1 e.name) (by simp) HB2.out ?_; intro v' w3 ho hg hat; obtain ⟨a3, c3, rfl⟩ := ho.shape; have O3 := Lib.hid ho; have G3 := Lib.hid (Below.then_' (below1 w1 (.cells #[.string e.name] 9)) (Below.grewNone hg)); clear ho hg hat)
          | fail)
        go_meet
        case rel => exact ⟨_, _, _, rfl, by rw [E1.out]; exact O3.out, G3.out⟩
      · have d1 : (e.kind == 3) = false := by rw [beq_eq_false_iff_ne]; exact hk
        have e1 : (if e.kind = 3 then [e.name] else []) = [] := if_neg hk
        have E1 := Lib.hid e1
        clear hk e1
        go_wp2_with fail
        go_meet
        case rel => exact ⟨_, _, _, rfl, by rw [E1.out]; exact NmsOwn.nil _ _, Below.refl _ _⟩
    case rest =>
      obtain ⟨a2, n2, c2, rfl, hown, hb⟩ := hcut
      have HL0 : Hid ((if e.kind = 3 then [e.name] else [] : List ByteArray).length ≤ 1) := Lib.hid (by split <;> simp)
      generalize (if e.kind = 3 then [e.name] else []) = out0 at *
      have OW := Lib.hid hown
      have BW := Lib.hid hb
      have hB1 := B1.out.size
      have p4 := (P.out.below hb).cell 4 _ rfl
      clear p0 p2 hown hb
      go_wp2_with fail
      go_loopw [3, 5, 7, 19] (fun o_ _ _ k_ wr => ∃ (k : Nat) (a2 : Option Addr) (c2 n2 : Nat), k ≤ n ∧ k_ = .int .i64 k ∧ o_ = .slice a2 n2 c2 ∧ NmsOwn wr w1.heap.size (.slice a2 n2 c2) (readsL out0 (e.l.take k)) ∧ Below w1.heap.size w1 wr) (fun _ _ _ k_ _ => n - (intOf k_).toNat)
      case atStart => exact ⟨0, a2, c2, n2, Nat.zero_le _, rfl, rfl, by simpa [readsL] using OW.out, BW.out⟩
      case round =>
        clear OW BW p4
        obtain ⟨k, a3, c3, n3, hk, rfl, rfl, hown, hb⟩ := hrel
        have OW := Lib.hid hown
        have BW := Lib.hid hb
        clear hown
        by_cases hlt : k < n
        · obtain ⟨x, hx⟩ : ∃ x, e.l[k]? = some x := ⟨_, List.getElem?_eq_getElem (by rw [← HN.out]; exact hlt)⟩
          obtain ⟨b, o, c', u, hv, _, f0, f1, f2, f3, f4, hu⟩ := (H.out.below (B1.out.then_' hb)).elem hx
          obtain ⟨rfl, -, rfl⟩ := Value.slice.inj hv
          obtain ⟨ua, uc, rfl⟩ := hu.shape
          have HU := Lib.hid hu
          have HTK := Lib.hid (take_snoc' hx)
          have hxm : Hid (x.sz ≤ m) := Lib.hid (Nat.le_trans (szE_mem (List.mem_of_getElem? hx)) HSZ.out)
          have HLT : Hid ((readsL out0 (e.l.take k)).length + x.sz ≤ 10000001) := Lib.hid (by have h1 := readsL_len out0 (e.l.take k); have h2 := szE_take_add hx; have h3 := HL0.out; have h4 := HSZ.out; omega)
          have hki : (k : Int) < (n : Int) := by omega
          have T := Lib.hid (CsAt.new wr [.int .i64 x.kind, .int .i64 x.n, .string x.name, .int .i64 x.op, .slice ua x.l.length uc] 42)
          have Bz := Lib.hid (below1 wr (.cells #[.int .i64 x.kind, .int .i64 x.n, .string x.name, .int .i64 x.op, .slice ua x.l.length uc] 42))
          clear hv hb hx hu
          go_wp2_with fail
          generalize wr.alloc (.cells #[.int .i64 x.kind, .int .i64 x.n, .string x.name, .int .i64 x.op, .slice ua x.l.length uc] 42) = wz at *
          refine (IH.out x (.slice ua x.l.length uc) wz hxm.out (HU.out.below Bz.out)).mono ?_
          rintro e' w2 ⟨a4, n4, c4, rfl, ho4, hb4⟩
          have R4 := Lib.hid ho4
          have hB2 := Bz.out.then_' hb4
          have O4 := Lib.hid (OW.out.below hB2)
          have B4 := Lib.hid (BW.out.then_' hB2)
          obtain ⟨hn4, hn4'⟩ : n4 = (readsE x).length ∧ True := by obtain ⟨a', c', e1⟩ := ho4.shape; exact ⟨(Value.slice.inj e1).2.1, trivial⟩
          have HN4 := Lib.hid hn4
          have hn4b : n4 ≤ 10000001 := by rw [hn4]; have h1 := readsE_len x; have h2 := HLT.out; omega
          have hz : Hid (∀ g, (Value.slice a3 n3 c3).ownBlock = some g → g < wz.heap.size) := Lib.hid (fun g e1 => Nat.lt_of_lt_of_le (World.ownsRow.lt OW.out g e1).2 Bz.out.size)
          have AP : Hid (∀ g, (Value.slice a3 n3 c3).ownBlock = some g → (Value.slice a4 n4 c4).ownBlock ≠ some g) := Lib.hid (fun g h1 h2 => by have h3 := hz.out g h1; have h4 := (World.ownsRow.lt R4.out g h2).1; omega)
          clear ho4 hb4 hB2 hn4 hn4' hz f0 f1 f2 f3 f4
          go_wp2_with fail
          go_loopw [3, 7, 26] (fun o_ _ k_ wx => ∃ (j : Nat) (a5 : Option Addr) (c5 n5 : Nat), j ≤ n4 ∧ k_ = .int .i64 j ∧ o_ = .slice a5 n5 c5 ∧ NmsOwn wx w1.heap.size (.slice a5 n5 c5) (addAll (readsL out0 (e.l.take k)) ((readsE x).take j)) ∧ NmsOwn wx wz.heap.size (.slice a4 n4 c4) (readsE x) ∧ Below w1.heap.size w1 wx ∧
            Hid (∀ g, (Value.slice a5 n5 c5).ownBlock = some g → (Value.slice a4 n4 c4).ownBlock ≠ some g)) (fun _ _ k_ _ => n4 - (intOf k_).toNat)
          case atStart => exact ⟨0, a3, c3, n3, Nat.zero_le _, rfl, rfl, by simpa [addAll] using O4.out, R4.out, B4.out, AP.out⟩
          case round =>
            clear OW BW
            obtain ⟨j, a5, c5, n5, hj, rfl, rfl, hown, hrw, hb, hap⟩ := hrel
            have O5 := Lib.hid hown
            have R5 := Lib.hid hrw
            have B5 := Lib.hid hb
            clear hown hb
            by_cases hjt : j < n4
            · obtain ⟨s, hs⟩ : ∃ s, (readsE x)[j]? = some s := ⟨_, List.getElem?_eq_getElem (by rw [← HN4.out]; exact hjt)⟩
              obtain ⟨b5, o5, c6, hv5, _, g0⟩ := hrw.at_.elem hs
              obtain ⟨rfl, -, rfl⟩ := Value.slice.inj hv5
              have HS := Lib.hid (take_snoc' hs)
              have hjn : (j : Int) < (n4 : Int) := by omega
              have HLJ : Hid ((addAll (readsL out0 (e.l.take k)) ((readsE x).take j)).length ≤ 20000002) := Lib.hid (by
                have h1 := addAll_len (readsL out0 (e.l.take k)) ((readsE x).take j)
                have h2 : ((readsE x).take j).length ≤ j := by simp; omega
                have h3 := HLT.out
                omega)
              have hlen5 : Hid (∀ (l : List ByteArray), addAll l ((readsE x).take (j + 1)) = addN (addAll l ((readsE x).take j)) s) := Lib.hid (fun l => by rw [HS.out, addAll_snoc])
              clear hv5 hs hrw
              generalize hcur : addAll (readsL out0 (e.l.take k)) ((readsE x).take j) = cur at *
              have HCUR := Lib.hid hcur
              clear hcur
              obtain ⟨hn5, -⟩ : n5 = cur.length ∧ True := by obtain ⟨a', c', e1⟩ := O5.out.shape; exact ⟨(Value.slice.inj e1).2.1, trivial⟩
              subst hn5
              cases hh : hasN cur s with
              | true =>
                have HH := Lib.hid hh
                clear hh
                go_wp2_with fail
                refine (rhas_any _ cur s _ O5.out.at_ (by have := HLJ.out; omega)).mono ?_
                rw [HH.out]
                rintro e' w5 ⟨rfl, hb⟩
                go_wp2
                go_roundw
                case rel => exact ⟨j + 1, a5, c5, _, by omega, by go_num, rfl, by rw [hlen5.out, HCUR.out, add_yes HH.out]; exact O5.out.below hb, R5.out.below hb, B5.out.then_' hb, hap⟩
                case measure => simp [intOf]; omega
              | false =>
                have HH := Lib.hid hh
                clear hh
                go_wp2_with fail
                refine (rhas_any _ cur s _ O5.out.at_ (by have := HLJ.out; omega)).mono ?_
                rw [HH.out]
                rintro e' w5 ⟨rfl, hb⟩
                have hbs := hb.then_' (below1 w5 (.cells #[.string s] 9))
                have BS := Lib.hid hbs
                have O6 := Lib.hid (O5.out.below hbs)
                have R6 := Lib.hid (R5.out.below hbs)
                have B6 := Lib.hid (B5.out.then_' hbs)
                have HB6 := Lib.hid (B5.out.then_' hbs).size
                clear hb hbs
                go_wp2_with (first
                  | (at_builtin; refine appN rfl _ _ rfl w1.heap.size (.slice a5 cur.length c5) cur rfl O6.out _ [s] rfl (nms_at1 w5 s) (by have := HLJ.out; simp; omega) HB6.out ?_; intro v' w7 ho hg hat; obtain ⟨a7, c7, rfl⟩ := ho.shape; have e1 : (cur ++ [s]).length = cur.length + 1 := (by simp); rw [e1] at ho hat; have O7 := Lib.hid ho; have G7 := Lib.hid hg; have A7 := Lib.hid hat; clear ho hg hat e1)
                  | fail)
                go_roundw
                case rel =>
                  refine ⟨j + 1, a7, c7, cur.length + 1, by omega, by go_num, rfl, by rw [hlen5.out, HCUR.out, add_no HH.out]; exact O7.out, ?_, B6.out.grown G7.out HB6.out (fun g e1 => (World.ownsRow.lt O6.out g e1).1), ?_⟩
                  · refine World.ownsRow.kept R6.out G7.out ?_
                    rcases h7 : (Value.slice (some ⟨b5, o5, none⟩) n4 c4).ownBlock with _ | g
                    · exact .inl rfl
                    · exact .inr (fun e1 => hap.out g e1.symm h7)
                  · intro g h1 h2
                    rcases A7.out with h3 | h3
                    · exact hap.out g (h3.symm.trans h1) h2
                    · have h4 := (World.ownsRow.lt R6.out g h2).2
                      rw [h3] at h1
                      have := Option.some.inj h1
                      omega
                case measure => simp [intOf]; omega
            · obtain rfl : j = n4 := by omega
              have e1 : (readsE x).take j = readsE x := List.take_of_length_le (Nat.le_of_eq HN4.out.symm)
              rw [e1] at O5
              go_wp2
              go_roundw
              case rel => exact ⟨k + 1, a5, c5, n5, by omega, by go_num, rfl, by rw [HTK.out, readsL_snoc]; exact O5.out, B5.out⟩
              case measure => simp [intOf]; omega
        · obtain rfl : k = n := by omega
          have e1 : e.l.take k = e.l := List.take_of_length_le (Nat.le_of_eq HN.out.symm)
          rw [e1] at OW
          go_wp2
          go_ret
          exact ⟨_, _, _, rfl, own_mono (by rw [HP.out]; exact OW.out) hB1, B1.out.then_' hb⟩
end Go.Proofs.YtilholgbepfopaaDoor
