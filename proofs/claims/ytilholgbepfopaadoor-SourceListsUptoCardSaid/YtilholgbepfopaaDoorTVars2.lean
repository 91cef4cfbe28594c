/- Vars (of the reference). -/
import Derived.Test.YtilholgbepfopaaDoorTWalk
namespace Go.Proofs.YtilholgbepfopaaDoor
open Go.RowKit

def addAll (out l : List ByteArray) : List ByteArray := l.foldl addN out
def varsO (f : Fn) : List ByteArray := walkL (addAll [] f.params) f.body
theorem addAll_snoc (out l : List ByteArray) (x : ByteArray) : addAll out (l ++ [x]) = addN (addAll out l) x := by
  unfold addAll
  rw [List.foldl_append]
  rfl
theorem addAll_len (out l : List ByteArray) : (addAll out l).length ≤ out.length + l.length := by
  induction l generalizing out with
  | nil => exact Nat.le_refl _
  | cons x l ih =>
    have h1 := ih (addN out x)
    have h2 := addN_len out x
    show (addAll (addN out x) l).length ≤ _
    simp only [List.length_cons]
    omega
theorem take_small {l : List ByteArray} {k n : Nat} (hk : k ≤ n) (hn : n ≤ 10000000) : (addAll [] (l.take k)).length ≤ 10000000 := by
  have h1 := addAll_len [] (l.take k)
  have h2 : (l.take k).length ≤ k := by simp; omega
  simp only [List.length_nil] at h1
  omega
/-- names in new memory -/
def RNms (w : World) (l : List ByteArray) (e : Ending) (w' : World) : Prop := ∃ a n c, e = .returned (.slice a n c) ∧ NmsOwn w' w.heap.size (.slice a n c) l ∧ Below w.heap.size w w'

set_option maxHeartbeats 4000000 in
set_option maxRecDepth 100000 in
theorem rvars_any (f : Fn) (u x : Value) (w : World) (hsz : szF f ≤ 10000000) (hu : NmsAt w u f.params) (hx : StsAt w x f.body) :
    Calls Tryd.prog 19 #[.agg #[.string f.name, u, x]] w (RNms w (varsO f)) := by
  obtain ⟨ua, uc, rfl⟩ := hu.shape
  obtain ⟨xa, xc, rfl⟩ := hx.shape
  have HU := Lib.hid hu
  have HX := Lib.hid hx
  have HSZ := Lib.hid hsz
  have hl : f.params.length ≤ 10000000 := by unfold szF at hsz; omega
  clear hu hx hsz
  obtain ⟨n, hn⟩ : ∃ n, n = f.params.length := ⟨_, rfl⟩
  have HN := Lib.hid hn
  rw [← hn] at HU hl ⊢
  clear hn
  have P := Lib.hid (CsAt.new w [.string f.name, .slice ua n uc, .slice xa f.body.length xc] 35)
  have B1 := Lib.hid (below1 w (.cells #[.string f.name, .slice ua n uc, .slice xa f.body.length xc] 35))
  have p1 := P.out.cell 1 _ rfl
  go_enter Tryd.func19, Tryd.ntmps19
  go_wp2_with fail
  generalize w.alloc (.cells #[.string f.name, .slice ua n uc, .slice xa f.body.length xc] 35) = w1 at *
  clear p1
  have hB1 := B1.out.size
  go_loopw [3, 5, 9] (fun o_ _ k_ wr => ∃ (k : Nat) (a2 : Option Addr) (c2 n2 : Nat), k ≤ n ∧ k_ = .int .i64 k ∧ o_ = .slice a2 n2 c2 ∧ NmsOwn wr w1.heap.size (.slice a2 n2 c2) (addAll [] (f.params.take k)) ∧ Below w1.heap.size w1 wr) (fun _ _ k_ _ => n - (intOf k_).toNat)
  case atStart => exact ⟨0, none, 0, 0, Nat.zero_le _, rfl, rfl, NmsOwn.nil _ _, Below.refl _ _⟩
  case round =>
    obtain ⟨k, a2, c2, n2, hk, rfl, rfl, hown, hb⟩ := hrel
    have OW := Lib.hid hown
    have BW := Lib.hid hb
    clear hown
    by_cases hlt : k < n
    · obtain ⟨s, hs⟩ : ∃ s, f.params[k]? = some s := ⟨_, List.getElem?_eq_getElem (by rw [← HN.out]; exact hlt)⟩
      obtain ⟨b, o, c', hv, _, c0⟩ := (HU.out.below (B1.out.then_' hb)).elem hs
      obtain ⟨rfl, -, rfl⟩ := Value.slice.inj hv
      have HS := Lib.hid (take_snoc' hs)
      have hki : (k : Int) < (n : Int) := by omega
      have HL : Hid ((addAll [] (f.params.take k)).length ≤ 10000000) := Lib.hid (take_small hk hl)
      clear hv hs hb
      go_wp2_with fail
      refine (radd_any w1.heap.size _ _ s _ OW.out BW.out.size (by have := HL.out; omega)).mono ?_
      rintro e w2 ⟨a3, n3, c3, rfl, ho3, hg3⟩
      have O3 := Lib.hid ho3
      have B3 := Lib.hid (hg3.from BW.out (Nat.le_refl _) (fun g e => (World.ownsRow.lt OW.out g e).1))
      clear ho3 hg3
      go_wp2
      go_roundw
      case rel => exact ⟨k + 1, a3, c3, n3, by omega, by go_num, rfl, by rw [HS.out, addAll_snoc]; exact O3.out, B3.out⟩
      case measure => simp [intOf]; omega
    · obtain rfl : k = n := by omega
      have e1 : f.params.take k = f.params := List.take_of_length_le (Nat.le_of_eq HN.out.symm)
      rw [e1] at OW
      have p2 := (P.out.below hb).cell 2 _ rfl
      have HL : Hid ((addAll [] f.params).length + szS f.body ≤ 10000000) := Lib.hid (by have := addAll_len [] f.params; have h2 := HSZ.out; unfold szF at h2; simp only [List.length_nil] at this; omega)
      have hsz := HL.out
      clear hb e1
      go_wp2_with fail
      refine (rwalk_any (szS f.body + 1) f.body _ _ (addAll [] f.params) w1.heap.size w1 _ (Nat.lt_succ_self _) (HX.out.below B1.out) BW.out (Nat.le_refl _) BW.out.size OW.out HL.out).mono ?_
      rintro e w2 ⟨a3, n3, c3, rfl, ho3, hg3⟩
      go_wp2
      go_ret
      obtain ⟨h1, h2⟩ := ho3
      exact ⟨_, _, _, rfl, own_mono ⟨h1, h2⟩ hB1, B1.out.then_' (hg3.from BW.out (Nat.le_refl _) (fun g e => (World.ownsRow.lt OW.out g e).1))⟩
end Go.Proofs.YtilholgbepfopaaDoor
