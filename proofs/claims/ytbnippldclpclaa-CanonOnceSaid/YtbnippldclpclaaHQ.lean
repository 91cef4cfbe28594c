/- What two Puts leave, when cells elsewhere are stored to. -/
import Derived.Test.YtbnippldclpclaaHSane
namespace Go.Proofs.Ytbnippldclpclaa
open Go.RowKit

theorem row_agree {w w' : World} {base : Nat} {e : TypeId} {size : Nat} {v : Value} {n : Nat} {xs : List Value} (h : w.ownsRow base e size v n xs) (hb : ∀ b, base ≤ b → b < w.heap.size → w'.heap[b]? = w.heap[b]?) : w'.ownsRow base e size v n xs := by
  refine ⟨h.1, ?_⟩
  rcases h.2 with hn | ⟨g, cap, cur, rfl, hbg, hgg, rest⟩
  · exact .inl hn
  · exact .inr ⟨g, cap, cur, rfl, hbg, by rw [hb g hbg (Array.getElem?_eq_some_iff.1 hgg).1]; exact hgg, rest⟩
theorem own_agree {w w' : World} {B : Nat} {v : Value} {O : List Ob} (h : OwnAt w B v O) (hb : ∀ b, B ≤ b → b < w.heap.size → w'.heap[b]? = w.heap[b]?) : OAt w' v O := by
  obtain ⟨L, ⟨h1, h2⟩, e⟩ := h
  exact ⟨L, OsOwn.at_ (B := B) ⟨row_agree h1 hb, fun x hx => row_agree (h2 x hx) hb⟩, e⟩
/-- a heap whose row is the call's, and each of whose objects' values are an old object's or the call's -/
def QAt (w : World) (B : Nat) (L : List Lob) (v : Value) (O : List Ob) : Prop := ∃ M, w.ownsRow B 43 2 v M.length (M.flatMap oc) ∧ (∀ y ∈ M, y ∈ L ∨ VsOwn w B y.fv y.vals) ∧ obs M = O
theorem q_agree {w0 w w' : World} {B : Nat} {L : List Lob} {v v0 : Value} {O : List Ob} (h : QAt w B L v O) (hL : OsAt w0 v0 L) (h0 : Below w0.heap.size w0 w') (hb : ∀ b, B ≤ b → b < w.heap.size → w'.heap[b]? = w.heap[b]?) : OAt w' v O := by
  obtain ⟨M, h1, h2, e⟩ := h
  exact ⟨M, ⟨own_sl (row_agree h1 hb), fun y hy => by rcases h2 y hy with h | h; exact (hL.2 y h).below h0; exact VsOwn.at_ (B := B) (row_agree h hb)⟩, e⟩
theorem q_at {w0 w : World} {B : Nat} {L : List Lob} {v v0 : Value} {O : List Ob} (h : QAt w B L v O) (hL : OsAt w0 v0 L) (h0 : Below w0.heap.size w0 w) : OAt w v O := q_agree h hL h0 fun _ _ _ => rfl
def RQ (L : List Lob) (w : World) (O : List Ob) (e : Ending) (w' : World) : Prop := ∃ a n c, e = .returned (.agg #[.slice a n c]) ∧ QAt w' w.heap.size L (.slice a n c) O ∧ Below w.heap.size w w'
theorem rputq_ok {w : World} {v u : Value} {L : List Lob} {O : List Ob} (id : Int) (l : List V) (h : OsAt w v L) (hO : obs L = O) (ho : VsAt w u l) (hs : ShortO O) (hl : l.length ≤ 1000000) : Calls Try.prog 15 #[.agg #[v], .agg #[.int .i64 id, u]] w (RQ L w (putO O (id, l))) := by
  subst hO
  rw [← putD_obs]
  refine (rput_all v u L id l w h ho (shortO hs) hl (by have := hs.1; rw [obs_len] at this; exact this)).mono fun e w' hh => ?_
  obtain ⟨v', M, rfl, h1, h2, h3, h4⟩ := hh
  obtain ⟨a, c, rfl⟩ := SlAt.shape (own_sl h1)
  exact ⟨a, M.length, c, rfl, ⟨M, h1, h2, h3⟩, h4⟩
theorem two_news (w : World) (o : Obj) (u : Value) (t : TypeId) : At1 ((w.alloc o).alloc (.cells #[u] t)) (w.heap.size + 1) u := by simpa using At1.new (w.alloc o) u t
theorem new_set (w : World) (p : Addr) (u v : Value) (t : TypeId) : At1 ((w.setCell p u).alloc (.cells #[v] t)) w.heap.size v := by simpa [size_set] using At1.new (w.setCell p u) v t
theorem far0 (w : World) (z : Nat) (u : Value) (b : Nat) (h : b ≠ z) : (w.setCell ⟨z, 0, none⟩ u).heap[b]? = w.heap[b]? := heap_far w ⟨z, 0, none⟩ u b h
theorem new0 (w : World) (o : Obj) (b : Nat) (h : b < w.heap.size) : (w.alloc o).heap[b]? = w.heap[b]? := (below1 w o).block b h
theorem lt_new (w : World) (o : Obj) : w.heap.size < (w.alloc o).heap.size := by simp
theorem lt_two (w : World) (o o' : Obj) : w.heap.size < ((w.alloc o).alloc o').heap.size := by simp; omega
theorem lt_two1 (w : World) (o o' : Obj) : w.heap.size + 1 < ((w.alloc o).alloc o').heap.size := by simp
theorem lt_newD (w : World) (o : Obj) : w.heap.size < (w.alloc o).drew.heap.size := lt_new w o
theorem lt_twoD (w : World) (o o' : Obj) : w.heap.size < ((w.alloc o).alloc o').drew.heap.size := lt_two w o o'
theorem lt_two1D (w : World) (o o' : Obj) : w.heap.size + 1 < ((w.alloc o).alloc o').drew.heap.size := lt_two1 w o o'
theorem keep0 {w w' : World} (hb : Below w.heap.size w w') : ∀ b, b < w.heap.size → w'.heap[b]? = w.heap[b]? := hb.block
theorem keep1 {w w' : World} {o : Obj} (hb : Below (w.alloc o).heap.size (w.alloc o) w') : ∀ b, b < w.heap.size → w'.heap[b]? = w.heap[b]? := fun b h => (hb.block b (Nat.lt_trans h (lt_new _ _))).trans (new0 _ _ _ h)
theorem keep2 {w w' : World} {o o' : Obj} (hb : Below ((w.alloc o).alloc o').heap.size ((w.alloc o).alloc o') w') : ∀ b, b < w.heap.size → w'.heap[b]? = w.heap[b]? :=
  fun b h => (hb.block b (Nat.lt_trans h (lt_two _ _ _))).trans ((new0 _ _ _ (Nat.lt_trans h (lt_new _ _))).trans (new0 _ _ _ h))

/-- both Puts are done: what is known of their results, and of the worlds -/
structure Base (w v w1 w2 : World) (B1 B2 : Nat) (L : List Lob) (v0 p q : Value) (O : List Ob) : Prop where
  own : OwnAt w1 B1 p O
  keep : ∀ b, b < w1.heap.size → w2.heap[b]? = w1.heap[b]?
  hs : w1.heap.size ≤ w2.heap.size
  hq : QAt w2 B2 L q O
  hL : OsAt w v0 L
  hB : Below w.heap.size w v
  hQ : Below v.heap.size v w2
/-- their results lie in cells of their own -/
def Two (v : World) (O : List Ob) (pv qv : Value) (wx : World) : Prop := ∃ (zp zq : Nat) (ap : Option Addr) (np cp : Nat) (aq : Option Addr) (nq cq : Nat), pv = .pointer (some ⟨zp, 0, none⟩) ∧ qv = .pointer (some ⟨zq, 0, none⟩) ∧ At1 wx zp (.slice ap np cp) ∧ At1 wx zq (.slice aq nq cq) ∧ OAt wx (.slice ap np cp) O ∧ OAt wx (.slice aq nq cq) O ∧ Below v.heap.size v wx
section
variable {w v w1 w2 wx : World} {B1 B2 zp zq np cp nq cq : Nat} {L : List Lob} {v0 : Value} {ap aq : Option Addr} {O : List Ob} {t : TypeId} {u u' : Value}
theorem Base.fin (h : Base w v w1 w2 B1 B2 L v0 (.slice ap np cp) (.slice aq nq cq) O) (P : At1 wx zp (.slice ap np cp)) (Q : At1 wx zq (.slice aq nq cq))
    (hx : ∀ b, b < w2.heap.size → b ≠ zp → b ≠ zq → wx.heap[b]? = w2.heap[b]?) (Bx : Below v.heap.size v wx)
    (p1 : zp < B1 ∨ w1.heap.size ≤ zp) (q1 : zq < B1 ∨ w1.heap.size ≤ zq) (p2 : zp < B2 ∨ w2.heap.size ≤ zp) (q2 : zq < B2 ∨ w2.heap.size ≤ zq) :
    Two v O (.pointer (some ⟨zp, 0, none⟩)) (.pointer (some ⟨zq, 0, none⟩)) wx :=
  ⟨zp, zq, ap, np, cp, aq, nq, cq, rfl, rfl, P, Q,
    own_agree h.own (fun b h1 h2 => (hx b (Nat.lt_of_lt_of_le h2 h.hs) (by omega) (by omega)).trans (h.keep b h2)),
    q_agree h.hq h.hL (h.hB.then_' Bx) (fun b h1 h2 => hx b h2 (by omega) (by omega)), Bx⟩
theorem set1 {w wx : World} (hb : Below w.heap.size w wx) {z : Nat} (hz : w.heap.size ≤ z) (a : Value) : Below w.heap.size w (wx.setCell ⟨z, 0, none⟩ a) := hb.setCell (p := ⟨z, 0, none⟩) hz a
theorem Base.f1 (h : Base w v w1 w2 B1 B2 L v0 (.slice ap np cp) (.slice aq nq cq) O) : Two v O (.pointer (some ⟨w2.heap.size, 0, none⟩)) (.pointer (some ⟨w2.heap.size + 1, 0, none⟩)) ((w2.alloc (.cells #[.slice ap np cp] t)).alloc (.cells #[.slice aq nq cq] t)) :=
  h.fin ((At1.new _ _ _).alloc _) (two_news _ _ _ _) (fun _ hb _ _ => (new0 _ _ _ (Nat.lt_trans hb (lt_new _ _))).trans (new0 _ _ _ hb)) (Below.new (Below.new h.hQ _) _) (.inr h.hs) (.inr (Nat.le_succ_of_le h.hs)) (.inr (Nat.le_refl _)) (.inr (Nat.le_succ _))
theorem Base.f2 (h : Base w v w1 w2 B1 B2 L v0 (.slice ap np cp) (.slice aq nq cq) O) : Two v O (.pointer (some ⟨w2.heap.size + 1, 0, none⟩)) (.pointer (some ⟨w2.heap.size, 0, none⟩)) ((w2.alloc (.cells #[.slice aq nq cq] t)).alloc (.cells #[.slice ap np cp] t)) :=
  h.fin (two_news _ _ _ _) ((At1.new _ _ _).alloc _) (fun _ hb _ _ => (new0 _ _ _ (Nat.lt_trans hb (lt_new _ _))).trans (new0 _ _ _ hb)) (Below.new (Below.new h.hQ _) _) (.inr (Nat.le_succ_of_le h.hs)) (.inr h.hs) (.inr (Nat.le_succ _)) (.inr (Nat.le_refl _))
theorem set_new {w : World} {z b : Nat} {u : Value} {o : Obj} (hb : b < w.heap.size) (hz : b ≠ z) : ((w.setCell ⟨z, 0, none⟩ u).alloc o).heap[b]? = w.heap[b]? := (new0 _ _ _ (by rw [size_set]; exact hb)).trans (far0 _ _ _ _ hz)
theorem Base.f3 (h : Base w v w1 w2 B1 B2 L v0 (.slice ap np cp) (.slice aq nq cq) O) (Z : At1 w2 zp u) (hv : v.heap.size ≤ zp) (p1 : zp < B1 ∨ w1.heap.size ≤ zp) (p2 : zp < B2 ∨ w2.heap.size ≤ zp) :
    Two v O (.pointer (some ⟨zp, 0, none⟩)) (.pointer (some ⟨w2.heap.size, 0, none⟩)) ((w2.setCell ⟨zp, 0, none⟩ (.slice ap np cp)).alloc (.cells #[.slice aq nq cq] t)) :=
  h.fin ((Z.put _).alloc _) (new_set _ _ _ _ _) (fun _ hb h1 _ => set_new hb h1) (Below.new (set1 h.hQ hv _) _) p1 (.inr h.hs) p2 (.inr (Nat.le_refl _))
theorem Base.f5 (h : Base w v w1 w2 B1 B2 L v0 (.slice ap np cp) (.slice aq nq cq) O) (Z : At1 w2 zq u) (hv : v.heap.size ≤ zq) (q1 : zq < B1 ∨ w1.heap.size ≤ zq) (q2 : zq < B2 ∨ w2.heap.size ≤ zq) :
    Two v O (.pointer (some ⟨w2.heap.size, 0, none⟩)) (.pointer (some ⟨zq, 0, none⟩)) ((w2.setCell ⟨zq, 0, none⟩ (.slice aq nq cq)).alloc (.cells #[.slice ap np cp] t)) :=
  h.fin (new_set _ _ _ _ _) ((Z.put _).alloc _) (fun _ hb _ h1 => set_new hb h1) (Below.new (set1 h.hQ hv _) _) (.inr h.hs) q1 (.inr (Nat.le_refl _)) q2
theorem Base.f4 (h : Base w v w1 w2 B1 B2 L v0 (.slice ap np cp) (.slice aq nq cq) O) (Z : At1 w2 zp u) (Z' : At1 w2 zq u') (hv : v.heap.size ≤ zp) (hv' : v.heap.size ≤ zq) (hne : zp ≠ zq) (p1 : zp < B1 ∨ w1.heap.size ≤ zp) (q1 : zq < B1 ∨ w1.heap.size ≤ zq) (p2 : zp < B2 ∨ w2.heap.size ≤ zp) (q2 : zq < B2 ∨ w2.heap.size ≤ zq) :
    Two v O (.pointer (some ⟨zp, 0, none⟩)) (.pointer (some ⟨zq, 0, none⟩)) ((w2.setCell ⟨zp, 0, none⟩ (.slice ap np cp)).setCell ⟨zq, 0, none⟩ (.slice aq nq cq)) :=
  h.fin ((Z.put _).far hne _) ((Z'.far (p := ⟨zp, 0, none⟩) (fun e => hne e.symm) _).put _) (fun _ _ h1 h2 => (far0 _ _ _ _ h2).trans (far0 _ _ _ _ h1)) (set1 (set1 h.hQ hv _) hv' _) p1 q1 p2 q2
end
end Go.Proofs.Ytbnippldclpclaa
