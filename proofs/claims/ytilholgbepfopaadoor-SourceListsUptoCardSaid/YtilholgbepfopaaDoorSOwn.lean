/- Rows of trees that a call owns; what stands though other blocks change. -/
import Derived.Test.YtilholgbepfopaaDoorSOne
namespace Go.Proofs.YtilholgbepfopaaDoor
open Go.RowKit

/-- w' has the blocks P of w as they were -/
def Agree (P : Nat → Prop) (w w' : World) : Prop := w.heap.size ≤ w'.heap.size ∧ ∀ k, P k → k < w.heap.size → w'.heap[k]? = w.heap[k]?
theorem Agree.refl (P : Nat → Prop) (w : World) : Agree P w w := ⟨Nat.le_refl _, fun _ _ _ => rfl⟩
theorem Agree.trans {P : Nat → Prop} {w w1 w2 : World} (h : Agree P w w1) (h2 : Agree P w1 w2) : Agree P w w2 := ⟨Nat.le_trans h.1 h2.1, fun k hp hk => (h2.2 k hp (Nat.lt_of_lt_of_le hk h.1)).trans (h.2 k hp hk)⟩
theorem Agree.of_below {P : Nat → Prop} {w w' : World} (h : Below w.heap.size w w') : Agree P w w' := ⟨h.size, fun k _ hk => h.block k hk⟩
theorem Agree.of_grown {P : Nat → Prop} {w w' : World} {r : Option Nat} (h : w.grownBy w' r) (hr : ∀ g, r = some g → ¬ P g) : Agree P w w' := ⟨h.size, fun k hp hk => h.block k hk (fun e => hr k e.symm hp)⟩
theorem Agree.mono {P Q : Nat → Prop} {w w' : World} (h : Agree Q w w') (hp : ∀ k, k < w.heap.size → P k → Q k) : Agree P w w' := ⟨h.1, fun k h1 hk => h.2 k (hp k hk h1) hk⟩
theorem Agree.set {P : Nat → Prop} (w : World) {p : Addr} (hp : ¬ P p.block) (u : Value) : Agree P w (w.setCell p u) := ⟨by simp [World.setCell], fun k h1 _ => Below.heap_setCell w p u k (by rintro rfl; exact hp h1)⟩
/-- T holds, and in all worlds that have the blocks P as they are -/
def InP (P : Nat → Prop) (w : World) (T : World → Prop) : Prop := ∀ w', Agree P w w' → T w'
theorem InP.here {P : Nat → Prop} {w : World} {T : World → Prop} (h : InP P w T) : T w := h w (Agree.refl _ _)
theorem InP.step {P : Nat → Prop} {w w' : World} {T : World → Prop} (h : InP P w T) (ha : Agree P w w') : InP P w' T := fun w2 h2 => h w2 (ha.trans h2)
theorem InP.mono {P Q : Nat → Prop} {w : World} {T : World → Prop} (h : InP P w T) (hp : ∀ k, k < w.heap.size → P k → Q k) : InP Q w T := fun w2 h2 => h w2 (h2.mono hp)
theorem SlAt.agree {P : Nat → Prop} {w w' : World} {sz : Nat} {v : Value} {n : Nat} {xs : List Value} (h : SlAt w sz v n xs) (ha : Agree P w w') (hp : ∀ a n c, v = .slice (some a) n c → P a.block) : SlAt w' sz v n xs := by
  rcases h with h | ⟨ad, c, rfl, hnc, hl, hc⟩
  · exact .inl h
  · refine .inr ⟨ad, c, rfl, hnc, hl, fun j u hj => ?_⟩
    have hlt := World.block_lt_of_cell? w _ (hc j u hj)
    have hb : (ad.add j).block = ad.block := by unfold Addr.add; split <;> rfl
    refine (World.cell?_of_block ?_).trans (hc j u hj)
    rw [hb] at hlt ⊢
    exact ha.2 _ (hp _ _ _ rfl) hlt
theorem own_block {w : World} {base : Nat} {e : TypeId} {sz n : Nat} {v : Value} {xs : List Value} (h : w.ownsRow base e sz v n xs) : ∀ a n' c, v = .slice (some a) n' c → v.ownBlock = some a.block ∧ base ≤ a.block := by
  rintro a n' c rfl
  rcases h.2 with ⟨e1, _⟩ | ⟨g, cap, cur, e1, hbg, _⟩
  · cases e1
  · obtain ⟨e2, -, -⟩ := Value.slice.inj e1
    obtain rfl := Option.some.inj e2
    exact ⟨rfl, hbg⟩

theorem ExL_append {w : World} {l m : List Ex} {c d : List (List Value)} (h : ExL w l c) (h2 : ExL w m d) : ExL w (l ++ m) (c ++ d) := by
  induction l generalizing c with
  | nil => unfold ExL at h; subst h; exact h2
  | cons x l ih =>
    unfold ExL at h
    obtain ⟨c0, r, rfl, h3, h4⟩ := h
    show ExL w (x :: (l ++ m)) (c0 :: (r ++ d))
    unfold ExL
    exact ⟨c0, _, rfl, h3, ih h4⟩
/-- the list l, in a row that the call owns; all that it refers to lies from block B on, and not in the row -/
def ExsOwn (w : World) (B : Nat) (v : Value) (l : List Ex) : Prop := ∃ css : List (List Value), w.ownsRow B 42 5 v l.length css.flatten ∧ InP (fun k => B ≤ k ∧ v.ownBlock ≠ some k) w (fun w => ExL w l css)
theorem ExsOwn.nil (w : World) (B : Nat) : ExsOwn w B (.slice none 0 0) [] := ⟨[], World.ownsRow_nil w B 42 5, fun _ _ => by unfold ExL; rfl⟩
theorem ExsOwn.in_ {w : World} {B : Nat} {v : Value} {l : List Ex} (h : ExsOwn w B v l) : InP (fun k => B ≤ k) w (fun w => ExsAt w v l) := by
  obtain ⟨css, h1, h2⟩ := h
  exact fun w' ha => ⟨css, (own_sl h1).agree ha (fun a n c e => (own_block h1 a n c e).2), h2 w' (ha.mono (fun k _ h => h.1))⟩
theorem ExsOwn.at_ {w : World} {B : Nat} {v : Value} {l : List Ex} (h : ExsOwn w B v l) : ExsAt w v l := h.in_.here
theorem ExsOwn.below {w w' : World} {B : Nat} {v : Value} {l : List Ex} (h : ExsOwn w B v l) (hb : Below w.heap.size w w') : ExsOwn w' B v l := by
  obtain ⟨css, h1, h2⟩ := h
  exact ⟨css, own_below h1 hb, h2.step (.of_below hb)⟩
/-- the row stays where neither it nor what lies from B on is touched -/
theorem ExsOwn.agree {w w' : World} {B : Nat} {v : Value} {l : List Ex} (h : ExsOwn w B v l) (ha : Agree (fun k => B ≤ k) w w') : ExsOwn w' B v l := by
  obtain ⟨css, h1, h2⟩ := h
  refine ⟨css, ⟨h1.1, ?_⟩, h2.step (ha.mono (fun k _ h => h.1))⟩
  rcases h1.2 with hn | ⟨g, cap, cur, rfl, hbg, hgg, rest⟩
  · exact .inl hn
  · exact .inr ⟨g, cap, cur, rfl, hbg, by rw [ha.2 g hbg (Array.getElem?_eq_some_iff.1 hgg).1]; exact hgg, rest⟩
theorem info_Ex : (Tryd.prog.info? 42).map (fun i => (i.zero, i.size, i.bytes)) = some (some (.agg #[.int .i64 0, .int .i64 0, .string ⟨#[]⟩, .int .i64 0, .slice none 0 0]), 5, 64) := by kernel_rfl
theorem ExL_one {w : World} {l : List Ex} {css : List (List Value)} (h : ExL w l css) : ∀ u ∈ css.flatten, u.oneCell' = true := by
  induction l generalizing css with
  | nil => unfold ExL at h; subst h; simp
  | cons x l ih =>
    unfold ExL at h
    obtain ⟨c0, r, rfl, h3, h4⟩ := h
    intro u hu
    rw [List.flatten_cons] at hu
    rcases List.mem_append.1 hu with hu | hu
    · cases x
      unfold ExAt at h3
      obtain ⟨v, rfl, css', h5, _⟩ := h3
      obtain ⟨a', c', rfl⟩ := h5.shape
      simp only [List.mem_cons, List.not_mem_nil, or_false] at hu
      rcases hu with rfl | rfl | rfl | rfl | rfl <;> rfl
    · exact ih h4 u hu
section
variable {w : World} {ops : Array Oper} {rest : List Oper} {o : Oper} {a : Act} {Q : Exit → Act → World → Prop}
/-- append(l, m...) -/
theorem appE (hgd : o.guard = none) (s x : Operand) (ho : o.op = .call { callee := .builtin .append, args := #[s, x], argTypes := #[38, 38] })
    (B : Nat) (v : Value) (l : List Ex) (hs : a.eval s = v) (hown : ExsOwn w B v l) (xv : Value) (m : List Ex) (hxe : a.eval x = xv) (hxl : ∃ css, SlAt w 5 xv m.length css.flatten ∧ InP (fun k => B ≤ k ∧ v.ownBlock ≠ some k) w (fun w => ExL w m css)) (hn : l.length + m.length ≤ 1000000000) (hbase : B ≤ w.heap.size)
    (h : ∀ v' w', ExsOwn w' B v' (l ++ m) → w.grownBy w' v.ownBlock → (v'.ownBlock = v.ownBlock ∨ v'.ownBlock = some w.heap.size) → wpList Tryd.prog ops Q rest (a.put o.dst v') w') :
    wpList Tryd.prog ops Q (o :: rest) a w := by
  obtain ⟨css, h1, h2⟩ := hown
  obtain ⟨dss, h3, h4⟩ := hxl
  refine wpList_append_sl hgd s x 38 ho B 42 _ 5 64 Tryd.underlying38 info_Ex rfl (by decide) v l.length _ hs h1 xv m.length _ hxe h3 (ExL_one h4.here) (by unfold maxLen; omega) (by omega) hbase ?_
  intro v' w' h5 h6 h7
  refine h v' w' ⟨css ++ dss, ?_, ?_⟩ h6 h7
  · rw [List.length_append, List.flatten_append]
    exact h5
  · have hag : ∀ w2, Agree (fun k => B ≤ k ∧ v'.ownBlock ≠ some k) w' w2 → Agree (fun k => B ≤ k ∧ v.ownBlock ≠ some k) w w2 := fun w2 h8 => by
      refine ⟨Nat.le_trans h6.size h8.1, fun k hk hkw => ?_⟩
      have e1 := h6.block k hkw (fun e => hk.2 e.symm)
      refine (h8.2 k ⟨hk.1, fun e => ?_⟩ (Nat.lt_of_lt_of_le hkw h6.size)).trans e1
      rcases h7 with h7 | h7
      · rw [h7] at e; exact hk.2 e
      · rw [h7] at e; have := Option.some.inj e; omega
    exact fun w2 h8 => ExL_append (h2 w2 (hag w2 h8)) (h4 w2 (hag w2 h8))
end

theorem StL_append {w : World} {l m : List St} {c d : List (List Value)} (h : StL w l c) (h2 : StL w m d) : StL w (l ++ m) (c ++ d) := by
  induction l generalizing c with
  | nil => unfold StL at h; subst h; exact h2
  | cons x l ih =>
    unfold StL at h
    obtain ⟨c0, r, rfl, h3, h4⟩ := h
    show StL w (x :: (l ++ m)) (c0 :: (r ++ d))
    unfold StL
    exact ⟨c0, _, rfl, h3, ih h4⟩
/-- the list l, in a row that the call owns; all that it refers to lies from block B on, and not in the row -/
def StsOwn (w : World) (B : Nat) (v : Value) (l : List St) : Prop := ∃ css : List (List Value), w.ownsRow B 40 8 v l.length css.flatten ∧ InP (fun k => B ≤ k ∧ v.ownBlock ≠ some k) w (fun w => StL w l css)
theorem StsOwn.nil (w : World) (B : Nat) : StsOwn w B (.slice none 0 0) [] := ⟨[], World.ownsRow_nil w B 40 8, fun _ _ => by unfold StL; rfl⟩
theorem StsOwn.in_ {w : World} {B : Nat} {v : Value} {l : List St} (h : StsOwn w B v l) : InP (fun k => B ≤ k) w (fun w => StsAt w v l) := by
  obtain ⟨css, h1, h2⟩ := h
  exact fun w' ha => ⟨css, (own_sl h1).agree ha (fun a n c e => (own_block h1 a n c e).2), h2 w' (ha.mono (fun k _ h => h.1))⟩
theorem StsOwn.at_ {w : World} {B : Nat} {v : Value} {l : List St} (h : StsOwn w B v l) : StsAt w v l := h.in_.here
theorem StsOwn.below {w w' : World} {B : Nat} {v : Value} {l : List St} (h : StsOwn w B v l) (hb : Below w.heap.size w w') : StsOwn w' B v l := by
  obtain ⟨css, h1, h2⟩ := h
  exact ⟨css, own_below h1 hb, h2.step (.of_below hb)⟩
/-- the row stays where neither it nor what lies from B on is touched -/
theorem StsOwn.agree {w w' : World} {B : Nat} {v : Value} {l : List St} (h : StsOwn w B v l) (ha : Agree (fun k => B ≤ k) w w') : StsOwn w' B v l := by
  obtain ⟨css, h1, h2⟩ := h
  refine ⟨css, ⟨h1.1, ?_⟩, h2.step (ha.mono (fun k _ h => h.1))⟩
  rcases h1.2 with hn | ⟨g, cap, cur, rfl, hbg, hgg, rest⟩
  · exact .inl hn
  · exact .inr ⟨g, cap, cur, rfl, hbg, by rw [ha.2 g hbg (Array.getElem?_eq_some_iff.1 hgg).1]; exact hgg, rest⟩
theorem info_St : (Tryd.prog.info? 40).map (fun i => (i.zero, i.size, i.bytes)) = some (some (.agg #[.int .i64 0, .string ⟨#[]⟩, .string ⟨#[]⟩, .int .i64 0, .int .i64 0, .slice none 0 0, .slice none 0 0, .slice none 0 0]), 8, 128) := by kernel_rfl
theorem StL_one {w : World} {l : List St} {css : List (List Value)} (h : StL w l css) : ∀ u ∈ css.flatten, u.oneCell' = true := by
  induction l generalizing css with
  | nil => unfold StL at h; subst h; simp
  | cons x l ih =>
    unfold StL at h
    obtain ⟨c0, r, rfl, h3, h4⟩ := h
    intro u hu
    rw [List.flatten_cons] at hu
    rcases List.mem_append.1 hu with hu | hu
    · cases x
      unfold StAt at h3
      obtain ⟨v1, v2, v3, rfl, h5, ⟨c2, h6, _⟩, ⟨c3, h7, _⟩⟩ := h3
      obtain ⟨a', c', rfl⟩ := h5.shape
      obtain ⟨a', c', rfl⟩ := h6.shape
      obtain ⟨a', c', rfl⟩ := h7.shape
      simp only [List.mem_cons, List.not_mem_nil, or_false] at hu
      rcases hu with rfl | rfl | rfl | rfl | rfl | rfl | rfl | rfl <;> rfl
    · exact ih h4 u hu
section
variable {w : World} {ops : Array Oper} {rest : List Oper} {o : Oper} {a : Act} {Q : Exit → Act → World → Prop}
/-- append(l, m...) -/
theorem appS (hgd : o.guard = none) (s x : Operand) (ho : o.op = .call { callee := .builtin .append, args := #[s, x], argTypes := #[33, 33] })
    (B : Nat) (v : Value) (l : List St) (hs : a.eval s = v) (hown : StsOwn w B v l) (xv : Value) (m : List St) (hxe : a.eval x = xv) (hxl : ∃ css, SlAt w 8 xv m.length css.flatten ∧ InP (fun k => B ≤ k ∧ v.ownBlock ≠ some k) w (fun w => StL w m css)) (hn : l.length + m.length ≤ 1000000000) (hbase : B ≤ w.heap.size)
    (h : ∀ v' w', StsOwn w' B v' (l ++ m) → w.grownBy w' v.ownBlock → (v'.ownBlock = v.ownBlock ∨ v'.ownBlock = some w.heap.size) → wpList Tryd.prog ops Q rest (a.put o.dst v') w') :
    wpList Tryd.prog ops Q (o :: rest) a w := by
  obtain ⟨css, h1, h2⟩ := hown
  obtain ⟨dss, h3, h4⟩ := hxl
  refine wpList_append_sl hgd s x 33 ho B 40 _ 8 128 Tryd.underlying33 info_St rfl (by decide) v l.length _ hs h1 xv m.length _ hxe h3 (StL_one h4.here) (by unfold maxLen; omega) (by omega) hbase ?_
  intro v' w' h5 h6 h7
  refine h v' w' ⟨css ++ dss, ?_, ?_⟩ h6 h7
  · rw [List.length_append, List.flatten_append]
    exact h5
  · have hag : ∀ w2, Agree (fun k => B ≤ k ∧ v'.ownBlock ≠ some k) w' w2 → Agree (fun k => B ≤ k ∧ v.ownBlock ≠ some k) w w2 := fun w2 h8 => by
      refine ⟨Nat.le_trans h6.size h8.1, fun k hk hkw => ?_⟩
      have e1 := h6.block k hkw (fun e => hk.2 e.symm)
      refine (h8.2 k ⟨hk.1, fun e => ?_⟩ (Nat.lt_of_lt_of_le hkw h6.size)).trans e1
      rcases h7 with h7 | h7
      · rw [h7] at e; exact hk.2 e
      · rw [h7] at e; have := Option.some.inj e; omega
    exact fun w2 h8 => StL_append (h2 w2 (hag w2 h8)) (h4 w2 (hag w2 h8))
end

theorem FnL_append {w : World} {l m : List Fn} {c d : List (List Value)} (h : FnL w l c) (h2 : FnL w m d) : FnL w (l ++ m) (c ++ d) := by
  induction l generalizing c with
  | nil => unfold FnL at h; subst h; exact h2
  | cons x l ih =>
    unfold FnL at h
    obtain ⟨c0, r, rfl, h3, h4⟩ := h
    show FnL w (x :: (l ++ m)) (c0 :: (r ++ d))
    unfold FnL
    exact ⟨c0, _, rfl, h3, ih h4⟩
/-- the list l, in a row that the call owns; all that it refers to lies from block B on, and not in the row -/
def FnsOwn (w : World) (B : Nat) (v : Value) (l : List Fn) : Prop := ∃ css : List (List Value), w.ownsRow B 35 3 v l.length css.flatten ∧ InP (fun k => B ≤ k ∧ v.ownBlock ≠ some k) w (fun w => FnL w l css)
theorem FnsOwn.nil (w : World) (B : Nat) : FnsOwn w B (.slice none 0 0) [] := ⟨[], World.ownsRow_nil w B 35 3, fun _ _ => by unfold FnL; rfl⟩
theorem FnsOwn.in_ {w : World} {B : Nat} {v : Value} {l : List Fn} (h : FnsOwn w B v l) : InP (fun k => B ≤ k) w (fun w => FnsAt w v l) := by
  obtain ⟨css, h1, h2⟩ := h
  exact fun w' ha => ⟨css, (own_sl h1).agree ha (fun a n c e => (own_block h1 a n c e).2), h2 w' (ha.mono (fun k _ h => h.1))⟩
theorem FnsOwn.at_ {w : World} {B : Nat} {v : Value} {l : List Fn} (h : FnsOwn w B v l) : FnsAt w v l := h.in_.here
theorem FnsOwn.below {w w' : World} {B : Nat} {v : Value} {l : List Fn} (h : FnsOwn w B v l) (hb : Below w.heap.size w w') : FnsOwn w' B v l := by
  obtain ⟨css, h1, h2⟩ := h
  exact ⟨css, own_below h1 hb, h2.step (.of_below hb)⟩
/-- the row stays where neither it nor what lies from B on is touched -/
theorem FnsOwn.agree {w w' : World} {B : Nat} {v : Value} {l : List Fn} (h : FnsOwn w B v l) (ha : Agree (fun k => B ≤ k) w w') : FnsOwn w' B v l := by
  obtain ⟨css, h1, h2⟩ := h
  refine ⟨css, ⟨h1.1, ?_⟩, h2.step (ha.mono (fun k _ h => h.1))⟩
  rcases h1.2 with hn | ⟨g, cap, cur, rfl, hbg, hgg, rest⟩
  · exact .inl hn
  · exact .inr ⟨g, cap, cur, rfl, hbg, by rw [ha.2 g hbg (Array.getElem?_eq_some_iff.1 hgg).1]; exact hgg, rest⟩
theorem info_Fn : (Tryd.prog.info? 35).map (fun i => (i.zero, i.size, i.bytes)) = some (some (.agg #[.string ⟨#[]⟩, .slice none 0 0, .slice none 0 0]), 3, 64) := by kernel_rfl
theorem FnL_one {w : World} {l : List Fn} {css : List (List Value)} (h : FnL w l css) : ∀ u ∈ css.flatten, u.oneCell' = true := by
  induction l generalizing css with
  | nil => unfold FnL at h; subst h; simp
  | cons x l ih =>
    unfold FnL at h
    obtain ⟨c0, r, rfl, h3, h4⟩ := h
    intro u hu
    rw [List.flatten_cons] at hu
    rcases List.mem_append.1 hu with hu | hu
    · obtain ⟨v1, v2, rfl, h5, h6⟩ := h3
      obtain ⟨a', c', rfl⟩ := h5.shape
      obtain ⟨a', c', rfl⟩ := h6.shape
      simp only [List.mem_cons, List.not_mem_nil, or_false] at hu
      rcases hu with rfl | rfl | rfl <;> rfl
    · exact ih h4 u hu
section
variable {w : World} {ops : Array Oper} {rest : List Oper} {o : Oper} {a : Act} {Q : Exit → Act → World → Prop}
/-- append(l, m...) -/
theorem appF (hgd : o.guard = none) (s x : Operand) (ho : o.op = .call { callee := .builtin .append, args := #[s, x], argTypes := #[24, 24] })
    (B : Nat) (v : Value) (l : List Fn) (hs : a.eval s = v) (hown : FnsOwn w B v l) (xv : Value) (m : List Fn) (hxe : a.eval x = xv) (hxl : ∃ css, SlAt w 3 xv m.length css.flatten ∧ InP (fun k => B ≤ k ∧ v.ownBlock ≠ some k) w (fun w => FnL w m css)) (hn : l.length + m.length ≤ 1000000000) (hbase : B ≤ w.heap.size)
    (h : ∀ v' w', FnsOwn w' B v' (l ++ m) → w.grownBy w' v.ownBlock → (v'.ownBlock = v.ownBlock ∨ v'.ownBlock = some w.heap.size) → wpList Tryd.prog ops Q rest (a.put o.dst v') w') :
    wpList Tryd.prog ops Q (o :: rest) a w := by
  obtain ⟨css, h1, h2⟩ := hown
  obtain ⟨dss, h3, h4⟩ := hxl
  refine wpList_append_sl hgd s x 24 ho B 35 _ 3 64 Tryd.underlying24 info_Fn rfl (by decide) v l.length _ hs h1 xv m.length _ hxe h3 (FnL_one h4.here) (by unfold maxLen; omega) (by omega) hbase ?_
  intro v' w' h5 h6 h7
  refine h v' w' ⟨css ++ dss, ?_, ?_⟩ h6 h7
  · rw [List.length_append, List.flatten_append]
    exact h5
  · have hag : ∀ w2, Agree (fun k => B ≤ k ∧ v'.ownBlock ≠ some k) w' w2 → Agree (fun k => B ≤ k ∧ v.ownBlock ≠ some k) w w2 := fun w2 h8 => by
      refine ⟨Nat.le_trans h6.size h8.1, fun k hk hkw => ?_⟩
      have e1 := h6.block k hkw (fun e => hk.2 e.symm)
      refine (h8.2 k ⟨hk.1, fun e => ?_⟩ (Nat.lt_of_lt_of_le hkw h6.size)).trans e1
      rcases h7 with h7 | h7
      · rw [h7] at e; exact hk.2 e
      · rw [h7] at e; have := Option.some.inj e; omega
    exact fun w2 h8 => FnL_append (h2 w2 (hag w2 h8)) (h4 w2 (hag w2 h8))
end
theorem CsT.agree {P : Nat → Prop} {w w' : World} {b : Nat} {cs : List Value} {t : TypeId} (h : CsT w b cs t) (ha : Agree P w w') (hp : P b) : CsT w' b cs t := (ha.2 b hp h.lt).trans h
theorem sl_cst {w : World} {b : Nat} {cs : List Value} {t : TypeId} (h : CsT w b cs t) : SlAt w cs.length (.slice (some ⟨b, 0, none⟩) 1 1) 1 cs :=
  .inr ⟨_, _, rfl, Nat.le_refl _, by rw [Nat.one_mul], fun j u hj => by rw [addr_add, Nat.zero_add]; exact h.at_.cell j u hj⟩
theorem exl_one {w : World} (e : Ex) {v : Value} (h : ExsAt w v e.l) : ExL w [e] [exC e v] := by
  unfold ExL
  refine ⟨_, [], rfl, ?_, by unfold ExL; rfl⟩
  cases e
  unfold ExAt
  exact ⟨v, rfl, h⟩
theorem stl_one {w : World} (s : St) {u x y : Value} (hu : ExsAt w u s.exprs) (hx : StsAt w x s.body) (hy : StsAt w y s.els) : StL w [s] [stC s u x y] := by
  unfold StL
  refine ⟨_, [], rfl, ?_, by unfold StL; rfl⟩
  cases s
  unfold StAt
  exact ⟨u, x, y, rfl, hu, hx, hy⟩
theorem fnl_one {w : World} (f : Fn) {u x : Value} (hu : NmsAt w u f.params) (hx : StsAt w x f.body) : FnL w [f] [[.string f.name, u, x]] := by
  unfold FnL
  exact ⟨_, [], rfl, ⟨u, x, rfl, hu, hx⟩, by unfold FnL; rfl⟩
section
variable {P : Nat → Prop} {w : World} {b : Nat}
theorem exs_in (e : Ex) {v : Value} (h : CsT w b (exC e v) 42) (hp : P b) (hv : InP P w (fun w => ExsAt w v e.l)) : InP P w (fun w => ExsAt w (.slice (some ⟨b, 0, none⟩) 1 1) [e]) :=
  fun w' ha => ⟨[exC e v], sl_cst (h.agree ha hp), exl_one e (hv w' ha)⟩
theorem sts_in (s : St) {u x y : Value} (h : CsT w b (stC s u x y) 40) (hp : P b) (hu : InP P w (fun w => ExsAt w u s.exprs)) (hx : InP P w (fun w => StsAt w x s.body)) (hy : InP P w (fun w => StsAt w y s.els)) : InP P w (fun w => StsAt w (.slice (some ⟨b, 0, none⟩) 1 1) [s]) :=
  fun w' ha => ⟨[stC s u x y], sl_cst (h.agree ha hp), stl_one s (hu w' ha) (hx w' ha) (hy w' ha)⟩
theorem exs_nil_in : InP P w (fun w => ExsAt w (.slice none 0 0) []) := fun _ _ => ExsAt.nil _
theorem sts_nil_in : InP P w (fun w => StsAt w (.slice none 0 0) []) := fun _ _ => StsAt.nil _
end
end Go.Proofs.YtilholgbepfopaaDoor
