/- Plain functions and lemmas on lists of bytes: the words of a line, the line of words, the lines of a text. No program. -/
import GoSem.Claim
namespace Go.Proofs.YtilholgbepfopaaDoor
namespace WMath
/-- a byte that may stand in a plain word -/
def plainB (b : UInt8) : Bool := decide (33 ≤ b.toNat) && decide (b.toNat ≤ 126) && b != 34 && b != 92
def isPlainL (l : List UInt8) : Bool := l.all plainB && !l.isEmpty
/-- the byte that a letter of a pair stands for -/
def unesc (c : UInt8) : Option UInt8 := if c = 34 then some 34 else if c = 92 then some 92 else if c = 110 then some 10 else if c = 114 then some 13 else none
/-- the letter of a pair that stands for a byte -/
def escB (c : UInt8) : Option UInt8 := if c = 34 then some 34 else if c = 92 then some 92 else if c = 10 then some 110 else if c = 13 then some 114 else none
def esc (c : UInt8) : List UInt8 := match escB c with | some d => [92, d] | none => [c]
def wtn (l : List UInt8) : List UInt8 := if isPlainL l then l else 34 :: (l.flatMap esc ++ [34])

abbrev RS := Nat × List UInt8 × List (List UInt8)
def plainStep (c : UInt8) (w : List UInt8) (ws : List (List UInt8)) : RS := if plainB c then (1, w ++ [c], ws) else (5, w, ws)
def stepR (σ : RS) (c : UInt8) : RS :=
  match σ with
  | (0, w, ws) => if c = 34 then (2, w, ws) else plainStep c w ws
  | (1, w, ws) => if c = 32 then (0, [], ws ++ [w]) else plainStep c w ws
  | (2, w, ws) => if c = 34 then (4, w, ws) else if c = 92 then (3, w, ws) else if c = 10 ∨ c = 13 then (5, w, ws) else (2, w ++ [c], ws)
  | (3, w, ws) => match unesc c with | some m => (2, w ++ [m], ws) | none => (5, w, ws)
  | (4, w, ws) => if c = 32 then (0, [], ws ++ [w]) else (5, w, ws)
  | (_, w, ws) => (5, w, ws)
def runR (l : List UInt8) (σ : RS) : RS := l.foldl stepR σ
def endsR (σ : RS) : Option (List (List UInt8)) := if σ.1 = 1 ∨ σ.1 = 4 then some (σ.2.2 ++ [σ.2.1]) else none
/-- the words of a line, or none -/
def readL (l : List UInt8) : Option (List (List UInt8)) := if l = [] then some [] else endsR (runR l (0, [], []))

theorem runR_nil (σ : RS) : runR [] σ = σ := rfl
theorem runR_cons (c : UInt8) (l : List UInt8) (σ : RS) : runR (c :: l) σ = runR l (stepR σ c) := rfl
theorem runR_append (l m : List UInt8) (σ : RS) : runR (l ++ m) σ = runR m (runR l σ) := by simp [runR]
theorem stepR_bad (σ : RS) (c : UInt8) (h : 5 ≤ σ.1) : 5 ≤ (stepR σ c).1 := by
  obtain ⟨st, w, ws⟩ := σ
  match st, h with
  | n + 5, _ => simp [stepR]
theorem runR_bad (l : List UInt8) (σ : RS) (h : 5 ≤ σ.1) : 5 ≤ (runR l σ).1 := by
  induction l generalizing σ with
  | nil => exact h
  | cons c l ih => rw [runR_cons]; exact ih _ (stepR_bad σ c h)
theorem endsR_bad (l : List UInt8) (σ : RS) (h : 5 ≤ σ.1) : endsR (runR l σ) = none := by
  have := runR_bad l σ h
  unfold endsR
  rw [if_neg (by omega)]

/-- the reference's words: the word at the head, and how many bytes it takes -/
def refQ : List UInt8 → List UInt8 → Nat → Option (List UInt8 × Nat)
  | [], _, _ => none
  | c :: r, acc, n =>
    if c = 34 then some (acc, n + 1)
    else if c = 10 ∨ c = 13 then none
    else if c = 92 then
      match r with
      | [] => none
      | d :: r' => match unesc d with
        | none => none
        | some x => refQ r' (acc ++ [x]) (n + 2)
    else refQ r (acc ++ [c]) (n + 1)
def refWordL (t : List UInt8) : Option (List UInt8 × Nat) :=
  if t.head? = some 34 then refQ t.tail [] 1
  else if (t.takeWhile plainB) = [] then none else some (t.takeWhile plainB, (t.takeWhile plainB).length)

theorem refQ_run (t acc : List UInt8) (n : Nat) (ws : List (List UInt8)) :
    match refQ t acc n with
    | none => endsR (runR t (2, acc, ws)) = none
    | some (w, m) => n < m ∧ m ≤ n + t.length ∧ runR t (2, acc, ws) = runR (t.drop (m - n)) (4, w, ws) := by
  match t with
  | [] => simp [refQ, runR, endsR]
  | c :: r =>
    unfold refQ
    by_cases h1 : c = 34
    · simp [h1, runR_cons, stepR]
    · by_cases h2 : c = 10 ∨ c = 13
      · simp only [h1, h2, if_true, if_false]
        rw [runR_cons]
        apply endsR_bad
        have h3 : c ≠ 92 := by rcases h2 with rfl | rfl <;> decide
        simp [stepR, h1, h2, h3]
      · by_cases h3 : c = 92
        · subst h3
          simp only [h1, h2, if_true, if_false]
          match r with
          | [] => simp [runR, stepR, endsR]
          | d :: r' =>
            cases hu : unesc d with
            | none =>
              simp only [hu]
              rw [runR_cons, runR_cons]
              apply endsR_bad
              simp [stepR, hu]
            | some x =>
              simp only [hu]
              have ih := refQ_run r' (acc ++ [x]) (n + 2) ws
              have hs : runR (92 :: d :: r') (2, acc, ws) = runR r' (2, acc ++ [x], ws) := by
                rw [runR_cons, runR_cons]; simp [stepR, hu]
              rw [hs]
              cases hq : refQ r' (acc ++ [x]) (n + 2) with
              | none => simpa [hq] using ih
              | some p =>
                obtain ⟨w, m⟩ := p
                simp only [hq] at ih ⊢
                obtain ⟨a, b, c'⟩ := ih
                refine ⟨by omega, by simp only [List.length_cons]; omega, ?_⟩
                rw [c']
                have : m - n = (m - (n + 2)) + 2 := by omega
                rw [this, List.drop_succ_cons, List.drop_succ_cons]
        · simp only [h1, h2, h3, if_false]
          have ih := refQ_run r (acc ++ [c]) (n + 1) ws
          have hs : runR (c :: r) (2, acc, ws) = runR r (2, acc ++ [c], ws) := by
            rw [runR_cons]; simp [stepR, h1, h2, h3]
          rw [hs]
          cases hq : refQ r (acc ++ [c]) (n + 1) with
          | none => simpa [hq] using ih
          | some p =>
            obtain ⟨w, m⟩ := p
            simp only [hq] at ih ⊢
            obtain ⟨a, b, c'⟩ := ih
            refine ⟨by omega, by simp only [List.length_cons]; omega, ?_⟩
            rw [c']
            have : m - n = (m - (n + 1)) + 1 := by omega
            rw [this, List.drop_succ_cons]

theorem plain_ne (c : UInt8) (h : plainB c = true) : c ≠ 34 ∧ c ≠ 32 ∧ c ≠ 92 ∧ c ≠ 10 ∧ c ≠ 13 := by
  refine ⟨?_, ?_, ?_, ?_, ?_⟩ <;> (rintro rfl; revert h; decide)

theorem plain_run (t acc : List UInt8) (ws : List (List UInt8)) :
    runR t (1, acc, ws) = runR (t.dropWhile plainB) (1, acc ++ t.takeWhile plainB, ws) := by
  induction t generalizing acc with
  | nil => simp
  | cons c r ih =>
    by_cases h : plainB c = true
    · have hn := plain_ne c h
      rw [List.dropWhile_cons_of_pos h, List.takeWhile_cons_of_pos h, runR_cons]
      have : stepR (1, acc, ws) c = (1, acc ++ [c], ws) := by simp [stepR, hn.2.1, plainStep, h]
      rw [this, ih]
      simp
    · rw [List.dropWhile_cons_of_neg h, List.takeWhile_cons_of_neg h]; simp

theorem dropWhile_eq_drop (t : List UInt8) : t.dropWhile plainB = t.drop (t.takeWhile plainB).length := by
  induction t with
  | nil => rfl
  | cons c r ih =>
    by_cases h : plainB c = true
    · rw [List.dropWhile_cons_of_pos h, List.takeWhile_cons_of_pos h]; simpa using ih
    · rw [List.dropWhile_cons_of_neg h, List.takeWhile_cons_of_neg h]; rfl

theorem dropWhile_head (t : List UInt8) (c : UInt8) (r : List UInt8) (h : t.dropWhile plainB = c :: r) : plainB c = false := by
  induction t with
  | nil => cases h
  | cons d t ih =>
    by_cases hd : plainB d = true
    · rw [List.dropWhile_cons_of_pos hd] at h; exact ih h
    · rw [List.dropWhile_cons_of_neg hd] at h
      cases h
      simpa using hd

theorem refWord_run (t : List UInt8) (ws : List (List UInt8)) :
    match refWordL t with
    | none => endsR (runR t (0, [], ws)) = none
    | some (w, m) => 0 < m ∧ m ≤ t.length ∧ ∃ st, (st = 4 ∨ (st = 1 ∧ ∀ c r, t.drop m = c :: r → plainB c = false)) ∧ runR t (0, [], ws) = runR (t.drop m) (st, w, ws) := by
  unfold refWordL
  by_cases h : t.head? = some 34
  · rw [if_pos h]
    match t, h with
    | c :: r, h =>
      simp only [List.head?_cons, Option.some.injEq] at h
      subst h
      simp only [List.tail_cons]
      have hq := refQ_run r [] 1 ws
      have hs : runR (34 :: r) (0, [], ws) = runR r (2, [], ws) := by rw [runR_cons]; simp [stepR]
      rw [hs]
      cases hr : refQ r [] 1 with
      | none => simpa [hr] using hq
      | some p =>
        obtain ⟨w, m⟩ := p
        simp only [hr] at hq ⊢
        obtain ⟨a, b, c⟩ := hq
        refine ⟨by omega, by simp only [List.length_cons]; omega, 4, .inl rfl, ?_⟩
        rw [c]
        have : m = (m - 1) + 1 := by omega
        rw [this, List.drop_succ_cons]
        simp
  · rw [if_neg h]
    by_cases hp : t.takeWhile plainB = []
    · rw [if_pos hp]
      match t, h, hp with
      | [], _, _ => simp [runR, endsR]
      | c :: r, h, hp =>
        have hc : c ≠ 34 := by simpa using h
        have hn : ¬ plainB c = true := by
          intro hh
          rw [List.takeWhile_cons_of_pos hh] at hp
          cases hp
        simp only
        rw [runR_cons]
        apply endsR_bad
        simp [stepR, hc, plainStep, hn]
    · rw [if_neg hp]
      match t, h, hp with
      | c :: r, h, hp =>
        have hc : c ≠ 34 := by simpa using h
        have hh : plainB c = true := by
          by_cases hh : plainB c = true
          · exact hh
          · rw [List.takeWhile_cons_of_neg hh] at hp; exact absurd rfl hp
        refine ⟨?_, ?_, 1, .inr ⟨rfl, ?_⟩, ?_⟩
        · rw [List.takeWhile_cons_of_pos hh]; simp
        · exact (List.takeWhile_sublist _).length_le
        · intro d r' hd
          rw [← dropWhile_eq_drop] at hd
          exact dropWhile_head _ _ _ hd
        · rw [← dropWhile_eq_drop, List.dropWhile_cons_of_pos hh, List.takeWhile_cons_of_pos hh, runR_cons]
          have : stepR (0, [], ws) c = (1, [c], ws) := by simp [stepR, hc, plainStep, hh]
          rw [this, plain_run]
          simp

/-- what the reference does behind a word -/
theorem after_word (t : List UInt8) (ws : List (List UInt8)) (w : List UInt8) (m : Nat) (h : refWordL t = some (w, m)) :
    0 < m ∧ m ≤ t.length ∧
    (m = t.length → endsR (runR t (0, [], ws)) = some (ws ++ [w])) ∧
    (∀ c r, t.drop m = c :: r → c ≠ 32 → endsR (runR t (0, [], ws)) = none) ∧
    (∀ r, t.drop m = 32 :: r → runR t (0, [], ws) = runR r (0, [], ws ++ [w])) := by
  have hr := refWord_run t ws
  rw [h] at hr
  obtain ⟨h0, h1, st, hst, hrun⟩ := hr
  refine ⟨h0, h1, ?_, ?_, ?_⟩
  · intro hm
    rw [hrun, hm, List.drop_length, runR_nil]
    rcases hst with rfl | ⟨rfl, _⟩ <;> simp [endsR]
  · intro c r hd hc
    rw [hrun, hd, runR_cons]
    apply endsR_bad
    rcases hst with rfl | ⟨rfl, hnp⟩
    · simp [stepR, hc]
    · have := hnp c r hd
      simp [stepR, hc, plainStep, this]
  · intro r hd
    rw [hrun, hd, runR_cons]
    rcases hst with rfl | ⟨rfl, _⟩ <;> simp [stepR]

/-- the words of a line, as Split tells them: with the error's number -/
def splitL (l : List UInt8) : List (List UInt8) × Nat :=
  if 4096 < l.length then ([], 3)
  else match readL l with
    | none => ([], 4)
    | some ws => if 256 < ws.length then ([], 3) else (ws, 0)

/-- the line of words -/
def joinL : List (List UInt8) → List UInt8
  | [] => []
  | [w] => wtn w
  | w :: w' :: ws => wtn w ++ 32 :: joinL (w' :: ws)

theorem joinL_snoc (l : List (List UInt8)) (w : List UInt8) : joinL (l ++ [w]) = if l = [] then wtn w else joinL l ++ 32 :: wtn w := by
  match l with
  | [] => simp [joinL]
  | [a] => simp [joinL]
  | a :: b :: r =>
    have ih := joinL_snoc (b :: r) w
    simp only [reduceCtorEq, if_false] at ih ⊢
    show joinL (a :: b :: (r ++ [w])) = _
    have : b :: r ++ [w] = b :: (r ++ [w]) := rfl
    rw [this] at ih
    simp only [joinL] at ih ⊢
    rw [ih]
    simp

theorem joinL_take_succ (l : List (List UInt8)) (k : Nat) (h : k < l.length) :
    joinL (l.take (k + 1)) = if k = 0 then wtn l[k] else joinL (l.take k) ++ 32 :: wtn l[k] := by
  rw [List.take_succ_eq_append_getElem h, joinL_snoc]
  have : (l.take k = []) ↔ k = 0 := by
    rw [List.take_eq_nil_iff]
    constructor
    · rintro (h' | h')
      · exact h'
      · subst h'; simp at h
    · exact .inl
  simp [this]

theorem joinL_take_le (l : List (List UInt8)) (k : Nat) : (joinL (l.take k)).length ≤ (joinL (l.take (k + 1))).length := by
  by_cases h : k < l.length
  · rw [joinL_take_succ l k h]
    by_cases h0 : k = 0
    · subst h0; simp [joinL]
    · simp [h0]
  · rw [List.take_of_length_le (by omega), List.take_of_length_le (by omega)]
    omega

theorem joinL_take_mono (l : List (List UInt8)) (j k : Nat) (h : j ≤ k) : (joinL (l.take j)).length ≤ (joinL (l.take k)).length := by
  induction k with
  | zero => have : j = 0 := by omega
            subst this; omega
  | succ k ih =>
    by_cases hj : j = k + 1
    · subst hj; omega
    · exact Nat.le_trans (ih (by omega)) (joinL_take_le l k)

theorem joinL_take_full (l : List (List UInt8)) (k : Nat) : (joinL (l.take k)).length ≤ (joinL l).length := by
  by_cases h : k ≤ l.length
  · have := joinL_take_mono l k l.length h
    rwa [List.take_length] at this
  · rw [List.take_of_length_le (by omega)]; omega

/-- Join, with the error's number -/
def joinR (l : List (List UInt8)) : List UInt8 × Nat :=
  if 256 < l.length ∨ 4096 < (joinL l).length then ([], 3) else (joinL l, 0)

theorem esc_len (c : UInt8) : 1 ≤ (esc c).length ∧ (esc c).length ≤ 2 := by
  unfold esc; cases escB c <;> simp
theorem flatEsc_len (l : List UInt8) : l.length ≤ (l.flatMap esc).length ∧ (l.flatMap esc).length ≤ 2 * l.length := by
  induction l with
  | nil => simp
  | cons c l ih =>
    have := esc_len c
    simp only [List.flatMap_cons, List.length_append, List.length_cons]
    omega
theorem wtn_len (l : List UInt8) : l.length ≤ (wtn l).length ∧ (wtn l).length ≤ 2 * l.length + 2 := by
  unfold wtn
  split
  · omega
  · have := flatEsc_len l
    simp only [List.length_cons, List.length_append, List.length_nil]
    omega

theorem run_esc (c : UInt8) (w : List UInt8) (ws : List (List UInt8)) : runR (esc c) (2, w, ws) = (2, w ++ [c], ws) := by
  unfold esc
  cases h : escB c with
  | some d =>
    have hu : unesc d = some c := by
      unfold escB at h
      repeat' split at h
      all_goals first | (cases h; done) | (subst_vars; simp only [Option.some.injEq] at h; subst h; decide)
    simp [runR, stepR, hu]
  | none =>
    have : c ≠ 34 ∧ c ≠ 92 ∧ c ≠ 10 ∧ c ≠ 13 := by
      unfold escB at h
      repeat' split at h
      all_goals first | (cases h; done) | exact ⟨by assumption, by assumption, by assumption, by assumption⟩
    simp [runR, stepR, this]

theorem run_flatEsc (l w : List UInt8) (ws : List (List UInt8)) : runR (l.flatMap esc) (2, w, ws) = (2, w ++ l, ws) := by
  induction l generalizing w with
  | nil => simp [runR]
  | cons c l ih => rw [List.flatMap_cons, runR_append, run_esc, ih]; simp

theorem run_plainAll (l w : List UInt8) (ws : List (List UInt8)) (h : l.all plainB = true) : runR l (1, w, ws) = (1, w ++ l, ws) := by
  rw [plain_run]
  have ha : ∀ x ∈ l, plainB x = true := by simpa using h
  have h1 : l.takeWhile plainB = l := by
    rw [← List.append_nil l, List.takeWhile_append_of_pos ha]; simp
  have h2 : l.dropWhile plainB = [] := by rw [dropWhile_eq_drop, h1, List.drop_length]
  rw [h1, h2, runR_nil]

/-- reading a wtn word from the beginning of a word -/
theorem run_wtn (w : List UInt8) (ws : List (List UInt8)) : ∃ st, (st = 1 ∨ st = 4) ∧ runR (wtn w) (0, [], ws) = (st, w, ws) := by
  unfold wtn
  by_cases h : isPlainL w = true
  · rw [if_pos h]
    match w, h with
    | c :: r, h =>
      simp only [isPlainL, List.all_cons, Bool.and_eq_true] at h
      have hn := plain_ne c h.1.1
      refine ⟨1, .inl rfl, ?_⟩
      rw [runR_cons]
      have : stepR (0, [], ws) c = (1, [c], ws) := by simp [stepR, hn.1, plainStep, h.1.1]
      rw [this, run_plainAll _ _ _ h.1.2]
      rfl
  · rw [if_neg h]
    refine ⟨4, .inr rfl, ?_⟩
    rw [runR_cons]
    have : stepR (0, [], ws) 34 = (2, [], ws) := by simp [stepR]
    rw [this, runR_append, run_flatEsc]
    simp [runR, stepR]

theorem run_joinL (l : List (List UInt8)) (ws : List (List UInt8)) (hl : l ≠ []) : endsR (runR (joinL l) (0, [], ws)) = some (ws ++ l) := by
  match l, hl with
  | [w], _ =>
    obtain ⟨st, hst, hr⟩ := run_wtn w ws
    simp only [joinL, hr, endsR]
    rw [if_pos (by omega)]
  | w :: w' :: r, _ =>
    obtain ⟨st, hst, hr⟩ := run_wtn w ws
    have ih := run_joinL (w' :: r) (ws ++ [w]) (by simp)
    simp only [joinL]
    rw [runR_append, hr, runR_cons]
    have : stepR (st, w, ws) 32 = (0, [], ws ++ [w]) := by rcases hst with rfl | rfl <;> simp [stepR]
    rw [this, ih]
    simp

theorem wtn_ne (w : List UInt8) : wtn w ≠ [] := by
  unfold wtn
  by_cases h : isPlainL w = true
  · rw [if_pos h]
    rintro rfl
    simp [isPlainL] at h
  · rw [if_neg h]; simp

theorem joinL_ne (l : List (List UInt8)) (hl : l ≠ []) : joinL l ≠ [] := by
  match l, hl with
  | [w], _ => exact wtn_ne w
  | w :: w' :: r, _ => simp [joinL]

theorem read_join (l : List (List UInt8)) : readL (joinL l) = some l := by
  unfold readL
  by_cases hl : l = []
  · subst hl; simp [joinL]
  · rw [if_neg (joinL_ne l hl), run_joinL l [] hl]; simp

theorem split_join (l : List (List UInt8)) (h : (joinR l).2 = 0) : splitL (joinR l).1 = (l, 0) := by
  unfold joinR at h ⊢
  split at h
  · cases h
  · rename_i hc
    rw [if_neg hc]
    unfold splitL
    simp only
    rw [if_neg (by omega), read_join]
    simp only
    rw [if_neg (by omega)]

theorem esc_ne10 (c : UInt8) : (10 : UInt8) ∉ esc c := by
  unfold esc
  cases h : escB c with
  | some d =>
    unfold escB at h
    repeat' split at h
    all_goals first | (cases h; done) | (simp only [Option.some.injEq] at h; subst h; simp; done)
  | none =>
    have : c ≠ 10 := by
      rintro rfl
      simp [escB] at h
    simp [Ne.symm this]

theorem wtn_ne10 (w : List UInt8) : (10 : UInt8) ∉ wtn w := by
  unfold wtn
  by_cases h : isPlainL w = true
  · rw [if_pos h]
    intro hm
    simp only [isPlainL, Bool.and_eq_true, List.all_eq_true] at h
    exact (plain_ne 10 (h.1 10 hm)).2.2.2.1 rfl
  · rw [if_neg h]
    simp only [List.mem_cons, List.mem_append, List.mem_flatMap, not_or]
    refine ⟨by decide, ?_, by decide, by simp⟩
    rintro ⟨c, _, hc⟩
    exact esc_ne10 c hc

theorem joinL_ne10 (l : List (List UInt8)) : (10 : UInt8) ∉ joinL l := by
  match l with
  | [] => simp [joinL]
  | [w] => exact wtn_ne10 w
  | w :: w' :: r =>
    have ih := joinL_ne10 (w' :: r)
    have := wtn_ne10 w
    simp only [joinL, List.mem_append, List.mem_cons, not_or]
    exact ⟨this, by decide, ih⟩

/-- the lines of a text -/
def linesAux : List UInt8 → List UInt8 → List (List UInt8)
  | [], cur => if cur = [] then [] else [cur]
  | c :: r, cur => if c = 10 then cur :: linesAux r [] else linesAux r (cur ++ [c])
def linesL (t : List UInt8) : List (List UInt8) := linesAux t []

theorem linesAux_noLF (p r cur : List UInt8) (h : (10 : UInt8) ∉ p) : linesAux (p ++ r) cur = linesAux r (cur ++ p) := by
  induction p generalizing cur with
  | nil => simp
  | cons c p ih =>
    simp only [List.mem_cons, not_or] at h
    simp only [List.cons_append, linesAux]
    rw [if_neg (Ne.symm h.1), ih _ h.2]
    simp
theorem linesL_line (p r : List UInt8) (h : (10 : UInt8) ∉ p) : linesL (p ++ 10 :: r) = p :: linesL r := by
  unfold linesL
  rw [linesAux_noLF p _ [] h]
  simp [linesAux]
theorem linesL_last (p : List UInt8) (h : (10 : UInt8) ∉ p) (hp : p ≠ []) : linesL p = [p] := by
  unfold linesL
  have := linesAux_noLF p [] [] h
  simp only [List.append_nil, List.nil_append] at this
  rw [this]
  simp [linesAux, hp]
theorem lines_join2 (l : List (List UInt8)) : linesL (joinL l ++ 10 :: (joinL l ++ [10])) = [joinL l, joinL l] := by
  rw [linesL_line _ _ (joinL_ne10 l), linesL_line _ _ (joinL_ne10 l)]
  rfl

/-- all lines, each with a line feed -/
def unlines (l : List (List UInt8)) : List UInt8 := l.flatMap (· ++ [10])
theorem unlines_aux (t cur : List UInt8) : unlines (linesAux t cur) = cur ++ t ∨ (unlines (linesAux t cur) = cur ++ t ++ [10] ∧ ∃ x, (cur ++ t).getLast? = some x ∧ (t = [] ∨ x ≠ 10)) := by
  induction t generalizing cur with
  | nil =>
    simp only [linesAux]
    by_cases h : cur = []
    · subst h; left; rfl
    · rw [if_neg h]; right
      refine ⟨by simp [unlines], ?_⟩
      rw [List.append_nil]
      exact ⟨cur.getLast h, List.getLast?_eq_some_getLast h, .inl trivial⟩
  | cons c r ih =>
    simp only [linesAux]
    by_cases h : c = 10
    · subst h
      rw [if_pos rfl]
      have ih' := ih []
      have hu : unlines (cur :: linesAux r []) = cur ++ 10 :: unlines (linesAux r []) := by simp [unlines]
      rw [hu]
      rcases ih' with h1 | ⟨h1, x, hx, hx'⟩
      · left; rw [h1]; simp
      · right
        simp only [List.nil_append] at h1 hx
        refine ⟨by rw [h1]; simp, ?_⟩
        have hr : r ≠ [] := by rintro rfl; simp at hx
        rcases hx' with rfl | hx'
        · exact absurd rfl hr
        · refine ⟨x, ?_, .inr hx'⟩
          rw [List.getLast?_append, List.getLast?_cons, hx]
          simp
    · rw [if_neg h]
      rcases ih (cur ++ [c]) with h1 | ⟨h1, x, hx, hx'⟩
      · left; rw [h1]; simp
      · right
        refine ⟨by rw [h1]; simp, x, by simpa using hx, .inr ?_⟩
        rcases hx' with rfl | hx'
        · simp at hx; subst hx; exact h
        · exact hx'
theorem unlines_lines (t : List UInt8) : unlines (linesL t) = t ∨ (unlines (linesL t) = t ++ [10] ∧ t ≠ [] ∧ t.getLast? ≠ some 10) := by
  rcases unlines_aux t [] with h | ⟨h, x, hx, hx'⟩
  · left; simpa [linesL] using h
  · right
    simp only [List.nil_append] at h hx
    have ht : t ≠ [] := by rintro rfl; simp at hx
    refine ⟨by simpa [linesL] using h, ht, ?_⟩
    rw [hx]
    rcases hx' with rfl | hx'
    · exact absurd rfl ht
    · simpa using hx'
end WMath
end Go.Proofs.YtilholgbepfopaaDoor
