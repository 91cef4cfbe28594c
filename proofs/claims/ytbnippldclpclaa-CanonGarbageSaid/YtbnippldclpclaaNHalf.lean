/- Getting an object by halving. -/
import Derived.Test.YtbnippldclpclaaNBin
namespace Go.Proofs.Ytbnippldclpclaa
open Go.RowKit

theorem OsAt.one {w : World} {b o n c c' k : Nat} {L : List Lob} {x : Lob} (h : OsAt w (.slice (some ⟨b, o, none⟩) n c) L) (hx : L[k]? = some x) (hc : 1 ≤ c') : OsAt w (.slice (some ⟨b, o + k * 2, none⟩) 1 c') [x] := by
  obtain ⟨b1, o1, c1, hv, _, h0, h1⟩ := h.elem hx
  obtain ⟨e, -, -⟩ := Value.slice.inj hv
  obtain ⟨rfl, rfl, -⟩ := Addr.mk.inj (Option.some.inj e)
  refine ⟨.inr ⟨_, _, rfl, hc, rfl, fun j u hj => ?_⟩, fun y hy => ?_⟩
  · rw [addr_add]
    match j, hj with
    | 0, hj => simp [oc] at hj; subst hj; exact h0
    | 1, hj => simp [oc] at hj; subst hj; exact h1
    | j + 2, hj => simp [oc] at hj
  · simp at hy; subst hy; exact h.2 _ (List.mem_of_getElem? hx)
theorem os_none (w : World) (ad : Option Addr) (c : Nat) (h : ad = none → c = 0) : OsAt w (.slice ad 0 c) [] := by
  refine ⟨?_, by simp⟩
  cases ad with
  | none => exact .inl ⟨by rw [h rfl], rfl, rfl⟩
  | some ad => exact .inr ⟨ad, c, rfl, Nat.zero_le _, rfl, by simp⟩
theorem os_cut {w : World} {a : Option Addr} {n c : Nat} {L : List Lob} (h : OsAt w (.slice a n c) L) (hc : ¬ c = n) (f : Addr → Addr) (k : Nat) : OsAt w (.slice (a.map f) 0 k) [] := by
  refine os_none _ _ _ fun e => ?_
  rcases h.1 with ⟨e2, _, _⟩ | ⟨ad, c2, e2, _⟩
  · obtain ⟨rfl, rfl, rfl⟩ := Value.slice.inj e2
    exact absurd rfl hc
  · obtain ⟨rfl, -, -⟩ := Value.slice.inj e2
    simp at e
theorem half_one {L : List Lob} (ha : asc 0 L = true) (id : Int) {x : Lob} (hx : L[lowI L id]? = some x) : obD [x] id = obD L id ∧ isIn [x] id = isIn L id := by
  have h1 := low_one ha id
  have hl := (List.getElem?_eq_some_iff.1 hx).1
  by_cases he : x.id = id
  · rw [if_pos ⟨x, hx, he⟩] at h1
    have h2 : idx [x] id = 0 := by unfold idx; rw [List.findIdx_cons]; simp [he]
    unfold obD isIn
    rw [h1, h2, hx]
    exact ⟨rfl, by simp; exact hl⟩
  · rw [if_neg (by rintro ⟨y, hy, hy2⟩; rw [hx] at hy; rw [← Option.some.inj hy] at hy2; exact he hy2)] at h1
    have h2 : idx [x] id = 1 := by
      have e : (x.id == id) = false := by rw [beq_eq_false_iff_ne]; exact he
      unfold idx; rw [List.findIdx_cons, e]; rfl
    unfold obD isIn
    rw [h1, h2, List.getElem?_eq_none (Nat.le_refl _)]
    exact ⟨rfl, by simp⟩
theorem half_none {L : List Lob} (ha : asc 0 L = true) (id : Int) (hl : ¬ lowI L id < L.length) : obD [] id = obD L id ∧ isIn [] id = isIn L id := by
  have h1 := low_one ha id
  rw [if_neg (by rintro ⟨y, hy, _⟩; exact hl (List.getElem?_eq_some_iff.1 hy).1)] at h1
  unfold obD isIn
  rw [h1, List.getElem?_eq_none (Nat.le_refl _)]
  exact ⟨rfl, by simp⟩

set_option maxHeartbeats 1000000 in
set_option maxRecDepth 100000 in
theorem half_any (bh : Nat) (v : Value) (O : List Ob) (id : Int) (w : World) (h : OAt w v O) (hs : ShortO O) (ha : ascO 0 O = true) (hp : At1 w bh v) :
    Calls Try.prog 30 #[.int .i64 id, .pointer (some ⟨bh, 0, none⟩)] w (RGetO w (getO O id) (inO O id)) := by
  obtain ⟨L, h, rfl⟩ := h
  have hL := shortO hs
  rw [← asc_obs] at ha
  rw [← obD_obs, ← isIn_obs]
  have HA := Lib.hid ha
  have HL := Lib.hid hL
  have T := Lib.hid (At2.new w (.int .i64 0) (.slice none 0 0) 43)
  have HB := Lib.hid (below1 w (.cells #[.int .i64 0, .slice none 0 0] 43))
  have HP := Lib.hid (hp.below HB.out)
  have H := Lib.hid (h.below HB.out)
  clear hp hs ha hL
  obtain ⟨a, n, c, rfl, hn⟩ := h.shape
  have p0 := HP.out.c0
  clear h
  go_enter Try.func30, Try.ntmps30
  go_wp2_with fail
  refine (bin_any _ L id _ H.out HL.out.1 HA.out).mono ?_
  rintro e w1 ⟨ok, rfl, hb⟩
  have T1 := Lib.hid (T.out.below hb)
  have B1 := Lib.hid hb
  have H1 := Lib.hid (H.out.below hb)
  have q0 := (HP.out.below hb).c0
  have HN : Hid (n = L.length) := hn
  have hle : lowI L id ≤ n := by rw [hn.out]; exact low_le L id
  have hlo : ∀ x, L[lowI L id]? = some x → obD [x] id = obD L id ∧ isIn [x] id = isIn L id := fun x => half_one HA.out id
  have hlo2 : ¬ lowI L id < n → obD [] id = obD L id ∧ isIn [] id = isIn L id := by rw [hn.out]; exact half_none HA.out id
  have hnc : n ≤ c := SlAt.cap H1.out.1
  have hnb : n ≤ 1000000000 := by rw [hn.out]; exact HL.out.1
  generalize lowI L id = lo at *
  have HLO := Lib.hid hlo
  have HLO2 := Lib.hid hlo2
  clear hb p0 hlo hlo2 hn
  by_cases hlt : lo < n
  · obtain ⟨x, hx⟩ : ∃ x, L[lo]? = some x := ⟨_, List.getElem?_eq_getElem (by rw [← HN.out]; exact hlt)⟩
    obtain ⟨b, o, c', hv, hbl, -, -⟩ := H1.out.elem hx
    obtain ⟨rfl, hv2, rfl⟩ := Value.slice.inj hv
    have HX := Lib.hid hx
    clear hv hv2 hx
    have h1 : (lo : Int) + 1 ≤ (n : Int) := by omega
    have h2 : ¬ c = lo := by omega
    have h3 : (lo : Int) ≤ (lo : Int) + 1 := by omega
    go_wp2_with fail
    refine (get_okL id (H1.out.one HX.out (by omega)) ⟨by simp, fun y hy => by simp at hy; subst hy; exact HL.out.2 _ (List.mem_of_getElem? HX.out)⟩).mono ?_
    rw [(HLO.out x HX.out).1, (HLO.out x HX.out).2]
    rintro e w2 ⟨a2, n2, c2, rfl, ho, hb2⟩
    obtain ⟨t0, t1, t2, t3, _⟩ := T1.out.below hb2
    have O2 := Lib.hid ho
    have B2 := Lib.hid hb2
    clear ho hb2
    go_wp2
    refine bodyPost_ret (v := .tuple #[.agg #[.int .i64 (obD L id).1, .slice a2 n2 c2], .bool (isIn L id)]) (by simp [results, Try.results30, go_sem, t0, t1]) rfl ?_
    exact retO_new (HB.out.then_' B1.out) T1.out.lt (Nat.le_refl _) O2.out B2.out _ _
  · obtain rfl : lo = n := by omega
    have hE := HLO2.out (Nat.lt_irrefl _)
    have HE := Lib.hid hE
    clear hE
    have h1 : ¬ (lo : Int) + 1 ≤ (lo : Int) := by omega
    by_cases hc : c = lo
    · go_wp2_with fail
      refine (get_okL id (os_none w1 _ _ (fun _ => rfl)) ⟨by simp, by simp⟩).mono ?_
      rw [HE.out.1, HE.out.2]
      rintro e w2 ⟨a2, n2, c2, rfl, ho, hb2⟩
      obtain ⟨t0, t1, t2, t3, _⟩ := T1.out.below hb2
      have O2 := Lib.hid ho
      have B2 := Lib.hid hb2
      clear ho hb2
      go_wp2
      refine bodyPost_ret (v := .tuple #[.agg #[.int .i64 (obD L id).1, .slice a2 n2 c2], .bool (isIn L id)]) (by simp [results, Try.results30, go_sem, t0, t1]) rfl ?_
      exact retO_new (HB.out.then_' B1.out) T1.out.lt (Nat.le_refl _) O2.out B2.out _ _
    · go_wp2_with fail
      refine (get_okL id (os_cut H1.out hc _ _) ⟨by simp, by simp⟩).mono ?_
      rw [HE.out.1, HE.out.2]
      rintro e w2 ⟨a2, n2, c2, rfl, ho, hb2⟩
      obtain ⟨t0, t1, t2, t3, _⟩ := T1.out.below hb2
      have O2 := Lib.hid ho
      have B2 := Lib.hid hb2
      clear ho hb2
      go_wp2
      refine bodyPost_ret (v := .tuple #[.agg #[.int .i64 (obD L id).1, .slice a2 n2 c2], .bool (isIn L id)]) (by simp [results, Try.results30, go_sem, t0, t1]) rfl ?_
      exact retO_new (HB.out.then_' B1.out) T1.out.lt (Nat.le_refl _) O2.out B2.out _ _
end Go.Proofs.Ytbnippldclpclaa
