import Derived.Test.YtffcnonhhfhlhaaDoorWsJ
namespace Go.Proofs.YtffcnonhhfhlhaaDoor.Ws
open Num
open Go.Proofs.YtffcnonhhfhlhaaDoor.Rg (Sg)
set_option linter.unusedVariables false
/-! the document's way to read a word: pure -/
def isD (c : UInt8) : Bool := decide (48 ≤ c.toNat) && decide (c.toNat ≤ 57)
def tw (l : List UInt8) : List UInt8 := l.takeWhile isD
def okD (most : Nat) (D : List UInt8) : Prop := D ≠ [] ∧ (D.length ≤ 1 ∨ D.head? ≠ some 48) ∧ dv D ≤ most
theorem isD_iff {c : UInt8} : isD c = true ↔ 48 ≤ c.toNat ∧ c.toNat ≤ 57 := by simp [isD]
theorem isD_no {c : UInt8} : isD c = false ↔ c.toNat < 48 ∨ 57 < c.toNat := by
  rw [← Bool.not_eq_true, isD_iff]; omega
theorem tw_digs : ∀ l, digs (tw l)
  | [] => fun c hc => by simp [tw] at hc
  | x :: r => fun c hc => by
    unfold tw at hc
    rw [List.takeWhile_cons] at hc
    split at hc
    · rename_i hx
      rcases List.mem_cons.1 hc with rfl | hc
      · exact isD_iff.1 hx
      · exact tw_digs r c hc
    · simp at hc
theorem tw_app : ∀ {a : List UInt8} (b : List UInt8), digs a → tw (a ++ b) = a ++ tw b
  | [], b, _ => rfl
  | x :: a, b, h => by
    have hx : isD x = true := isD_iff.2 (h x (by simp))
    have ih := tw_app (a := a) b (fun c hc => h c (by simp [hc]))
    unfold tw at ih ⊢
    rw [List.cons_append, List.takeWhile_cons, if_pos hx, ih]
    rfl
theorem tw_self {a : List UInt8} (h : digs a) : tw a = a := by
  have := tw_app [] h
  simpa [tw] using this
theorem tw_stop {a : List UInt8} {x : UInt8} (r : List UInt8) (h : digs a) (hx : isD x = false) : tw (a ++ x :: r) = a := by
  rw [tw_app _ h]
  unfold tw
  rw [List.takeWhile_cons, if_neg (by simp [hx])]
  simp
theorem tw_split : ∀ l, l = tw l ∨ ∃ x r, isD x = false ∧ l = tw l ++ x :: r
  | [] => .inl rfl
  | y :: r => by
    cases hy : isD y with
    | true =>
      have e : tw (y :: r) = y :: tw r := by unfold tw; rw [List.takeWhile_cons, if_pos hy]
      rw [e]
      rcases tw_split r with h | ⟨x, t, h1, h2⟩
      · exact .inl (by rw [← h])
      · exact .inr ⟨x, t, h1, by rw [List.cons_append, ← h2]⟩
    | false =>
      have e : tw (y :: r) = [] := by unfold tw; rw [List.takeWhile_cons, if_neg (by simp [hy])]
      rw [e]
      exact .inr ⟨y, r, hy, rfl⟩
theorem decF_inv : ∀ (l : List UInt8) (n k : Nat), n ≤ top → (decF n k l).2.2 = 0 → digs l ∧ n * 10 ^ l.length + dv l ≤ top
  | [], n, k, hn, _ => ⟨fun c hc => by simp at hc, by simp [Num.dv]; exact hn⟩
  | c :: r, n, k, hn, h => by
    unfold Num.decF at h
    split at h
    · cases h
    · rename_i h1
      split at h
      · cases h
      · rename_i h2
        obtain ⟨i1, i2⟩ := decF_inv r _ _ (by omega) h
        refine ⟨fun x hx => ?_, ?_⟩
        · rcases List.mem_cons.1 hx with rfl | hx
          · omega
          · exact i1 x hx
        · have e : n * 10 ^ (c :: r).length + dv (c :: r) = (10 * n + (c.toNat - 48)) * 10 ^ r.length + dv r := by
            simp only [List.length_cons, Num.dv, Nat.pow_succ, Nat.add_mul]
            rw [Nat.mul_comm (10 ^ r.length) 10, ← Nat.mul_assoc, Nat.mul_comm n 10]
            omega
          rw [e]
          exact i2
theorem dB_iff (x : List UInt8) : dB x = true ↔ digs x ∧ okD top x := by
  constructor
  · intro h
    unfold dB at h
    simp only [Bool.and_eq_true, decide_eq_true_eq, Bool.not_eq_true'] at h
    obtain ⟨h, hp⟩ := h
    have hp' : ¬ x.take 2 = [48, 120] := by
      unfold Num.pre at hp
      rw [beq_eq_false_iff_ne] at hp
      exact hp
    unfold Num.numF at h
    split at h
    · cases h
    · rename_i h1
      split at h
      · cases h
      · rename_i h2
        obtain ⟨i1, i2⟩ := decF_inv x 0 0 (Nat.zero_le _) h
        refine ⟨i1, h1, ?_, by simpa using i2⟩
        by_cases hl : x.length ≤ 1
        · exact .inl hl
        · exact .inr (fun e => h2 ⟨e, by omega⟩)
  · rintro ⟨hd, h1, h2, h3⟩
    have hp' : ¬ x.take 2 = [48, 120] := fun e => by
      have hm : (120 : UInt8) ∈ x := List.mem_of_mem_take (i := 2) (by rw [e]; simp)
      exact absurd (hd 120 hm) (by decide)
    unfold dB
    have hp : Num.pre x = false := by unfold Num.pre; rw [beq_eq_false_iff_ne]; exact hp'
    have hn : numF x = (dv x, 0, 0) := by
      unfold Num.numF
      rw [if_neg h1, if_neg hp', if_neg, decF_all x 0 0 hd (by simpa using h3)]
      · simp
      · rintro ⟨e, hl⟩
        rcases h2 with h2 | h2
        · omega
        · exact h2 e
    rw [hp, hn]
    rfl
theorem dN_eq {x : List UInt8} (hd : digs x) (h : okD top x) : dN x = dv x := by
  have hB := (dB_iff x).2 ⟨hd, h⟩
  obtain ⟨h1, h2, h3⟩ := h
  have hp' : ¬ x.take 2 = [48, 120] := fun e => by
    have hm : (120 : UInt8) ∈ x := List.mem_of_mem_take (i := 2) (by rw [e]; simp)
    exact absurd (hd 120 hm) (by decide)
  unfold dN Num.numF
  rw [if_neg h1, if_neg hp', if_neg, decF_all x 0 0 hd (by simpa using h3)]
  · simp
  · rintro ⟨e, hl⟩
    rcases h2 with h2 | h2
    · omega
    · exact h2 e
theorem cut_past {c x : UInt8} (hx : x ≠ c) : ∀ {a : List UInt8} (r : List UInt8), (∀ y ∈ a, y ≠ c) → (cutL c (a ++ x :: r)).1 = a ++ x :: (cutL c r).1
  | [], r, _ => by simp [cutL, hx]
  | y :: a, r, h => by
    have h1 := h y (by simp)
    have ih := cut_past hx (a := a) r (fun z hz => h z (List.mem_cons_of_mem _ hz))
    simp [cutL, h1, ih]
theorem digs_ne {a : List UInt8} {c : UInt8} (h : digs a) (hc : isD c = false) : ∀ x ∈ a, x ≠ c := fun x hx e => by
  have := isD_iff.2 (h x hx)
  rw [e, hc] at this
  cases this
/-- what is cut off is a number just when the digits are followed by the sign, or by nothing -/
theorem cut_num {c : UInt8} (hc : isD c = false) (l : List UInt8) :
    (l = tw l ∧ cutL c l = (tw l, none)) ∨ (∃ r, l = tw l ++ c :: r ∧ cutL c l = (tw l, some r)) ∨ (∃ x r, isD x = false ∧ x ≠ c ∧ l = tw l ++ x :: r ∧ dB (cutL c l).1 = false) := by
  have hd := tw_digs l
  rcases tw_split l with h | ⟨x, r, h1, h2⟩
  · left
    refine ⟨h, ?_⟩
    have := cut_not (c := c) (digs_ne hd hc)
    rw [← h] at this ⊢
    exact this
  · right
    by_cases e : x = c
    · left
      subst e
      refine ⟨r, h2, ?_⟩
      have := cut_app (c := x) r (digs_ne hd hc)
      rw [← h2] at this
      exact this
    · right
      refine ⟨x, r, h1, e, h2, ?_⟩
      have hp := cut_past e r (digs_ne hd hc)
      rw [← h2] at hp
      rw [hp]
      cases hb : dB (tw l ++ x :: (cutL c r).1) with
      | false => rfl
      | true =>
        have := isD_iff.2 (((dB_iff _).1 hb).1 x (by simp))
        rw [h1] at this
        cases this
theorem not_dB {x : List UInt8} (h : ¬ okD top x) : dB x = false := by
  cases hb : dB x with
  | false => rfl
  | true => exact absurd ((dB_iff x).1 hb).2 h
theorem segA {l : List UInt8} (h : dB (pA l) = false) : segF l = none := by
  unfold segF; rw [if_neg]; rintro ⟨h1, _⟩; rw [h] at h1; cases h1
theorem segB {l : List UInt8} (h : dB (pB l) = false) : segF l = none := by
  unfold segF; rw [if_neg]; rintro ⟨_, h1, _⟩; rw [h] at h1; cases h1
theorem segC {l : List UInt8} (h : dB (pC l) = false) : segF l = none := by
  unfold segF; rw [if_neg]; rintro ⟨_, _, h1, _⟩; rw [h] at h1; cases h1
theorem dB_nil : dB [] = false := not_dB (fun h => h.1 rfl)
theorem d45 : isD 45 = false := by decide
theorem d58 : isD 58 = false := by decide
/-- the first number is none, or nothing but a '-' follows -/
theorem seg_no1 {l : List UInt8} (h : ¬ okD top (tw l) ∨ ∀ r, l ≠ tw l ++ 45 :: r) : segF l = none := by
  rcases cut_num d45 l with ⟨h1, h2⟩ | ⟨r, h1, h2⟩ | ⟨x, r, h1, h2, h3, h4⟩
  · refine segB ?_
    unfold pB pR
    rw [h2]
    exact dB_nil
  · rcases h with h | h
    · refine segA ?_
      unfold pA
      rw [h2]
      exact not_dB h
    · exact absurd h1 (h r)
  · exact segA h4
theorem seg_r {l r : List UInt8} (h : l = tw l ++ 45 :: r) : pA l = tw l ∧ pR l = r := by
  have := cut_app (c := 45) r (digs_ne (tw_digs l) d45)
  rw [← h] at this
  unfold pA pR
  rw [this]
  exact ⟨rfl, rfl⟩
theorem seg_no2 {l r : List UInt8} (h0 : l = tw l ++ 45 :: r) (h : ¬ okD top (tw r) ∨ ∀ q, r ≠ tw r ++ 58 :: q) : segF l = none := by
  have hr := (seg_r h0).2
  rcases cut_num d58 r with ⟨h1, h2⟩ | ⟨q, h1, h2⟩ | ⟨x, q, h1, h2, h3, h4⟩
  · refine segC ?_
    unfold pC
    rw [hr, h2]
    exact dB_nil
  · rcases h with h | h
    · refine segB ?_
      unfold pB
      rw [hr, h2]
      exact not_dB h
    · exact absurd h1 (h q)
  · refine segB ?_
    unfold pB
    rw [hr]
    exact h4
theorem okD_15 {D : List UInt8} (h : okD 15 D) : okD top D := ⟨h.1, h.2.1, by have := h.2.2; unfold Num.top; omega⟩
theorem seg_q {l r q : List UInt8} (h0 : l = tw l ++ 45 :: r) (h1 : r = tw r ++ 58 :: q) : pB l = tw r ∧ pC l = q := by
  have hr := (seg_r h0).2
  have := cut_app (c := 58) q (digs_ne (tw_digs r) d58)
  rw [← h1] at this
  unfold pB pC
  rw [hr, this]
  exact ⟨rfl, rfl⟩
theorem seg_no3 {l r q : List UInt8} (h0 : l = tw l ++ 45 :: r) (h1 : r = tw r ++ 58 :: q) (h : ¬ okD 15 (tw q) ∨ q ≠ tw q) : segF l = none := by
  obtain ⟨hB, hC⟩ := seg_q h0 h1
  cases hb : dB q with
  | false => exact segC (by rw [hC]; exact hb)
  | true =>
    obtain ⟨i1, i2⟩ := (dB_iff q).1 hb
    have e := tw_self i1
    rcases h with h | h
    · unfold segF
      rw [if_neg]
      rintro ⟨_, _, _, h4⟩
      rw [hC, dN_eq i1 i2] at h4
      rw [e] at h
      exact h ⟨i2.1, i2.2.1, by omega⟩
    · exact absurd e.symm h
theorem seg_yes {l r q : List UInt8} (h0 : l = tw l ++ 45 :: r) (h1 : r = tw r ++ 58 :: q) (h2 : q = tw q) (k0 : okD top (tw l)) (k1 : okD top (tw r)) (k2 : okD 15 (tw q)) : segF l = some ⟨dv (tw l), dv (tw r), dv (tw q)⟩ := by
  obtain ⟨hB, hC⟩ := seg_q h0 h1
  have hA := (seg_r h0).1
  have dA := tw_digs l
  have dR := tw_digs r
  have dQ := tw_digs q
  rw [h2] at hC
  unfold segF
  rw [hA, hB, hC, dN_eq dA k0, dN_eq dR k1, dN_eq dQ (okD_15 k2), if_pos]
  exact ⟨(dB_iff _).2 ⟨dA, k0⟩, (dB_iff _).2 ⟨dR, k1⟩, (dB_iff _).2 ⟨dQ, okD_15 k2⟩, by have := k2.2.2; omega⟩
/-! the loop of number -/
/-- the digits from place a on have been read up to place j -/
structure Nm (l : List UInt8) (most a j n : Nat) : Prop where
  le : a ≤ j
  lt : j ≤ l.length
  dg : digs ((l.drop a).take (j - a))
  vl : n = dv ((l.drop a).take (j - a))
  mx : n ≤ most
  zr : 2 ≤ j - a → l[a]? ≠ some 48
theorem Nm.start {l : List UInt8} {most a : Nat} (h : a ≤ l.length) : Nm l most a a 0 :=
  ⟨Nat.le_refl _, h, by simp [digs], by simp [Num.dv], Nat.zero_le _, fun h => by omega⟩
theorem seg_len {l : List UInt8} {a j : Nat} (h1 : a ≤ j) (h2 : j ≤ l.length) : ((l.drop a).take (j - a)).length = j - a := by
  rw [List.length_take, List.length_drop]; omega
theorem drop_split {l : List UInt8} {a j : Nat} (h1 : a ≤ j) : l.drop a = (l.drop a).take (j - a) ++ l.drop j := by
  have h := List.take_append_drop (j - a) (l.drop a)
  rw [List.drop_drop] at h
  have e : a + (j - a) = j := by omega
  rw [e] at h
  exact h.symm
theorem seg_snoc {l : List UInt8} {a j : Nat} {c : UInt8} (h1 : a ≤ j) (hc : l[j]? = some c) : (l.drop a).take (j + 1 - a) = (l.drop a).take (j - a) ++ [c] := by
  have e : j + 1 - a = (j - a) + 1 := by omega
  have hj : (l.drop a)[j - a]? = some c := by rw [List.getElem?_drop]; rw [show a + (j - a) = j by omega]; exact hc
  rw [e, List.take_add_one, hj]
  rfl
theorem seg_head {l : List UInt8} {a j : Nat} (h : a < j) : ((l.drop a).take (j - a)).head? = l[a]? := by
  rw [List.head?_eq_getElem?, List.getElem?_take, if_pos (by omega), List.getElem?_drop]
  rfl
theorem dv_app : ∀ (a b : List UInt8), dv a ≤ dv (a ++ b)
  | [], b => by simp [Num.dv]
  | x :: a, b => by
    have ih := dv_app a b
    simp only [List.cons_append, Num.dv, List.length_append]
    have h : 10 ^ a.length ≤ 10 ^ (a.length + b.length) := Nat.pow_le_pow_right (by omega) (by omega)
    have := Nat.mul_le_mul_left (x.toNat - 48) h
    omega
theorem Nm.step {l : List UInt8} {most a j n : Nat} {c : UInt8} (h : Nm l most a j n) (hc : l[j]? = some c) (hd : isD c = true) (hz : j = a ∨ l[a]? ≠ some 48) (hm : 10 * n + (c.toNat - 48) ≤ most) : Nm l most a (j + 1) (10 * n + (c.toNat - 48)) := by
  have hj := (List.getElem?_eq_some_iff.1 hc).1
  have h1 := h.le
  have e := seg_snoc h.le hc
  refine ⟨by omega, by omega, ?_, ?_, hm, fun h2 => ?_⟩
  · rw [e]
    intro x hx
    rcases List.mem_append.1 hx with hx | hx
    · exact h.dg x hx
    · simp only [List.mem_singleton] at hx
      subst hx
      exact isD_iff.1 hd
  · rw [e, dv_snoc, ← h.vl]
  · rcases hz with hz | hz
    · omega
    · exact hz
/-- the digits end here -/
theorem Nm.fin {l : List UInt8} {most a j n : Nat} (h : Nm l most a j n) (he : l[j]? = none ∨ ∃ c, l[j]? = some c ∧ isD c = false) : tw (l.drop a) = (l.drop a).take (j - a) := by
  have hs := drop_split (l := l) h.le
  have hd := h.dg
  generalize (l.drop a).take (j - a) = A at hs hd ⊢
  rw [hs]
  rcases he with he | ⟨c, he, hc⟩
  · have e : l.drop j = [] := List.drop_eq_nil_iff.2 (List.getElem?_eq_none_iff.1 he)
    rw [e, List.append_nil, tw_self hd]
  · have hj := (List.getElem?_eq_some_iff.1 he).1
    have e : l.drop j = c :: l.drop (j + 1) := by
      rw [List.drop_eq_getElem_cons hj, (List.getElem?_eq_some_iff.1 he).2]
    rw [e, tw_stop _ hd hc]
theorem Nm.ok {l : List UInt8} {most a j n : Nat} (h : Nm l most a j n) (hj : a < j) (he : l[j]? = none ∨ ∃ c, l[j]? = some c ∧ isD c = false) : okD most (tw (l.drop a)) ∧ dv (tw (l.drop a)) = n ∧ (tw (l.drop a)).length = j - a := by
  rw [h.fin he]
  have hl := seg_len h.le h.lt
  refine ⟨⟨fun e => ?_, ?_, by rw [← h.vl]; exact h.mx⟩, h.vl.symm, hl⟩
  · rw [e] at hl; simp at hl; omega
  · by_cases h2 : 2 ≤ j - a
    · right
      rw [seg_head hj]
      exact h.zr h2
    · left
      omega
theorem Nm.empty {l : List UInt8} {most a n : Nat} (h : Nm l most a a n) (he : l[a]? = none ∨ ∃ c, l[a]? = some c ∧ isD c = false) : ¬ okD most (tw (l.drop a)) := by
  rw [h.fin he]
  intro hk
  exact hk.1 (by simp)
theorem Nm.more {l : List UInt8} {most a j n : Nat} {c : UInt8} (h : Nm l most a j n) (hc : l[j]? = some c) (hd : isD c = true) : ∃ r, tw (l.drop a) = ((l.drop a).take (j - a) ++ [c]) ++ r := by
  have hj := (List.getElem?_eq_some_iff.1 hc).1
  have e : l.drop j = c :: l.drop (j + 1) := by
    rw [List.drop_eq_getElem_cons hj, (List.getElem?_eq_some_iff.1 hc).2]
  have e2 : l.drop a = ((l.drop a).take (j - a) ++ [c]) ++ l.drop (j + 1) := by
    rw [List.append_assoc, List.singleton_append, ← e]
    exact drop_split h.le
  have hdg : digs ((l.drop a).take (j - a) ++ [c]) := by
    intro x hx
    rcases List.mem_append.1 hx with hx | hx
    · exact h.dg x hx
    · simp only [List.mem_singleton] at hx
      subst hx
      exact isD_iff.1 hd
  have := tw_app (l.drop (j + 1)) hdg
  rw [← e2] at this
  exact ⟨_, this⟩
theorem Nm.zero {l : List UInt8} {most a j n : Nat} {c : UInt8} (h : Nm l most a j n) (hc : l[j]? = some c) (hd : isD c = true) (hj : a < j) (hz : l[a]? = some 48) : ¬ okD most (tw (l.drop a)) := by
  obtain ⟨r, e⟩ := h.more hc hd
  intro hk
  have hl := seg_len h.le h.lt
  rcases hk.2.1 with h2 | h2
  · rw [e, List.length_append, List.length_append, hl] at h2
    simp at h2
    omega
  · apply h2
    rw [e, List.append_assoc, List.head?_append, seg_head hj, hz]
    rfl
theorem Nm.over {l : List UInt8} {most a j n : Nat} {c : UInt8} (h : Nm l most a j n) (hc : l[j]? = some c) (hd : isD c = true) (hm : most < 10 * n + (c.toNat - 48)) : ¬ okD most (tw (l.drop a)) := by
  obtain ⟨r, e⟩ := h.more hc hd
  intro hk
  have h3 := hk.2.2
  have h4 := dv_app ((l.drop a).take (j - a) ++ [c]) r
  rw [dv_snoc, ← h.vl] at h4
  rw [e] at h3
  omega
end Go.Proofs.YtffcnonhhfhlhaaDoor.Ws
