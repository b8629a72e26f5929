import Derived.Test.YtchealdgncgjoaaMpBS
import Derived.Test.YtchealdgncgjoaaMpCS
namespace Go.Proofs.Ytchealdgncgjoaa.StS
open Go.RowKit Go.Proofs.Ytchealdgncgjoaa.St
set_option linter.unusedVariables false
set_option linter.unusedSimpArgs false

theorem lt_ne {a b : ByteArray} (h : cmpS a b < 0) : a ≠ b := fun e => by rw [e, cmpS_ord.zero] at h; omega
section
variable {t : T (ByteArray × Int)}
theorem has_iff (h : Srt cmpS t.xs) (k : ByteArray) : (T.fd (sd k) t).2 = true ↔ ∃ p ∈ t.xs, p.1 = k := by
  rw [T.fd_eq (sd k) t (h.c cmpS_ord k)]
  simp only [List.any_eq_true, decide_eq_true_eq]
  constructor
  · rintro ⟨p, hp, hk⟩; exact ⟨p, hp, (cmpS_eq.1 hk).symm⟩
  · rintro ⟨p, hp, rfl⟩; exact ⟨p, hp, cmpS_ord.zero _⟩
theorem place_of (h : Srt cmpS t.xs) {i : Nat} {p : ByteArray × Int} (hp : t.xs[i]? = some p) : T.fd (sd p.1) t = (i, true) := by
  rw [T.fd_eq (sd p.1) t (h.c cmpS_ord p.1)]
  obtain ⟨h1, h2⟩ := h.place cmpS_ord hp (cmpS_ord.zero p.1)
  exact Prod.ext h1 h2
theorem get_mem (h : Srt cmpS t.xs) {p : ByteArray × Int} (hp : p ∈ t.xs) : getT p.1 t = some p ∧ (T.fd (sd p.1) t).2 = true := by
  obtain ⟨i, hi⟩ := List.mem_iff_getElem?.1 hp
  have := place_of h hi
  unfold getT
  rw [this]
  exact ⟨hi, rfl⟩
theorem split_at (h : Srt cmpS t.xs) {i : Nat} {p : ByteArray × Int} (hp : t.xs[i]? = some p) : t.xs = t.xs.take i ++ p :: t.xs.drop (i + 1) ∧ (∀ q ∈ t.xs.take i ++ t.xs.drop (i + 1), q.1 ≠ p.1) := by
  have hlt : i < t.xs.length := (List.getElem?_eq_some_iff.1 hp).1
  have hpe : t.xs[i] = p := (List.getElem?_eq_some_iff.1 hp).2
  have e : t.xs = t.xs.take i ++ p :: t.xs.drop (i + 1) := by
    conv => lhs; rw [← List.take_append_drop i t.xs]
    rw [List.drop_eq_getElem_cons hlt, hpe]
  refine ⟨e, ?_⟩
  have h2 : Srt cmpS (t.xs.take i ++ p :: t.xs.drop (i + 1)) := by rw [← e]; exact h
  unfold Srt at h2
  rw [List.pairwise_append, List.pairwise_cons] at h2
  obtain ⟨hA, ⟨hB1, hB2⟩, hAB⟩ := h2
  intro q hq
  rcases List.mem_append.1 hq with hq | hq
  · exact lt_ne (hAB q hq p (by simp))
  · exact fun e => lt_ne (hB1 q hq) e.symm
theorem put_mem (h : Srt cmpS t.xs) (k : ByteArray) (v : Int) (q : ByteArray × Int) : q ∈ (putT k v t).xs ↔ q = (k, v) ∨ (q ∈ t.xs ∧ q.1 ≠ k) := by
  rw [put_xs]
  split
  · rename_i hb
    obtain ⟨p, hp, hg⟩ := getT_some hb
    obtain ⟨p', hp', hk⟩ := (has_iff h k).1 hb
    have hpk : p.1 = k := by
      have := (get_mem h hp').1
      rw [hk, hg] at this
      cases this; exact hk
    obtain ⟨e, hne⟩ := split_at h hp
    have hlt : (T.fd (sd k) t).1 < t.xs.length := (List.getElem?_eq_some_iff.1 hp).1
    have hpe : t.xs[(T.fd (sd k) t).1] = p := (List.getElem?_eq_some_iff.1 hp).2
    rw [List.modify_eq_take_cons_drop hlt, hpe, hpk]
    generalize (T.fd (sd k) t).1 = i at *
    simp only [List.mem_append, List.mem_cons]
    constructor
    · rintro (hq | hq | hq)
      · exact .inr ⟨by rw [e]; simp [hq], by rw [← hpk]; exact hne q (by simp [hq])⟩
      · exact .inl hq
      · exact .inr ⟨by rw [e]; simp [hq], by rw [← hpk]; exact hne q (by simp [hq])⟩
    · rintro (hq | ⟨hq, hqn⟩)
      · exact .inr (.inl hq)
      · rw [e] at hq
        simp only [List.mem_append, List.mem_cons] at hq
        rcases hq with hq | hq | hq
        · exact .inl hq
        · exact (hqn (by rw [hq]; exact hpk)).elim
        · exact .inr (.inr hq)
  · rename_i hb
    have hno : ∀ q ∈ t.xs, q.1 ≠ k := fun q hq e => hb ((has_iff h k).2 ⟨q, hq, e⟩)
    have e := List.take_append_drop (T.fd (sd k) t).1 t.xs
    generalize (T.fd (sd k) t).1 = i at *
    simp only [List.mem_append, List.mem_cons]
    have hm : q ∈ t.xs ↔ q ∈ t.xs.take i ∨ q ∈ t.xs.drop i := by
      conv => lhs; rw [← e]
      exact List.mem_append
    constructor
    · rintro (hq | hq | hq)
      · exact .inr ⟨hm.2 (.inl hq), hno q (hm.2 (.inl hq))⟩
      · exact .inl hq
      · exact .inr ⟨hm.2 (.inr hq), hno q (hm.2 (.inr hq))⟩
    · rintro (hq | ⟨hq, _⟩)
      · exact .inr (.inl hq)
      · rcases hm.1 hq with h | h
        · exact .inl h
        · exact .inr (.inr h)
theorem del_mem (h : Srt cmpS t.xs) (k : ByteArray) (q : ByteArray × Int) : q ∈ (delT k t).xs ↔ q ∈ t.xs ∧ q.1 ≠ k := by
  rw [del_xs]
  split
  · rename_i hb
    obtain ⟨p, hp, hg⟩ := getT_some hb
    obtain ⟨p', hp', hk⟩ := (has_iff h k).1 hb
    have hpk : p.1 = k := by
      have := (get_mem h hp').1
      rw [hk, hg] at this
      cases this; exact hk
    obtain ⟨e, hne⟩ := split_at h hp
    rw [List.eraseIdx_eq_take_drop_succ]
    generalize (T.fd (sd k) t).1 = i at *
    simp only [List.mem_append]
    constructor
    · rintro (hq | hq)
      · exact ⟨by rw [e]; simp [hq], by rw [← hpk]; exact hne q (by simp [hq])⟩
      · exact ⟨by rw [e]; simp [hq], by rw [← hpk]; exact hne q (by simp [hq])⟩
    · rintro ⟨hq, hqn⟩
      rw [e] at hq
      simp only [List.mem_append, List.mem_cons] at hq
      rcases hq with hq | hq | hq
      · exact .inl hq
      · exact (hqn (by rw [hq]; exact hpk)).elim
      · exact .inr hq
  · rename_i hb
    exact ⟨fun hq => ⟨hq, fun e => hb ((has_iff h k).2 ⟨q, hq, e⟩)⟩, fun hq => hq.1⟩
end
/-- each value is the place of its key in the list -/
def Va (S : List ByteArray) (n : Nat) (t : T (ByteArray × Int)) : Prop := ∀ p ∈ t.xs, ∃ v : Nat, p.2 = (v : Int) ∧ v < n ∧ S[v]? = some p.1
/-- is the word none of the first j ones? -/
def fr (S : List ByteArray) (s : ByteArray) (j : Nat) : Bool := (S.take j).all (fun x => !(x.toList == s.toList))
theorem tl_beq {a b : ByteArray} : (a.toList == b.toList) = true ↔ a = b := by
  rw [beq_iff_eq]; exact ⟨fun h => tl_inj h, fun h => by rw [h]⟩
theorem fr_iff (S : List ByteArray) (s : ByteArray) (j : Nat) : fr S s j = false ↔ ∃ k, k < j ∧ S[k]? = some s := by
  unfold fr
  rw [List.all_eq_false]
  constructor
  · rintro ⟨x, hx, hb⟩
    have hb : x = s := by
      have : (x.toList == s.toList) = true := by simpa using hb
      exact tl_beq.1 this
    subst hb
    obtain ⟨k, hk⟩ := List.mem_iff_getElem?.1 hx
    rw [List.getElem?_take] at hk
    split at hk
    · exact ⟨k, by assumption, hk⟩
    · cases hk
  · rintro ⟨k, hk, hs⟩
    refine ⟨s, List.mem_iff_getElem?.2 ⟨k, by rw [List.getElem?_take, if_pos hk]; exact hs⟩, ?_⟩
    have := tl_beq.2 (rfl : s = s)
    simp
theorem fr_succ (S : List ByteArray) (s x : ByteArray) (j : Nat) (h : S[j]? = some x) : fr S s (j + 1) = (fr S s j && !(x.toList == s.toList)) := by
  unfold fr
  rw [List.take_add_one, h]
  simp [List.all_append]
/-- the key of the place ahead -/
def lastK (t : T (ByteArray × Int)) : Nat → ByteArray
  | 0 => ⟨#[]⟩
  | j + 1 => ((t.xs[j]?).map Prod.fst).getD ⟨#[]⟩
theorem lastK_lt {t : T (ByteArray × Int)} (h : Srt cmpS t.xs) {j : Nat} {p : ByteArray × Int} (hp : t.xs[j + 1]? = some p) : Op.bytesLess p.1.toList (lastK t (j + 1)).toList = false ∧ (p.1.toList == (lastK t (j + 1)).toList) = false := by
  have hlt : j + 1 < t.xs.length := (List.getElem?_eq_some_iff.1 hp).1
  have hq : t.xs[j]? = some t.xs[j] := List.getElem?_eq_getElem (by omega)
  have hc : cmpS t.xs[j].1 p.1 < 0 := by
    have := List.pairwise_iff_getElem.1 h j (j + 1) (by omega) hlt (by omega)
    rw [(List.getElem?_eq_some_iff.1 hp).2] at this
    exact this
  have hl : lastK t (j + 1) = t.xs[j].1 := by simp [lastK, hq]
  rw [hl]
  have h1 : t.xs[j].1.toList < p.1.toList := by
    unfold cmpS at hc
    split at hc
    · assumption
    · split at hc <;> omega
  constructor
  · rw [_root_.Go.Proofs.bytesLess_eq]; simp only [decide_eq_false_iff_not]; exact fun k => lt_irr _ (lt_tr h1 k)
  · rw [beq_eq_false_iff_ne]; intro e; rw [e] at h1; exact lt_irr _ h1
/-- how many values are below i -/
def cnt (t : T (ByteArray × Int)) (i : Nat) : Nat := t.xs.countP (fun p => decide (p.2 < (i : Int)))
theorem cnt_le (t : T (ByteArray × Int)) (i : Nat) : cnt t i ≤ t.sz := by
  unfold cnt; rw [← T.xs_length]; exact List.countP_le_length
theorem cnt_all {S : List ByteArray} {t : T (ByteArray × Int)} (h : Va S S.length t) : cnt t S.length = t.sz := by
  unfold cnt; rw [← T.xs_length, List.countP_eq_length]
  intro p hp
  obtain ⟨v, e1, e2, _⟩ := h p hp
  simp; omega
theorem cnt_neg (l : List (ByteArray × Int)) (i : Int) (h : ¬ ∃ p ∈ l, p.2 = i) : l.countP (fun p => decide (p.2 = i)) = 0 := by
  rw [List.countP_eq_zero]; intro p hp hq
  exact h ⟨p, hp, by simpa using hq⟩
theorem cnt_pos : ∀ (l : List (ByteArray × Int)) (i : Int), l.Pairwise (fun a b => a.2 ≠ b.2) → (∃ p ∈ l, p.2 = i) → l.countP (fun p => decide (p.2 = i)) = 1
  | [], i, _, ⟨p, hp, _⟩ => by simp at hp
  | a :: l, i, h, hx => by
    rw [List.pairwise_cons] at h
    rw [List.countP_cons]
    by_cases e : a.2 = i
    · have d : decide (a.2 = i) = true := decide_eq_true e
      rw [d, cnt_neg l i (fun ⟨p, hp, hq⟩ => h.1 p hp (by rw [e, hq]))]; rfl
    · have d : decide (a.2 = i) = false := decide_eq_false e
      obtain ⟨p, hp, hq⟩ := hx
      rcases List.mem_cons.1 hp with h1 | h1
      · rw [h1] at hq; exact (e hq).elim
      · rw [d, cnt_pos l i h.2 ⟨p, h1, hq⟩]; rfl
theorem cnt_split : ∀ (l : List (ByteArray × Int)) (i : Nat), l.countP (fun p => decide (p.2 < ((i + 1 : Nat) : Int))) = l.countP (fun p => decide (p.2 < (i : Int))) + l.countP (fun p => decide (p.2 = (i : Int)))
  | [], i => by rfl
  | a :: l, i => by
    have ih := cnt_split l i
    rw [List.countP_cons, List.countP_cons, List.countP_cons, ih]
    by_cases h1 : a.2 < (i : Int)
    · have d1 : decide (a.2 < (i : Int)) = true := decide_eq_true h1
      have d2 : decide (a.2 < ((i + 1 : Nat) : Int)) = true := decide_eq_true (by omega)
      have d3 : decide (a.2 = (i : Int)) = false := decide_eq_false (by omega)
      rw [d1, d2, d3]; simp only [if_true, if_false, Bool.false_eq_true]; omega
    · have d1 : decide (a.2 < (i : Int)) = false := decide_eq_false h1
      by_cases h3 : a.2 = (i : Int)
      · have d2 : decide (a.2 < ((i + 1 : Nat) : Int)) = true := decide_eq_true (by omega)
        have d3 : decide (a.2 = (i : Int)) = true := decide_eq_true h3
        rw [d1, d2, d3]; simp only [if_true, if_false, Bool.false_eq_true]; omega
      · have d2 : decide (a.2 < ((i + 1 : Nat) : Int)) = false := decide_eq_false (by omega)
        have d3 : decide (a.2 = (i : Int)) = false := decide_eq_false h3
        rw [d1, d2, d3]; simp only [if_true, if_false, Bool.false_eq_true]; omega
theorem val_pw {S : List ByteArray} {n : Nat} {t : T (ByteArray × Int)} (h : Srt cmpS t.xs) (hv : Va S n t) : t.xs.Pairwise (fun a b => a.2 ≠ b.2) := by
  have : ∀ l : List (ByteArray × Int), (∀ p ∈ l, p ∈ t.xs) → l.Pairwise (fun a b => cmpS a.1 b.1 < 0) → l.Pairwise (fun a b => a.2 ≠ b.2) := by
    intro l
    induction l with
    | nil => intro _ _; exact List.Pairwise.nil
    | cons a l ih =>
      intro hm hp
      rw [List.pairwise_cons] at hp ⊢
      refine ⟨fun b hb e => ?_, ih (fun p hp => hm p (by simp [hp])) hp.2⟩
      obtain ⟨v, e1, _, e3⟩ := hv a (hm a (by simp))
      obtain ⟨v', e1', _, e3'⟩ := hv b (hm b (by simp [hb]))
      have : v = v' := by omega
      subst this
      rw [e3] at e3'
      exact lt_ne (hp.1 b hb) (Option.some.inj e3')
  exact this t.xs (fun p hp => hp) h
theorem cnt_yes {S : List ByteArray} {n : Nat} {t : T (ByteArray × Int)} (h : Srt cmpS t.xs) (hv : Va S n t) (i : Nat) (hx : ∃ p ∈ t.xs, p.2 = (i : Int)) : cnt t (i + 1) = cnt t i + 1 := by
  unfold cnt
  rw [cnt_split, cnt_pos _ _ (val_pw h hv) hx]
theorem cnt_no (t : T (ByteArray × Int)) (i : Nat) (hx : ¬ ∃ p ∈ t.xs, p.2 = (i : Int)) : cnt t (i + 1) = cnt t i := by
  unfold cnt
  rw [cnt_split, cnt_neg _ _ hx]; rfl
end Go.Proofs.Ytchealdgncgjoaa.StS
