import Derived.Test.YthajboipnjjgfaaReM
namespace Go.Proofs.Ythajboipnjjgfaa.Ly
open Go.RowKit Go.Maps Go.Sort
set_option linter.unusedVariables false
set_option linter.unusedSimpArgs false

theorem nodup_le {α : Type} : ∀ (a b : List α), a.Nodup → (∀ x ∈ a, x ∈ b) → a.length ≤ b.length
  | [], b, _, _ => by simp
  | x :: r, b, ha, h => by
    have hx : x ∈ b := h x (by simp)
    obtain ⟨s, t, rfl⟩ := List.append_of_mem hx
    obtain ⟨hn, hr⟩ := List.nodup_cons.1 ha
    have := nodup_le r (s ++ t) hr (fun y hy => by
      have h1 := h y (by simp [hy])
      have hne : y ≠ x := fun e => hn (e ▸ hy)
      simp only [List.mem_append, List.mem_cons] at h1 ⊢
      rcases h1 with h1 | h1 | h1
      · exact .inl h1
      · exact absurd h1 hne
      · exact .inr h1)
    simp only [List.length_cons, List.length_append] at this ⊢
    omega
theorem nodup_eq {α : Type} (a b : List α) (ha : a.Nodup) (hb : b.Nodup) (h : ∀ x, x ∈ a ↔ x ∈ b) : a.length = b.length :=
  Nat.le_antisymm (nodup_le a b ha (fun x hx => (h x).1 hx)) (nodup_le b a hb (fun x hx => (h x).2 hx))

/-- the bits are the blocked links -/
def Brs (D : DataW Unit) (bs : Nat → Bool) : Prop := ∀ f t : Int, 0 ≤ f → f < 256 → 0 ≤ t → t < 256 → bar D f t = bs (f.toNat * 256 + t.toNat)
theorem Brs.at {D : DataW Unit} {bs : Nat → Bool} (h : Brs D bs) {k : Nat} (hk : k < top) : bar D ((k / 256 : Nat) : Int) ((k % 256 : Nat) : Int) = bs k := by
  unfold top at hk
  rw [h _ _ (by omega) (by omega) (by omega) (by omega)]
  congr 1
  omega
theorem mem_tru {bs : Nat → Bool} {P k : Nat} : k ∈ tru bs P ↔ (k < P ∧ bs k = true) := by simp [tru]
theorem tru_nodup (bs : Nat → Bool) (P : Nat) : (tru bs P).Nodup := List.Pairwise.filter _ List.nodup_range
def lkK (k : Nat) : Lit := lk ((k / 256 : Nat) : Int) ((k % 256 : Nat) : Int)
theorem lkK_inj {i j : Nat} (hi : i < top) (hj : j < top) (h : lkK i = lkK j) : i = j := by
  unfold top at hi hj
  obtain ⟨h1, h2⟩ := lk_inj (by omega) (by omega) (by omega) (by omega) (by omega) (by omega) (by omega) (by omega) h
  omega
theorem nodup_map {α β : Type} (f : α → β) : ∀ (l : List α), l.Nodup → (∀ x ∈ l, ∀ y ∈ l, f x = f y → x = y) → (l.map f).Nodup
  | [], _, _ => by simp
  | x :: r, hl, h => by
    obtain ⟨hn, hr⟩ := List.nodup_cons.1 hl
    rw [List.map_cons, List.nodup_cons]
    refine ⟨fun hm => ?_, nodup_map f r hr (fun a ha b hb => h a (by simp [ha]) b (by simp [hb]))⟩
    obtain ⟨y, hy, e⟩ := List.mem_map.1 hm
    have := h y (by simp [hy]) x (by simp) e
    exact hn (this ▸ hy)
/-- how many links are blocked -/
theorem size_tru {w : World} {b n : Nat} {D : DataW Unit} {bs : Nat → Bool} (hm : w.ownsMap Try.prog 86 unitElem b n D) (h : Brs D bs) : Maps.size D = (tru bs top).length := by
  obtain ⟨es, hD, hes⟩ := map_entries hm
  obtain ⟨es', hD', hp, _⟩ := hm.canon keyed
  have e : es' = es := by rw [hD] at hD'; simpa using hD'.symm
  subst e
  have ha : (es'.map (·.1)).Nodup := by
    have := apart_of_rising hp
    unfold List.Nodup
    rw [List.pairwise_map]
    exact this
  have hb : ((tru bs top).map lkK).Nodup := nodup_map lkK _ (tru_nodup bs top) (fun x hx y hy e => lkK_inj (mem_tru.1 hx).1 (mem_tru.1 hy).1 e)
  have := nodup_eq _ _ ha hb (fun x => by
    constructor
    · intro hx
      obtain ⟨p, hp', rfl⟩ := List.mem_map.1 hx
      obtain ⟨f, t, e, f0, f1, t0, t1⟩ := (hes p hp').2
      refine List.mem_map.2 ⟨f.toNat * 256 + t.toNat, mem_tru.2 ⟨by unfold top; omega, ?_⟩, ?_⟩
      · rw [← h f t f0 f1 t0 t1]
        unfold bar
        rw [← e, hD, has_eq, List.any_eq_true]
        exact ⟨p, hp', by rw [e]; exact lk_same f t⟩
      · rw [e]
        unfold lkK
        have e1 : (f.toNat * 256 + t.toNat) / 256 = f.toNat := by omega
        have e2 : (f.toNat * 256 + t.toNat) % 256 = t.toNat := by omega
        rw [e1, e2]
        congr 1 <;> omega
    · intro hx
      obtain ⟨k, hk, rfl⟩ := List.mem_map.1 hx
      obtain ⟨hk1, hk2⟩ := mem_tru.1 hk
      have h1 := h.at hk1
      rw [hk2] at h1
      unfold bar at h1
      rw [hD, has_eq, List.any_eq_true] at h1
      obtain ⟨p, hp', hs⟩ := h1
      refine List.mem_map.2 ⟨p, hp', ?_⟩
      show p.1 = lkK k
      rcases Classical.em (p.1 = lkK k) with e | e
      · exact e
      · have := sameKey_ne e
        unfold lkK at this
        rw [this] at hs; cases hs)
  rw [hD, size_eq]
  simpa using this
theorem cnt_tru (bs : Nat → Bool) (n m : Int) (P : Nat) : ∀ Q, Q ≤ P → cntH bs n m Q + (tru (hl bs n m P) Q).length = (tru bs Q).length := by
  intro Q
  induction Q with
  | zero => intro _; simp [cntH, tru]
  | succ Q ih =>
    intro hQ
    have := ih (by omega)
    have hd : decide (Q < P) = true := by simp; omega
    cases hb : bs Q
    · have h2 : hl bs n m P Q = false := by simp [hl, hb]
      rw [cntH_skip (.inl hb), tru_skip h2, tru_skip hb]
      exact this
    · cases hf : fitK n m Q
      · have h2 : hl bs n m P Q = true := by simp [hl, hb, hf]
        rw [cntH_skip (.inr hf), tru_step h2, tru_step hb]
        simp
        omega
      · have h2 : hl bs n m P Q = false := by unfold hl; rw [hb, hf, hd]; rfl
        rw [cntH_step hb hf, tru_skip h2, tru_step hb]
        simp
        omega
/-- behind a Heal -/
theorem Brs.heal {D D' : DataW Unit} {bs : Nat → Bool} {n m : Int} (h : Brs D bs) (hd : Hd n m D D') : Brs D' (hl bs n m top) := by
  intro f t f0 f1 t0 t1
  rw [hd f t f0 f1 t0 t1, h f t f0 f1 t0 t1]
  have e1 : (f.toNat * 256 + t.toNat) / 256 = f.toNat := by omega
  have e2 : (f.toNat * 256 + t.toNat) % 256 = t.toNat := by omega
  have e3 : decide (f.toNat * 256 + t.toNat < top) = true := by unfold top; simp; omega
  unfold hl fitK
  rw [e1, e2, e3, Bool.true_and]
  have e4 : ((f.toNat : Nat) : Int) = f := by omega
  have e5 : ((t.toNat : Nat) : Int) = t := by omega
  rw [e4, e5]
theorem Brs.block {w : World} {b n : Nat} {D : DataW Unit} {bs : Nat → Bool} (hm : w.ownsMap Try.prog 86 unitElem b n D) (h : Brs D bs) {f t : Int} (f0 : 0 ≤ f) (f1 : f < 256) (t0 : 0 ≤ t) (t1 : t < 256) : Brs (D.put (lk f t) (.agg [])) (upd bs (f.toNat * 256 + t.toNat) true) := by
  intro f' t' g0 g1 u0 u1
  by_cases e : f' = f ∧ t' = t
  · obtain ⟨rfl, rfl⟩ := e
    rw [bar_put hm f0 f1 t0 t1]
    simp [upd]
  · have hne : lk f' t' ≠ lk f t := fun e' => e (lk_inj g0 g1 u0 u1 f0 f1 t0 t1 e')
    have hn2 : f'.toNat * 256 + t'.toNat ≠ f.toNat * 256 + t.toNat := by omega
    have : bar (D.put (lk f t) (.agg [])) f' t' = bar D f' t' := by
      unfold bar
      exact has_put_other hne _
    rw [this, h f' t' g0 g1 u0 u1]
    simp [upd, hn2]
/-- the links in order are the bits in order -/
def pr (k : Nat) : Int × Int := (((k / 256 : Nat) : Int), ((k % 256 : Nat) : Int))
theorem sorted_eq {α : Type} (lt : α → α → Prop) (irr : ∀ x, ¬ lt x x) (asy : ∀ x y, lt x y → ¬ lt y x) : ∀ (a b : List α), a.Pairwise lt → b.Pairwise lt → (∀ x, x ∈ a ↔ x ∈ b) → a = b
  | [], [], _, _, _ => rfl
  | [], y :: s, _, _, h => by have := (h y).2 (by simp); simp at this
  | x :: r, [], _, _, h => by have := (h x).1 (by simp); simp at this
  | x :: r, y :: s, ha, hb, h => by
    obtain ⟨ha1, ha2⟩ := List.pairwise_cons.1 ha
    obtain ⟨hb1, hb2⟩ := List.pairwise_cons.1 hb
    have e : x = y := by
      rcases List.mem_cons.1 ((h x).1 (by simp)) with e | hx
      · exact e
      · rcases List.mem_cons.1 ((h y).2 (by simp)) with e | hy
        · exact e.symm
        · exact absurd (hb1 x hx) (asy x y (ha1 y hy))
    subst e
    rw [sorted_eq lt irr asy r s ha2 hb2 (fun z => by
      constructor
      · intro hz
        rcases List.mem_cons.1 ((h z).1 (by simp [hz])) with e | h'
        · subst e; exact absurd (ha1 z hz) (irr z)
        · exact h'
      · intro hz
        rcases List.mem_cons.1 ((h z).2 (by simp [hz])) with e | h'
        · subst e; exact absurd (hb1 z hz) (irr z)
        · exact h')]
def ltP (p q : Int × Int) : Prop := p.1 < q.1 ∨ (p.1 = q.1 ∧ p.2 < q.2)
theorem range_sorted (P : Nat) : (List.range P).Pairwise (· < ·) := List.pairwise_lt_range
theorem srt_eq {D : DataW Unit} {bs : Nat → Bool} {ss : List (Int × Int)} (hs : Ks D ss) (h : Brs D bs) : srt ss = (tru bs top).map pr := by
  have hmem : ∀ x, x ∈ srt ss ↔ x ∈ ss := fun x => by unfold srt; exact List.mem_mergeSort
  have hnd : (srt ss).Nodup := by
    unfold srt
    exact (List.mergeSort_perm ss _).nodup_iff.2 hs.1
  have hps : (srt ss).Pairwise (fun x y => (!(ltOf cmpL) y x) = true) := by
    unfold srt
    refine List.pairwise_mergeSort (fun a b c h1 h2 => ?_) (fun a b => ?_) ss
    · simp only [Bool.not_eq_true', ltL, decide_eq_false_iff_not] at *
      omega
    · simp only [Bool.not_eq_true', Bool.or_eq_true, ltL, decide_eq_false_iff_not]
      omega
  refine sorted_eq ltP (fun x => by unfold ltP; omega) (fun x y => by unfold ltP; omega) _ _ ?_ ?_ ?_
  · refine (List.pairwise_and_iff.2 ⟨hps, hnd⟩).imp (fun {a b} hab => ?_)
    obtain ⟨h1, h2⟩ := hab
    simp only [Bool.not_eq_true', ltL, decide_eq_false_iff_not] at h1
    unfold ltP
    have : ¬ (a.1 = b.1 ∧ a.2 = b.2) := fun e => h2 (Prod.ext e.1 e.2)
    omega
  · rw [List.pairwise_map]
    have : (tru bs top).Pairwise (· < ·) := (range_sorted top).filter _
    refine this.imp (fun {a b} hab => ?_)
    unfold ltP pr
    simp only
    omega
  · intro x
    rw [hmem x, hs.2.1 x]
    constructor
    · rintro ⟨⟨f0, f1, t0, t1⟩, hb⟩
      refine List.mem_map.2 ⟨x.1.toNat * 256 + x.2.toNat, mem_tru.2 ⟨by unfold top; omega, ?_⟩, ?_⟩
      · rw [← h _ _ f0 f1 t0 t1]; exact hb
      · unfold pr
        refine Prod.ext ?_ ?_ <;> simp only <;> omega
    · intro hx
      obtain ⟨k, hk, rfl⟩ := List.mem_map.1 hx
      obtain ⟨hk1, hk2⟩ := mem_tru.1 hk
      refine ⟨?_, ?_⟩
      · unfold top at hk1
        unfold Lo pr
        simp only
        omega
      · have := h.at hk1
        rw [hk2] at this
        exact this
end Go.Proofs.Ythajboipnjjgfaa.Ly
