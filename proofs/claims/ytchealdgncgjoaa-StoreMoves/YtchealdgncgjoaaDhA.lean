import Derived.Test.YtchealdgncgjoaaDgC
namespace Go.Proofs.Ytchealdgncgjoaa.StU
open Go.RowKit Go.Proofs.Ytchealdgncgjoaa.St Go.Shelf
set_option linter.unusedVariables false
theorem kp_sm2 {w V W : World} {sb mb : Nat} (k : Kp Nu w V) (hsb : w.heap.size ≤ sb) (hmb : w.heap.size ≤ mb) (q : Kp (Sm sb mb) V W) : Kp Nu w W := k.trans q (fun i hi e => by rcases e with e | e <;> omega)
/-- two shelves -/
theorem Sh.beside {w w' : World} {sa ma sb mb : Nat} {mo1 mo2 : Int} {ta tb : T (Int × Sv)} {Ma Mb : List KV} (hb : Sh w sb mb mo2 tb Mb) (ha : Sh w sa ma mo1 ta Ma) (k : Kp (Sm sa ma) w w') (h1 : sb ≠ sa) (h2 : mb ≠ ma) : Sh w' sb mb mo2 tb Mb := by
  obtain ⟨a, hm1, hm2⟩ := hb.m.ex
  obtain ⟨a', hn1, hn2⟩ := ha.m.ex
  have n1 : ∀ {i c ty}, w.heap[i]? = some (.cells c ty (0, 0)) → ty ≠ 172 → ty ≠ 208 → ¬ Sm sa ma i := fun {i c ty} hi t1 t2 hs => by
    rcases hs with rfl | rfl
    · rw [ha.box] at hi; cases hi; exact t1 rfl
    · rw [hn1] at hi; cases hi; exact t2 rfl
  refine ⟨(k.block _ (blk_lt hb.box) (fun hs => ?_)).trans hb.box, ⟨⟨a, (k.block _ (blk_lt hm1) (fun hs => ?_)).trans hm1, hm2.keep (Kn.of k (fun b c hbb => n1 hbb (by decide) (by decide)))⟩, hb.m.bal, hb.m.srt⟩,
    hb.vs.imp (fun p m hf => hf.keep k (fun i c hs hc => n1 hc (by decide) (by decide) hs)), hb.lm, hb.mo⟩
  · rcases hs with e | e
    · exact h1 e
    · have := hb.box; rw [e, hn1] at this; cases this
  · rcases hs with e | e
    · rw [e, ha.box] at hm1; cases hm1
    · exact h2 e
theorem hs_put (x k : Int) (ys : List Int) (M : List KV) : hs x (putM k ys M) = (hs x M || decide (k = x)) := by
  unfold putM
  cases hk : hs k M with
  | true =>
    rw [if_pos rfl]
    have e : ∀ L : List KV, hs x L = (L.map Prod.fst).any (fun a => decide (a = x)) := fun L => by unfold hs; rw [List.any_map]; rfl
    rw [e, map_modify Prod.fst (fun m => (m.1, ys)) (fun _ => rfl) M _, ← e]
    by_cases hx : k = x
    · subst hx; rw [hk]; simp
    · simp [hx]
  | false =>
    rw [if_neg (by simp)]
    have e : hs x M = (hs x (M.take (StU.pl k M)) || hs x (M.drop (StU.pl k M))) := by
      unfold hs; rw [← List.any_append, List.take_append_drop]
    rw [e]
    show List.any (_ ++ _) _ = _
    rw [List.any_append, List.any_cons]
    show (hs x _ || (decide (k = x) || hs x _)) = _
    cases hs x (M.take (StU.pl k M)) <;> cases hs x (M.drop (StU.pl k M)) <;> simp
theorem ris_srt {M : List KV} : Ris M ↔ Srt cmpI M := by
  unfold Ris Srt
  constructor
  · intro h; refine h.imp ?_; intro a b q; simp only [cmpI]; repeat' split
    all_goals omega
  · intro h; refine h.imp ?_; intro a b q; simp only [cmpI] at q; repeat' split at q
    all_goals omega
theorem sg1 (k : Int) (p : KV) : 0 < side cmpI k p ↔ p.1 < k := by simp only [side, cmpI]; repeat' split; all_goals omega
theorem sg2 (k : Int) (p : KV) : side cmpI k p = 0 ↔ p.1 = k := by simp only [side, cmpI]; repeat' split; all_goals omega
theorem ris_put {M : List KV} (h : Ris M) (k : Int) (ys : List Int) : Ris (putM k ys M) := by
  have hs' := ris_srt.1 h
  unfold putM
  split
  · exact ris_srt.2 (hs'.rep _ _)
  · rename_i hk
    refine ris_srt.2 (hs'.ins cmpI_ord k ys _ ?_ ?_)
    · refine List.countP_congr (fun p _ => ?_)
      simp only [decide_eq_true_eq]
      exact (sg1 k p).symm
    · have hk : hs k M = false := by simpa using hk
      rw [← hk]
      unfold hs
      congr 1
      funext p
      exact decide_eq_decide.2 (sg2 k p)
theorem Ris.at_key {M : List KV} (h : Ris M) {x : Int} (hx : hs x M = true) : ∃ m ∈ M, m.1 = x ∧ gtM x M = m.2 := by
  obtain ⟨m, hm, e⟩ := List.any_eq_true.1 hx
  obtain rfl : m.1 = x := by simpa using e
  exact ⟨m, hm, rfl, (h.get hm).2⟩
theorem gt_put {M : List KV} (h : Ris M) {k : Int} {ys : List Int} (hp : Ris (putM k ys M)) (x : Int) (hx : hs x (putM k ys M) = true) : gtM x (putM k ys M) = if k = x then ys else gtM x M := by
  by_cases e : k = x
  · subst e
    rw [if_pos rfl]
    unfold gtM
    rw [if_pos hx]
    have hpl : StU.pl k (putM k ys M) = StU.pl k M ∧ (putM k ys M)[StU.pl k M]? = some (k, ys) ∨ False := by
      left
      unfold putM
      cases hk : hs k M with
      | true =>
        rw [if_pos rfl]
        obtain ⟨m, hm, e1, _⟩ := h.at_key hk
        obtain ⟨i, hi⟩ := List.mem_iff_getElem?.1 hm
        have hpi := h.pl hi
        rw [e1] at hpi
        refine ⟨?_, ?_⟩
        · have e : ∀ L : List KV, StU.pl k L = (L.map Prod.fst).countP (fun a => decide (a < k)) := fun L => by unfold StU.pl; rw [List.countP_map]; rfl
          rw [e, map_modify Prod.fst (fun m => (m.1, ys)) (fun _ => rfl) M _, ← e]
        · rw [hpi, List.getElem?_modify, hi]; simp [e1]
      | false =>
        rw [if_neg (by simp)]
        have hle := pl_le k M
        have hat : (M.take (StU.pl k M) ++ (k, ys) :: M.drop (StU.pl k M))[StU.pl k M]? = some (k, ys) := by
          rw [List.getElem?_append_right (by rw [List.length_take]; omega), List.length_take, Nat.min_eq_left hle]; simp
        refine ⟨?_, hat⟩
        have hp' : Ris (M.take (StU.pl k M) ++ (k, ys) :: M.drop (StU.pl k M)) := by unfold putM at hp; rw [hk] at hp; simpa using hp
        exact hp'.pl hat
    rcases hpl with ⟨e1, e2⟩ | h
    · rw [e1, e2]; rfl
    · exact h.elim
  · rw [if_neg e]
    have hxM : hs x M = true := by rw [hs_put] at hx; simpa [e] using hx
    obtain ⟨m, hm, e1, e2⟩ := h.at_key hxM
    have hm' : m ∈ putM k ys M := by
      unfold putM
      split
      · obtain ⟨i, hi⟩ := List.mem_iff_getElem?.1 hm
        refine List.mem_iff_getElem?.2 ⟨i, ?_⟩
        rw [List.getElem?_modify, hi]
        by_cases hpi : StU.pl k M = i
        · exfalso
          rename_i hk
          obtain ⟨m2, hm2, e3, _⟩ := h.at_key hk
          obtain ⟨j, hj⟩ := List.mem_iff_getElem?.1 hm2
          have h3 := h.pl hj
          rw [e3, hpi] at h3
          subst h3
          rw [hi] at hj; cases hj
          exact e (by rw [← e3, e1])
        · simp [hpi]
      · have : m ∈ M.take (StU.pl k M) ++ M.drop (StU.pl k M) := by rw [List.take_append_drop]; exact hm
        rcases List.mem_append.1 this with h | h
        · exact List.mem_append.2 (.inl h)
        · exact List.mem_append.2 (.inr (List.mem_cons_of_mem _ h))
    have := (hp.get hm').2
    rw [e1] at this
    rw [this, e2]
/-- no more keys than there are -/
theorem sub_len : ∀ {A B : List KV}, Ris A → Ris B → (∀ b ∈ B, hs b.1 A = true) → B.length ≤ A.length
  | [], [], _, _, _ => Nat.le_refl _
  | [], b :: B, _, _, h => by have := h b (by simp); simp [hs] at this
  | a :: A, [], _, _, _ => Nat.zero_le _
  | a :: A, b :: B, hA, hB, h => by
    obtain ⟨a1, a2⟩ := List.pairwise_cons.1 hA
    obtain ⟨b1, b2⟩ := List.pairwise_cons.1 hB
    have step : ∀ m : KV, hs m.1 (a :: A) = true → a.1 ≠ m.1 → hs m.1 A = true := fun m hm hne => by
      have : (decide (a.1 = m.1) || hs m.1 A) = true := hm
      simpa [hne] using this
    have hb := h b (by simp)
    by_cases e : a.1 = b.1
    · have := sub_len a2 b2 (fun m hm => step m (h m (by simp [hm])) (by have := b1 m hm; omega))
      simp; omega
    · have hgt : a.1 < b.1 := by
        obtain ⟨m, hm, e2⟩ := List.any_eq_true.1 (step b hb e)
        have e2 : m.1 = b.1 := by simpa using e2
        have := a1 m hm; omega
      have := sub_len (B := b :: B) a2 hB (fun m hm => step m (h m hm) (by
        rcases List.mem_cons.1 hm with rfl | hm
        · exact e
        · have := b1 m hm; omega))
      simp at this ⊢; omega
/-- the same keys, the same values: the same list -/
theorem ext_ris : ∀ {A B : List KV}, Ris A → Ris B → (∀ x, hs x A = hs x B) → (∀ x, hs x A = true → gtM x A = gtM x B) → A = B
  | [], [], _, _, _, _ => rfl
  | [], b :: B, _, _, h, _ => by have := h b.1; simp [hs] at this
  | a :: A, [], _, _, h, _ => by have := h a.1; simp [hs] at this
  | a :: A, b :: B, hA, hB, h, g => by
    obtain ⟨a1, a2⟩ := List.pairwise_cons.1 hA
    obtain ⟨b1, b2⟩ := List.pairwise_cons.1 hB
    have ha : hs a.1 (b :: B) = true := by rw [← h]; exact (hA.get (m := a) (by simp)).1
    have hb : hs b.1 (a :: A) = true := by rw [h]; exact (hB.get (m := b) (by simp)).1
    obtain ⟨m, hm, em, _⟩ := hB.at_key ha
    obtain ⟨n, hn, en, _⟩ := hA.at_key hb
    have e1 : a.1 = b.1 := by
      rcases List.mem_cons.1 hm with rfl | hm
      · exact em.symm
      · rcases List.mem_cons.1 hn with rfl | hn
        · exact en
        · have h1 := b1 m hm; have h2 := a1 n hn; omega
    have e2 : a.2 = b.2 := by
      have h1 := (hA.get (m := a) (by simp)).2
      have h2 := (hB.get (m := b) (by simp)).2
      rw [← h1, ← h2, g a.1 (hA.get (m := a) (by simp)).1, e1]
    have nlo : ∀ x, hs x A = true → a.1 < x := fun x hx => by
      obtain ⟨m, hm, e⟩ := List.any_eq_true.1 hx
      have e : m.1 = x := by simpa using e
      have := a1 m hm; omega
    have nlb : ∀ x, hs x B = true → b.1 < x := fun x hx => by
      obtain ⟨m, hm, e⟩ := List.any_eq_true.1 hx
      have e : m.1 = x := by simpa using e
      have := b1 m hm; omega
    have hab : A = B := ext_ris a2 b2 (fun x => by
      have := h x
      have c1 : hs x (a :: A) = (decide (a.1 = x) || hs x A) := rfl
      have c2 : hs x (b :: B) = (decide (b.1 = x) || hs x B) := rfl
      rw [c1, c2, e1] at this
      by_cases hx : b.1 = x
      · have n1 : hs x A = false := by
          cases hc : hs x A
          · rfl
          · have := nlo x hc; omega
        have n2 : hs x B = false := by
          cases hc : hs x B
          · rfl
          · have := nlb x hc; omega
        rw [n1, n2]
      · simpa [hx] using this) (fun x hx => by
      obtain ⟨m, hm, em, gm⟩ := Ris.at_key (M := A) a2 hx
      have h1 := (hA.get (m := m) (by simp [hm]))
      have h2 := g x (by rw [← em]; exact h1.1)
      rw [← em, h1.2] at h2
      have hxB : hs x (b :: B) = true := by rw [← h, ← em]; exact h1.1
      obtain ⟨q, hq, eq, gq⟩ := hB.at_key hxB
      have hqB : q ∈ B := by
        rcases List.mem_cons.1 hq with rfl | hq
        · have := nlo x hx; omega
        · exact hq
      have h3 := (Ris.get (M := B) b2 hqB).2
      rw [← em] at gq
      rw [gm, h2, gq, ← h3, eq])
    obtain ⟨ak, av⟩ := a
    obtain ⟨bk, bv⟩ := b
    simp only at e1 e2
    rw [e1, e2, hab]
/-- Set, whatever comes of it -/
theorem set_in2 {w : World} {sb mb : Nat} {most : Int} {t : T (Int × Sv)} {M : List KV} (h : Sh w sb mb most t M) (k : Int) (hk0 : 0 ≤ k) (hk1 : k ≤ 18446744073709551615) (u : Value) (ys : List Int) (hu : Rd w u ys) (hby : Byt ys) (hr : (M.length : Int) < most) :
    Calls Try.prog 47 #[.pointer (some ⟨sb, 0, none⟩), .int .u64 k, u] w fun e w' => (∃ b g, e = .returned (.tuple #[.bool b, .int .i64 g])) ∧ (∃ t' M', Sh w' sb mb most t' M' ∧ M'.length ≤ M.length + 1 ∧ ∀ x, hs x M' = true → hs x M = true ∨ k = x) ∧ Kp (Sm sb mb) w w' := by
  by_cases hy : ys.length ≤ 64
  · refine (set_ok h k hk0 hk1 u ys hu hy hby (.inr hr)).mono ?_
    rintro e w' ⟨e1, ⟨v, _, h2⟩, k2⟩
    refine ⟨⟨_, _, e1⟩, ⟨_, _, h2, by rw [putM_length]; split <;> omega, fun x hx => ?_⟩, k2⟩
    rw [hs_put] at hx
    simpa using hx
  · obtain ⟨ad, cap, rfl⟩ := hu.slice
    refine (set_long h k ad ys.length cap (by omega)).mono ?_
    rintro e w' ⟨e1, rfl⟩
    exact ⟨⟨_, _, e1⟩, ⟨_, _, h, by omega, fun x hx => .inl hx⟩, Kp.refl _ _⟩
end Go.Proofs.Ytchealdgncgjoaa.StU
