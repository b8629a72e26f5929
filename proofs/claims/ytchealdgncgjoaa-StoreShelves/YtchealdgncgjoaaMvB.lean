import Derived.Test.YtchealdgncgjoaaDgC
namespace Go.Proofs.Ytchealdgncgjoaa.StU
open Go.RowKit Go.Proofs.Ytchealdgncgjoaa.St Go.Shelf
set_option linter.unusedVariables false
theorem kp_sm2 {w V W : World} {sb mb : Nat} (k : Kp Nu w V) (hsb : w.heap.size ≤ sb) (hmb : w.heap.size ≤ mb) (q : Kp (Sm sb mb) V W) : Kp Nu w W := k.trans q (fun i hi e => by rcases e with e | e <;> omega)
/-- two shelves -/
theorem Sh.beside {w w' : World} {sa ma sb mb : Nat} {mo1 mo2 : Int} {ta tb : T (Int × Sv)} {Ma Mb : List KV} (hb : Sh w sb mb mo2 tb Mb) (ha : Sh w sa ma mo1 ta Ma) (k : Kp (Sm sa ma) w w') (h1 : sb ≠ sa) (h2 : mb ≠ ma) : Sh w' sb mb mo2 tb Mb := by
  obtain ⟨a, hm1, hm2⟩ := hb.m.ex
  obtain ⟨a', hn1, hn2⟩ := ha.m.ex
  have n1 : ∀ {i c ty}, w.heap[i]? = some (.cells c ty (0, 0)) → ty ≠ 172 → ty ≠ 208 → ¬ Sm sa ma i := fun {i c ty} hi t1 t2 hs => by
    rcases hs with rfl | rfl
    · rw [ha.box] at hi; cases hi; exact t1 rfl
    · rw [hn1] at hi; cases hi; exact t2 rfl
  refine ⟨(k.block _ (blk_lt hb.box) (fun hs => ?_)).trans hb.box, ⟨⟨a, (k.block _ (blk_lt hm1) (fun hs => ?_)).trans hm1, hm2.keep (Kn.of k (fun b c hbb => n1 hbb (by decide) (by decide)))⟩, hb.m.bal, hb.m.srt⟩,
    hb.vs.imp (fun p m hf => hf.keep k (fun i c hs hc => n1 hc (by decide) (by decide) hs)), hb.lm, hb.mo⟩
  · rcases hs with e | e
    · exact h1 e
    · have := hb.box; rw [e, hn1] at this; cases this
  · rcases hs with e | e
    · rw [e, ha.box] at hm1; cases hm1
    · exact h2 e
theorem hs_put (x k : Int) (ys : List Int) (M : List KV) : hs x (putM k ys M) = (hs x M || decide (k = x)) := by
  unfold putM
  cases hk : hs k M with
  | true =>
    rw [if_pos rfl]
    have e : ∀ L : List KV, hs x L = (L.map Prod.fst).any (fun a => decide (a = x)) := fun L => by unfold hs; rw [List.any_map]; rfl
    rw [e, map_modify Prod.fst (fun m => (m.1, ys)) (fun _ => rfl) M _, ← e]
    by_cases hx : k = x
    · subst hx; rw [hk]; simp
    · simp [hx]
  | false =>
    rw [if_neg (by simp)]
    have e : hs x M = (hs x (M.take (StU.pl k M)) || hs x (M.drop (StU.pl k M))) := by
      unfold hs; rw [← List.any_append, List.take_append_drop]
    rw [e]
    show List.any (_ ++ _) _ = _
    rw [List.any_append, List.any_cons]
    show (hs x _ || (decide (k = x) || hs x _)) = _
    cases hs x (M.take (StU.pl k M)) <;> cases hs x (M.drop (StU.pl k M)) <;> simp
theorem ris_srt {M : List KV} : Ris M ↔ Srt cmpI M := by
  unfold Ris Srt
  constructor
  · intro h; refine h.imp ?_; intro a b q; simp only [cmpI]; repeat' split
    all_goals omega
  · intro h; refine h.imp ?_; intro a b q; simp only [cmpI] at q; repeat' split at q
    all_goals omega
theorem sg1 (k : Int) (p : KV) : 0 < side cmpI k p ↔ p.1 < k := by simp only [side, cmpI]; repeat' split; all_goals omega
theorem sg2 (k : Int) (p : KV) : side cmpI k p = 0 ↔ p.1 = k := by simp only [side, cmpI]; repeat' split; all_goals omega
theorem ris_put {M : List KV} (h : Ris M) (k : Int) (ys : List Int) : Ris (putM k ys M) := by
  have hs' := ris_srt.1 h
  unfold putM
  split
  · exact ris_srt.2 (hs'.rep _ _)
  · rename_i hk
    refine ris_srt.2 (hs'.ins cmpI_ord k ys _ ?_ ?_)
    · refine List.countP_congr (fun p _ => ?_)
      simp only [decide_eq_true_eq]
      exact (sg1 k p).symm
    · have hk : hs k M = false := by simpa using hk
      rw [← hk]
      unfold hs
      congr 1
      funext p
      exact decide_eq_decide.2 (sg2 k p)
theorem Ris.at_key {M : List KV} (h : Ris M) {x : Int} (hx : hs x M = true) : ∃ m ∈ M, m.1 = x ∧ gtM x M = m.2 := by
  obtain ⟨m, hm, e⟩ := List.any_eq_true.1 hx
  obtain rfl : m.1 = x := by simpa using e
  exact ⟨m, hm, rfl, (h.get hm).2⟩
theorem gt_put {M : List KV} (h : Ris M) {k : Int} {ys : List Int} (hp : Ris (putM k ys M)) (x : Int) (hx : hs x (putM k ys M) = true) : gtM x (putM k ys M) = if k = x then ys else gtM x M := by
  by_cases e : k = x
  · subst e
    rw [if_pos rfl]
    unfold gtM
    rw [if_pos hx]
    have hpl : StU.pl k (putM k ys M) = StU.pl k M ∧ (putM k ys M)[StU.pl k M]? = some (k, ys) ∨ False := by
      left
      unfold putM
      cases hk : hs k M with
      | true =>
        rw [if_pos rfl]
        obtain ⟨m, hm, e1, _⟩ := h.at_key hk
        obtain ⟨i, hi⟩ := List.mem_iff_getElem?.1 hm
        have hpi := h.pl hi
        rw [e1] at hpi
        refine ⟨?_, ?_⟩
        · have e : ∀ L : List KV, StU.pl k L = (L.map Prod.fst).countP (fun a => decide (a < k)) := fun L => by unfold StU.pl; rw [List.countP_map]; rfl
          rw [e, map_modify Prod.fst (fun m => (m.1, ys)) (fun _ => rfl) M _, ← e]
        · rw [hpi, List.getElem?_modify, hi]; simp [e1]
      | false =>
        rw [if_neg (by simp)]
        have hle := pl_le k M
        have hat : (M.take (StU.pl k M) ++ (k, ys) :: M.drop (StU.pl k M))[StU.pl k M]? = some (k, ys) := by
          rw [List.getElem?_append_right (by rw [List.length_take]; omega), List.length_take, Nat.min_eq_left hle]; simp
        refine ⟨?_, hat⟩
        have hp' : Ris (M.take (StU.pl k M) ++ (k, ys) :: M.drop (StU.pl k M)) := by unfold putM at hp; rw [hk] at hp; simpa using hp
        exact hp'.pl hat
    rcases hpl with ⟨e1, e2⟩ | h
    · rw [e1, e2]; rfl
    · exact h.elim
  · rw [if_neg e]
    have hxM : hs x M = true := by rw [hs_put] at hx; simpa [e] using hx
    obtain ⟨m, hm, e1, e2⟩ := h.at_key hxM
    have hm' : m ∈ putM k ys M := by
      unfold putM
      split
      · obtain ⟨i, hi⟩ := List.mem_iff_getElem?.1 hm
        refine List.mem_iff_getElem?.2 ⟨i, ?_⟩
        rw [List.getElem?_modify, hi]
        by_cases hpi : StU.pl k M = i
        · exfalso
          rename_i hk
          obtain ⟨m2, hm2, e3, _⟩ := h.at_key hk
          obtain ⟨j, hj⟩ := List.mem_iff_getElem?.1 hm2
          have h3 := h.pl hj
          rw [e3, hpi] at h3
          subst h3
          rw [hi] at hj; cases hj
          exact e (by rw [← e3, e1])
        · simp [hpi]
      · have : m ∈ M.take (StU.pl k M) ++ M.drop (StU.pl k M) := by rw [List.take_append_drop]; exact hm
        rcases List.mem_append.1 this with h | h
        · exact List.mem_append.2 (.inl h)
        · exact List.mem_append.2 (.inr (List.mem_cons_of_mem _ h))
    have := (hp.get hm').2
    rw [e1] at this
    rw [this, e2]
/-- no more keys than there are -/
theorem sub_len : ∀ {A B : List KV}, Ris A → Ris B → (∀ b ∈ B, hs b.1 A = true) → B.length ≤ A.length
  | [], [], _, _, _ => Nat.le_refl _
  | [], b :: B, _, _, h => by have := h b (by simp); simp [hs] at this
  | a :: A, [], _, _, _ => Nat.zero_le _
  | a :: A, b :: B, hA, hB, h => by
    obtain ⟨a1, a2⟩ := List.pairwise_cons.1 hA
    obtain ⟨b1, b2⟩ := List.pairwise_cons.1 hB
    have step : ∀ m : KV, hs m.1 (a :: A) = true → a.1 ≠ m.1 → hs m.1 A = true := fun m hm hne => by
      have : (decide (a.1 = m.1) || hs m.1 A) = true := hm
      simpa [hne] using this
    have hb := h b (by simp)
    by_cases e : a.1 = b.1
    · have := sub_len a2 b2 (fun m hm => step m (h m (by simp [hm])) (by have := b1 m hm; omega))
      simp; omega
    · have hgt : a.1 < b.1 := by
        obtain ⟨m, hm, e2⟩ := List.any_eq_true.1 (step b hb e)
        have e2 : m.1 = b.1 := by simpa using e2
        have := a1 m hm; omega
      have := sub_len (B := b :: B) a2 hB (fun m hm => step m (h m hm) (by
        rcases List.mem_cons.1 hm with rfl | hm
        · exact e
        · have := b1 m hm; omega))
      simp at this ⊢; omega
/-- the same keys, the same values: the same list -/
theorem ext_ris : ∀ {A B : List KV}, Ris A → Ris B → (∀ x, hs x A = hs x B) → (∀ x, hs x A = true → gtM x A = gtM x B) → A = B
  | [], [], _, _, _, _ => rfl
  | [], b :: B, _, _, h, _ => by have := h b.1; simp [hs] at this
  | a :: A, [], _, _, h, _ => by have := h a.1; simp [hs] at this
  | a :: A, b :: B, hA, hB, h, g => by
    obtain ⟨a1, a2⟩ := List.pairwise_cons.1 hA
    obtain ⟨b1, b2⟩ := List.pairwise_cons.1 hB
    have ha : hs a.1 (b :: B) = true := by rw [← h]; exact (hA.get (m := a) (by simp)).1
    have hb : hs b.1 (a :: A) = true := by rw [h]; exact (hB.get (m := b) (by simp)).1
    obtain ⟨m, hm, em, _⟩ := hB.at_key ha
    obtain ⟨n, hn, en, _⟩ := hA.at_key hb
    have e1 : a.1 = b.1 := by
      rcases List.mem_cons.1 hm with rfl | hm
      · exact em.symm
      · rcases List.mem_cons.1 hn with rfl | hn
        · exact en
        · have h1 := b1 m hm; have h2 := a1 n hn; omega
    have e2 : a.2 = b.2 := by
      have h1 := (hA.get (m := a) (by simp)).2
      have h2 := (hB.get (m := b) (by simp)).2
      rw [← h1, ← h2, g a.1 (hA.get (m := a) (by simp)).1, e1]
    have nlo : ∀ x, hs x A = true → a.1 < x := fun x hx => by
      obtain ⟨m, hm, e⟩ := List.any_eq_true.1 hx
      have e : m.1 = x := by simpa using e
      have := a1 m hm; omega
    have nlb : ∀ x, hs x B = true → b.1 < x := fun x hx => by
      obtain ⟨m, hm, e⟩ := List.any_eq_true.1 hx
      have e : m.1 = x := by simpa using e
      have := b1 m hm; omega
    have hab : A = B := ext_ris a2 b2 (fun x => by
      have := h x
      have c1 : hs x (a :: A) = (decide (a.1 = x) || hs x A) := rfl
      have c2 : hs x (b :: B) = (decide (b.1 = x) || hs x B) := rfl
      rw [c1, c2, e1] at this
      by_cases hx : b.1 = x
      · have n1 : hs x A = false := by
          cases hc : hs x A
          · rfl
          · have := nlo x hc; omega
        have n2 : hs x B = false := by
          cases hc : hs x B
          · rfl
          · have := nlb x hc; omega
        rw [n1, n2]
      · simpa [hx] using this) (fun x hx => by
      obtain ⟨m, hm, em, gm⟩ := Ris.at_key (M := A) a2 hx
      have h1 := (hA.get (m := m) (by simp [hm]))
      have h2 := g x (by rw [← em]; exact h1.1)
      rw [← em, h1.2] at h2
      have hxB : hs x (b :: B) = true := by rw [← h, ← em]; exact h1.1
      obtain ⟨q, hq, eq, gq⟩ := hB.at_key hxB
      have hqB : q ∈ B := by
        rcases List.mem_cons.1 hq with rfl | hq
        · have := nlo x hx; omega
        · exact hq
      have h3 := (Ris.get (M := B) b2 hqB).2
      rw [← em] at gq
      rw [gm, h2, gq, ← h3, eq])
    obtain ⟨ak, av⟩ := a
    obtain ⟨bk, bv⟩ := b
    simp only at e1 e2
    rw [e1, e2, hab]
/-- Set, whatever comes of it -/
theorem set_in2 {w : World} {sb mb : Nat} {most : Int} {t : T (Int × Sv)} {M : List KV} (h : Sh w sb mb most t M) (k : Int) (hk0 : 0 ≤ k) (hk1 : k ≤ 18446744073709551615) (u : Value) (ys : List Int) (hu : Rd w u ys) (hby : Byt ys) (hr : (M.length : Int) < most) :
    Calls Try.prog 47 #[.pointer (some ⟨sb, 0, none⟩), .int .u64 k, u] w fun e w' => (∃ b g, e = .returned (.tuple #[.bool b, .int .i64 g])) ∧ (∃ t' M', Sh w' sb mb most t' M' ∧ M'.length ≤ M.length + 1 ∧ ∀ x, hs x M' = true → hs x M = true ∨ k = x) ∧ Kp (Sm sb mb) w w' := by
  by_cases hy : ys.length ≤ 64
  · refine (set_ok h k hk0 hk1 u ys hu hy hby (.inr hr)).mono ?_
    rintro e w' ⟨e1, ⟨v, _, h2⟩, k2⟩
    refine ⟨⟨_, _, e1⟩, ⟨_, _, h2, by rw [putM_length]; split <;> omega, fun x hx => ?_⟩, k2⟩
    rw [hs_put] at hx
    simpa using hx
  · obtain ⟨ad, cap, rfl⟩ := hu.slice
    refine (set_long h k ad ys.length cap (by omega)).mono ?_
    rintro e w' ⟨e1, rfl⟩
    exact ⟨⟨_, _, e1⟩, ⟨_, _, h, by omega, fun x hx => .inl hx⟩, Kp.refl _ _⟩
end Go.Proofs.Ytchealdgncgjoaa.StU
namespace Go.Proofs.Ytchealdgncgjoaa.StU
open Go.RowKit Go.Proofs.Ytchealdgncgjoaa.St Go.Shelf
set_option linter.unusedVariables false
theorem hs_filter (p : Int → Bool) (x : Int) (M : List KV) : hs x (M.filter (fun m => p m.1)) = (hs x M && p x) := by
  unfold hs
  rw [List.any_filter]
  rw [Bool.eq_iff_iff, List.any_eq_true, Bool.and_eq_true, List.any_eq_true]
  constructor
  · rintro ⟨m, hm, h⟩
    rw [Bool.and_eq_true] at h
    have e : m.1 = x := by simpa using h.2
    exact ⟨⟨m, hm, h.2⟩, by rw [← e]; exact h.1⟩
  · rintro ⟨⟨m, hm, h⟩, h2⟩
    have e : m.1 = x := by simpa using h
    exact ⟨m, hm, by rw [Bool.and_eq_true]; exact ⟨by rw [e]; exact h2, h⟩⟩
theorem gt_filter {M : List KV} (h : Ris M) (p : Int → Bool) (x : Int) (hx : hs x M = true) (hp : p x = true) : gtM x (M.filter (fun m => p m.1)) = gtM x M := by
  obtain ⟨m, hm, e, g⟩ := h.at_key hx
  have hm' : m ∈ M.filter (fun m => p m.1) := List.mem_filter.2 ⟨hm, by rw [e]; exact hp⟩
  have hr : Ris (M.filter (fun m => p m.1)) := List.Pairwise.sublist List.filter_sublist h
  have := (hr.get hm').2
  rw [e] at this
  rw [this, g]
/-- Delete is taking the key's pair out -/
theorem del_filter {M : List KV} (h : Ris M) (k : Int) : delM k M = M.filter (fun m => !decide (m.1 = k)) := by
  unfold delM
  split
  · rename_i hk
    obtain ⟨m, hm, e, gg⟩ := h.at_key hk
    obtain ⟨i, hi⟩ := List.mem_iff_getElem?.1 hm
    have hp := h.pl hi
    rw [e] at hp
    rw [hp]
    clear hk hm hp gg
    induction M generalizing i with
    | nil => simp at hi
    | cons a M ih =>
      obtain ⟨h1, h2⟩ := List.pairwise_cons.1 h
      cases i with
      | zero =>
        simp at hi; subst hi
        rw [List.filter_cons, if_neg (by simp [e])]
        show M = _
        symm
        refine List.filter_eq_self.2 (fun b hb => ?_)
        have := h1 b hb
        simp; omega
      | succ i =>
        have hi : M[i]? = some m := by simpa using hi
        have := h1 m (List.mem_of_getElem? hi)
        rw [List.filter_cons, if_pos (by simp; omega), List.eraseIdx_cons_succ, ih h2 i hi]
  · rename_i hk
    symm
    refine List.filter_eq_self.2 (fun b hb => ?_)
    have : hs k M = false := by simpa using hk
    unfold hs at this
    have := List.any_eq_false.1 this b hb
    simpa using this
theorem hs_del {M : List KV} (h : Ris M) (k x : Int) : hs x (delM k M) = (hs x M && !decide (x = k)) := by rw [del_filter h]; exact hs_filter (fun a => !decide (a = k)) x M
theorem ris_filter {M : List KV} (h : Ris M) (p : KV → Bool) : Ris (M.filter p) := List.Pairwise.sublist List.filter_sublist h
theorem ris_del {M : List KV} (h : Ris M) (k : Int) : Ris (delM k M) := by rw [del_filter h]; exact ris_filter h _
theorem sumB_part (p : KV → Bool) : ∀ M : List KV, sumB (M.filter p) + sumB (M.filter (fun m => !p m)) = sumB M
  | [] => rfl
  | a :: M => by
    have := sumB_part p M
    rw [List.filter_cons, List.filter_cons]
    cases p a <;> simp [sumB_cons] <;> omega
theorem len_part (p : KV → Bool) : ∀ M : List KV, (M.filter p).length + (M.filter (fun m => !p m)).length = M.length
  | [] => rfl
  | a :: M => by
    have := len_part p M
    rw [List.filter_cons, List.filter_cons]
    cases p a <;> simp <;> omega
theorem delM_length {M : List KV} (k : Int) : (delM k M).length = if hs k M then M.length - 1 else M.length := by
  unfold delM
  split
  · rename_i hk
    rw [List.length_eraseIdx]
    have : pl k M < M.length := by
      unfold hs at hk
      obtain ⟨m, hm, e⟩ := List.any_eq_true.1 hk
      have e : m.1 = k := by simpa using e
      unfold pl
      rcases Nat.lt_or_ge (M.countP (fun m => decide (m.1 < k))) M.length with h | h
      · exact h
      · have h2 := List.countP_eq_length.1 (Nat.le_antisymm List.countP_le_length h) m hm
        have h2 : m.1 < k := by simpa using h2
        omega
    rw [if_pos this]
  · rfl
section
variable {w : World} {sb mb : Nat} {most : Int} {t : T (Int × Sv)} {M : List KV}
set_option maxHeartbeats 400000 in
theorem bytes65 (h : Sh w sb mb most t M) : Calls Try.prog 65 #[.pointer (some ⟨sb, 0, none⟩)] w fun e w' => e = .returned (.int .i64 (sumB M : Int)) ∧ w' = w := by
  have c2 := (cell3 h.box).2.1
  generalize (sumB M : Int) = z at *
  clear h
  go_enter Try.func65, Try.ntmps65
  go_wp2
  go_ret
  exact ⟨rfl, rfl⟩
set_option maxRecDepth 100000 in
set_option maxHeartbeats 2000000 in
theorem del130 (h : Sh w sb mb most t M) (k : Int) :
    Calls Try.prog 130 #[.pointer (some ⟨sb, 0, none⟩), .int .u64 k] w fun e w' => e = .returned (.bool (hs k M)) ∧ (∃ t', Sh w' sb mb most t' (delM k M)) ∧ Kp (Sm sb mb) w w' := by
  have HA := held_any h
  have DA := StU.del_any h.m k (by have := h.small; omega)
  rw [h.hs] at DA
  have HX : ∀ W', Kp (fun i => i = mb) w W' → W'.heap[sb]? = some (.cells #[.int .i64 most, .int .i64 (sumB M : Int), .pointer (some ⟨mb, 0, none⟩)] 172 (0, 0)) := fun W' p => (p.block _ (blk_lt h.box) h.ne).trans h.box
  have HO : ∃ a0 n0 k0, ov (getT k t) = .slice a0 n0 k0 ∧ n0 = (gtM k M).length := by
    cases hk : StU.hs k M with
    | true =>
      obtain ⟨p, m, eg, _, hm, hf, _⟩ := h.yes hk
      exact ⟨p.2.a, p.2.n, p.2.c, by rw [eg]; rfl, by rw [gtM_yes hk hm]; exact hf.n⟩
    | false => exact ⟨none, 0, 0, by rw [h.no hk]; rfl, by rw [gtM_no hk]; rfl⟩
  obtain ⟨a0, n0, k0, ec, en⟩ := HO
  rw [ec] at DA
  have hsum := delM_sum (k := k) h
  have hle := h.sum
  rw [← en] at hsum
  have hS5 : ∀ i c, Sm sb mb i → w.heap[i]? ≠ some (.cells c 5 (0, 0)) := fun i c hs hc => by
    obtain ⟨am0, hm01, _⟩ := h.m.ex
    rcases hs with rfl | rfl
    · rw [h.box] at hc; cases hc
    · rw [hm01] at hc; cases hc
  have FIN : Hid (∀ (W' : World) (x : Int), Kp (fun i => i = mb) w W' → Mp W' mb (delT k t) → x = (sumB (delM k M) : Int) → Sh (W'.setCell ⟨sb, 1, none⟩ (.int .i64 x)) sb mb most (delT k t) (delM k M) ∧ Kp (Sm sb mb) w (W'.setCell ⟨sb, 1, none⟩ (.int .i64 x))) := fun W' x p hm ex => by
    have hb := HX W' p
    have hne := h.ne
    have k1 : Kp (Sm sb mb) w (W'.setCell ⟨sb, 1, none⟩ (.int .i64 x)) := (p.mono (fun _ _ e => .inr e)).trans (Kp.setCell _ _ _) (fun _ _ e => .inl e)
    obtain ⟨am, hm1, hm2⟩ := hm.ex
    have ks := Kp.setCell W' ⟨sb, 1, none⟩ (.int .i64 x)
    refine ⟨⟨box_set hb ex, ⟨⟨am, (ks.block _ (blk_lt hm1) (fun e => hne e.symm)).trans hm1, hm2.keep (Kn.of ks (fun b c hbb e => by have e : b = sb := e; rw [e, hb] at hbb; cases hbb))⟩, hm.bal, hm.srt⟩,
      del_F2 h (h.vs.imp (fun p m hf => hf.keep k1 hS5)), ?_, h.mo⟩, k1⟩
    rw [delM_length]
    have := h.lm
    split <;> omega
  have FIN0 : Hid (StU.hs k M = false → ∀ (W' : World), Kp (fun i => i = mb) w W' → Mp W' mb (delT k t) → Sh W' sb mb most (delT k t) (delM k M) ∧ Kp (Sm sb mb) w W') := fun hk W' p hm => by
    have hb := HX W' p
    have k1 : Kp (Sm sb mb) w W' := p.mono (fun _ _ e => .inr e)
    have e : delM k M = M := by unfold delM; rw [hk]; rfl
    refine ⟨⟨by rw [e]; exact hb, hm, del_F2 h (h.vs.imp (fun p m hf => hf.keep k1 hS5)), by rw [e]; exact h.lm, h.mo⟩, k1⟩
  obtain ⟨S0, eS⟩ : ∃ S0 : Int, (sumB M : Int) = S0 := ⟨_, rfl⟩
  rw [eS] at HX
  obtain ⟨S1, eS1⟩ : ∃ S1 : Int, (sumB (delM k M) : Int) = S1 := ⟨_, rfl⟩
  rw [eS1] at FIN
  have HE : Hid (S1 = S0 - (n0 : Int) ∧ 0 ≤ S1 ∧ S0 ≤ 2097152) := by refine ⟨?_, ?_, ?_⟩ <;> omega
  cases hb : StU.hs k M with
  | true =>
    rw [hb] at DA
    clear h hsum hle hS5 ec en eS eS1 hb FIN0
    go_enter Try.func130, Try.ntmps130
    go_wp2_with (first
      | (go_at_call 114; refine HA.mono ?_; rintro e w' ⟨rfl, hw⟩; obtain rfl := hw.symm)
      | (go_at_call 179; refine DA.mono ?_; rintro e w3 ⟨rfl, m3, k3⟩; have x3 := HX _ k3; obtain ⟨y0, y1, y2⟩ := cell3 x3; have f3 := free3 x3 1))
    go_ret
    have hF := fun x hx => FIN.out w3 x k3 m3 hx
    refine ⟨rfl, ⟨_, (hF _ ?_).1⟩, (hF _ ?_).2⟩
    all_goals (have h1 := HE.out; first | omega | (unfold wrap64; omega))
  | false =>
    rw [hb] at DA
    have HB := hide hb
    clear h hsum hle hS5 ec en eS eS1 hb FIN
    go_enter Try.func130, Try.ntmps130
    go_wp2_with (first
      | (go_at_call 114; refine HA.mono ?_; rintro e w' ⟨rfl, hw⟩; obtain rfl := hw.symm)
      | (go_at_call 179; refine DA.mono ?_; rintro e w3 ⟨rfl, m3, k3⟩))
    go_ret
    obtain ⟨f1, f2⟩ := FIN0.out HB.out w3 k3 m3
    exact ⟨rfl, ⟨_, f1⟩, f2⟩
end
end Go.Proofs.Ytchealdgncgjoaa.StU
namespace Go.Proofs.Ytchealdgncgjoaa.StU
open Go.RowKit Go.Proofs.Ytchealdgncgjoaa.St Go.Shelf
set_option linter.unusedVariables false
theorem Sh.sm {w : World} {sb mb : Nat} {most : Int} {t : T (Int × Sv)} {M : List KV} (h : Sh w sb mb most t M) : ∀ i c ty m, Sm sb mb i → w.heap[i]? = some (.cells c ty m) → ty = 172 ∨ ty = 208 := fun i c ty m hs hc => by
  obtain ⟨a, hn1, _⟩ := h.m.ex
  rcases hs with rfl | rfl
  · rw [h.box] at hc; cases hc; exact .inl rfl
  · rw [hn1] at hc; cases hc; exact .inr rfl
theorem Cd.keep {V W : World} {B gk N : Nat} {L : List (Int × Sv)} {A : List KV} {S : Nat → Prop} (h : Cd V B gk N L A) (k : Kp S V W) (hS : ∀ i c ty, S i → V.heap[i]? = some (.cells c ty (0, 0)) → ty ≠ 5 ∧ ty ≠ 78) : Cd W B gk N L A :=
  ⟨own_keep h.own (fun g e => by
    obtain ⟨cur, hc⟩ := own_obj h.own e
    exact k.block g (blk_lt hc) (fun hs => (hS _ _ _ hs hc).2 rfl)), h.f.imp (fun p m hf => hf.keep k (fun i c hs hc => (hS _ _ _ hs hc).1 rfl)), h.lo, h.ap⟩
/-- pairs taken out, one behind the other -/
def delAll (L : List KV) (M : List KV) : List KV := L.foldl (fun M m => delM m.1 M) M
theorem delAll_snoc (L : List KV) (m : KV) (M : List KV) : delAll (L ++ [m]) M = delM m.1 (delAll L M) := by simp [delAll]
theorem delAll_filter {M : List KV} (h : Ris M) : ∀ (L : List KV), delAll L M = M.filter (fun m => !L.any (fun q => decide (q.1 = m.1))) ∧ Ris (delAll L M) := by
  intro L
  induction L generalizing M with
  | nil => exact ⟨(List.filter_eq_self.2 (fun a _ => by simp)).symm, h⟩
  | cons a L ih =>
    have h1 := ris_del h a.1
    obtain ⟨e1, e2⟩ := ih h1
    refine ⟨?_, e2⟩
    show delAll L (delM a.1 M) = _
    rw [e1, del_filter h, List.filter_filter]
    refine List.filter_congr (fun m _ => ?_)
    rw [List.any_cons]
    by_cases e : a.1 = m.1
    · simp [e]
    · have : ¬ m.1 = a.1 := fun h => e h.symm
      simp [e, this]
/-- what is left where a range is cut out -/
abbrev cutM (lo hi : Int) (M : List KV) : List KV := M.filter (fun m => !inR lo hi m)
theorem delAll_rg {M : List KV} (h : Ris M) (lo hi : Int) : delAll (rg lo hi M) M = cutM lo hi M := by
  rw [(delAll_filter h _).1]
  refine List.filter_congr (fun m hm => ?_)
  congr 1
  rw [Bool.eq_iff_iff, List.any_eq_true]
  constructor
  · rintro ⟨q, hq, e⟩
    have e : q.1 = m.1 := by simpa using e
    have := (List.mem_filter.1 hq).2
    unfold inR at this ⊢
    rw [← e]; exact this
  · intro hi'
    exact ⟨m, List.mem_filter.2 ⟨hm, hi'⟩, by simp⟩
section
variable {w : World} {sb mb : Nat} {most : Int} {t : T (Int × Sv)} {M : List KV}
set_option maxRecDepth 100000 in
set_option maxHeartbeats 400000 in
theorem cut_no (h : Sh w sb mb most t M) (lo hi : Int) (hlh : hi < lo) : Calls Try.prog 63 #[.pointer (some ⟨sb, 0, none⟩), .int .u64 lo, .int .u64 hi] w fun e w' => e = .returned (.tuple #[.slice none 0 0, .int .i64 74]) ∧ w' = w := by
  have MA := made117 h
  clear h
  go_enter Try.func63, Try.ntmps63
  go_wp2_with (go_at_call 117; refine MA.mono ?_; rintro e w' ⟨rfl, hw⟩; obtain rfl := hw.symm)
  go_ret2
  exact ⟨rfl, rfl⟩
set_option maxRecDepth 100000 in
set_option maxHeartbeats 2000000 in
theorem cut_ok (h : Sh w sb mb most t M) (lo hi : Int) (hlh : lo ≤ hi) : Calls Try.prog 63 #[.pointer (some ⟨sb, 0, none⟩), .int .u64 lo, .int .u64 hi] w fun e w' => ∃ gk L K, e = .returned (.tuple #[.slice (some ⟨gk, 0, none⟩) K K, .int .i64 0]) ∧ K = (rg lo hi M).length ∧ Cd w' w.heap.size gk K L (rg lo hi M) ∧ (∃ t', Sh w' sb mb most t' (cutM lo hi M)) ∧ Kp (Sm sb mb) w w' := by
  have MA := made117 h
  have CA := count_any54 h lo hi
  obtain ⟨R, eR⟩ : ∃ R, rg lo hi M = R := ⟨_, rfl⟩
  obtain ⟨K, eK⟩ : ∃ K, R.length = K := ⟨_, rfl⟩
  have CP : ∀ W, Kp Nu w W → Calls Try.prog 121 #[.pointer (some ⟨sb, 0, none⟩), .int .u64 lo, .int .u64 hi, .int .i64 (K : Int)] W fun e w' => ∃ gk L, e = .returned (.slice (some ⟨gk, 0, none⟩) K K) ∧ Hid (Cd w' w.heap.size gk K L R ∧ Kp Nu w w') := fun W q => by
    refine (copies_any (h.nu q) lo hi K (by rw [eR, eK]; exact Nat.le_refl _)).mono ?_
    rintro e w' ⟨gk, L, e1, e2, e3⟩
    rw [eR, ← eK, List.take_length, eK] at e2
    exact ⟨gk, L, e1, ⟨own_base e2.own q.size, e2.f, fun p hp g hg => Nat.le_trans q.size (e2.lo p hp g hg), e2.ap⟩, q.andNu e3⟩
  rw [eR, eK] at CA
  have hKb : K ≤ 32768 := by
    have h1 : (rg lo hi M).length ≤ M.length := List.length_filter_le _ _
    have := h.small; have := h.sz
    rw [eR, eK] at h1; omega
  have HH := hide (And.intro h (And.intro eR (And.intro eK hKb)))
  rw [eR]
  clear h eR eK hKb
  go_enter Try.func63, Try.ntmps63
  go_wp2_with (first
    | (go_at_call 117; refine MA.mono ?_; rintro e w' ⟨rfl, hw⟩; obtain rfl := hw.symm)
    | (go_at_call 54; refine CA.mono ?_; rintro e w1 ⟨rfl, k1⟩)
    | (go_at_call 121; refine (CP _ k1).mono ?_; rintro e w2 ⟨gk, L, rfl, h2⟩))
  go_loopw [27] (fun it wr => ∃ i : Nat, it = .int .i64 (i : Int) ∧ i ≤ K ∧ Hid (∃ t', Sh wr sb mb most t' (delAll (R.take i) M) ∧ Kp (Sm sb mb) w2 wr)) (fun it _ => K - (intOf it).toNat)
  case atStart => exact ⟨0, rfl, Nat.zero_le _, t, HH.out.1.nu h2.out.2, Kp.refl _ _⟩
  case round =>
    obtain ⟨i, rfl, hiK, HI⟩ := hrel
    obtain ⟨t', hsh, kwr⟩ := HI.out
    have hcd := h2.out.1.keep kwr (fun j c ty hs hc => by rcases (HH.out.1.nu h2.out.2).sm j c ty _ hs hc with rfl | rfl <;> decide)
    by_cases hlt : i < K
    · obtain ⟨m, hm⟩ : ∃ m, R[i]? = some m := ⟨_, List.getElem?_eq_getElem (by rw [HH.out.2.2.1]; exact hlt)⟩
      obtain ⟨p, hp, hfv, d0, d1⟩ := hcd.at_ hm
      have ka := Kp.alloc wr (.cells #[.int .u64 m.1, .slice p.2.a p.2.n p.2.c] 78) Nu
      have DA := del130 (hsh.nu ka) m.1
      have x0 := (cell2 (heap_alloc_new wr (.cells #[.int .u64 m.1, .slice p.2.a p.2.n p.2.c] 78))).1
      have e : delAll (R.take (i + 1)) M = delM m.1 (delAll (R.take i) M) := by
        rw [List.take_add_one, hm]
        exact delAll_snoc _ _ _
      rw [← e] at DA
      have hltI : (i : Int) < (K : Int) := by omega
      have hi00 : (0 : Int) ≤ (i : Int) := by omega
      have hwi : wrap64 ((i : Int) + 1) = ((i + 1 : Nat) : Int) := by have := HH.out.2.2.2; unfold wrap64; omega
      have HW := hide (And.intro hlt (And.intro hwi (kwr.andNu ka)))
      generalize StU.hs m.1 (delAll (R.take i) M) = bb at *
      generalize m.1 = mk at *
      obtain ⟨pk, ⟨pa, pn, pcc⟩⟩ := p
      clear hm hp hfv hcd hsh kwr ka e HI hlt hiK hwi
      go_wp2_with (go_at_call 130; refine DA.mono ?_; rintro e w3 ⟨rfl, h3, k3⟩)
      have HF : Hid (∃ t', Sh w3 sb mb most t' (delAll (R.take (i + 1)) M) ∧ Kp (Sm sb mb) w2 w3) := by
        obtain ⟨t'', e1⟩ := h3
        exact ⟨t'', e1, HW.out.2.2.trans k3 (fun _ _ e => e)⟩
      clear h3 k3 DA
      go_wp2
      exact ⟨⟨i + 1, by rw [HW.out.2.1], HW.out.1, HF⟩, lt_mi HW.out.2.1 HW.out.1⟩
    · obtain rfl : i = K := by omega
      rw [List.take_of_length_le (by rw [HH.out.2.2.1]; exact Nat.le_refl _), ← HH.out.2.1, delAll_rg HH.out.1.ris] at hsh
      have hnl : ¬ (i : Int) < (i : Int) := by omega
      have HZ := hide (And.intro hcd (And.intro hsh ((h2.out.2.mono (fun _ _ e => e.elim)).trans kwr (fun _ _ e => e))))
      clear hcd hsh kwr HI hlt hiK
      go_wp2
      go_ret2
      exact ⟨gk, L, i, rfl, HH.out.2.2.1.symm, HZ.out.1, ⟨t', HZ.out.2.1⟩, HZ.out.2.2⟩
end
end Go.Proofs.Ytchealdgncgjoaa.StU
