import Derived.Test.YtchealdgncgjoaaDhA
namespace Go.Proofs.Ytchealdgncgjoaa.StU
open Go.RowKit Go.Proofs.Ytchealdgncgjoaa.St Go.Shelf
set_option linter.unusedVariables false
theorem hs_filter (p : Int → Bool) (x : Int) (M : List KV) : hs x (M.filter (fun m => p m.1)) = (hs x M && p x) := by
  unfold hs
  rw [List.any_filter]
  rw [Bool.eq_iff_iff, List.any_eq_true, Bool.and_eq_true, List.any_eq_true]
  constructor
  · rintro ⟨m, hm, h⟩
    rw [Bool.and_eq_true] at h
    have e : m.1 = x := by simpa using h.2
    exact ⟨⟨m, hm, h.2⟩, by rw [← e]; exact h.1⟩
  · rintro ⟨⟨m, hm, h⟩, h2⟩
    have e : m.1 = x := by simpa using h
    exact ⟨m, hm, by rw [Bool.and_eq_true]; exact ⟨by rw [e]; exact h2, h⟩⟩
theorem gt_filter {M : List KV} (h : Ris M) (p : Int → Bool) (x : Int) (hx : hs x M = true) (hp : p x = true) : gtM x (M.filter (fun m => p m.1)) = gtM x M := by
  obtain ⟨m, hm, e, g⟩ := h.at_key hx
  have hm' : m ∈ M.filter (fun m => p m.1) := List.mem_filter.2 ⟨hm, by rw [e]; exact hp⟩
  have hr : Ris (M.filter (fun m => p m.1)) := List.Pairwise.sublist List.filter_sublist h
  have := (hr.get hm').2
  rw [e] at this
  rw [this, g]
/-- Delete is taking the key's pair out -/
theorem del_filter {M : List KV} (h : Ris M) (k : Int) : delM k M = M.filter (fun m => !decide (m.1 = k)) := by
  unfold delM
  split
  · rename_i hk
    obtain ⟨m, hm, e, gg⟩ := h.at_key hk
    obtain ⟨i, hi⟩ := List.mem_iff_getElem?.1 hm
    have hp := h.pl hi
    rw [e] at hp
    rw [hp]
    clear hk hm hp gg
    induction M generalizing i with
    | nil => simp at hi
    | cons a M ih =>
      obtain ⟨h1, h2⟩ := List.pairwise_cons.1 h
      cases i with
      | zero =>
        simp at hi; subst hi
        rw [List.filter_cons, if_neg (by simp [e])]
        show M = _
        symm
        refine List.filter_eq_self.2 (fun b hb => ?_)
        have := h1 b hb
        simp; omega
      | succ i =>
        have hi : M[i]? = some m := by simpa using hi
        have := h1 m (List.mem_of_getElem? hi)
        rw [List.filter_cons, if_pos (by simp; omega), List.eraseIdx_cons_succ, ih h2 i hi]
  · rename_i hk
    symm
    refine List.filter_eq_self.2 (fun b hb => ?_)
    have : hs k M = false := by simpa using hk
    unfold hs at this
    have := List.any_eq_false.1 this b hb
    simpa using this
theorem hs_del {M : List KV} (h : Ris M) (k x : Int) : hs x (delM k M) = (hs x M && !decide (x = k)) := by rw [del_filter h]; exact hs_filter (fun a => !decide (a = k)) x M
theorem ris_filter {M : List KV} (h : Ris M) (p : KV → Bool) : Ris (M.filter p) := List.Pairwise.sublist List.filter_sublist h
theorem ris_del {M : List KV} (h : Ris M) (k : Int) : Ris (delM k M) := by rw [del_filter h]; exact ris_filter h _
theorem sumB_part (p : KV → Bool) : ∀ M : List KV, sumB (M.filter p) + sumB (M.filter (fun m => !p m)) = sumB M
  | [] => rfl
  | a :: M => by
    have := sumB_part p M
    rw [List.filter_cons, List.filter_cons]
    cases p a <;> simp [sumB_cons] <;> omega
theorem len_part (p : KV → Bool) : ∀ M : List KV, (M.filter p).length + (M.filter (fun m => !p m)).length = M.length
  | [] => rfl
  | a :: M => by
    have := len_part p M
    rw [List.filter_cons, List.filter_cons]
    cases p a <;> simp <;> omega
theorem delM_length {M : List KV} (k : Int) : (delM k M).length = if hs k M then M.length - 1 else M.length := by
  unfold delM
  split
  · rename_i hk
    rw [List.length_eraseIdx]
    have : pl k M < M.length := by
      unfold hs at hk
      obtain ⟨m, hm, e⟩ := List.any_eq_true.1 hk
      have e : m.1 = k := by simpa using e
      unfold pl
      rcases Nat.lt_or_ge (M.countP (fun m => decide (m.1 < k))) M.length with h | h
      · exact h
      · have h2 := List.countP_eq_length.1 (Nat.le_antisymm List.countP_le_length h) m hm
        have h2 : m.1 < k := by simpa using h2
        omega
    rw [if_pos this]
  · rfl
section
variable {w : World} {sb mb : Nat} {most : Int} {t : T (Int × Sv)} {M : List KV}
set_option maxHeartbeats 400000 in
theorem bytes65 (h : Sh w sb mb most t M) : Calls Try.prog 65 #[.pointer (some ⟨sb, 0, none⟩)] w fun e w' => e = .returned (.int .i64 (sumB M : Int)) ∧ w' = w := by
  have c2 := (cell3 h.box).2.1
  generalize (sumB M : Int) = z at *
  clear h
  go_enter Try.func65, Try.ntmps65
  go_wp2
  go_ret
  exact ⟨rfl, rfl⟩
set_option maxRecDepth 100000 in
set_option maxHeartbeats 2000000 in
theorem del130 (h : Sh w sb mb most t M) (k : Int) :
    Calls Try.prog 130 #[.pointer (some ⟨sb, 0, none⟩), .int .u64 k] w fun e w' => e = .returned (.bool (hs k M)) ∧ (∃ t', Sh w' sb mb most t' (delM k M)) ∧ Kp (Sm sb mb) w w' := by
  have HA := held_any h
  have DA := StU.del_any h.m k (by have := h.small; omega)
  rw [h.hs] at DA
  have HX : ∀ W', Kp (fun i => i = mb) w W' → W'.heap[sb]? = some (.cells #[.int .i64 most, .int .i64 (sumB M : Int), .pointer (some ⟨mb, 0, none⟩)] 172 (0, 0)) := fun W' p => (p.block _ (blk_lt h.box) h.ne).trans h.box
  have HO : ∃ a0 n0 k0, ov (getT k t) = .slice a0 n0 k0 ∧ n0 = (gtM k M).length := by
    cases hk : StU.hs k M with
    | true =>
      obtain ⟨p, m, eg, _, hm, hf, _⟩ := h.yes hk
      exact ⟨p.2.a, p.2.n, p.2.c, by rw [eg]; rfl, by rw [gtM_yes hk hm]; exact hf.n⟩
    | false => exact ⟨none, 0, 0, by rw [h.no hk]; rfl, by rw [gtM_no hk]; rfl⟩
  obtain ⟨a0, n0, k0, ec, en⟩ := HO
  rw [ec] at DA
  have hsum := delM_sum (k := k) h
  have hle := h.sum
  rw [← en] at hsum
  have hS5 : ∀ i c, Sm sb mb i → w.heap[i]? ≠ some (.cells c 5 (0, 0)) := fun i c hs hc => by
    obtain ⟨am0, hm01, _⟩ := h.m.ex
    rcases hs with rfl | rfl
    · rw [h.box] at hc; cases hc
    · rw [hm01] at hc; cases hc
  have FIN : Hid (∀ (W' : World) (x : Int), Kp (fun i => i = mb) w W' → Mp W' mb (delT k t) → x = (sumB (delM k M) : Int) → Sh (W'.setCell ⟨sb, 1, none⟩ (.int .i64 x)) sb mb most (delT k t) (delM k M) ∧ Kp (Sm sb mb) w (W'.setCell ⟨sb, 1, none⟩ (.int .i64 x))) := fun W' x p hm ex => by
    have hb := HX W' p
    have hne := h.ne
    have k1 : Kp (Sm sb mb) w (W'.setCell ⟨sb, 1, none⟩ (.int .i64 x)) := (p.mono (fun _ _ e => .inr e)).trans (Kp.setCell _ _ _) (fun _ _ e => .inl e)
    obtain ⟨am, hm1, hm2⟩ := hm.ex
    have ks := Kp.setCell W' ⟨sb, 1, none⟩ (.int .i64 x)
    refine ⟨⟨box_set hb ex, ⟨⟨am, (ks.block _ (blk_lt hm1) (fun e => hne e.symm)).trans hm1, hm2.keep (Kn.of ks (fun b c hbb e => by have e : b = sb := e; rw [e, hb] at hbb; cases hbb))⟩, hm.bal, hm.srt⟩,
      del_F2 h (h.vs.imp (fun p m hf => hf.keep k1 hS5)), ?_, h.mo⟩, k1⟩
    rw [delM_length]
    have := h.lm
    split <;> omega
  have FIN0 : Hid (StU.hs k M = false → ∀ (W' : World), Kp (fun i => i = mb) w W' → Mp W' mb (delT k t) → Sh W' sb mb most (delT k t) (delM k M) ∧ Kp (Sm sb mb) w W') := fun hk W' p hm => by
    have hb := HX W' p
    have k1 : Kp (Sm sb mb) w W' := p.mono (fun _ _ e => .inr e)
    have e : delM k M = M := by unfold delM; rw [hk]; rfl
    refine ⟨⟨by rw [e]; exact hb, hm, del_F2 h (h.vs.imp (fun p m hf => hf.keep k1 hS5)), by rw [e]; exact h.lm, h.mo⟩, k1⟩
  obtain ⟨S0, eS⟩ : ∃ S0 : Int, (sumB M : Int) = S0 := ⟨_, rfl⟩
  rw [eS] at HX
  obtain ⟨S1, eS1⟩ : ∃ S1 : Int, (sumB (delM k M) : Int) = S1 := ⟨_, rfl⟩
  rw [eS1] at FIN
  have HE : Hid (S1 = S0 - (n0 : Int) ∧ 0 ≤ S1 ∧ S0 ≤ 2097152) := by refine ⟨?_, ?_, ?_⟩ <;> omega
  cases hb : StU.hs k M with
  | true =>
    rw [hb] at DA
    clear h hsum hle hS5 ec en eS eS1 hb FIN0
    go_enter Try.func130, Try.ntmps130
    go_wp2_with (first
      | (go_at_call 114; refine HA.mono ?_; rintro e w' ⟨rfl, hw⟩; obtain rfl := hw.symm)
      | (go_at_call 179; refine DA.mono ?_; rintro e w3 ⟨rfl, m3, k3⟩; have x3 := HX _ k3; obtain ⟨y0, y1, y2⟩ := cell3 x3; have f3 := free3 x3 1))
    go_ret
    have hF := fun x hx => FIN.out w3 x k3 m3 hx
    refine ⟨rfl, ⟨_, (hF _ ?_).1⟩, (hF _ ?_).2⟩
    all_goals (have h1 := HE.out; first | omega | (unfold wrap64; omega))
  | false =>
    rw [hb] at DA
    have HB := hide hb
    clear h hsum hle hS5 ec en eS eS1 hb FIN
    go_enter Try.func130, Try.ntmps130
    go_wp2_with (first
      | (go_at_call 114; refine HA.mono ?_; rintro e w' ⟨rfl, hw⟩; obtain rfl := hw.symm)
      | (go_at_call 179; refine DA.mono ?_; rintro e w3 ⟨rfl, m3, k3⟩))
    go_ret
    obtain ⟨f1, f2⟩ := FIN0.out HB.out w3 k3 m3
    exact ⟨rfl, ⟨_, f1⟩, f2⟩
end
end Go.Proofs.Ytchealdgncgjoaa.StU
