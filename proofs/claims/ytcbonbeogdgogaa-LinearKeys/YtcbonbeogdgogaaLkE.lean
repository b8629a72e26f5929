import Derived.Test.YtcbonbeogdgogaaLkD
namespace Go.Proofs.Ytcbonbeogdgogaa.Li
open Go.RowKit
set_option linter.unusedVariables false
theorem fuel_le {X st st2 f : Nat} (h : X ≤ st + (f + 1)) (h2 : st < st2) : X ≤ st2 + f := by omega
theorem w64 {x : Int} (h0 : 0 ≤ x) (h1 : x ≤ 1114112) : wrap64 x = x ∧ IntKind.i64.wrap x = x := by
  refine ⟨by unfold wrap64; omega, ?_⟩
  rw [IntKind.wrap_i64]
  omega
theorem ix_ne {N st st2 s s2 A : Nat} (e : st * (N + 1) + s = A) (h : st < st2) (hs : s ≤ N) : st2 * (N + 1) + s2 ≠ A := by
  have := ix_lt (N := N) h hs
  omega
theorem snd_up {L : List Ca} {dd : Nat → Nat} {st s A v : Nat} (hS : Snd L dd st) (hs : s ≤ L.length) (e : st * (L.length + 1) + s = A) : Snd L (upd8 dd A v) (st + 1) := fun st2 s2 h1 h2 h3 => by
  have hne := ix_ne (s2 := s2) e (show st < st2 by omega) hs
  have e2 : upd8 dd A v (st2 * (L.length + 1) + s2) = dd (st2 * (L.length + 1) + s2) := by unfold upd8; rw [if_neg hne]
  rw [e2]
  exact hS st2 s2 (by omega) h2 h3
theorem upd_self (dd : Nat → Nat) (A v : Nat) : upd8 dd A v A = v := by unfold upd8; rw [if_pos rfl]
theorem upd_two (dd : Nat → Nat) (A : Nat) : upd8 (upd8 dd A 2) A 1 = upd8 dd A 1 := by
  funext x
  unfold upd8
  split <;> rfl
theorem upd_ne {dd : Nat → Nat} {A v k : Nat} (h : k ≠ A) : upd8 dd A v k = dd k := by unfold upd8; rw [if_neg h]
/-- the rounds begin: the set is complete -/
theorem FI.yes {w0 w wC : World} {b bt : Nat} {u : Value} {L : List Ca} {dd : Nat → Nat} {st s A : Nat} (hT : Tm w0 wC b bt u L (upd8 dd A 2)) (hk : Kp (fun x => x = bt) w wC) (hS : Snd L dd st) (hs : s ≤ L.length) (hA : A < Mx L) (e : st * (L.length + 1) + s = A) (hc : subs (schOf L).must st) :
    FI w0 w (wC.setCell ⟨bt, A, none⟩ (.int .u8 1)) b bt u L dd (upd8 dd A 1) st s 0 := by
  have hT3 := hT.set (k := A) (v := 1) hA (by omega)
  rw [upd_two] at hT3
  refine ⟨hT3, hk.trans (Kp.setCell wC ⟨bt, A, none⟩ _) (fun x hx e => e), fun k hk hne => ?_, snd_up hS hs e, fun _ => .done hc, fun h2 => ?_, ?_⟩
  · rw [e] at hne; exact upd_ne hne
  · rw [e, upd_self] at h2; cases h2
  · rw [e, upd_self]; exact .inl rfl
/-- .. it is not -/
theorem FI.not_ {w0 w wC : World} {b bt : Nat} {u : Value} {L : List Ca} {dd : Nat → Nat} {st s A : Nat} (hT : Tm w0 wC b bt u L (upd8 dd A 2)) (hk : Kp (fun x => x = bt) w wC) (hS : Snd L dd st) (hs : s ≤ L.length) (e : st * (L.length + 1) + s = A) (hc : ¬ subs (schOf L).must st) :
    FI w0 w wC b bt u L dd (upd8 dd A 2) st s 0 := by
  refine ⟨hT, hk, fun k hk hne => ?_, snd_up hS hs e, fun h1 => ?_, fun h2 => ⟨hc, fun j hj => by omega⟩, ?_⟩
  · rw [e] at hne; exact upd_ne hne
  · rw [e, upd_self] at h1; cases h1
  · rw [e, upd_self]; exact .inr rfl
/-- a call that can't come next -/
theorem FI.skip {w0 w wr wx : World} {b bt : Nat} {u : Value} {L : List Ca} {dd di : Nat → Nat} {st s i : Nat} (h : FI w0 w wr b bt u L dd di st s i) (k : Kp Nu wr wx) (hno : ∀ a, (schOf L).may st i → (schOf L).T i s ≠ some a) : FI w0 w wx b bt u L dd di st s (i + 1) := by
  refine ⟨h.tm.nu k, h.kp.andNu k, h.low, h.snd, h.one, fun h2 => ⟨(h.two h2).1, fun j hj hm a ha => ?_⟩, h.any⟩
  by_cases e : j = i
  · subst e; exact absurd ha (hno a hm)
  · exact (h.two h2).2 j (by omega) hm a ha
/-- a call that was tried -/
theorem FI.tried {w0 w wr wx wy : World} {b bt : Nat} {u : Value} {L : List Ca} {dd di dj : Nat → Nat} {st s i m : Nat} (h : FI w0 w wr b bt u L dd di st s i) (hs : s ≤ L.length) (k : Kp Nu wr wx) (hT : Tm w0 wy b bt u L dj) (hk : Kp (fun x => x = bt) wx wy) (hgt : st < st ||| 2 ^ i) (hS : Snd L dj (st ||| 2 ^ i)) (hlow : ∀ k, k < (st ||| 2 ^ i) * (L.length + 1) → dj k = di k) (hno : ¬ Can (schOf L) (st ||| 2 ^ i) m) (hT2 : (schOf L).T i s = some m) : FI w0 w wy b bt u L dd dj st s (i + 1) := by
  have hrow : ∀ k, k < (st + 1) * (L.length + 1) → dj k = di k := fun k hk => hlow k (Nat.lt_of_lt_of_le hk (Nat.mul_le_mul_right _ hgt))
  have hA : dj (st * (L.length + 1) + s) = di (st * (L.length + 1) + s) := hrow _ (ix_lt (Nat.lt_succ_self st) hs)
  refine ⟨hT, (h.kp.andNu k).trans hk (fun x hx e => e), fun k hk hne => by rw [hrow k hk]; exact h.low k hk hne, fun st2 s2 h1 h2 h3 => ?_, fun h1 => h.one (by rw [← hA]; exact h1), fun h2 => ?_, by rw [hA]; exact h.any⟩
  · by_cases e : st ||| 2 ^ i ≤ st2
    · exact hS st2 s2 e h2 h3
    · rw [hlow _ (ix_lt (by omega) h3)]
      exact h.snd st2 s2 h1 h2 h3
  · rw [hA] at h2
    refine ⟨(h.two h2).1, fun j hj hm a ha => ?_⟩
    by_cases e : j = i
    · subst e
      rw [hT2] at ha
      cases ha
      exact hno
    · exact (h.two h2).2 j (by omega) hm a ha
/-- a call that led to the end -/
theorem FI.found {w0 w wr wx wy : World} {b bt : Nat} {u : Value} {L : List Ca} {dd di dj : Nat → Nat} {st s i m A : Nat} (h : FI w0 w wr b bt u L dd di st s i) (hs : s ≤ L.length) (hA : A < Mx L) (e : st * (L.length + 1) + s = A) (k : Kp Nu wr wx) (hT : Tm w0 wy b bt u L dj) (hk : Kp (fun x => x = bt) wx wy) (hgt : st < st ||| 2 ^ i) (hS : Snd L dj (st ||| 2 ^ i)) (hlow : ∀ k, k < (st ||| 2 ^ i) * (L.length + 1) → dj k = di k) (hmay : (schOf L).may st i) (hc : Can (schOf L) (st ||| 2 ^ i) m) (hT2 : (schOf L).T i s = some m) : FI w0 w (wy.setCell ⟨bt, A, none⟩ (.int .u8 1)) b bt u L dd (upd8 dj A 1) st s (i + 1) := by
  have hrow : ∀ k, k < (st + 1) * (L.length + 1) → dj k = di k := fun k hk => hlow k (Nat.lt_of_lt_of_le hk (Nat.mul_le_mul_right _ hgt))
  refine ⟨hT.set (v := 1) hA (by omega), ((h.kp.andNu k).trans hk (fun x hx e => e)).trans (Kp.setCell wy ⟨bt, A, none⟩ _) (fun x hx e => e), fun k hk hne => ?_, fun st2 s2 h1 h2 h3 => ?_, fun _ => .step i m hmay hT2 hc, fun h2 => ?_, ?_⟩
  · rw [e] at hne
    rw [upd_ne hne, hrow k hk]
    exact h.low k hk (by rw [e]; exact hne)
  · rw [upd_ne (ix_ne (s2 := s2) e (show st < st2 by omega) hs)]
    by_cases e : st ||| 2 ^ i ≤ st2
    · exact hS st2 s2 e h2 h3
    · rw [hlow _ (ix_lt (by omega) h3)]
      exact h.snd st2 s2 h1 h2 h3
  · rw [e, upd_self] at h2; cases h2
  · rw [e, upd_self]; exact .inl rfl
set_option maxRecDepth 100000 in
set_option maxHeartbeats 4000000 in
theorem find80 {w0 : World} {b bt : Nat} {u : Value} {L : List Ca} (hL : Cls w0 u L) (hM : AllMB L) (hN : L.length ≤ 16) : ∀ (f st : Nat), 2 ^ L.length ≤ st + f → ∀ (w : World) (s : Nat) (dd : Nat → Nat), st < 2 ^ L.length → s ≤ L.length → Tm w0 w b bt u L dd → Snd L dd st →
    Calls Try.prog 80 #[.pointer (some ⟨b, 0, none⟩), .int .i64 (st : Int), .int .i64 (s : Int)] w fun e w' => FiR w0 w b bt u L dd st s e w' := by
  obtain ⟨ua, uc, rfl⟩ := hL.slice
  obtain ⟨N, eN⟩ : ∃ N, L.length = N := ⟨_, rfl⟩
  obtain ⟨M, eM⟩ : ∃ M, Mx L = M := ⟨_, rfl⟩
  intro f
  induction f with
  | zero => intro st h1 w s dd h2; omega
  | succ f ih =>
  intro st hf w s dd hst hs hT hS
  have hst6 : st < 65536 := Nat.lt_of_lt_of_le hst (two16 hN)
  obtain ⟨P, eP⟩ : ∃ P, st * (L.length + 1) = P := ⟨_, rfl⟩
  obtain ⟨A, eA⟩ : ∃ A, P + s = A := ⟨_, rfl⟩
  have hAM : A < Mx L := by rw [← eA, ← eP]; exact ix_mx hst hs
  have hM17 := mx_le hN
  have hPI : (st : Int) * ((N : Int) + 1) = (P : Int) := by rw [← eP, eN]; simp
  have hAI : (P : Int) + (s : Int) = (A : Int) := by rw [← eA]; simp
  have hMI : (M : Int) ≤ 1114112 := by omega
  have hAMI : (A : Int) < (M : Int) := by omega
  have hA0 : (0 : Int) ≤ (A : Int) := by omega
  have hP0 : (0 : Int) ≤ (P : Int) := by omega
  have hPA : (P : Int) ≤ (A : Int) := by omega
  have etA : (A : Int).toNat = A := by omega
  have hNI : (N : Int) ≤ 16 := by omega
  obtain ⟨w1, w3⟩ := w64 hP0 (by omega)
  obtain ⟨w2, w4⟩ := w64 hA0 (by omega)
  have eIx : st * (L.length + 1) + s = A := by rw [eP, eA]
  have HA := hide (And.intro hL (And.intro hM (And.intro hN (And.intro eN (And.intro eM (And.intro hst (And.intro hs (And.intro hT (And.intro hS (And.intro hf (And.intro ih (And.intro hst6 (And.intro hAM eIx)))))))))))))
  obtain ⟨a0, af⟩ := hT.at_ hAM
  have hdle := hT.le A
  have t0 := cellAt hT.box 0 (v := .slice ua L.length uc) rfl
  have t1 := cellAt hT.box 1 (v := .slice (some ⟨bt, 0, none⟩) (Mx L) (Mx L)) rfl
  rw [eN] at t0
  rw [eM] at t1
  clear hL hM hN hst hs hT hS hf ih hst6 hAM hM17 eIx eP eA eN eM
  have hcase : dd A = 0 ∨ dd A = 1 ∨ dd A = 2 := by omega
  rcases hcase with h0 | h0 | h0
  rotate_left
  · have HQ := hide h0
    rw [h0] at a0
    clear h0 hdle
    go_enter Try.func80, Try.ntmps80
    go_wp2
    go_ret
    obtain ⟨q1, q2, q3, q4, q5, q6, q7, q8, q9, q10, q11, q12, q13, q14⟩ := HA.out
    refine ⟨true, dd, rfl, q8, Kp.refl _ _, q9, fun _ _ => rfl, ?_⟩
    simp only [true_iff]
    exact (q9 st s (Nat.le_refl _) q6 q7).1 (by rw [q14]; exact HQ.out)
  · have HQ := hide h0
    rw [h0] at a0
    clear h0 hdle
    go_enter Try.func80, Try.ntmps80
    go_wp2
    go_ret
    obtain ⟨q1, q2, q3, q4, q5, q6, q7, q8, q9, q10, q11, q12, q13, q14⟩ := HA.out
    refine ⟨false, dd, rfl, q8, Kp.refl _ _, q9, fun _ _ => rfl, ?_⟩
    refine ⟨(fun h => by cases h), fun hc => absurd hc ((q9 st s (Nat.le_refl _) q6 q7).2 (by rw [q14]; exact HQ.out))⟩
  rw [h0] at a0
  have HQ := hide h0
  clear h0 hdle
  have hT1 := HA.out.2.2.2.2.2.2.2.1.set (v := 2) HA.out.2.2.2.2.2.2.2.2.2.2.2.2.1 (by omega)
  obtain ⟨wS, eS⟩ : ∃ wS, w.setCell ⟨bt, A, none⟩ (.int .u8 2) = wS := ⟨_, rfl⟩
  have eS' : w.setCell ⟨bt, A, none⟩ (.int .u8 ((2 : Nat) : Int)) = wS := eS
  rw [eS'] at hT1
  have kS : Kp (fun x => x = bt) w wS := by rw [← eS]; exact Kp.setCell w ⟨bt, A, none⟩ (.int .u8 2)
  have CO := complete81 w0 wS hT1.kp b _ _ L HA.out.1 hT1.box st HA.out.2.2.2.2.2.2.2.2.2.2.2.1 HA.out.2.2.1
  have H1 := hide (And.intro hT1 kS)
  clear hT1 kS eS'
  go_enter Try.func80, Try.ntmps80
  go_wp2_with fail
  try rw [eS]
  refine CO.mono ?_; rintro e wC ⟨⟨bc, rfl, hbc⟩, hkC⟩
  have hT2 := H1.out.1.nu hkC
  have kC : Kp (fun x => x = bt) w wC := H1.out.2.andNu hkC
  have HC := hide (And.intro hT2 (And.intro kC hbc))
  clear CO hkC kC hbc a0 af t0 t1
  obtain ⟨aC, fC⟩ := HC.out.1.at_ HA.out.2.2.2.2.2.2.2.2.2.2.2.2.1
  rw [upd_self] at aC
  have tC1 := cellAt HC.out.1.box 1 (v := .slice (some ⟨bt, 0, none⟩) (Mx L) (Mx L)) rfl
  rw [HA.out.2.2.2.2.1] at tC1
  cases bc with
  | false =>
    obtain ⟨d0, HF⟩ : ∃ d0, Hid (FI w0 w wC b bt (.slice ua L.length uc) L dd d0 st s 0) := ⟨_, hide (FI.not_ HC.out.1 HC.out.2.1 HA.out.2.2.2.2.2.2.2.2.1 HA.out.2.2.2.2.2.2.1 HA.out.2.2.2.2.2.2.2.2.2.2.2.2.2 (fun hc => by have := HC.out.2.2.2 hc; cases this))⟩
    go_wp2
    clear aC fC tC1 HC H1 HQ
    go_loopw [8] (fun iv wr => ∃ (i : Nat) (di : Nat → Nat), iv = .int .i64 (i : Int) ∧ i ≤ N ∧ Hid (FI w0 w wr b bt (.slice ua L.length uc) L dd di st s i)) (fun iv _ => N - (intOf iv).toNat)
    case atStart => exact ⟨0, d0, rfl, Nat.zero_le _, HF⟩
    case round =>
      clear HF
      obtain ⟨i, di, rfl, hi, hI⟩ := hrel
      have hi0 : (0 : Int) ≤ (i : Int) := by omega
      obtain ⟨aI, fI⟩ := hI.out.tm.at_ HA.out.2.2.2.2.2.2.2.2.2.2.2.2.1
      have tI0 := cellAt hI.out.tm.box 0 (v := .slice ua L.length uc) rfl
      have tI1 := cellAt hI.out.tm.box 1 (v := .slice (some ⟨bt, 0, none⟩) (Mx L) (Mx L)) rfl
      rw [HA.out.2.2.2.1] at tI0
      rw [HA.out.2.2.2.2.1] at tI1
      have hany := hI.out.any
      rw [HA.out.2.2.2.2.2.2.2.2.2.2.2.2.2] at hany
      by_cases hlt : i < N
      · have hltI : (i : Int) < (N : Int) := by omega
        rcases hany with h1 | h2
        · have HX : Hid (FiR w0 w b bt (.slice ua L.length uc) L dd st s (.returned (.bool true)) wr) := hide (by
            have q := hI.out.fin HA.out.2.2.2.2.2.2.2.2.1 HA.out.2.2.2.2.2.1 HA.out.2.2.2.2.2.2.1 (fun h => by rw [HA.out.2.2.2.2.2.2.2.2.2.2.2.2.2, h1] at h; cases h)
            rw [HA.out.2.2.2.2.2.2.2.2.2.2.2.2.2, h1] at q
            exact q)
          rw [h1] at aI
          clear h1
          go_wp2
          go_ret
          exact HX.out
        · have H2 := hide h2
          rw [h2] at aI
          clear h2
          have hi32 : (i : Int) ≤ 32 := by omega
          have eti : (i : Int).toNat = i := by omega
          have NX := next82 w0 wr hI.out.tm.kp b _ _ L HA.out.1 HA.out.2.1 hI.out.tm.box st s i HA.out.2.2.2.2.2.1 HA.out.2.2.2.2.2.2.1 (by rw [HA.out.2.2.2.1]; exact hlt) HA.out.2.2.1
          go_wp2_with fail
          refine NX.mono ?_; rintro e wn ⟨⟨ok, m, rfl, hmN, hyes, hno⟩, hkn⟩
          cases ok with
          | false =>
            have HF2 := hide (hI.out.skip hkn (hno rfl))
            clear NX hmN hyes hno hkn aI fI tI0 tI1
            go_wp2
            exact ⟨⟨i + 1, di, by go_num, by omega, HF2⟩, by simp [intOf]; omega⟩
          | true =>
            obtain ⟨hmay, hTm⟩ := hyes rfl
            have hgt := put_gt hmay.2.1
            have hlt2 := put_lt HA.out.2.2.2.2.2.1 hmay.1
            have hor := or_add hmay.2.1 HA.out.2.2.2.2.2.2.2.2.2.2.2.1 (by omega)
            obtain ⟨G, eG⟩ : ∃ G, 2 ^ i = G := ⟨_, rfl⟩
            obtain ⟨st2, eT⟩ : ∃ st2, st ||| 2 ^ i = st2 := ⟨_, rfl⟩
            have hst2 : st2 < 65536 := by rw [← eT]; exact Nat.lt_of_lt_of_le hlt2 (two16 HA.out.2.2.1)
            have eGI : (2 : Int) ^ i = (G : Int) := by rw [← eG]; simp
            have eTI : (st : Int) + (G : Int) = (st2 : Int) := by rw [← eT, ← hor, eG]; simp
            have hG0 : (0 : Int) ≤ (G : Int) := by omega
            have hT0 : (0 : Int) ≤ (st2 : Int) := by omega
            have hG1 : (G : Int) ≤ 1114112 := by omega
            have hT1 : (st2 : Int) ≤ 1114112 := by omega
            obtain ⟨v1, v2⟩ := w64 hG0 hG1
            obtain ⟨v3, v4⟩ := w64 hT0 hT1
            have IH := HA.out.2.2.2.2.2.2.2.2.2.2.1 st2 (fuel_le HA.out.2.2.2.2.2.2.2.2.2.1 (by rw [← eT]; exact hgt)) wn m di (by rw [← eT]; exact hlt2) hmN (hI.out.tm.nu hkn) (fun a c h1 h2 h3 => hI.out.snd a c (Nat.le_trans (Nat.succ_le_of_lt hgt) (by rw [eT]; exact h1)) h2 h3)
            have HN := hide (And.intro hmay (And.intro hTm (And.intro hgt (And.intro hkn eT))))
            clear NX hmN hyes hno hkn aI fI tI0 tI1 hmay hTm hgt hlt2 hor eG eT hst2
            go_wp2_with fail
            refine IH.mono ?_; rintro e wf ⟨r, dj, rfl, hTj, hkj, hSj, hlowj, hr⟩
            rw [← HN.out.2.2.2.2] at hSj hlowj hr
            cases r with
            | false =>
              have HF2 := hide (hI.out.tried HA.out.2.2.2.2.2.2.1 HN.out.2.2.2.1 hTj hkj HN.out.2.2.1 hSj hlowj (fun hc => by have := hr.2 hc; cases this) HN.out.2.1)
              clear IH hTj hkj hSj hlowj hr
              go_wp2
              exact ⟨⟨i + 1, dj, by go_num, by omega, HF2⟩, by simp [intOf]; omega⟩
            | true =>
              have HF2 := hide (hI.out.found HA.out.2.2.2.2.2.2.1 HA.out.2.2.2.2.2.2.2.2.2.2.2.2.1 HA.out.2.2.2.2.2.2.2.2.2.2.2.2.2 HN.out.2.2.2.1 hTj hkj HN.out.2.2.1 hSj hlowj HN.out.1 (hr.1 rfl) HN.out.2.1)
              obtain ⟨aJ, fJ⟩ := hTj.at_ HA.out.2.2.2.2.2.2.2.2.2.2.2.2.1
              have tJ1 := cellAt hTj.box 1 (v := .slice (some ⟨bt, 0, none⟩) (Mx L) (Mx L)) rfl
              rw [HA.out.2.2.2.2.1] at tJ1
              clear IH hTj hkj hSj hlowj hr
              go_wp2
              exact ⟨⟨i + 1, _, by go_num, by omega, HF2⟩, by simp [intOf]; omega⟩
      · have hge : ¬ (i : Int) < (N : Int) := by omega
        have hiN : i = L.length := by have := HA.out.2.2.2.1; omega
        rcases hany with h1 | h2
        · have HX : Hid (FiR w0 w b bt (.slice ua L.length uc) L dd st s (.returned (.bool true)) wr) := hide (by
            have q := hI.out.fin HA.out.2.2.2.2.2.2.2.2.1 HA.out.2.2.2.2.2.1 HA.out.2.2.2.2.2.2.1 (fun h => hiN)
            rw [HA.out.2.2.2.2.2.2.2.2.2.2.2.2.2, h1] at q
            exact q)
          rw [h1] at aI
          clear h1 hiN
          go_wp2
          go_ret
          exact HX.out
        · have HX : Hid (FiR w0 w b bt (.slice ua L.length uc) L dd st s (.returned (.bool false)) wr) := hide (by
            have q := hI.out.fin HA.out.2.2.2.2.2.2.2.2.1 HA.out.2.2.2.2.2.1 HA.out.2.2.2.2.2.2.1 (fun h => hiN)
            rw [HA.out.2.2.2.2.2.2.2.2.2.2.2.2.2, h2] at q
            exact q)
          rw [h2] at aI
          clear h2 hiN
          go_wp2
          go_ret
          exact HX.out
  | true =>
    have HF0 := FI.yes HC.out.1 HC.out.2.1 HA.out.2.2.2.2.2.2.2.2.1 HA.out.2.2.2.2.2.2.1 HA.out.2.2.2.2.2.2.2.2.2.2.2.2.1 HA.out.2.2.2.2.2.2.2.2.2.2.2.2.2 (HC.out.2.2.1 rfl)
    obtain ⟨wX, eX⟩ : ∃ wX, wC.setCell ⟨bt, A, none⟩ (.int .u8 1) = wX := ⟨_, rfl⟩
    rw [eX] at HF0
    obtain ⟨d0, HF⟩ : ∃ d0, Hid (FI w0 w wX b bt (.slice ua L.length uc) L dd d0 st s 0) := ⟨_, hide HF0⟩
    clear HF0
    go_wp2
    try rw [eX]
    clear eX
    clear aC fC tC1 HC H1 HQ
    go_loopw [8] (fun iv wr => ∃ (i : Nat) (di : Nat → Nat), iv = .int .i64 (i : Int) ∧ i ≤ N ∧ Hid (FI w0 w wr b bt (.slice ua L.length uc) L dd di st s i)) (fun iv _ => N - (intOf iv).toNat)
    case atStart => exact ⟨0, d0, rfl, Nat.zero_le _, HF⟩
    case round =>
      clear HF
      obtain ⟨i, di, rfl, hi, hI⟩ := hrel
      have hi0 : (0 : Int) ≤ (i : Int) := by omega
      obtain ⟨aI, fI⟩ := hI.out.tm.at_ HA.out.2.2.2.2.2.2.2.2.2.2.2.2.1
      have tI0 := cellAt hI.out.tm.box 0 (v := .slice ua L.length uc) rfl
      have tI1 := cellAt hI.out.tm.box 1 (v := .slice (some ⟨bt, 0, none⟩) (Mx L) (Mx L)) rfl
      rw [HA.out.2.2.2.1] at tI0
      rw [HA.out.2.2.2.2.1] at tI1
      have hany := hI.out.any
      rw [HA.out.2.2.2.2.2.2.2.2.2.2.2.2.2] at hany
      by_cases hlt : i < N
      · have hltI : (i : Int) < (N : Int) := by omega
        rcases hany with h1 | h2
        · have HX : Hid (FiR w0 w b bt (.slice ua L.length uc) L dd st s (.returned (.bool true)) wr) := hide (by
            have q := hI.out.fin HA.out.2.2.2.2.2.2.2.2.1 HA.out.2.2.2.2.2.1 HA.out.2.2.2.2.2.2.1 (fun h => by rw [HA.out.2.2.2.2.2.2.2.2.2.2.2.2.2, h1] at h; cases h)
            rw [HA.out.2.2.2.2.2.2.2.2.2.2.2.2.2, h1] at q
            exact q)
          rw [h1] at aI
          clear h1
          go_wp2
          go_ret
          exact HX.out
        · have H2 := hide h2
          rw [h2] at aI
          clear h2
          have hi32 : (i : Int) ≤ 32 := by omega
          have eti : (i : Int).toNat = i := by omega
          have NX := next82 w0 wr hI.out.tm.kp b _ _ L HA.out.1 HA.out.2.1 hI.out.tm.box st s i HA.out.2.2.2.2.2.1 HA.out.2.2.2.2.2.2.1 (by rw [HA.out.2.2.2.1]; exact hlt) HA.out.2.2.1
          go_wp2_with fail
          refine NX.mono ?_; rintro e wn ⟨⟨ok, m, rfl, hmN, hyes, hno⟩, hkn⟩
          cases ok with
          | false =>
            have HF2 := hide (hI.out.skip hkn (hno rfl))
            clear NX hmN hyes hno hkn aI fI tI0 tI1
            go_wp2
            exact ⟨⟨i + 1, di, by go_num, by omega, HF2⟩, by simp [intOf]; omega⟩
          | true =>
            obtain ⟨hmay, hTm⟩ := hyes rfl
            have hgt := put_gt hmay.2.1
            have hlt2 := put_lt HA.out.2.2.2.2.2.1 hmay.1
            have hor := or_add hmay.2.1 HA.out.2.2.2.2.2.2.2.2.2.2.2.1 (by omega)
            obtain ⟨G, eG⟩ : ∃ G, 2 ^ i = G := ⟨_, rfl⟩
            obtain ⟨st2, eT⟩ : ∃ st2, st ||| 2 ^ i = st2 := ⟨_, rfl⟩
            have hst2 : st2 < 65536 := by rw [← eT]; exact Nat.lt_of_lt_of_le hlt2 (two16 HA.out.2.2.1)
            have eGI : (2 : Int) ^ i = (G : Int) := by rw [← eG]; simp
            have eTI : (st : Int) + (G : Int) = (st2 : Int) := by rw [← eT, ← hor, eG]; simp
            have hG0 : (0 : Int) ≤ (G : Int) := by omega
            have hT0 : (0 : Int) ≤ (st2 : Int) := by omega
            have hG1 : (G : Int) ≤ 1114112 := by omega
            have hT1 : (st2 : Int) ≤ 1114112 := by omega
            obtain ⟨v1, v2⟩ := w64 hG0 hG1
            obtain ⟨v3, v4⟩ := w64 hT0 hT1
            have IH := HA.out.2.2.2.2.2.2.2.2.2.2.1 st2 (fuel_le HA.out.2.2.2.2.2.2.2.2.2.1 (by rw [← eT]; exact hgt)) wn m di (by rw [← eT]; exact hlt2) hmN (hI.out.tm.nu hkn) (fun a c h1 h2 h3 => hI.out.snd a c (Nat.le_trans (Nat.succ_le_of_lt hgt) (by rw [eT]; exact h1)) h2 h3)
            have HN := hide (And.intro hmay (And.intro hTm (And.intro hgt (And.intro hkn eT))))
            clear NX hmN hyes hno hkn aI fI tI0 tI1 hmay hTm hgt hlt2 hor eG eT hst2
            go_wp2_with fail
            refine IH.mono ?_; rintro e wf ⟨r, dj, rfl, hTj, hkj, hSj, hlowj, hr⟩
            rw [← HN.out.2.2.2.2] at hSj hlowj hr
            cases r with
            | false =>
              have HF2 := hide (hI.out.tried HA.out.2.2.2.2.2.2.1 HN.out.2.2.2.1 hTj hkj HN.out.2.2.1 hSj hlowj (fun hc => by have := hr.2 hc; cases this) HN.out.2.1)
              clear IH hTj hkj hSj hlowj hr
              go_wp2
              exact ⟨⟨i + 1, dj, by go_num, by omega, HF2⟩, by simp [intOf]; omega⟩
            | true =>
              have HF2 := hide (hI.out.found HA.out.2.2.2.2.2.2.1 HA.out.2.2.2.2.2.2.2.2.2.2.2.2.1 HA.out.2.2.2.2.2.2.2.2.2.2.2.2.2 HN.out.2.2.2.1 hTj hkj HN.out.2.2.1 hSj hlowj HN.out.1 (hr.1 rfl) HN.out.2.1)
              obtain ⟨aJ, fJ⟩ := hTj.at_ HA.out.2.2.2.2.2.2.2.2.2.2.2.2.1
              have tJ1 := cellAt hTj.box 1 (v := .slice (some ⟨bt, 0, none⟩) (Mx L) (Mx L)) rfl
              rw [HA.out.2.2.2.2.1] at tJ1
              clear IH hTj hkj hSj hlowj hr
              go_wp2
              exact ⟨⟨i + 1, _, by go_num, by omega, HF2⟩, by simp [intOf]; omega⟩
      · have hge : ¬ (i : Int) < (N : Int) := by omega
        have hiN : i = L.length := by have := HA.out.2.2.2.1; omega
        rcases hany with h1 | h2
        · have HX : Hid (FiR w0 w b bt (.slice ua L.length uc) L dd st s (.returned (.bool true)) wr) := hide (by
            have q := hI.out.fin HA.out.2.2.2.2.2.2.2.2.1 HA.out.2.2.2.2.2.1 HA.out.2.2.2.2.2.2.1 (fun h => hiN)
            rw [HA.out.2.2.2.2.2.2.2.2.2.2.2.2.2, h1] at q
            exact q)
          rw [h1] at aI
          clear h1 hiN
          go_wp2
          go_ret
          exact HX.out
        · have HX : Hid (FiR w0 w b bt (.slice ua L.length uc) L dd st s (.returned (.bool false)) wr) := hide (by
            have q := hI.out.fin HA.out.2.2.2.2.2.2.2.2.1 HA.out.2.2.2.2.2.1 HA.out.2.2.2.2.2.2.1 (fun h => hiN)
            rw [HA.out.2.2.2.2.2.2.2.2.2.2.2.2.2, h2] at q
            exact q)
          rw [h2] at aI
          clear h2 hiN
          go_wp2
          go_ret
          exact HX.out
end Go.Proofs.Ytcbonbeogdgogaa.Li
