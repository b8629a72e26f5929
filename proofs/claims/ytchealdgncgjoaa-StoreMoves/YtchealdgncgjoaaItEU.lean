import Derived.Test.YtchealdgncgjoaaItDU
namespace Go.Proofs.Ytchealdgncgjoaa.StU
open Go.RowKit Go.Proofs.Ytchealdgncgjoaa.St Go.Shelf Go.Sort Go.Proofs.Ytchealdgncgjoaa.It
attribute [local go_sem] Oper.semAt_some
set_option linter.unusedVariables false
section
variable {J Jx : List (Int × Sv) → World → Prop} {M : List (Int × Sv)} {mb bm bt by_ l r0 : Nat} {t0 : T (Int × Sv)}
theorem pre_of {α : Type} {a b M : List α} (h : a ++ b <+: M) : a <+: M := (List.prefix_append a b).trans h

set_option maxRecDepth 100000 in
set_option maxHeartbeats 2000000 in
theorem walk_in (hY : Rnd J Jx M mb l) (hD : Drw J) : ∀ (t : T (Int × Sv)) (n : Nat) (pre : List (Int × Sv)) (a : Option Addr) (i j : Int) (W : World), Tr W t a → Ev W mb bm bt by_ l t0 r0 → J pre W → pre ++ seg t i j <+: M → t.sz < 2 ^ 62 → (t.sz : Int) - 2 ^ 62 ≤ i → i < 2 ^ 62 → (t.sz : Int) - 2 ^ 62 ≤ j → j < 2 ^ 62 →
    CallsIn Fence.wide n Try.prog 198 #[.pointer a, .int .i64 i, .int .i64 j, .func (.func 199) #[] #[.pointer (some ⟨bm, 0, none⟩), .pointer (some ⟨bt, 0, none⟩), .pointer (some ⟨by_, 0, none⟩)]] W fun e W' =>
      (e = .returned (.bool true) ∧ J (pre ++ seg t i j) W' ∧ Kc (KM mb) W W') ∨ (e = .returned (.bool false) ∧ ∃ q, q <+: M ∧ Jx q W') := by
  intro t
  induction t with
  | nil =>
    intro n pre a i j W h hE hJ hp hs _ _ _ _
    cases (show a = none from h)
    have HF : Hid (J (pre ++ seg .nil i j) W) := by show J (pre ++ seg .nil i j) W; simpa [seg] using hJ
    clear h hE hJ hp hs
    refine callsIn_of_wp Try.func198 rfl trivial ?_ rfl
    simp only [Try.ntmps198, List.size_toArray, List.length_cons, List.length_nil, Nat.reduceAdd, Nat.reduceSub, Array.replicate_succ, Array.replicate_zero, List.push_toArray, List.append_toArray, List.nil_append, List.cons_append]
    gi_wp2_with fail
    go_ret
    exact .inl ⟨rfl, by first | exact HF.out | simpa using HF.out, Kc.refl _ _⟩
  | node tl p tr ihl ihr =>
    intro n pre a i j W h hE hJ hp hs hi0 hi1 hj0 hj1
    have hnd := h.nd
    obtain ⟨b, al, ar, ea, hb, hl, hr⟩ := h
    obtain ⟨c0, c1, c2, c3, c4, c5⟩ := cell6 hb
    have hsz : tl.sz + 1 + tr.sz < 2 ^ 62 := hs
    have hszI : ((T.node tl p tr).sz : Int) = (tl.sz : Int) + 1 + (tr.sz : Int) := by simp [T.sz]
    rw [hszI] at hi0 hj0
    clear hszI
    simp only [seg] at hp ⊢
    by_cases hc : ((tl.sz + 1 + tr.sz : Nat) : Int) ≤ i ∨ j ≤ 0
    · rw [if_pos hc] at hp ⊢
      have HF : Hid (J (pre ++ []) W) := by show J (pre ++ []) W; simpa using hJ
      subst ea
      generalize ((tl.sz + 1 + tr.sz : Nat) : Int) = Z at *
      by_cases hc1 : Z ≤ i
      · clear ihl ihr hnd hb hl hr hE hJ hp hs hsz hi0 hi1 hj0 hj1 hc c0 c1 c2 c3 c5
        refine callsIn_of_wp Try.func198 rfl trivial ?_ rfl
        simp only [Try.ntmps198, List.size_toArray, List.length_cons, List.length_nil, Nat.reduceAdd, Nat.reduceSub, Array.replicate_succ, Array.replicate_zero, List.push_toArray, List.append_toArray, List.nil_append, List.cons_append]
        gi_wp2_with fail
        go_ret
        exact .inl ⟨rfl, by first | exact HF.out | simpa using HF.out, Kc.refl _ _⟩
      · have hc2 : j ≤ 0 := by omega
        clear ihl ihr hnd hb hl hr hE hJ hp hs hsz hi0 hi1 hj0 hj1 hc c0 c1 c2 c3 c5
        refine callsIn_of_wp Try.func198 rfl trivial ?_ rfl
        simp only [Try.ntmps198, List.size_toArray, List.length_cons, List.length_nil, Nat.reduceAdd, Nat.reduceSub, Array.replicate_succ, Array.replicate_zero, List.push_toArray, List.append_toArray, List.nil_append, List.cons_append]
        gi_wp2_with fail
        go_ret
        exact .inl ⟨rfl, by first | exact HF.out | simpa using HF.out, Kc.refl _ _⟩
    · rw [if_neg hc] at hp ⊢
      have hz1 : ¬ ((tl.sz + 1 + tr.sz : Nat) : Int) ≤ i := fun h => hc (.inl h)
      have hz2 : ¬ j ≤ 0 := fun h => hc (.inr h)
      have CO := count_any hl
      have IL := ihl (n - 1) pre al i j W hl hE hJ (pre_of (by rw [← List.append_assoc] at hp; exact hp)) (by omega) (by omega) hi1 (by omega) hj1
      have q1 : wrap64 (i - (tl.sz : Int)) = i - (tl.sz : Int) := by unfold wrap64; omega
      have q2 : wrap64 (i - (tl.sz : Int) - 1) = i - (tl.sz : Int) - 1 := by unfold wrap64; omega
      have q3 : wrap64 (j - (tl.sz : Int)) = j - (tl.sz : Int) := by unfold wrap64; omega
      have q4 : wrap64 (j - (tl.sz : Int) - 1) = j - (tl.sz : Int) - 1 := by unfold wrap64; omega
      have VI : ∀ V, Kc (KM mb) W V → J (pre ++ seg tl i j) V → (i ≤ (tl.sz : Int) ∧ (tl.sz : Int) < j) → CallsIn Fence.wide (n - 1) Try.prog 199 #[.pointer a, .pointer (some ⟨bm, 0, none⟩), .pointer (some ⟨bt, 0, none⟩), .pointer (some ⟨by_, 0, none⟩)] V fun e W' =>
          (e = .returned (.bool true) ∧ J (pre ++ seg tl i j ++ [p]) W' ∧ Kc (KM mb) V W') ∨ (e = .returned (.bool false) ∧ Jx (pre ++ seg tl i j ++ [p]) W') := fun V k hj hh => by
        refine visit_in hY hD (n - 1) (pre ++ seg tl i j) p a V (hE.kc k) (hnd.keep (kn_kc k)) hj ?_
        rw [if_pos hh] at hp
        refine pre_of (b := seg tr (i - (tl.sz : Int) - 1) (j - (tl.sz : Int) - 1)) ?_
        simpa using hp
      have IR : ∀ V, Kc (KM mb) W V → J (pre ++ seg tl i j ++ (if i ≤ (tl.sz : Int) ∧ (tl.sz : Int) < j then [p] else [])) V → CallsIn Fence.wide (n - 1) Try.prog 198 #[.pointer ar, .int .i64 (i - (tl.sz : Int) - 1), .int .i64 (j - (tl.sz : Int) - 1), .func (.func 199) #[] #[.pointer (some ⟨bm, 0, none⟩), .pointer (some ⟨bt, 0, none⟩), .pointer (some ⟨by_, 0, none⟩)]] V fun e W' =>
          (e = .returned (.bool true) ∧ J (pre ++ (seg tl i j ++ ((if i ≤ (tl.sz : Int) ∧ (tl.sz : Int) < j then [p] else []) ++ seg tr (i - (tl.sz : Int) - 1) (j - (tl.sz : Int) - 1)))) W' ∧ Kc (KM mb) V W') ∨ (e = .returned (.bool false) ∧ ∃ q, q <+: M ∧ Jx q W') := fun V k hj => by
        have := ihr (n - 1) _ ar (i - (tl.sz : Int) - 1) (j - (tl.sz : Int) - 1) V (hr.keep (kn_kc k)) (hE.kc k) hj (by simpa using hp) (by omega) (by omega) (by omega) (by omega) (by omega)
        simpa using this
      have HPX : Hid (∀ V, (i ≤ (tl.sz : Int) ∧ (tl.sz : Int) < j) → Jx (pre ++ seg tl i j ++ [p]) V → ∃ q, q <+: M ∧ Jx q V) := fun V hh hx => by
        refine ⟨_, ?_, hx⟩
        rw [if_pos hh] at hp
        refine pre_of (b := seg tr (i - (tl.sz : Int) - 1) (j - (tl.sz : Int) - 1)) ?_
        simpa using hp
      have HC : ∀ V, Kc (KM mb) W V → V.cell? ⟨b, 3, none⟩ = some (.pointer ar) := fun V k => (cell6 (kn_kc k b _ hb)).2.2.2.1
      subst ea
      obtain ⟨SL, hSL⟩ : ∃ SL, pre ++ seg tl i j = SL := ⟨_, rfl⟩
      rw [hSL] at IL VI IR HPX
      have HSL := hide hSL
      generalize pre ++ (seg tl i j ++ ((if i ≤ (tl.sz : Int) ∧ (tl.sz : Int) < j then [p] else []) ++ seg tr (i - (tl.sz : Int) - 1) (j - (tl.sz : Int) - 1))) = FULL at *
      generalize ((tl.sz + 1 + tr.sz : Nat) : Int) = Z at *
      generalize (tl.sz : Int) = L at *
      clear ihl ihr hnd hb hl hr hE hJ hp hs hsz hi0 hi1 hj0 hj1 hc c0 c1 c5 hSL
      by_cases hv : i ≤ L ∧ L < j
      · rw [if_pos hv] at IR
        obtain ⟨hv1, hv2⟩ := hv
        have VI2 := fun V k h => VI V k h ⟨hv1, hv2⟩
        refine callsIn_of_wp Try.func198 rfl trivial ?_ rfl
        simp only [Try.ntmps198, List.size_toArray, List.length_cons, List.length_nil, Nat.reduceAdd, Nat.reduceSub, Array.replicate_succ, Array.replicate_zero, List.push_toArray, List.append_toArray, List.nil_append, List.cons_append]
        gi_wp2_with fail
        refine ⟨trivial, fun h => (by cases h), (callsIn_wide.2 CO).mono ?_⟩
        rintro e w' ⟨rfl, hw⟩; obtain rfl := hw.symm
        gi_wp2_with fail
        refine ⟨trivial, fun h => (by cases h), IL.mono ?_⟩
        rintro e V (⟨rfl, hj1, k1⟩ | ⟨rfl, hx⟩)
        · have c3' := HC V k1
          have VI3 := VI2 V k1 hj1
          gi_wp2_with fail
          refine ⟨trivial, fun h => (by cases h), VI3.mono ?_⟩
          rintro e V2 (⟨rfl, hj2, k2⟩ | ⟨rfl, hx⟩)
          · have c3'' := HC V2 (k1.trans k2)
            have IR2 := IR V2 (k1.trans k2) hj2
            gi_wp2_with fail
            (try rw [q1]); (try rw [q2]); (try rw [q3]); (try rw [q4])
            refine ⟨trivial, fun h => (by cases h), IR2.mono ?_⟩
            rintro e V3 (⟨rfl, hj3, k3⟩ | ⟨rfl, hx⟩)
            · gi_wp2_with fail
              go_ret
              exact .inl ⟨rfl, hj3, (k1.trans k2).trans k3⟩
            · gi_wp2_with fail
              go_ret
              exact .inr ⟨rfl, hx⟩
          · gi_wp2_with fail
            go_ret
            exact .inr ⟨rfl, HPX.out _ ⟨hv1, hv2⟩ hx⟩
        · gi_wp2_with fail
          go_ret
          exact .inr ⟨rfl, hx⟩
      · rw [if_neg hv] at IR
        by_cases hv1 : i ≤ L
        · have hv2 : ¬ L < j := fun h => hv ⟨hv1, h⟩
          clear hv VI
          refine callsIn_of_wp Try.func198 rfl trivial ?_ rfl
          simp only [Try.ntmps198, List.size_toArray, List.length_cons, List.length_nil, Nat.reduceAdd, Nat.reduceSub, Array.replicate_succ, Array.replicate_zero, List.push_toArray, List.append_toArray, List.nil_append, List.cons_append]
          gi_wp2_with fail
          refine ⟨trivial, fun h => (by cases h), (callsIn_wide.2 CO).mono ?_⟩
          rintro e w' ⟨rfl, hw⟩; obtain rfl := hw.symm
          gi_wp2_with fail
          refine ⟨trivial, fun h => (by cases h), IL.mono ?_⟩
          rintro e V (⟨rfl, hj1, k1⟩ | ⟨rfl, hx⟩)
          · have c3' := HC V k1
            have IR2 := IR V k1 (by simpa using hj1)
            gi_wp2_with fail
            refine ⟨fun f h => (by cases h), ?_⟩
            gi_wp2_with fail
            (try rw [q1]); (try rw [q2]); (try rw [q3]); (try rw [q4])
            refine ⟨trivial, fun h => (by cases h), IR2.mono ?_⟩
            rintro e V3 (⟨rfl, hj3, k3⟩ | ⟨rfl, hx⟩)
            · gi_wp2_with fail
              go_ret
              exact .inl ⟨rfl, hj3, k1.trans k3⟩
            · gi_wp2_with fail
              go_ret
              exact .inr ⟨rfl, hx⟩
          · gi_wp2_with fail
            go_ret
            exact .inr ⟨rfl, hx⟩
        · clear hv VI
          refine callsIn_of_wp Try.func198 rfl trivial ?_ rfl
          simp only [Try.ntmps198, List.size_toArray, List.length_cons, List.length_nil, Nat.reduceAdd, Nat.reduceSub, Array.replicate_succ, Array.replicate_zero, List.push_toArray, List.append_toArray, List.nil_append, List.cons_append]
          gi_wp2_with fail
          refine ⟨trivial, fun h => (by cases h), (callsIn_wide.2 CO).mono ?_⟩
          rintro e w' ⟨rfl, hw⟩; obtain rfl := hw.symm
          gi_wp2_with fail
          refine ⟨trivial, fun h => (by cases h), IL.mono ?_⟩
          rintro e V (⟨rfl, hj1, k1⟩ | ⟨rfl, hx⟩)
          · have c3' := HC V k1
            have IR2 := IR V k1 (by simpa using hj1)
            gi_wp2_with fail
            refine ⟨fun f h => (by cases h), ?_⟩
            gi_wp2_with fail
            (try rw [q1]); (try rw [q2]); (try rw [q3]); (try rw [q4])
            refine ⟨trivial, fun h => (by cases h), IR2.mono ?_⟩
            rintro e V3 (⟨rfl, hj3, k3⟩ | ⟨rfl, hx⟩)
            · gi_wp2_with fail
              go_ret
              exact .inl ⟨rfl, hj3, k1.trans k3⟩
            · gi_wp2_with fail
              go_ret
              exact .inr ⟨rfl, hx⟩
          · gi_wp2_with fail
            go_ret
            exact .inr ⟨rfl, hx⟩
end
end Go.Proofs.Ytchealdgncgjoaa.StU
