import Derived.Test.YthajboipnjjgfaaLyN
namespace Go.Proofs.Ythajboipnjjgfaa.Ly
open Go.RowKit Go.Maps
set_option linter.unusedVariables false

set_option maxHeartbeats 400000 in
theorem inside_any {w : World} {u : Value} {xs : List Int} (h : RdI w u xs) (hb : (xs.length : Int) ≤ 9223372036854775807) (M : Nat) :
    Calls Try.prog 20 #[u, .int .i64 (M : Int)] w fun e w' => e = .returned (.bool (inAll xs M)) ∧ Kp Nu w w' := by
  obtain ⟨ad, cap, hu⟩ := h.slice
  have HR := hide h
  obtain ⟨N, hN⟩ : ∃ N, xs.length = N := ⟨_, rfl⟩
  have HN := hide hN
  rw [hN] at hu hb
  subst hu
  obtain ⟨R, hR⟩ : ∃ R, inAll xs M = R := ⟨_, rfl⟩
  have HRR := hide hR
  rw [hR]
  clear h hN hR
  go_enter Try.func20, Try.ntmps20
  go_wp2
  go_loopw [5] (fun i wr => ∃ k : Nat, k ≤ N ∧ i = .int .i64 (k : Int) ∧ Hid (∀ x ∈ xs.take k, inL x M = true) ∧ wr = w) (fun i _ => N - (intOf i).toNat)
  case atStart => exact ⟨0, by omega, rfl, by intro x hx; simp at hx, rfl⟩
  case round =>
    obtain ⟨k, hk, rfl, hA, hwr⟩ := hrel
    obtain rfl := hwr.symm
    by_cases hlt : k < N
    · have hkL : k < xs.length := by rw [HN.out]; exact hlt
      obtain ⟨x, hx⟩ : ∃ x, xs[k]? = some x := ⟨_, List.getElem?_eq_getElem hkL⟩
      rcases HR.out with ⟨_, e⟩ | ⟨a, o, cap', e, hc⟩
      · subst e; simp at hkL
      have hcx := hc k x hx
      simp only [Value.slice.injEq] at e
      obtain ⟨e1, e2, e3⟩ := e
      clear e2 e3
      subst e1
      have hltI : (k : Int) < (N : Int) := by omega
      have hk0 : (0 : Int) ≤ (k : Int) := by omega
      have HX := hide hx
      clear hc hx hkL
      by_cases h1 : x < 0
      · have HE : Hid (R = false) := by
          show _ = _
          rw [← HRR.out, inAll, List.all_eq_false]
          exact ⟨x, List.mem_of_getElem? HX.out, by simp [inL]; omega⟩
        go_wp2
        go_ret
        obtain rfl := HE.out
        exact ⟨rfl, Kp.refl _ _⟩
      · by_cases h2 : x ≥ (M : Int)
        · have HE : Hid (R = false) := by
            show _ = _
            rw [← HRR.out, inAll, List.all_eq_false]
            exact ⟨x, List.mem_of_getElem? HX.out, by simp [inL]; omega⟩
          go_wp2
          go_ret
          obtain rfl := HE.out
          exact ⟨rfl, Kp.refl _ _⟩
        · have HA2 : Hid (∀ y ∈ xs.take (k + 1), inL y M = true) := by
            intro y hy
            rw [List.take_add_one, HX.out] at hy
            rcases List.mem_append.1 hy with hy | hy
            · exact hA.out y hy
            · simp at hy; subst hy; simp [inL]; omega
          clear hA
          go_wp2
          exact ⟨⟨k + 1, by omega, by go_num, HA2, trivial⟩, by simp [intOf]; omega⟩
    · have hge : ¬ (k : Int) < (N : Int) := by omega
      have HE : Hid (R = true) := by
        show _ = _
        rw [← HRR.out, inAll, List.all_eq_true]
        have := hA.out
        rwa [List.take_of_length_le (by rw [HN.out]; omega)] at this
      clear hA
      go_wp2
      go_ret
      obtain rfl := HE.out
      exact ⟨rfl, Kp.refl _ _⟩

set_option maxHeartbeats 400000 in
theorem among_any {w : World} {u : Value} {xs : List Int} (h : RdI w u xs) (hb : (xs.length : Int) ≤ 9223372036854775807) (y : Int) :
    Calls Try.prog 21 #[u, .int .i64 y] w fun e w' => e = .returned (.bool (decide (y ∈ xs))) ∧ Kp Nu w w' := by
  obtain ⟨ad, cap, hu⟩ := h.slice
  have HR := hide h
  obtain ⟨N, hN⟩ : ∃ N, xs.length = N := ⟨_, rfl⟩
  have HN := hide hN
  rw [hN] at hu hb
  subst hu
  obtain ⟨R, hR⟩ : ∃ R, decide (y ∈ xs) = R := ⟨_, rfl⟩
  have HRR := hide hR
  rw [hR]
  clear h hN hR
  go_enter Try.func21, Try.ntmps21
  go_wp2
  go_loopw [5] (fun i wr => ∃ k : Nat, k ≤ N ∧ i = .int .i64 (k : Int) ∧ Hid (¬ y ∈ xs.take k) ∧ wr = w) (fun i _ => N - (intOf i).toNat)
  case atStart => exact ⟨0, by omega, rfl, by simp [Hid], rfl⟩
  case round =>
    obtain ⟨k, hk, rfl, hA, hwr⟩ := hrel
    obtain rfl := hwr.symm
    by_cases hlt : k < N
    · have hkL : k < xs.length := by rw [HN.out]; exact hlt
      obtain ⟨x, hx⟩ : ∃ x, xs[k]? = some x := ⟨_, List.getElem?_eq_getElem hkL⟩
      rcases HR.out with ⟨_, e⟩ | ⟨a, o, cap', e, hc⟩
      · subst e; simp at hkL
      have hcx := hc k x hx
      simp only [Value.slice.injEq] at e
      obtain ⟨e1, e2, e3⟩ := e
      clear e2 e3
      subst e1
      have hltI : (k : Int) < (N : Int) := by omega
      have hk0 : (0 : Int) ≤ (k : Int) := by omega
      have HX := hide hx
      clear hc hx hkL
      by_cases h1 : x = y
      · have HE : Hid (R = true) := by
          show _ = _
          rw [← HRR.out]
          have := List.mem_of_getElem? HX.out
          rw [h1] at this
          simpa using this
        have hb1 : (x == y) = true := by simpa using h1
        clear h1
        go_wp2
        go_ret
        obtain rfl := HE.out
        exact ⟨rfl, Kp.refl _ _⟩
      · have HA2 : Hid (¬ y ∈ xs.take (k + 1)) := by
          intro hy
          rw [List.take_add_one, HX.out] at hy
          rcases List.mem_append.1 hy with hy | hy
          · exact hA.out hy
          · simp at hy; exact h1 hy.symm
        have hb1 : (x == y) = false := by simpa using h1
        clear hA h1
        go_wp2
        exact ⟨⟨k + 1, by omega, by go_num, HA2, trivial⟩, by simp [intOf]; omega⟩
    · have hge : ¬ (k : Int) < (N : Int) := by omega
      have HE : Hid (R = false) := by
        show _ = _
        rw [← HRR.out]
        have := hA.out
        rw [List.take_of_length_le (by rw [HN.out]; omega)] at this
        simpa using this
      clear hA
      go_wp2
      go_ret
      obtain rfl := HE.out
      exact ⟨rfl, Kp.refl _ _⟩

/-- two networks side by side: what is done to the one leaves the other -/
theorem Nt.beside {B b1 m1 n1 b2 m2 n2 : Nat} {w w' : World} {r1 r2 : Int} {D1 D2 : DataW Unit} {v1 v1' v2 : Value} {c1 c2 : Ct} {L1 L2 : List Gm} (h1 : Nt B w b1 m1 n1 r1 D1 v1 c1 L1) (h2 : Nt B w b2 m2 n2 r2 D2 v2 c2 L2)
    (hd : ∀ i, fp b1 m1 v1 i → ¬ fp b2 m2 v2 i) (fr : Fr b1 m1 v1 w w' v1') : Nt B w' b2 m2 n2 r2 D2 v2 c2 L2 ∧ ∀ i, fp b1 m1 v1' i → ¬ fp b2 m2 v2 i := by
  have hlt2 : ∀ i, fp b2 m2 v2 i → i < w.heap.size := by
    rintro i (rfl | rfl | e)
    · exact blk_lt h2.blk
    · exact h2.map.lt
    · exact own_lt h2.own e.symm
  refine ⟨h2.keep fr.kp (fun i _ hs => ⟨hd i hs, fun cur hc => h1.byte hc hs⟩), ?_⟩
  rintro i (e | e | e) h
  · exact hd i (.inl e) h
  · exact hd i (.inr (.inl e)) h
  · rcases fr.lie with hl | ⟨g, hg, hl⟩
    · exact hd i (.inr (.inr (e.trans hl))) h
    · rw [hl] at e
      cases e
      have := hlt2 _ h
      omega
theorem Nt.step {b bm nb : Nat} {w0 w w' : World} {room : Int} {D : DataW Unit} {v v' : Value} {c : Ct} {L : List Gm} (h : Nt w0.heap.size w b bm nb room D v c L) (k : Kp Nu w0 w) (fr : Fr b bm v w w' v') : Kp Nu w0 w' :=
  k.trans fr.kp (fun i hi e => by have := h.low i e; omega)

/-- into a network with room, over an open link: sent -/
theorem send_sure {B b bm nb : Nat} {w : World} {room : Int} {D : DataW Unit} {v : Value} {c : Ct} {L : List Gm} (h : Nt B w b bm nb room D v c L) (f t : Int) (f0 : 0 ≤ f) (hf : f < 33) (t0 : 0 ≤ t) (t1 : t < 256) (d : Value) (ys : List Int) (hr : Rd w d ys) (hy0 : 0 < ys.length) (hy1 : ys.length ≤ 1024) (hbar : bar D f t = false) (hl : (L.length : Int) < room) (hc : Far c) :
    Calls Try.prog 16 #[.pointer (some ⟨b, 0, none⟩), .int .u8 f, .int .u8 t, d] w fun e w' => e = .returned (.int .i64 0) ∧ ∃ v' d', Nt B w' b bm nb room D v' { c with s := c.s + 1 } (L ++ [⟨f, t, d', ys⟩]) ∧ Fr b bm v w w' v' := by
  refine (send_in h f t f0 hf t0 t1 d ys hr hc).mono ?_
  rintro e w2 ⟨code, c', v', L', rfl, hE, hN, hF⟩
  rcases hE with ⟨rfl, hy, rfl, rfl⟩ | ⟨y0, y1, ⟨rfl, hb, rfl, rfl⟩ | ⟨rfl, hb, hfl, rfl, rfl⟩ | ⟨rfl, hb, hfl, rfl, d', rfl⟩⟩
  · omega
  · rw [hbar] at hb; cases hb
  · omega
  · exact ⟨rfl, v', d', hN, hF⟩

-- sifting, by places alone
theorem sift_bare {p : Nat → Gm → Bool} {q : Nat → Bool} (hp : ∀ k g, p k g = q k) : ∀ (L1 L2 : List Gm) (k : Nat), L1.map bare = L2.map bare → (sift p k L1).map bare = (sift p k L2).map bare
  | [], [], k, _ => rfl
  | [], _ :: _, k, h => by simp at h
  | _ :: _, [], k, h => by simp at h
  | g1 :: r1, g2 :: r2, k, h => by
    simp only [List.map_cons, List.cons.injEq] at h
    have ih := sift_bare hp r1 r2 (k + 1) h.2
    simp only [sift, hp]
    split
    · exact ih
    · simp only [List.map_cons, h.1, ih]
theorem sift_id {p : Nat → Gm → Bool} : ∀ (L : List Gm) (k : Nat), (∀ i g, k ≤ i → i < k + L.length → p i g = false) → sift p k L = L
  | [], k, _ => rfl
  | g :: r, k, h => by
    have h0 := h k g (Nat.le_refl _) (by simp)
    have ih := sift_id r (k + 1) (fun i g hi hl => h i g (by omega) (by simp only [List.length_cons]; omega))
    simp [sift, h0, ih]
/-- one place alone -/
theorem sift_one (A R : List Gm) (g : Gm) (i : Nat) (hi : A.length = i) : sift (drP [(i : Int)]) 0 (A ++ g :: R) = A ++ R := by
  rw [sift_append, sift_id A 0 (fun k g _ hk => by simp [drP]; omega)]
  congr 1
  have : drP [(i : Int)] (0 + A.length) g = true := by simp [drP]; omega
  simp only [sift, this, if_true]
  exact sift_id R _ (fun k g hk _ => by simp [drP]; omega)
end Go.Proofs.Ythajboipnjjgfaa.Ly
