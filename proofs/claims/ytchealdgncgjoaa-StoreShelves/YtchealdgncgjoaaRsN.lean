import Derived.Test.YtchealdgncgjoaaRsM
namespace Go.Proofs.Ytchealdgncgjoaa.StU
open Go.RowKit Go.Proofs.Ytchealdgncgjoaa.St Go.Shelf
set_option linter.unusedVariables false
set_option linter.unusedSimpArgs false
theorem Rs.ne8 {w : World} {rb : Nat} {most : Int} {v : Sv} {L : List (Int × Sv)} {M : List KV} (h : Rs w rb most v L M) {a : Addr} {y : Int} {kd : IntKind} (hk : kd ≠ .i64) (hc : w.cell? a = some (.int kd y)) : a.block ≠ rb := fun e => by
  have hsp := spot_none1 hc
  obtain ⟨b, o, sp⟩ := a
  simp only at hsp e
  subst hsp
  subst e
  have hb := h.box
  simp only [World.cell?, hb] at hc
  match o, hc with
  | 0, hc => simp at hc; exact hk hc.1.symm
  | 1, hc => simp at hc
  | o + 2, hc => simp at hc
theorem Rs.rdk {w w' : World} {rb : Nat} {most : Int} {v : Sv} {L : List (Int × Sv)} {M : List KV} (h : Rs w rb most v L M) (k : Kp (fun i => i = rb) w w') {u : Value} {ys : List Int} (hr : Rd w u ys) : Rd w' u ys := by
  rcases hr with ⟨rfl, rfl⟩ | ⟨a, cap, rfl, hc⟩
  · exact .inl ⟨rfl, rfl⟩
  · refine .inr ⟨a, cap, rfl, fun j x hj => ?_⟩
    have h1 := hc j x hj
    have hx : x ∈ cs ys := List.mem_of_getElem? hj
    obtain ⟨y, _, rfl⟩ := List.mem_map.1 hx
    exact (World.cell?_of_block (k.block _ (World.block_lt_of_cell? w _ h1) (h.ne8 (by decide) h1))).trans h1
theorem Rs.wpk {w w' : World} {rb : Nat} {most : Int} {v : Sv} {L : List (Int × Sv)} {M : List KV} (h : Rs w rb most v L M) (k : Kp (fun i => i = rb) w w') {u : Value} {S : List Pg} (hw : Wp w u S) : Wp w' u S := by
  obtain ⟨ad, cap, e, hc⟩ := hw
  refine ⟨ad, cap, e, fun i s hs => ?_⟩
  obtain ⟨b, off, e1, c0, c1, c2, c3⟩ := hc i s hs
  have hne : b ≠ rb := h.ne8 (by decide) c0
  exact ⟨b, off, e1, (World.cell?_of_block (k.block _ (World.block_lt_of_cell? w _ c0) hne)).trans c0, (World.cell?_of_block (k.block _ (World.block_lt_of_cell? w _ c1) hne)).trans c1, h.rdk k c2, c3⟩
def lgS (S : List Pg) (i : Nat) : Bool := (S.take i).any (fun s => decide (64 < s.ys.length))
def thS (S : List Pg) (M : List KV) (i : Nat) : Bool := (S.take i).any (fun s => hs s.k M)
theorem lgS_more {S : List Pg} {i : Nat} {s : Pg} (h : S[i]? = some s) : lgS S (i + 1) = (lgS S i || decide (64 < s.ys.length)) := by
  unfold lgS
  rw [List.take_add_one, h, List.any_append]; simp
theorem thS_more {S : List Pg} {M : List KV} {i : Nat} {s : Pg} (h : S[i]? = some s) : thS S M (i + 1) = (thS S M i || hs s.k M) := by
  unfold thS
  rw [List.take_add_one, h, List.any_append]; simp
theorem lgS_all {S : List Pg} (h : lgS S S.length = false) : ∀ s ∈ S, s.ys.length ≤ 64 := fun s hs => by
  unfold lgS at h
  rw [List.take_length] at h
  have := List.any_eq_false.1 h s hs
  simp at this; omega
theorem lgS_some {S : List Pg} (h : lgS S S.length = true) : ∃ s ∈ S, 64 < s.ys.length := by
  unfold lgS at h
  rw [List.take_length] at h
  obtain ⟨s, hs, h1⟩ := List.any_eq_true.1 h
  exact ⟨s, hs, by simpa using h1⟩
theorem thS_all {S : List Pg} {M : List KV} (h : thS S M S.length = false) : ∀ s ∈ S, hs s.k M = false := fun s hs => by
  unfold thS at h
  rw [List.take_length] at h
  simpa using List.any_eq_false.1 h s hs
theorem thS_some {S : List Pg} {M : List KV} (h : thS S M S.length = true) : ∃ s ∈ S, hs s.k M = true := by
  unfold thS at h
  rw [List.take_length] at h
  obtain ⟨s, hs, h1⟩ := List.any_eq_true.1 h
  exact ⟨s, hs, h1⟩
theorem hs_layM : ∀ (S : List Pg) (M : List KV) (x : Int), hs x (layM S M) = (hs x M || S.any (fun s => decide (s.k = x)))
  | [], M, x => by simp [layM]
  | s :: S, M, x => by
    have h1 := hs_layM S (putM s.k s.ys M) x
    show hs x (layM S (putM s.k s.ys M)) = _
    rw [h1, hs_put, List.any_cons, Bool.or_assoc]
theorem risp_lt {S : List Pg} (h : RisP S) : ∀ {j i : Nat} {a b : Pg}, i < j → S[i]? = some a → S[j]? = some b → a.k < b.k
  | 0, i, a, b, hij, ha, hb => by omega
  | j + 1, i, a, b, hij, ha, hb => by
    by_cases e : i = j
    · subst e; exact h i a b ha hb
    · obtain ⟨c, hc⟩ : ∃ c, S[j]? = some c := ⟨_, List.getElem?_eq_getElem (by have := (List.getElem?_eq_some_iff.1 hb).1; omega)⟩
      have h1 := risp_lt h (j := j) (i := i) (by omega) ha hc
      have h2 := h j c b hc hb
      omega
theorem lay_nil187 (w : World) (u : Value) : Calls Try.prog 187 #[.pointer none, u] w fun e w' => e = .returned (.int .i64 1) ∧ w' = w := by
  go_enter Try.func187, Try.ntmps187
  go_wp2
  go_ret
  exact ⟨rfl, rfl⟩
set_option maxRecDepth 100000 in
set_option maxHeartbeats 8000000 in
theorem lay187 {w : World} {rb : Nat} {most : Int} {v : Sv} {L : List (Int × Sv)} {M : List KV} (h : Rs w rb most v L M) (u : Value) (S : List Pg) (hS : Wp w u S) (hsl : S.length ≤ 4398046511104) : Calls Try.prog 187 #[.pointer (some ⟨rb, 0, none⟩), u] w fun e w' => ∃ c, e = .returned (.int .i64 c) ∧ BarR S M most c ∧ Hid ((∃ v' L', Rs w' rb most v' L' (if c = 0 then layM S M else M) ∧ Vn w.heap.size L L' ∧ ∀ g, (sl v').ownBlock = some g → (sl v).ownBlock = some g ∨ w.heap.size ≤ g) ∧ Kp (fun i => i = rb) w w') := by
  have mixed : Try.prog.follows .mixedOrders = true := by kernel_rfl
  have HW0 := hide hS
  obtain ⟨ad, cap, rfl, hc⟩ := hS
  obtain ⟨N, eN⟩ : ∃ N, S.length = N := ⟨_, rfl⟩
  rw [eN] at hsl ⊢
  have HS : Hid (∀ W, Kp Nu w W → ∀ (i : Nat) (s : Pg), S[i]? = some s → ∃ b off, ad = some ⟨b, off, none⟩ ∧ W.cell? ⟨b, off + i * 2, none⟩ = some (.int .u64 s.k) ∧ W.cell? ⟨b, off + i * 2 + 1, none⟩ = some (.slice s.v.a s.v.n s.v.c) ∧ s.v.n = s.ys.length) := hide (fun W k i s h => by
    obtain ⟨b, off, e, c0, c1, c2, c3⟩ := hc i s h
    obtain ⟨ad', cap', e'⟩ := c2.slice
    exact ⟨b, off, e, cell_nu c0 k, cell_nu c1 k, (Value.slice.inj e').2.1⟩)
  have HH := hide (And.intro h (And.intro eN hsl))
  clear h hc eN hsl
  go_enter Try.func187, Try.ntmps187
  go_wp2_with fail
  go_loopw [5, 6, 7] (fun lv tv it wr => ∃ i : Nat, it = .int .i64 (i : Int) ∧ lv = .bool (lgS S i) ∧ tv = .bool (thS S M i) ∧ i ≤ N ∧ Hid ((∀ (j : Nat) (a b : Pg), j + 1 < i → S[j]? = some a → S[j + 1]? = some b → a.k < b.k) ∧ Kp Nu w wr)) (fun _ _ it _ => N - (intOf it).toNat)
  case atStart => exact ⟨0, rfl, rfl, rfl, Nat.zero_le _, (fun j a b h => by omega), Kp.refl _ _⟩
  case round =>
    obtain ⟨i, rfl, rfl, rfl, hi, HI⟩ := hrel
    by_cases hlt : i < N
    · obtain ⟨s, hsi⟩ : ∃ s, S[i]? = some s := ⟨_, List.getElem?_eq_getElem (by rw [HH.out.2.1]; exact hlt)⟩
      obtain ⟨b, off, ead, c0, c1, hvn⟩ := HS.out wr HI.out.2 i s hsi
      have e5 := lgS_more hsi
      have e6 := thS_more (M := M) hsi
      have HCS : Hid (∀ W, Kp Nu w W → W.cell? ⟨b, off + i * 2, none⟩ = some (.int .u64 s.k) ∧ W.cell? ⟨b, off + i * 2 + 1, none⟩ = some (.slice s.v.a s.v.n s.v.c)) := hide (fun W k => by
        obtain ⟨b', off', ead', d0, d1, _⟩ := HS.out W k i s hsi
        rw [ead] at ead'; cases ead'
        exact ⟨d0, d1⟩)
      obtain ⟨sk, ⟨sa, sn, sc⟩, sy⟩ := s
      simp only at hvn e5 e6 HCS c0 c1
      subst hvn
      generalize sy.length = n at *
      have FA : ∀ W, Kp Nu w W → Calls Try.prog 183 #[.pointer (some ⟨rb, 0, none⟩), .int .u64 sk] W fun e w' => e = .returned (.int .i64 (if hs sk M then (pl sk M : Int) else -1)) ∧ w' = W := fun W k => find183 (HH.out.1.nu k) sk _ rfl
      have hltI : (i : Int) < (N : Int) := by omega
      have hi00 : (0 : Int) ≤ (i : Int) := by omega
      have hwi : wrap64 ((i : Int) + 1) = ((i + 1 : Nat) : Int) := by have := HH.out.2.2; unfold wrap64; omega
      have HW := hide (And.intro hlt (And.intro hwi HI.out.2))
      generalize lgS S i = b5 at *
      generalize thS S M i = b6 at *
      have HE5 := hide e5
      have HE6 := hide e6
      clear e5 e6
      cases i with
      | zero =>
        have HF : Hid (∀ W, Kp Nu w W → ((∀ (j : Nat) (a b : Pg), j + 1 < 0 + 1 → S[j]? = some a → S[j + 1]? = some b → a.k < b.k) ∧ Kp Nu w W)) := hide (fun W q => ⟨fun j a b h => by omega, q⟩)
        subst ead
        simp only [Nat.zero_mul, Nat.add_zero] at c0 c1 HCS
        clear hwi hsi HI hlt hi
        go_wp2_with fail
        go_quiet (fail)
        clear mixed c0 c1
        have kz := kpN HW.out.2.2 nq
        generalize wr.drewN nq = wz at *
        have HF2 := hide (HF.out _ kz)
        obtain ⟨c0, c1⟩ := HCS.out _ kz
        have FB := FA _ kz
        clear kz FA
        cases hz : hs sk M with
        | true =>
          rw [hz] at FB HE6
          have hz0 : (0 : Int) ≤ (pl sk M : Int) := by omega
          have hz1 : decide ((0 : Int) ≤ (pl sk M : Int)) = true := decide_eq_true hz0
          simp only [if_true] at FB
          generalize (pl sk M : Int) = zz at *
          clear hz
          by_cases hn64 : 64 < n
          · have hn1 : (64 : Int) < (n : Int) := by omega
            have hn2 : decide ((64 : Int) < (n : Int)) = true := decide_eq_true hn1
            have hn3 : decide (64 < n) = true := decide_eq_true hn64
            rw [hn3] at HE5
            clear hn3 hn64
            cases b5 <;> cases b6
            all_goals go_wp2_with (go_at_call 183; refine FB.mono ?_; rintro e w3 ⟨rfl, hw⟩; obtain rfl := hw)
            all_goals exact ⟨⟨0 + 1, by first | rfl | rw [HW.out.2.1], by rw [HE5.out]; rfl, by rw [HE6.out]; rfl, HW.out.1, HF2⟩, by first | exact lt_mi HW.out.2.1 HW.out.1 | exact lt_mi rfl HW.out.1⟩
          · have hn1 : ¬ (64 : Int) < (n : Int) := by omega
            have hn2 : decide ((64 : Int) < (n : Int)) = false := decide_eq_false hn1
            have hn3 : decide (64 < n) = false := decide_eq_false hn64
            rw [hn3] at HE5
            clear hn3 hn64
            cases b5 <;> cases b6
            all_goals go_wp2_with (go_at_call 183; refine FB.mono ?_; rintro e w3 ⟨rfl, hw⟩; obtain rfl := hw)
            all_goals exact ⟨⟨0 + 1, by first | rfl | rw [HW.out.2.1], by rw [HE5.out]; rfl, by rw [HE6.out]; rfl, HW.out.1, HF2⟩, by first | exact lt_mi HW.out.2.1 HW.out.1 | exact lt_mi rfl HW.out.1⟩
        | false =>
          rw [hz] at FB HE6
          have hz0 : ¬ (0 : Int) ≤ -1 := by omega
          have hz1 : decide ((0 : Int) ≤ -1) = false := decide_eq_false hz0
          simp only [Bool.false_eq_true, if_false] at FB
          clear hz
          by_cases hn64 : 64 < n
          · have hn1 : (64 : Int) < (n : Int) := by omega
            have hn2 : decide ((64 : Int) < (n : Int)) = true := decide_eq_true hn1
            have hn3 : decide (64 < n) = true := decide_eq_true hn64
            rw [hn3] at HE5
            clear hn3 hn64
            cases b5 <;> cases b6
            all_goals go_wp2_with (go_at_call 183; refine FB.mono ?_; rintro e w3 ⟨rfl, hw⟩; obtain rfl := hw)
            all_goals exact ⟨⟨0 + 1, by first | rfl | rw [HW.out.2.1], by rw [HE5.out]; rfl, by rw [HE6.out]; rfl, HW.out.1, HF2⟩, by first | exact lt_mi HW.out.2.1 HW.out.1 | exact lt_mi rfl HW.out.1⟩
          · have hn1 : ¬ (64 : Int) < (n : Int) := by omega
            have hn2 : decide ((64 : Int) < (n : Int)) = false := decide_eq_false hn1
            have hn3 : decide (64 < n) = false := decide_eq_false hn64
            rw [hn3] at HE5
            clear hn3 hn64
            cases b5 <;> cases b6
            all_goals go_wp2_with (go_at_call 183; refine FB.mono ?_; rintro e w3 ⟨rfl, hw⟩; obtain rfl := hw)
            all_goals exact ⟨⟨0 + 1, by first | rfl | rw [HW.out.2.1], by rw [HE5.out]; rfl, by rw [HE6.out]; rfl, HW.out.1, HF2⟩, by first | exact lt_mi HW.out.2.1 HW.out.1 | exact lt_mi rfl HW.out.1⟩
      | succ i =>
        obtain ⟨r, hri⟩ : ∃ r, S[i]? = some r := ⟨_, List.getElem?_eq_getElem (by rw [HH.out.2.1]; omega)⟩
        obtain ⟨b', off', ead', p0, p1, hvn⟩ := HS.out _ HI.out.2 i r hri
        obtain ⟨rk, ⟨ra, rn, rcc⟩, ry⟩ := r
        clear hvn
        rw [ead] at ead'
        cases ead'
        have HF : Hid (rk < sk → ∀ W, Kp Nu w W → ((∀ (j : Nat) (a b : Pg), j + 1 < i + 1 + 1 → S[j]? = some a → S[j + 1]? = some b → a.k < b.k) ∧ Kp Nu w W)) := hide (fun hlt2 W q => ⟨fun j a b h ha hb => by
          rcases Nat.lt_or_ge (j + 1) (i + 1) with h1 | h1
          · exact HI.out.1 j a b h1 ha hb
          · have e : j = i := by omega
            subst e
            rw [hri] at ha; rw [hsi] at hb
            cases ha; cases hb; exact hlt2, q⟩)
        have HG : Hid (¬ rk < sk → BarR S M most 72) := hide (fun hn => .inl ⟨fun hr => hn (hr i _ _ hri hsi), rfl⟩)
        subst ead
        obtain ⟨I, eI⟩ : ∃ I : Int, ((i + 1 : Nat) : Int) = I := ⟨_, rfl⟩
        have HEI := hide eI
        have e1 : I.toNat = i + 1 := by omega
        have e2 : I.toNat - 1 = i := by omega
        have e3 : IntKind.i64.wrap (I - 1) = I - 1 := by have := HH.out.2.2; rw [IntKind.wrap_i64]; omega
        have e4 : (0 : Int) ≤ I - 1 := by omega
        have e5 : I - 1 < (N : Int) := by omega
        have e6 : (0 : Int) < I := by omega
        have e7 : (1 : Int) ≤ I := by omega
        have e8 : I ≤ (N : Int) := by omega
        have e9 : I < (N : Int) + 1 := by omega
        rw [eI] at hltI hi00 hwi HW ⊢
        rw [← e1] at c0 c1 HCS
        rw [← e2] at p0 p1
        by_cases hcmp : rk < sk
        · have hle : ¬ sk ≤ rk := by omega
          have hleB : decide (sk ≤ rk) = false := decide_eq_false hle
          have HF1 := hide (HF.out hcmp)
          clear hwi hsi hri HI hlt hi HF HG hcmp eI e1 e2 hle
          go_wp2_with fail
          go_quiet (fail)
          clear mixed c0 c1 p0 p1
          have kz := kpN HW.out.2.2 nq
          generalize wr.drewN nq = wz at *
          have HF2 := hide (HF1.out _ kz)
          obtain ⟨c0, c1⟩ := HCS.out _ kz
          have FB := FA _ kz
          clear kz FA e3 e4 e5 e6 e7 e8 e9
          cases hz : hs sk M with
          | true =>
            rw [hz] at FB HE6
            have hz0 : (0 : Int) ≤ (pl sk M : Int) := by omega
            have hz1 : decide ((0 : Int) ≤ (pl sk M : Int)) = true := decide_eq_true hz0
            simp only [if_true] at FB
            generalize (pl sk M : Int) = zz at *
            clear hz
            by_cases hn64 : 64 < n
            · have hn1 : (64 : Int) < (n : Int) := by omega
              have hn2 : decide ((64 : Int) < (n : Int)) = true := decide_eq_true hn1
              have hn3 : decide (64 < n) = true := decide_eq_true hn64
              rw [hn3] at HE5
              clear hn3 hn64
              cases b5 <;> cases b6
              all_goals go_wp2_with (go_at_call 183; refine FB.mono ?_; rintro e w3 ⟨rfl, hw⟩; obtain rfl := hw)
              all_goals exact ⟨⟨i + 1 + 1, by first | rfl | rw [HW.out.2.1], by rw [HE5.out]; rfl, by rw [HE6.out]; rfl, HW.out.1, HF2⟩, by rw [HW.out.2.1, ← HEI.out]; exact lt_mi rfl HW.out.1⟩
            · have hn1 : ¬ (64 : Int) < (n : Int) := by omega
              have hn2 : decide ((64 : Int) < (n : Int)) = false := decide_eq_false hn1
              have hn3 : decide (64 < n) = false := decide_eq_false hn64
              rw [hn3] at HE5
              clear hn3 hn64
              cases b5 <;> cases b6
              all_goals go_wp2_with (go_at_call 183; refine FB.mono ?_; rintro e w3 ⟨rfl, hw⟩; obtain rfl := hw)
              all_goals exact ⟨⟨i + 1 + 1, by first | rfl | rw [HW.out.2.1], by rw [HE5.out]; rfl, by rw [HE6.out]; rfl, HW.out.1, HF2⟩, by rw [HW.out.2.1, ← HEI.out]; exact lt_mi rfl HW.out.1⟩
          | false =>
            rw [hz] at FB HE6
            have hz0 : ¬ (0 : Int) ≤ -1 := by omega
            have hz1 : decide ((0 : Int) ≤ -1) = false := decide_eq_false hz0
            simp only [Bool.false_eq_true, if_false] at FB
            clear hz
            by_cases hn64 : 64 < n
            · have hn1 : (64 : Int) < (n : Int) := by omega
              have hn2 : decide ((64 : Int) < (n : Int)) = true := decide_eq_true hn1
              have hn3 : decide (64 < n) = true := decide_eq_true hn64
              rw [hn3] at HE5
              clear hn3 hn64
              cases b5 <;> cases b6
              all_goals go_wp2_with (go_at_call 183; refine FB.mono ?_; rintro e w3 ⟨rfl, hw⟩; obtain rfl := hw)
              all_goals exact ⟨⟨i + 1 + 1, by first | rfl | rw [HW.out.2.1], by rw [HE5.out]; rfl, by rw [HE6.out]; rfl, HW.out.1, HF2⟩, by rw [HW.out.2.1, ← HEI.out]; exact lt_mi rfl HW.out.1⟩
            · have hn1 : ¬ (64 : Int) < (n : Int) := by omega
              have hn2 : decide ((64 : Int) < (n : Int)) = false := decide_eq_false hn1
              have hn3 : decide (64 < n) = false := decide_eq_false hn64
              rw [hn3] at HE5
              clear hn3 hn64
              cases b5 <;> cases b6
              all_goals go_wp2_with (go_at_call 183; refine FB.mono ?_; rintro e w3 ⟨rfl, hw⟩; obtain rfl := hw)
              all_goals exact ⟨⟨i + 1 + 1, by first | rfl | rw [HW.out.2.1], by rw [HE5.out]; rfl, by rw [HE6.out]; rfl, HW.out.1, HF2⟩, by rw [HW.out.2.1, ← HEI.out]; exact lt_mi rfl HW.out.1⟩
        · have hle : sk ≤ rk := by omega
          have hleB : decide (sk ≤ rk) = true := decide_eq_true hle
          have HG1 := hide (HG.out hcmp)
          clear hwi hsi hri HI hlt hi HF HG hcmp eI e1 e2
          go_wp2_with fail
          go_quiet (fail)
          have HF2 := hide (kpN HW.out.2.2 nq)
          go_wp2
          go_ret
          exact ⟨_, rfl, HG1.out, ⟨v, L, by rw [if_neg (by decide)]; exact HH.out.1.nu HF2.out, Vn.refl _ _, fun g hg => .inl hg⟩, HF2.out.mono (fun _ _ e => e.elim)⟩
    · obtain rfl : i = N := by omega
      have hris : RisP S := fun j a b ha hb => HI.out.1 j a b (by have := (List.getElem?_eq_some_iff.1 hb).1; have := HH.out.2.1; omega) ha hb
      have HR := hide (And.intro hris HI.out.2)
      have hnl : ¬ (i : Int) < (i : Int) := by omega
      have k1 := HI.out.2
      have hvn := HH.out.1.n
      have hsm : v.n ≤ 32768 := by have := HH.out.1.lm; have := HH.out.1.mo; omega
      have hix : i ≤ 4398046511104 := HH.out.2.2
      obtain ⟨b0, b1⟩ := cell2 (HH.out.1.nu k1).box
      clear HI hlt hi hris
      cases e5 : lgS S i with
      | true =>
        have HG : Hid (BarR S M most 70) := .inr (.inl ⟨HR.out.1, lgS_some (by rw [HH.out.2.1]; exact e5), rfl⟩)
        clear mixed e5 k1 hvn hsm hix b0 b1
        go_wp2_with fail
        go_ret
        exact ⟨_, rfl, HG.out, ⟨v, L, by rw [if_neg (by decide)]; exact HH.out.1.nu HR.out.2, Vn.refl _ _, fun g hg => .inl hg⟩, HR.out.2.mono (fun _ _ e => e.elim)⟩
      | false =>
        have H5 := hide (lgS_all (by rw [HH.out.2.1]; exact e5))
        cases e6 : thS S M i with
        | true =>
          have HG : Hid (BarR S M most 73) := .inr (.inr (.inl ⟨HR.out.1, H5.out, thS_some (by rw [HH.out.2.1]; exact e6), rfl⟩))
          clear mixed e5 e6 k1 hvn hsm hix b0 b1
          go_wp2_with fail
          go_ret
          exact ⟨_, rfl, HG.out, ⟨v, L, by rw [if_neg (by decide)]; exact HH.out.1.nu HR.out.2, Vn.refl _ _, fun g hg => .inl hg⟩, HR.out.2.mono (fun _ _ e => e.elim)⟩
        | false =>
          have H6 := hide (thS_all (M := M) (by rw [HH.out.2.1]; exact e6))
          clear e5 e6
          have hwl : IntKind.i64.wrap ((v.n : Int) + (i : Int)) = (v.n : Int) + (i : Int) := by rw [IntKind.wrap_i64]; omega
          have hwl2 : wrap64 ((v.n : Int) + (i : Int)) = (v.n : Int) + (i : Int) := by unfold wrap64; omega
          by_cases hfull : most < (M.length : Int) + (i : Int)
          · have hgt : most < (v.n : Int) + (i : Int) := by rw [hvn]; exact hfull
            have hgtB : decide (most < (v.n : Int) + (i : Int)) = true := decide_eq_true hgt
            have HG : Hid (BarR S M most 71) := .inr (.inr (.inr (.inl ⟨HR.out.1, H5.out, H6.out, by rw [HH.out.2.1]; exact hfull, rfl⟩)))
            obtain ⟨va, vn, vc⟩ := v
            simp only at hwl hwl2 hgt hgtB b1
            clear k1 hvn hsm hix hfull
            go_wp2_with fail
            go_quiet (fail)
            have HF2 := hide (kpN HR.out.2 nq)
            clear mixed b0 b1
            go_wp2
            go_ret
            exact ⟨_, rfl, HG.out, ⟨⟨va, vn, vc⟩, L, by rw [if_neg (by decide)]; exact HH.out.1.nu HF2.out, Vn.refl _ _, fun g hg => .inl hg⟩, HF2.out.mono (fun _ _ e => e.elim)⟩
          · have hgt : ¬ most < (v.n : Int) + (i : Int) := by rw [hvn]; exact hfull
            have hgtB : decide (most < (v.n : Int) + (i : Int)) = false := decide_eq_false hgt
            have HG : Hid (BarR S M most 0 ∧ (M.length : Int) + (i : Int) ≤ most) := ⟨.inr (.inr (.inr (.inr ⟨HR.out.1, H5.out, H6.out, by rw [HH.out.2.1]; omega, rfl⟩))), by omega⟩
            obtain ⟨va, vn, vc⟩ := v
            simp only at hwl hwl2 hgt hgtB b1
            clear k1 hvn hsm hix hfull
            go_wp2_with fail
            go_quiet (fail)
            have HF2 := hide (kpN HR.out.2 nq)
            clear b0 b1 hwl hwl2 hgt hgtB hnl
            generalize wr.drewN nq = w2 at *
            go_wp2_with fail
            go_loopw [9] (fun it wr => ∃ j : Nat, it = .int .i64 (j : Int) ∧ j ≤ i ∧ Hid (∃ v' L', Rs wr rb most v' L' (layM (S.take j) M) ∧ Vn w.heap.size L L' ∧ (∀ g, (sl v').ownBlock = some g → (Value.slice va vn vc).ownBlock = some g ∨ w.heap.size ≤ g) ∧ Kp (fun q => q = rb) w wr)) (fun it _ => i - (intOf it).toNat)
            case atStart => exact ⟨0, rfl, Nat.zero_le _, ⟨va, vn, vc⟩, L, HH.out.1.nu HF2.out, Vn.refl _ _, fun g hg => .inl hg, HF2.out.mono (fun _ _ e => e.elim)⟩
            case round =>
              obtain ⟨j, rfl, hj, HJ⟩ := hrel
              obtain ⟨v', L', hrs, hvnn, hblk, kwr⟩ := HJ.out
              by_cases hlt : j < i
              · obtain ⟨s, hsi⟩ : ∃ s, S[j]? = some s := ⟨_, List.getElem?_eq_getElem (by rw [HH.out.2.1]; exact hlt)⟩
                have hmem := List.mem_of_getElem? hsi
                have HWp : Hid (∀ W, Kp Nu wr W → Wp W (.slice ad S.length cap) S) := hide (fun W k => (HH.out.1.wpk kwr HW0.out).nu k)
                obtain ⟨ad', cap', e', hcell⟩ := HWp.out wr (Kp.refl _ _)
                cases e'
                obtain ⟨b, off, ead, c0, c1, hrd, hby, hk0, hk1, hyl⟩ := hcell j s hsi
                have HCS : Hid (∀ W, Kp Nu wr W → W.cell? ⟨b, off + j * 2, none⟩ = some (.int .u64 s.k) ∧ W.cell? ⟨b, off + j * 2 + 1, none⟩ = some (.slice s.v.a s.v.n s.v.c)) := hide (fun W k => ⟨cell_nu c0 k, cell_nu c1 k⟩)
                have h64 := H5.out s hmem
                have hnew : hs s.k (layM (S.take j) M) = false := by
                  have hfr := H6.out
                  have hrp := HR.out.1
                  rw [hs_layM]
                  have h1 := hfr s hmem
                  rw [h1]
                  simp only [Bool.false_or]
                  refine List.any_eq_false.2 (fun q hq => ?_)
                  obtain ⟨x, hx⟩ := List.mem_iff_getElem?.1 hq
                  have hxj : x < j := by
                    have := (List.getElem?_eq_some_iff.1 hx).1
                    rw [List.length_take] at this
                    omega
                  rw [List.getElem?_take_of_lt hxj] at hx
                  have := risp_lt hrp hxj hx hsi
                  simp
                  omega
                have e : layM (S.take (j + 1)) M = putM s.k s.ys (layM (S.take j) M) := by
                  rw [List.take_add_one, hsi]
                  exact layM_snoc _ _ _
                have hroom : ((layM (S.take j) M).length : Int) < most := by
                  have h1 := layM_le (S.take j) M
                  have h2 : (S.take j).length ≤ j := by rw [List.length_take]; omega
                  have h3 := HG.out.2
                  omega
                obtain ⟨sk, ⟨sa, sn, sc⟩, sy⟩ := s
                simp only at c0 c1 hrd hby hk0 hk1 hyl HCS h64 hnew e
                have CA : ∀ W, Kp Nu wr W → Calls Try.prog 184 #[.slice sa sn sc] W fun e w' => ∃ q : Sv, e = .returned (.slice q.a q.n q.c) ∧ Hid (FV w' (sk, q) (sk, sy) ∧ ∀ g, (sl q).ownBlock = some g → wr.heap.size ≤ g) ∧ Kp Nu wr w' := fun W q => by
                  refine (copied184 W _ sy (hrd.nu q) (by omega)).mono ?_
                  rintro e w' ⟨q', e1, e2, e3⟩
                  exact ⟨q', e1, ⟨⟨rfl, own_base e2 (Nat.zero_le _), h64, hk0, hk1, hby⟩, fun g hg => Nat.le_trans q.size (row5_low e2 hg)⟩, q.andNu e3⟩
                have PA : ∀ W (q : Sv), Kp Nu wr W → (FV W (sk, q) (sk, sy) ∧ ∀ g, (sl q).ownBlock = some g → wr.heap.size ≤ g) → Calls Try.prog 185 #[.pointer (some ⟨rb, 0, none⟩), .agg #[.int .u64 sk, .slice q.a q.n q.c]] W fun e w' => (∃ x, e = .returned x) ∧ Hid ((w'.cell? ⟨b, off + j * 2, none⟩ = some (.int .u64 sk) ∧ w'.cell? ⟨b, off + j * 2 + 1, none⟩ = some (.slice sa sn sc)) ∧ ∃ v' L', Rs w' rb most v' L' (layM (S.take (j + 1)) M) ∧ Vn w.heap.size L L' ∧ (∀ g, (sl v').ownBlock = some g → (Value.slice va vn vc).ownBlock = some g ∨ w.heap.size ≤ g) ∧ Kp (fun q => q = rb) w w') := fun W q kq hq => by
                  refine (put185 (hrs.nu kq) sk q sy hq.1 hnew hroom).mono ?_
                  rintro e' w' ⟨e1, e2, e3⟩
                  obtain ⟨v2, L2, f1, f2, f3⟩ := e2.out
                  have hbs := kwr.size
                  have hbs2 := kq.size
                  obtain ⟨d0, d1⟩ := HCS.out W kq
                  have hne : b ≠ rb := (hrs.nu kq).ne8 (by decide) d0
                  refine ⟨e1, ⟨(World.cell?_of_block (e3.block _ (World.block_lt_of_cell? W _ d0) hne)).trans d0, (World.cell?_of_block (e3.block _ (World.block_lt_of_cell? W _ d1) hne)).trans d1⟩, ⟨v2, L2, by rw [e]; exact f1, hvnn.trans (fun p hp => ?_), fun g hg => .inr ?_, (kwr.andNu kq).trans e3 (fun _ _ e => e)⟩⟩
                  · rcases f2 p hp with h1 | rfl
                    · exact .inl h1
                    · exact .inr (fun g hg => Nat.le_trans hbs (hq.2 g hg))
                  · have := f3 g hg; omega
                have hltI : (j : Int) < (i : Int) := by omega
                have hi00 : (0 : Int) ≤ (j : Int) := by omega
                have hwi : wrap64 ((j : Int) + 1) = ((j + 1 : Nat) : Int) := by have := HH.out.2.2; unfold wrap64; omega
                have HW := hide (And.intro hlt hwi)
                have kr0 := Kp.refl Nu wr
                subst ead
                clear hsi hcell hrd hby hk0 hk1 hyl hmem h64 hnew e hroom hrs hvnn hblk kwr HJ hlt hj hwi HWp
                go_wp2_with fail
                go_region_held3 (fun W => W.cell? ⟨b, off + j * 2, none⟩ = some (.int .u64 sk) ∧ W.cell? ⟨b, off + j * 2 + 1, none⟩ = some (.slice sa sn sc)) (first | exact H4.out.1 | (refine HCS.out _ ?_; repeat (first | assumption | exact Kp.refl _ _ | apply Kp.drew)))
                  (first
                    | (go_at_call 184; refine (CA _ ?_).mono ?_; (repeat (first | assumption | exact Kp.refl _ _ | apply Kp.drew)); rintro e w3 ⟨q, rfl, hq, k3⟩)
                    | (go_at_call 185; refine (PA _ q ?_ ?_).mono ?_; (first | exact k3 | exact k3.drew); (first | exact hq.out); rintro e w4 ⟨⟨x, rfl⟩, H4⟩))
                have H5x := hide H4.out.2
                clear mixed c0 c1 CA PA HCS
                go_wp2
                exact ⟨⟨j + 1, by rw [HW.out.2], HW.out.1, H5x⟩, lt_mi HW.out.2 HW.out.1⟩
              · obtain rfl : j = i := by omega
                rw [List.take_of_length_le (by rw [HH.out.2.1]; exact Nat.le_refl _)] at hrs
                have hnl : ¬ (j : Int) < (j : Int) := by omega
                have HZ := hide (And.intro hrs (And.intro hvnn (And.intro hblk kwr)))
                clear hrs hvnn hblk kwr HJ hlt hj mixed
                go_wp2
                go_ret
                exact ⟨0, rfl, HG.out.1, ⟨v', L', by rw [if_pos rfl]; exact HZ.out.1, HZ.out.2.1, HZ.out.2.2.1⟩, HZ.out.2.2.2⟩
end Go.Proofs.Ytchealdgncgjoaa.StU
