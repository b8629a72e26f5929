import Derived.Test.YthajboipnjjgfaaReL
namespace Go.Proofs.Ythajboipnjjgfaa.Ly
open Go.RowKit Go.Maps
set_option linter.unusedVariables false
set_option linter.unusedSimpArgs false

set_option maxRecDepth 100000 in
set_option maxHeartbeats 1000000 in
theorem kept_any {w : World} {d u : Value} {ys : List Int} (h : Hnd w d ys u) (hr : Rd w d ys) (hb : ys.length ≤ 140737488351232) :
    Calls Try.prog 69 #[u, d] w fun e w' => e = .returned (.bool true) ∧ Kp Nu w w' := by
  have nn := notNil25
  have ni := isNil25
  rcases h with ⟨rfl, rfl, rfl⟩ | ⟨a, cap, g, rfl, rfl, hg⟩
  · go_enter Try.func69, Try.ntmps69
    go_wp2
    go_ret
    exact ⟨rfl, Kp.refl _ _⟩
  · rcases hr with ⟨e, _⟩ | ⟨a', cap', e, hc⟩
    · cases e
    simp only [Value.slice.injEq, Option.some.injEq] at e
    obtain ⟨e1, e2, e3⟩ := e
    clear e2
    subst e1 e3
    have HG := hide hg
    have HC := hide hc
    obtain ⟨n, hn⟩ : ∃ n, ys.length = n := ⟨_, rfl⟩
    have HN := hide hn
    rw [hn] at hb ⊢
    have hbI : (n : Int) ≤ 140737488351232 := by omega
    have hn0 : (0 : Int) ≤ (n : Int) := by omega
    clear hc hg hn hb ni
    go_enter Try.func69, Try.ntmps69
    go_wp2_with fail
    go_loopw [6] (fun i wr => ∃ (k q : Nat), k ≤ n + 8 ∧ i = .int .i64 (k : Int) ∧ wr = w.drewN q) (fun i _ => n + 8 - (intOf i).toNat)
    case atStart => exact ⟨0, 0, by omega, rfl, rfl⟩
    case round =>
      obtain ⟨k, q, hk, rfl, rfl⟩ := hrel
      have hkb : (k : Int) ≤ 140737488351240 := by omega
      by_cases hlt : k < n + 8
      · have hltI : (k : Int) < ((n + 8 : Nat) : Int) := by omega
        have hltI2 : (k : Int) < (n : Int) + 8 := by omega
        have hk0 : (0 : Int) ≤ (k : Int) := by omega
        by_cases hl2 : k < n
        · have hl2I : (k : Int) < (n : Int) := by omega
          have hl3 : ¬ (k : Int) ≥ (n : Int) := by omega
          have hl4 : decide (n ≤ k) = false := by simp; omega
          have hky : k < ys.length := by rw [HN.out]; exact hl2
          obtain ⟨y, hy⟩ : ∃ y, ys[k]? = some y := ⟨_, List.getElem?_eq_getElem hky⟩
          have hcy : w.cell? (a.add k) = some (.int .u8 y) := HC.out k (.int .u8 y) (by simp [cs, hy])
          have hcg : w.cell? ⟨g, k, none⟩ = some (.int .u8 y) := by
            have := hndL_lo hy
            simpa [World.cell?, HG.out] using this
          have hyy : (y != y) = false := by simp
          clear hy hky
          go_wp2_with fail
          go_quiet (fail)
          go_wp2
          exact ⟨⟨k + 1, q + nq, by omega, by go_num, rfl⟩, by simp [intOf]; omega⟩
        · have hl2I : ¬ (k : Int) < (n : Int) := by omega
          have hl3 : (k : Int) ≥ (n : Int) := by omega
          have hl4 : decide (n ≤ k) = true := by simp; omega
          have hcg : w.cell? ⟨g, k, none⟩ = some (.int .u8 173) := by
            have := hndL_hi (ys := ys) (k := k) (by rw [HN.out]; omega) (by rw [HN.out]; omega)
            simpa [World.cell?, HG.out] using this
          go_wp2_with fail
          go_quiet (fail)
          go_wp2
          exact ⟨⟨k + 1, q + nq, by omega, by go_num, rfl⟩, by simp [intOf]; omega⟩
      · have hge : ¬ (k : Int) < ((n + 8 : Nat) : Int) := by omega
        have hge2 : ¬ (k : Int) < (n : Int) + 8 := by omega
        go_wp2
        go_ret
        exact ⟨rfl, kp_drewN _ _⟩

/-- ints as cells -/
def jcs (xs : List Int) : List Value := xs.map (Value.int .i64)
theorem RdI.of_own {w : World} {B n : Nat} {u : Value} {xs : List Int} (h : w.ownsRow B 3 1 u n (jcs xs)) : RdI w u xs := by
  have hn : n = xs.length := by have := h.1; simp [jcs] at this; omega
  rcases h.2 with ⟨rfl, h0⟩ | ⟨r, cap, cur, e, hB, hg, h1, h2, h3, h4⟩
  · exact .inl ⟨⟨_, _, rfl⟩, List.eq_nil_of_length_eq_zero (by omega)⟩
  · refine .inr ⟨r, 0, cap, by rw [e, hn], fun i x hi => ?_⟩
    have hlt : i < xs.length := (List.getElem?_eq_some_iff.1 hi).1
    have e1 : (jcs xs)[i]? = some (.int .i64 x) := by simp [jcs, hi]
    rw [← h4, List.getElem?_take_of_lt (by omega)] at e1
    simpa [World.cell?, hg] using e1

set_option maxRecDepth 100000 in
set_option maxHeartbeats 1000000 in
theorem ints_any {w : World} {u : Value} {xs : List Int} (h : RdI w u xs) (hb : xs.length ≤ 17592186043904) (hnil : u = .slice none 0 0 ∨ ∃ a n cap, u = .slice (some a) n cap) :
    Calls Try.prog 72 #[u] w fun e w' => ∃ v, e = .returned v ∧ w'.ownsRow w.heap.size 3 1 v xs.length (jcs xs) ∧ Kp Nu w w' := by
  obtain ⟨i0, hi, hz0, hz1, hz2⟩ := info_parts info3
  have hrow : w.ownsRow w.heap.size 3 1 (.slice none 0 0) 0 [] := World.ownsRow_nil _ _ _ _
  rcases hnil with rfl | ⟨a, n, cap, rfl⟩
  · have hx : xs = [] := by
      rcases h with ⟨_, rfl⟩ | ⟨a, o, cap, e, _⟩
      · rfl
      · cases e
    subst hx
    go_enter Try.func72, Try.ntmps72
    go_wp2_with (first | (at_builtin; refine wpList_append_own_none rfl _ _ 22 rfl w.heap.size 3 i0 1 Try.underlying22 hi _ _ _ rfl hrow rfl ?_) | go_in)
    go_ret
    exact ⟨_, rfl, hrow, Kp.refl _ _⟩
  · have hcell : n = xs.length ∧ ∀ j x, (jcs xs)[j]? = some x → w.cell? (a.add j) = some x := by
      rcases h with ⟨⟨ad, cap', e⟩, rfl⟩ | ⟨b, o, cap', e, hc⟩
      · simp only [Value.slice.injEq] at e
        exact ⟨e.2.1, fun j x hj => by simp [jcs] at hj⟩
      · simp only [Value.slice.injEq, Option.some.injEq] at e
        obtain ⟨rfl, e2, _⟩ := e
        refine ⟨e2, fun j x hj => ?_⟩
        simp only [jcs, List.getElem?_map, Option.map_eq_some_iff] at hj
        obtain ⟨y, hy, rfl⟩ := hj
        rw [Addr.add_lit]
        exact hc j y hy
    obtain ⟨rfl, hcell⟩ := hcell
    have HC := hide hcell
    have HB := hide hb
    have HL : Hid ((jcs xs).length = xs.length * 1) := by show _ = _; simp [jcs]
    have H1 : Hid (∀ u ∈ jcs xs, u.oneCell' = true) := fun u hu => by
      obtain ⟨x, _, rfl⟩ := List.mem_map.1 hu; rfl
    clear h hcell hb
    generalize hN : xs.length = N at *
    go_enter Try.func72, Try.ntmps72
    go_wp2_with (first | (at_builtin; refine wpList_append_own _ rfl _ _ 22 rfl w.heap.size 3 i0 (.int .i64 0) 1 8 Try.underlying22 hi hz0 hz1 hz2 rfl (by decide) _ _ _ rfl hrow a N cap (jcs xs) rfl HL.out HC.out H1.out (by have := HB.out; unfold maxLen; omega) (by have := HB.out; omega) (Nat.le_refl _) ?_; intro v' w3 hown' hg3 hnil3; obtain ⟨ad3, cp3, ev3⟩ := own_slice hown'; have HO := hide hown'; have HG3 := hide hg3; subst ev3; clear hown' hg3 hnil3) | go_in)
    go_ret
    refine ⟨_, rfl, ?_, (Kp.of_grown HG3.out).mono (fun i _ e => by cases e)⟩
    have := HO.out
    simpa using this

set_option maxRecDepth 100000 in
set_option maxHeartbeats 1000000 in
theorem equal_any {w : World} {u v : Value} {xs : List Int} (h : RdI w u xs) (k : RdI w v xs) (hb : (xs.length : Int) ≤ 17592186043904) :
    Calls Try.prog 74 #[u, v] w fun e w' => e = .returned (.bool true) ∧ Kp Nu w w' := by
  obtain ⟨ad1, cap1, e1⟩ := h.slice
  obtain ⟨ad2, cap2, e2⟩ := k.slice
  obtain ⟨n, hn⟩ : ∃ n, xs.length = n := ⟨_, rfl⟩
  have HN := hide hn
  have HR := hide h
  have HK := hide k
  rw [hn] at e1 e2 hb
  have hnn : ((n : Int) != (n : Int)) = false := by simp
  subst e1 e2
  clear h k hn
  go_enter Try.func74, Try.ntmps74
  go_wp2_with fail
  go_loopw [5] (fun i wr => ∃ (j q : Nat), j ≤ n ∧ i = .int .i64 (j : Int) ∧ wr = w.drewN q) (fun i _ => n - (intOf i).toNat)
  case atStart => exact ⟨0, 0, by omega, rfl, rfl⟩
  case round =>
    obtain ⟨j, q, hj, rfl, rfl⟩ := hrel
    by_cases hlt : j < n
    · have hjl : j < xs.length := by rw [HN.out]; exact hlt
      obtain ⟨x, hx⟩ : ∃ x, xs[j]? = some x := ⟨_, List.getElem?_eq_getElem hjl⟩
      have hltI : (j : Int) < (n : Int) := by omega
      have hj0 : (0 : Int) ≤ (j : Int) := by omega
      rcases HR.out with ⟨_, e⟩ | ⟨a, o, cap', e, hc⟩
      · subst e; simp at hjl
      have hc1 := hc j x hx
      simp only [Value.slice.injEq] at e
      obtain ⟨e1, e2, e3⟩ := e
      clear e2 e3 hc
      subst e1
      rcases HK.out with ⟨_, e⟩ | ⟨a2, o2, cap2', e, hc⟩
      · subst e; simp at hjl
      have hc2 := hc j x hx
      simp only [Value.slice.injEq] at e
      obtain ⟨e1, e2, e3⟩ := e
      clear e2 e3 hc
      subst e1
      have hxx : (x != x) = false := by simp
      clear hx hjl
      go_wp2_with fail
      go_quiet (fail)
      go_wp2
      exact ⟨⟨j + 1, q + nq, by omega, by go_num, rfl⟩, by simp [intOf]; omega⟩
    · have hge : ¬ (j : Int) < (n : Int) := by omega
      go_wp2
      go_ret
      exact ⟨rfl, kp_drewN _ _⟩

set_option maxHeartbeats 1000000 in
theorem alike_any {w : World} {u1 u2 : Value} {ys : List Int} (f t : Int) (f0 : 0 ≤ f) (f1 : f < 256) (t0 : 0 ≤ t) (t1 : t < 256) (b : Bool) (h1 : Rd w u1 ys) (h2 : Rd w u2 ys) (hb : ys.length ≤ 140737488355328) :
    Calls Try.prog 71 #[.agg #[.int .u8 f, .int .u8 t, u1], .agg #[.int .i64 f, .int .i64 t, u2, .bool b]] w fun e w' => e = .returned (.bool true) ∧ Kp Nu w w' := by
  have K := ((Kp.refl Nu w).andAlloc (.cells #[.int .u8 f, .int .u8 t, u1] 38)).andAlloc (.cells #[.int .i64 f, .int .i64 t, u2, .bool b] 120)
  have SA := same_any (h1.nu K) (h2.nu K) hb
  rw [show decide (ys = ys) = true by simp] at SA
  obtain ⟨ad1, cap1, e1⟩ := h1.slice
  obtain ⟨ad2, cap2, e2⟩ := h2.slice
  have hff : (f == f) = true := by simp
  have htt : (t == t) = true := by simp
  subst e1 e2
  have HK := hide K
  clear h1 h2 hb K
  generalize ys.length = M at *
  go_enter Try.func71, Try.ntmps71
  go_wp2_with fail
  refine SA.mono ?_; rintro e w2 ⟨rfl, hk⟩
  have HK2 := hide (HK.out.andNu hk)
  clear SA hk HK
  go_wp2
  go_ret
  exact ⟨rfl, HK2.out⟩
end Go.Proofs.Ythajboipnjjgfaa.Ly
