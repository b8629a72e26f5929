import Derived.Test.YtffcnonhhfhlhaaDoorLdE
namespace Go.Proofs.YtffcnonhhfhlhaaDoor.Rg
open Go.RowKit Go.Shelf Go.Sort
open Go.Proofs.YtffcnonhhfhlhaaDoor.It
set_option linter.unusedVariables false

theorem unhid {p : Prop} (h : Hid p) : p := h

set_option maxRecDepth 100000 in
set_option maxHeartbeats 2000000 in
theorem join_any (w : World) (u : Value) (M : List Sg) (hM : Sgs w u M) (hlen : (M.length : Int) ≤ 5864062014634) :
    Calls Tryd.prog 67 #[u] w fun e w' => ∃ u', e = .returned u' ∧ w'.ownsRow w.heap.size 26 3 u' (lays [] M).length (cells (lays [] M)) ∧ Kp Nu w w' := by
  have mixed : Tryd.prog.follows .mixedOrders = true := by kernel_rfl
  obtain ⟨i0, hi, hz0, hz1, hz2⟩ := info_parts info40
  obtain ⟨ad, cap, hu⟩ := hM.slice
  obtain ⟨N, hN⟩ : ∃ N, M.length = N := ⟨_, rfl⟩
  have HM := hide hM
  have HN := hide hN
  rw [hN] at hu hlen
  subst hu
  clear hM hN
  go_enter Tryd.func67, Tryd.ntmps67
  go_wp2_with fail
  go_loopw [3, 4] (fun l i wr => ∃ (k n : Nat) (adl : Option Addr) (cpl : Nat), k ≤ N ∧ i = .int .i64 (k : Int) ∧ l = .slice adl n cpl ∧ (n : Int) ≤ 5864062014634 ∧ Hid ((lays [] (M.take k)).length = n ∧ wr.ownsRow w.heap.size 26 3 (.slice adl n cpl) n (cells (lays [] (M.take k))) ∧ Kp Nu w wr)) (fun _ i _ => N - (intOf i).toNat)
  case atStart => exact ⟨0, 0, none, 0, by omega, rfl, rfl, by omega, ⟨rfl, ⟨rfl, .inl ⟨rfl, rfl⟩⟩, Kp.refl _ _⟩⟩
  case round =>
    obtain ⟨k, n, adl, cpl, hk, rfl, rfl, hn8, hI⟩ := hrel
    by_cases hlt : k < N
    · have hkM : k < M.length := by rw [HN.out]; exact hlt
      obtain ⟨s, hs⟩ : ∃ s, M[k]? = some s := ⟨_, List.getElem?_eq_getElem hkM⟩
      have hcell : ∃ bs off cp, (.slice ad N cap : Value) = .slice (some ⟨bs, off, none⟩) N cp ∧ SgAt w bs (off + k * 3) s := by
        rcases HM.out with ⟨_, h0⟩ | ⟨bs, off, cp, h0, h3⟩
        · rw [h0] at hs; simp at hs
        · rw [HN.out] at h0
          exact ⟨bs, off, cp, h0, h3 k s hs⟩
      obtain ⟨bs, off, cp, hq, hsg⟩ := hcell
      simp only [Value.slice.injEq] at hq
      obtain ⟨rfl, hq1⟩ := hq
      clear hq1
      obtain ⟨hl, hown, hkp⟩ := hI.out
      obtain ⟨c0, c1, c2, F1⟩ := hsg
      have hbw : bs < w.heap.size := World.block_lt_of_cell? w _ c0
      replace c0 := cell_nu c0 hkp
      replace c1 := cell_nu c1 hkp
      replace c2 := cell_nu c2 hkp
      have hltI : (k : Int) < (N : Int) := by omega
      have hk0 : (0 : Int) ≤ (k : Int) := by omega
      have hkN : (k : Int) ≤ 5864062014634 := by omega
      have hsz := hkp.size
      have e1 : lays [] (M.take (k + 1)) = lay (lays [] (M.take k)) s := by rw [List.take_add_one, hs, Option.toList_some, lays_snoc]
      have hle2 := lays_le (M.take (k + 1)) []
      have hn9 : ((lays [] (M.take (k + 1))).length : Int) ≤ 5864062014634 := by simp at hle2; omega
      rcases List.eq_nil_or_concat (lays [] (M.take k)) with e | ⟨A', t, e⟩
      · have hn0 : n = 0 := by rw [← hl, e]; rfl
        subst hn0
        have e2 : lays [] (M.take (k + 1)) = [s] := by rw [e1, e]; rfl
        have HE := hide e2
        have HD : Hid (wr.drew.ownsRow w.heap.size 26 3 (.slice adl 0 cpl) 0 (cells [])) := by
          have h1 := hown
          rw [e] at h1
          exact h1
        have HK := hide hkp
        have d0 : wr.drew.cell? ⟨bs, off + k * 3, none⟩ = some (.int .u64 s.lo) := c0
        have d1 : wr.drew.cell? ⟨bs, off + k * 3 + 1, none⟩ = some (.int .u64 s.hi) := c1
        have d2 : wr.drew.cell? ⟨bs, off + k * 3 + 2, none⟩ = some (.int .u8 s.h) := c2
        clear hI hl hown hkp hs hkM e e1 e2 hle2 hn9
        go_wp2_with fail
        go_region
        go_wp2_with (at_builtin; refine unhid ?_)
        refine wpList_append_own_at _ rfl (.tmp 40) (.tmp 45) 22 rfl w.heap.size 26 i0 (.agg #[.int .u64 0, .int .u64 0, .int .u8 0]) 3 24 Tryd.underlying22 hi hz0 hz1 hz2 rfl (by decide) (.slice adl 0 cpl) 0 (cells []) rfl (HD.out.alloc _) ⟨wr.heap.size, 0, none⟩ 1 1 [.int .u64 s.lo, .int .u64 s.hi, .int .u8 s.h] rfl rfl (cell_three_new wr.drew _ _ _ _) (by simp [Value.oneCell']) (by unfold maxLen; omega) (by omega) (by show _ ≤ (wr.drew.alloc _).heap.size; rw [World.size_alloc]; exact Nat.le_trans hsz (Nat.le_succ _)) ?_
        intro v' w4 ho hg hnil hat
        obtain ⟨ad4, cp4, ev⟩ := own_slice ho
        subst ev
        have HO : Hid ((lays [] (M.take (k + 1))).length = 0 + 1 ∧ w4.ownsRow w.heap.size 26 3 (.slice ad4 (0 + 1) cp4) (0 + 1) (cells (lays [] (M.take (k + 1)))) ∧ Kp Nu w w4) := by
          refine ⟨by rw [HE.out]; simp, by rw [HE.out, show cells [s] = cells [] ++ [.int .u64 s.lo, .int .u64 s.hi, .int .u8 s.h] from rfl]; exact ho, ?_⟩
          refine ((HK.out.drew.andAlloc _).trans (Kp.of_grown hg) (fun i hi e => ?_))
          have := (HD.out.lt i e.symm).1
          omega
        clear ho hg hnil hat HD HK
        go_wp2_with fail
        exact ⟨⟨k + 1, _, _, _, by omega, by go_num, rfl, by omega, HO⟩, by simp [intOf]; omega⟩
      · rw [List.concat_eq_append] at e
        obtain ⟨q, hq⟩ : ∃ q, A'.length = q := ⟨_, rfl⟩
        have hl3 : n = q + 1 := by rw [← hl, e, ← hq]; simp
        have hlt2 : (A' ++ [t])[A'.length]? = some t := by simp
        have hown2 : wr.ownsRow w.heap.size 26 3 (.slice adl n cpl) (A'.length + 1) (cells (A' ++ [t])) := by
          rw [← e, hq, ← hl3]; exact hown
        have hown3 : wr.ownsRow w.heap.size 26 3 (.slice adl n cpl) (A' ++ [t]).length (cells (A' ++ [t])) := by
          rw [← e, hl]; exact hown
        obtain ⟨r3, cap3, hu3, x0, x1, x2⟩ := row_at hown3 hlt2
        obtain ⟨r4, cap4, hu4, o1, o2⟩ := own_end hown2 s.hi
        have h34 : r4 = r3 := by
          rw [hu3] at hu4
          simp only [Value.slice.injEq, Option.some.injEq, Addr.mk.injEq, and_true] at hu4
          exact hu4.1.symm
        subst h34
        rw [hq] at x1 x2 o1 o2
        simp only [Value.slice.injEq] at hu3
        obtain ⟨rfl, hy1, hy2⟩ := hu3
        clear hy1 hy2 hu4
        have hr3 : w.heap.size ≤ r4 := (hown.lt r4 rfl).1
        have hq0 : (q : Int) + 1 > 0 := by omega
        have hq8 : (q : Int) + 1 ≤ 5864062014634 := by omega
        have hq9 : (0 : Int) ≤ (q : Int) := by omega
        have d0 : wr.drew.cell? ⟨bs, off + k * 3, none⟩ = some (.int .u64 s.lo) := c0
        have d1 : wr.drew.cell? ⟨bs, off + k * 3 + 1, none⟩ = some (.int .u64 s.hi) := c1
        have d2 : wr.drew.cell? ⟨bs, off + k * 3 + 2, none⟩ = some (.int .u8 s.h) := c2
        have HK := hide hkp
        by_cases hh : t.h = s.h
        · have e2 : lays [] (M.take (k + 1)) = A' ++ [⟨t.lo, s.hi, t.h⟩] := by rw [e1, e, lay_snoc, if_pos hh]
          have heq : (t.h == s.h) = true := by simpa using hh
          have d3 : wr.drew.cell? ⟨r4, q * 3 + 1, none⟩ = some (.int .u64 t.hi) := x1
          have d4 : wr.drew.frozen? ⟨r4, q * 3 + 1, none⟩ = false := o2
          have HO : Hid ((lays [] (M.take (k + 1))).length = q + 1 ∧ (wr.drew.setCell ⟨r4, q * 3 + 1, none⟩ (.int .u64 s.hi)).ownsRow w.heap.size 26 3 (.slice (some ⟨r4, 0, none⟩) (q + 1) cpl) (q + 1) (cells (lays [] (M.take (k + 1)))) ∧ Kp Nu w (wr.drew.setCell ⟨r4, q * 3 + 1, none⟩ (.int .u64 s.hi))) := by
            refine ⟨by rw [e2]; simp [hq], ?_, HK.out.drew.andSet _ _ (.inl hr3)⟩
            rw [e2]
            have h1 := o1
            rw [hl3] at h1
            exact h1
          subst hl3
          clear hI hl hown hown2 hown3 o1 hkp hs hkM e e1 e2 hle2 hn9 hlt2 x0 x1 hh
          go_wp2_with fail
          go_region
          go_wp2_with fail
          exact ⟨⟨k + 1, _, _, _, by omega, by go_num, rfl, by omega, HO⟩, by simp [intOf]; omega⟩
        · have e2 : lays [] (M.take (k + 1)) = A' ++ [t] ++ [s] := by rw [e1, e, lay_snoc, if_neg hh]
          have heq : (t.h == s.h) = false := by simpa using hh
          have hb9 : (q : Int) + 1 + 1 ≤ 5864062014634 := by
            rw [e2] at hn9
            simp [hq] at hn9
            omega
          have HE := hide e2
          have HQ := hide hq
          have HD : Hid (wr.drew.ownsRow w.heap.size 26 3 (.slice (some ⟨r4, 0, none⟩) (q + 1) cpl) (q + 1) (cells (A' ++ [t]))) := by
            have h1 := hown2
            rw [hq, hl3] at h1
            exact h1
          subst hl3
          clear hI hl hown hown2 hown3 o1 hkp hs hkM e e1 e2 hle2 hn9 hlt2 x0 x1 hh hq
          go_wp2_with fail
          go_region
          go_wp2_with (at_builtin; refine unhid ?_)
          refine wpList_append_own_at _ rfl (.tmp 40) (.tmp 45) 22 rfl w.heap.size 26 i0 (.agg #[.int .u64 0, .int .u64 0, .int .u8 0]) 3 24 Tryd.underlying22 hi hz0 hz1 hz2 rfl (by decide) (.slice (some ⟨r4, 0, none⟩) (q + 1) cpl) (q + 1) (cells (A' ++ [t])) rfl (HD.out.alloc _) ⟨wr.heap.size, 0, none⟩ 1 1 [.int .u64 s.lo, .int .u64 s.hi, .int .u8 s.h] rfl rfl (cell_three_new wr.drew _ _ _ _) (by simp [Value.oneCell']) (by unfold maxLen; omega) (by omega) (by show _ ≤ (wr.drew.alloc _).heap.size; rw [World.size_alloc]; exact Nat.le_trans hsz (Nat.le_succ _)) ?_
          intro v' w4 ho hg hnil hat
          obtain ⟨ad4, cp4, ev⟩ := own_slice ho
          subst ev
          have HO : Hid ((lays [] (M.take (k + 1))).length = q + 1 + 1 ∧ w4.ownsRow w.heap.size 26 3 (.slice ad4 (q + 1 + 1) cp4) (q + 1 + 1) (cells (lays [] (M.take (k + 1)))) ∧ Kp Nu w w4) := by
            refine ⟨by rw [HE.out]; simp [HQ.out], by rw [HE.out, cells_append (A' ++ [t]) [s]]; exact ho, ?_⟩
            refine ((HK.out.drew.andAlloc _).trans (Kp.of_grown hg) (fun i hi e => ?_))
            have := (HD.out.lt i e.symm).1
            omega
          clear ho hg hnil hat HD HK
          go_wp2_with fail
          exact ⟨⟨k + 1, _, _, _, by omega, by go_num, rfl, by omega, HO⟩, by simp [intOf]; omega⟩
    · have hge : ¬ (k : Int) < (N : Int) := by omega
      obtain rfl : k = N := by omega
      obtain ⟨hl, hown, hkp⟩ := hI.out
      rw [List.take_of_length_le (by rw [HN.out]; omega)] at hl hown
      have HO : Hid (wr.ownsRow w.heap.size 26 3 (.slice adl n cpl) (lays [] M).length (cells (lays [] M)) ∧ Kp Nu w wr) := ⟨by rw [hl]; exact hown, hkp⟩
      clear hI hl hown hkp
      go_wp2
      go_ret
      exact ⟨_, rfl, HO.out.1, HO.out.2⟩
end Go.Proofs.YtffcnonhhfhlhaaDoor.Rg
namespace Go.Proofs.YtffcnonhhfhlhaaDoor.Rg
open Go.RowKit Go.Shelf Go.Sort
open Go.Proofs.YtffcnonhhfhlhaaDoor.It
set_option linter.unusedVariables false

theorem lok_no {M : List Sg} {k : Nat} {s : Sg} {n : Nat} (h : Lok M n) (hk : k < n) (hs : M[k]? = some s) (hf : flt (lays [] (M.take k)) s ≠ 0) : False := hf (h k hk s hs)
/-- the document's code, of what its Fault says -/
def refC (lim : Int) (M : List Sg) (f : Int) : Int := if f ≠ 0 then f else if lim < ((lays [] M).length : Int) then 61 else 0
/-- both answer the same -/
theorem code_same {w w' : World} {lim : Int} {M : List Sg} {p : Value} {i c p' f : Int} (h : Lrs w w' lim M p i c) (g : Frs M p' f) : c = refC lim M f := by
  unfold refC
  rcases h with ⟨_, k, s, h1, h2, h3, h4, _⟩ | ⟨_, h1, _, h2⟩ | ⟨h0, _, h1, h2, h3, _⟩
  · have hk : k < M.length := (List.getElem?_eq_some_iff.1 h2).1
    rcases g with ⟨k', s', g1, g2, g3, g4, _⟩ | ⟨g1, _⟩ | ⟨_, g1, _⟩
    · have hk' : k' < M.length := (List.getElem?_eq_some_iff.1 g2).1
      have e : k = k' := by
        rcases Nat.lt_trichotomy k k' with l | l | l
        · exact (lok_no g1 l h2 (by rw [h3]; exact h4)).elim
        · exact l
        · exact (lok_no h1 l g2 (by rw [g3]; exact g4)).elim
      subst e
      rw [h2] at g2
      cases g2
      rw [if_pos g4, ← g3, h3]
    · exact (lok_no g1 hk h2 (by rw [h3]; exact h4)).elim
    · exact (lok_no g1 hk h2 (by rw [h3]; exact h4)).elim
  · rcases g with ⟨k', s', g1, g2, g3, g4, _⟩ | ⟨g1, g2, g3, _⟩ | ⟨g0, g1, g2, _⟩
    · exact (lok_no h1 (List.getElem?_eq_some_iff.1 g2).1 g2 (by rw [g3]; exact g4)).elim
    · rcases h2 with ⟨rfl, _⟩ | ⟨_, h2, _⟩
      · rw [if_pos (by omega), g2]
      · rw [g3] at h2; cases h2
    · rcases h2 with ⟨_, h2⟩ | ⟨rfl, _, h3⟩
      · rw [g2] at h2; cases h2
      · rw [if_neg (by omega), if_pos h3]
  · rcases g with ⟨k', s', g1, g2, g3, g4, _⟩ | ⟨g1, g2, g3, _⟩ | ⟨g0, g1, g2, _⟩
    · exact (lok_no h1 (List.getElem?_eq_some_iff.1 g2).1 g2 (by rw [g3]; exact g4)).elim
    · rw [g3] at h2; cases h2
    · rw [if_neg (by omega), if_neg (by omega), h0]

set_option maxRecDepth 100000 in
set_option maxHeartbeats 1000000 in
theorem load_lim (w : World) (ad : Option Addr) (n cap : Nat) (lim : Int) (hl : ¬ (1 ≤ lim ∧ lim ≤ 8192)) :
    Calls Tryd.prog 62 #[.slice ad n cap, .int .i64 lim] w fun e w' => e = .returned (.tuple #[.pointer none, .int .i64 0, .int .i64 63]) ∧ Kp Nu w w' := by
  have LI := limit_bad lim w hl
  clear hl
  go_enter Tryd.func62, Tryd.ntmps62
  go_wp2_with fail
  refine LI.mono ?_; rintro e w1 ⟨rfl, hw1⟩
  obtain rfl := hw1.symm
  clear LI hw1
  go_wp2
  go_ret3
  exact ⟨rfl, Kp.refl _ _⟩
/-- what Load answers -/
def Lrt (w w' : World) (lim : Int) (M : List Sg) (p : Value) (c : Int) : Prop := (¬ (1 ≤ lim ∧ lim ≤ 8192) ∧ p = .pointer none ∧ c = 63) ∨ ((1 ≤ lim ∧ lim ≤ 8192) ∧ ∃ i, Lrs w w' lim M p i c)
theorem Lrt.ptr {w w' : World} {lim : Int} {M : List Sg} {p : Value} {c : Int} (h : Lrt w w' lim M p c) : (p = .pointer none ∧ c ≠ 0) ∨ (c = 0 ∧ ∃ b, p = .pointer (some ⟨b, 0, none⟩)) := by
  rcases h with ⟨_, h1, h2⟩ | ⟨_, i, ⟨h1, _, _, _, _, _, h2, _⟩ | ⟨h1, _, _, ⟨h2, _⟩ | ⟨h2, _⟩⟩ | ⟨h1, _, _, _, _, b, v, h2, _⟩⟩
  · exact .inl ⟨h1, by omega⟩
  · exact .inl ⟨h1, h2⟩
  · exact .inl ⟨h1, by omega⟩
  · exact .inl ⟨h1, by omega⟩
  · exact .inr ⟨h1, b, h2⟩
set_option maxRecDepth 100000 in
set_option maxHeartbeats 1000000 in
theorem Load_any (w : World) (u : Value) (M : List Sg) (hrd : Rz w u M) (hb : ∀ s ∈ M, SgB s) (hM : M.length ≤ 5864062014634) (lim : Int) :
    Calls Tryd.prog 31 #[u, .int .i64 lim] w fun e w' => ∃ p c, e = .returned (.tuple #[p, .int .i64 c]) ∧ Lrt w w' lim M p c ∧ Kp Nu w w' := by
  obtain ⟨ad, cap, hu⟩ := hrd.slice
  by_cases hl : 1 ≤ lim ∧ lim ≤ 8192
  · have LO := load_any w u M hrd hb hM lim hl.1 hl.2
    generalize M.length = N at hu hM
    subst hu
    clear hrd hb
    go_enter Tryd.func31, Tryd.ntmps31
    go_wp2_with fail
    refine LO.mono ?_; rintro e w2 ⟨p, i, c, rfl, hL, hk⟩
    have HL := hide (And.intro hL hk)
    clear LO hL hk
    go_wp2
    go_ret2
    exact ⟨_, _, rfl, .inr ⟨hl, i, HL.out.1⟩, HL.out.2⟩
  · generalize M.length = N at hu hM
    subst hu
    have LO := load_lim w ad N cap lim hl
    clear hrd hb
    go_enter Tryd.func31, Tryd.ntmps31
    go_wp2_with fail
    refine LO.mono ?_; rintro e w2 ⟨rfl, hk⟩
    have HL := hide hk
    clear LO hk
    go_wp2
    go_ret2
    exact ⟨_, _, rfl, .inl ⟨hl, rfl, rfl⟩, HL.out⟩
end Go.Proofs.YtffcnonhhfhlhaaDoor.Rg
