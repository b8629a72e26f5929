import Derived.Test.YtbifmcadllilhaaGreatRgR
namespace Go.Proofs.YtbifmcadllilhaaGreat.Rg
open Go.RowKit Go.Shelf Go.Sort
open Go.Proofs.YtbifmcadllilhaaGreat.It
set_option linter.unusedVariables false

theorem rs_of_own {w : World} {B : Nat} {u : Value} {L : List Sg} (h : w.ownsRow B 38 3 u L.length (cells L)) (hl : 0 < L.length) : Rs w u L := by
  rcases h.2 with ⟨_, h0⟩ | ⟨r, cap, cur, e, hB, hg, h1, h2, h3, h4⟩
  · omega
  · refine ⟨r, 0, cap, e, fun i s hi => ?_⟩
    obtain ⟨r', cap', e', x0, x1, x2⟩ := row_at h hi
    rw [e] at e'; cases e'
    simpa using And.intro x0 (And.intro x1 x2)

theorem cov_snoc : ∀ {A : List Sg} {a m : Int} {t : Sg}, Cov a A m → t.lo = m → t.lo ≤ t.hi → Cov a (A ++ [t]) (t.hi + 1) := fun h h1 h2 => cov_append h ⟨h1, by omega, rfl⟩
set_option maxHeartbeats 400000 in
theorem refHost_any (a : Int) (w : World) : Calls Tryz.prog 42 #[.int .u8 a] w fun e w' => e = .returned (.bool (decide (a ≤ 15))) ∧ w' = w := by
  go_enter Tryz.func42, Tryz.ntmps42
  go_wp2
  go_ret
  exact ⟨rfl, rfl⟩

set_option maxRecDepth 100000 in
set_option maxHeartbeats 2000000 in
/-- what the document's Fault answers: nothing is at fault only in a list that may be loaded -/
theorem fault_ref (w : World) (u : Value) (M : List Sg) (hM : Sgs w u M) (hlen : (M.length : Int) ≤ 5864062014634) :
    Calls Tryz.prog 24 #[u] w fun e w' => ∃ p c : Int, e = .returned (.tuple #[.int .i64 p, .int .i64 c]) ∧ (c = 0 → Good M ∧ 0 < M.length) ∧ Kp Nu w w' := by
  have mixed : Tryz.prog.follows .mixedOrders = true := by kernel_rfl
  obtain ⟨ad, cap, hu⟩ := hM.slice
  obtain ⟨N, hN⟩ : ∃ N, M.length = N := ⟨_, rfl⟩
  have HM := hide hM
  have HN := hide hN
  rw [hN] at hu hlen
  subst hu
  clear hM hN
  go_enter Tryz.func24, Tryz.ntmps24
  go_wp2_with fail
  go_loopw [4, 5, 6] (fun nx ov i wr => ∃ (k : Nat) (E : Int), i = .int .i64 (k : Int) ∧ k ≤ N ∧ nx = .int .u64 (if E = 18446744073709551616 then 0 else E) ∧ ov = .bool (decide (E = 18446744073709551616)) ∧ Hid (0 ≤ E ∧ E ≤ 18446744073709551616 ∧ Cov 0 (M.take k) E ∧ (∀ s ∈ M.take k, 0 ≤ s.h ∧ s.h < 16) ∧ Kp Nu w wr)) (fun _ _ i _ => N - (intOf i).toNat)
  case atStart => exact ⟨0, 0, rfl, Nat.zero_le _, by simp, by simp, ⟨by omega, by omega, rfl, by simp, Kp.refl _ _⟩⟩
  case round =>
    obtain ⟨k, E, rfl, hk, rfl, rfl, hI⟩ := hrel
    by_cases hlt : k < N
    · have hkM : k < M.length := by rw [HN.out]; exact hlt
      obtain ⟨s, hs⟩ : ∃ s, M[k]? = some s := ⟨_, List.getElem?_eq_getElem hkM⟩
      have hcell : ∃ bs off cp, (.slice ad N cap : Value) = .slice (some ⟨bs, off, none⟩) N cp ∧ SgAt w bs (off + k * 3) s := by
        rcases HM.out with ⟨_, h0⟩ | ⟨bs, off, cp, h0, h3⟩
        · rw [h0] at hs; simp at hs
        · rw [HN.out] at h0
          exact ⟨bs, off, cp, h0, h3 k s hs⟩
      obtain ⟨bs, off, cp, hq, hsg⟩ := hcell
      simp only [Value.slice.injEq] at hq
      obtain ⟨rfl, hq1⟩ := hq
      clear hq1
      obtain ⟨E0, E1, hc, hh, hkp⟩ := hI.out
      obtain ⟨c0, c1, c2, F1⟩ := hsg
      replace c0 := cell_nu c0 hkp
      replace c1 := cell_nu c1 hkp
      replace c2 := cell_nu c2 hkp
      have hltI : (k : Int) < (N : Int) := by omega
      have hk0 : (0 : Int) ≤ (k : Int) := by omega
      have HK := hide hkp
      have HTK : Hid (M.take (k + 1) = M.take k ++ [s]) := by
        show _ = _
        rw [List.take_add_one, hs]; rfl
      by_cases hE : E = 18446744073709551616
      · rw [if_pos hE, decide_eq_true hE]
        clear hI hc hh hkp hs hkM
        go_wp2
        go_ret2
        exact ⟨_, _, rfl, by simp, HK.out⟩
      rw [if_neg hE, decide_eq_false hE]
      by_cases hlo : s.lo = E
      · have y1 : (s.lo != E) = false := by simp [hlo]
        have y1' : (E != E) = false := by simp
        by_cases hgt : s.lo > s.hi
        · have hgd : decide (s.hi < s.lo) = true := decide_eq_true hgt
          have d0 : wr.drew.cell? ⟨bs, off + k * 3, none⟩ = some (.int .u64 s.lo) := c0
          have d1 : wr.drew.cell? ⟨bs, off + k * 3 + 1, none⟩ = some (.int .u64 s.hi) := c1
          have HK2 : Hid (Kp Nu w wr.drew) := HK.out.drew
          clear hI hc hh hkp hs hkM hlo
          go_wp2_with fail
          go_region
          go_wp2
          go_ret2
          exact ⟨_, _, rfl, by simp, HK2.out⟩
        · have hgd : decide (s.hi < s.lo) = false := decide_eq_false hgt
          have d0 : wr.drew.cell? ⟨bs, off + k * 3, none⟩ = some (.int .u64 s.lo) := c0
          have d1 : wr.drew.cell? ⟨bs, off + k * 3 + 1, none⟩ = some (.int .u64 s.hi) := c1
          have d2 : wr.drew.cell? ⟨bs, off + k * 3 + 2, none⟩ = some (.int .u8 s.h) := c2
          have HK2 : Hid (Kp Nu w wr.drew) := HK.out.drew
          have RH := refHost_any s.h wr.drew
          by_cases hho : s.h ≤ 15
          · rw [decide_eq_true hho] at RH
            have HF : Hid (0 ≤ s.hi + 1 ∧ s.hi + 1 ≤ 18446744073709551616 ∧ Cov 0 (M.take (k + 1)) (s.hi + 1) ∧ (∀ t ∈ M.take (k + 1), 0 ≤ t.h ∧ t.h < 16) ∧ Kp Nu w wr.drew) := by
              refine ⟨by omega, by omega, ?_, ?_, HK2.out⟩
              · rw [HTK.out]; exact cov_snoc hc hlo (by omega)
              · rw [HTK.out]; intro t ht
                rcases List.mem_append.1 ht with h | h
                · exact hh t h
                · simp at h; subst h; omega
            have hwp : IntKind.u64.wrap (s.hi + 1) = if s.hi + 1 = 18446744073709551616 then 0 else s.hi + 1 := by
              rw [IntKind.wrap_u64]; split <;> omega
            have hov : (s.hi == 18446744073709551615) = decide (s.hi + 1 = 18446744073709551616) := by
              by_cases e : s.hi = 18446744073709551615
              · simp [e]
              · have : ¬ s.hi + 1 = 18446744073709551616 := by omega
                simp [e, this]
            have HWP := hide (And.intro hwp hov)
            clear hI hc hh hkp hs hkM hlo hwp hov
            go_wp2_with fail
            go_region
            go_wp2_with fail
            refine RH.mono ?_; rintro e w2 ⟨rfl, hw2⟩
            obtain rfl := hw2.symm
            clear RH hw2
            go_wp2
            go_roundw
            case rel => exact ⟨k + 1, s.hi + 1, by go_num, by omega, by first | rw [HWP.out.1] | (rw [← HWP.out.1]), by rw [HWP.out.2], HF⟩
            case measure => simp [intOf]; omega
          · rw [decide_eq_false hho] at RH
            clear hI hc hh hkp hs hkM hlo
            go_wp2_with fail
            go_region
            go_wp2_with fail
            refine RH.mono ?_; rintro e w2 ⟨rfl, hw2⟩
            obtain rfl := hw2.symm
            clear RH hw2
            go_wp2
            go_ret2
            exact ⟨_, _, rfl, by simp, HK2.out⟩
      · have y1 : (s.lo != E) = true := by simp [hlo]
        clear hI hc hh hkp hs hkM
        go_wp2
        go_ret2
        exact ⟨_, _, rfl, by simp, HK.out⟩
    · have hge : ¬ (k : Int) < (N : Int) := by omega
      obtain rfl : k = N := by omega
      obtain ⟨E0, E1, hc, hh, hkp⟩ := hI.out
      rw [List.take_of_length_le (by rw [HN.out]; omega)] at hc hh
      have HK := hide hkp
      by_cases hE : E = 18446744073709551616
      · subst hE
        have HG : Hid (Good M ∧ 0 < M.length) := by
          refine ⟨⟨hc, hh⟩, ?_⟩
          cases M with
          | nil => have e : (0 : Int) = 18446744073709551616 := hc; omega
          | cons a M => simp
        clear hI hc hh hkp
        simp only [if_true, decide_true]
        go_wp2
        go_ret2
        exact ⟨_, _, rfl, fun _ => HG.out, HK.out⟩
      · rw [if_neg hE, decide_eq_false hE]
        clear hI hc hh hkp
        go_wp2
        go_ret2
        exact ⟨_, _, rfl, by simp, HK.out⟩
end Go.Proofs.YtbifmcadllilhaaGreat.Rg
namespace Go.Proofs.YtbifmcadllilhaaGreat.Rg
open Go.RowKit Go.Shelf Go.Sort
open Go.Proofs.YtbifmcadllilhaaGreat.It
set_option linter.unusedVariables false

/-- does a segment stand behind those that are laid? -/
def fol (A : List Sg) (s : Sg) : Bool := match A.getLast? with
  | none => s.lo == 0
  | some t => decide (0 < s.lo) && (s.lo - 1 == t.hi)
/-- what bars it -/
def flt (A : List Sg) (s : Sg) : Int := if fol A s = false then 62 else if s.hi < s.lo then 60 else if 16 ≤ s.h then 2 else 0

set_option maxRecDepth 100000 in
set_option maxHeartbeats 1000000 in
theorem follows_any (w : World) (base : Nat) (u : Value) (A : List Sg) (s : Sg) (hown : w.ownsRow base 38 3 u A.length (cells A)) (hA : A.length ≤ 6000000000000) (s0 : 0 ≤ s.lo) (s1 : s.lo < 18446744073709551616) :
    Calls Tryz.prog 88 #[enc s, u] w fun e w' => e = .returned (.bool (fol A s)) ∧ Kp Nu w w' := by
  have mixed : Tryz.prog.follows .mixedOrders = true := by kernel_rfl
  rcases List.eq_nil_or_concat A with rfl | ⟨A', t, rfl⟩
  · obtain ⟨ad, cap, hu⟩ := own_slice hown
    simp only [List.length_nil] at hu
    subst hu
    simp only [fol, List.getLast?_nil]
    unfold enc
    go_enter Tryz.func88, Tryz.ntmps88
    go_wp2
    go_ret
    exact ⟨rfl, Kp.alloc w _ Nu⟩
  · rw [List.concat_eq_append] at hown hA ⊢
    have ht : (A' ++ [t])[A'.length]? = some t := by simp
    have hl : (A' ++ [t]).length = A'.length + 1 := by simp
    obtain ⟨r, cap, hu, x0, x1, x2⟩ := row_at hown ht
    rw [hl] at hu hA
    have hrlt : r < w.heap.size := own_lt hown (by rw [hu]; rfl)
    have y1 : (w.alloc (.cells #[.int .u64 s.lo, .int .u64 s.hi, .int .u8 s.h] 38)).cell? ⟨r, A'.length * 3 + 1, none⟩ = some (.int .u64 t.hi) := (World.cell?_of_block (Below.heap_alloc w _ r hrlt)).trans x1
    have hfo : fol (A' ++ [t]) s = (decide (0 < s.lo) && (s.lo - 1 == t.hi)) := by simp [fol]
    rw [hfo]
    generalize A'.length = N at *
    subst hu
    clear hown x0 x1 x2 ht hl hfo
    unfold enc
    by_cases g1 : s.lo > 0
    · have g0 : decide (0 < s.lo) = true := decide_eq_true g1
      have g2 : IntKind.u64.wrap (s.lo - 1) = s.lo - 1 := by rw [IntKind.wrap_u64]; omega
      rw [g0, Bool.true_and]
      go_enter Tryz.func88, Tryz.ntmps88
      go_wp2_with fail
      go_region
      go_wp2
      go_ret
      exact ⟨rfl, (Kp.alloc w _ Nu).drew⟩
    · have g0 : decide (0 < s.lo) = false := decide_eq_false g1
      rw [g0, Bool.false_and]
      go_enter Tryz.func88, Tryz.ntmps88
      go_wp2_with fail
      go_region
      go_wp2
      go_ret
      exact ⟨rfl, (Kp.alloc w _ Nu).drew⟩

set_option maxRecDepth 100000 in
set_option maxHeartbeats 1000000 in
theorem fault_any (w : World) (base : Nat) (u : Value) (A : List Sg) (s : Sg) (hown : w.ownsRow base 38 3 u A.length (cells A)) (hA : A.length ≤ 6000000000000) (s0 : 0 ≤ s.lo) (s1 : s.lo < 18446744073709551616) :
    Calls Tryz.prog 69 #[enc s, u] w fun e w' => e = .returned (.int .i64 (flt A s)) ∧ Kp Nu w w' := by
  obtain ⟨ad, cap, hu⟩ := own_slice hown
  have KA := Kp.alloc w (.cells #[.int .u64 s.lo, .int .u64 s.hi, .int .u8 s.h] 38) Nu
  have FO := follows_any (w.alloc (.cells #[.int .u64 s.lo, .int .u64 s.hi, .int .u8 s.h] 38)) base u A s (hown.alloc _) hA s0 s1
  have HB : ∀ W, Kp Nu (w.alloc (.cells #[.int .u64 s.lo, .int .u64 s.hi, .int .u8 s.h] 38)) W → W.cell? ⟨w.heap.size, 0, none⟩ = some (.int .u64 s.lo) ∧ W.cell? ⟨w.heap.size, 1, none⟩ = some (.int .u64 s.hi) ∧ W.cell? ⟨w.heap.size, 2, none⟩ = some (.int .u8 s.h) := fun W k => cell3 ((k.block _ (blk_lt (heap_alloc_new w _)) (fun h => h)).trans (heap_alloc_new w _))
  have IH := fun W => isHost_any s.h W
  obtain ⟨f, hf⟩ : ∃ f, fol A s = f := ⟨_, rfl⟩
  have hfl : flt A s = if f = false then 62 else if s.hi < s.lo then 60 else if 16 ≤ s.h then 2 else 0 := by rw [← hf]; rfl
  rw [hfl]
  rw [hf] at FO
  clear hown hf hfl
  subst hu
  generalize A.length = NA at *
  unfold enc at FO ⊢
  cases f with
  | false =>
    rw [if_pos rfl]
    go_enter Tryz.func69, Tryz.ntmps69
    go_wp2_with fail
    refine FO.mono ?_; rintro e w2 ⟨rfl, hk2⟩
    go_wp2
    go_ret
    exact ⟨rfl, KA.andNu hk2⟩
  | true =>
    rw [if_neg (by simp)]
    by_cases hgt : s.lo > s.hi
    · rw [if_pos hgt]
      go_enter Tryz.func69, Tryz.ntmps69
      go_wp2_with fail
      refine FO.mono ?_; rintro e w2 ⟨rfl, hk2⟩
      obtain ⟨a0, a1, a2⟩ := HB _ hk2
      clear FO HB
      go_wp2
      go_ret
      exact ⟨rfl, KA.andNu hk2⟩
    · rw [if_neg (by omega)]
      by_cases hh : s.h < 16
      · rw [if_neg (by omega)]
        rw [decide_eq_true hh] at IH
        go_enter Tryz.func69, Tryz.ntmps69
        go_wp2_with fail
        refine FO.mono ?_; rintro e w2 ⟨rfl, hk2⟩
        obtain ⟨a0, a1, a2⟩ := HB _ hk2
        clear FO HB
        go_wp2_with fail
        refine (IH _).mono ?_; rintro e w3 ⟨rfl, hw3⟩
        obtain rfl := hw3.symm
        go_wp2
        go_ret
        exact ⟨rfl, KA.andNu hk2⟩
      · rw [if_pos (by omega)]
        rw [decide_eq_false hh] at IH
        go_enter Tryz.func69, Tryz.ntmps69
        go_wp2_with fail
        refine FO.mono ?_; rintro e w2 ⟨rfl, hk2⟩
        obtain ⟨a0, a1, a2⟩ := HB _ hk2
        clear FO HB
        go_wp2_with fail
        refine (IH _).mono ?_; rintro e w3 ⟨rfl, hw3⟩
        obtain rfl := hw3.symm
        go_wp2
        go_ret
        exact ⟨rfl, KA.andNu hk2⟩
end Go.Proofs.YtbifmcadllilhaaGreat.Rg
namespace Go.Proofs.YtbifmcadllilhaaGreat.Rg
open Go.RowKit Go.Shelf Go.Sort
open Go.Proofs.YtbifmcadllilhaaGreat.It
set_option linter.unusedVariables false

set_option maxRecDepth 100000 in
set_option maxHeartbeats 1000000 in
theorem lay_newB (base : Nat) (w : World) (u : Value) (s : Sg) (A : List Sg) (t : Sg) (hne : t.h ≠ s.h) (hA : A.length + 2 ≤ 5864062014700) (hown : w.ownsRow base 38 3 u (A.length + 1) (cells (A ++ [t]))) (hb : base ≤ w.heap.size) :
    Calls Tryz.prog 70 #[u, enc s] w fun e w' => ∃ u', e = .returned u' ∧ w'.ownsRow base 38 3 u' (A.length + 2) (cells (A ++ [t] ++ [s])) ∧ Kp (fun k => some k = u.ownBlock) w w' := by
  have mixed : Tryz.prog.follows .mixedOrders = true := by kernel_rfl
  obtain ⟨i0, hi, hz0, hz1, hz2⟩ := info_parts info40
  have ht : (A ++ [t])[A.length]? = some t := by simp
  have hl : (A ++ [t]).length = A.length + 1 := by simp
  have hown2 : w.ownsRow base 38 3 u (A ++ [t]).length (cells (A ++ [t])) := by rw [hl]; exact hown
  obtain ⟨r, cap, hu, x0, x1, x2⟩ := row_at hown2 ht
  rw [hl] at hu
  have HR : Hid ((((w.alloc (.cells #[.int .u64 s.lo, .int .u64 s.hi, .int .u8 s.h] 38)).alloc (.cells #[.int .u64 s.lo, .int .u64 s.hi, .int .u8 s.h] 38)).drew).ownsRow base 38 3 u (A.length + 1) (cells (A ++ [t]))) := (hown.alloc _).alloc _
  have HU : Hid (∀ g, u.ownBlock = some g → g < w.heap.size) := fun g hg => own_lt hown hg
  have hrlt : r < w.heap.size := HU.out r (by rw [hu]; rfl)
  have y2 : (w.alloc (.cells #[.int .u64 s.lo, .int .u64 s.hi, .int .u8 s.h] 38)).drew.cell? ⟨r, A.length * 3 + 2, none⟩ = some (.int .u8 t.h) := (World.cell?_of_block (Below.heap_alloc w _ r hrlt)).trans x2
  have heq : (t.h == s.h) = false := by simpa using hne
  generalize A.length = N at *
  have HT : Hid (∀ j z, [.int .u64 s.lo, .int .u64 s.hi, .int .u8 s.h][j]? = some z → ((w.alloc (.cells #[.int .u64 s.lo, .int .u64 s.hi, .int .u8 s.h] 38)).alloc (.cells #[.int .u64 s.lo, .int .u64 s.hi, .int .u8 s.h] 38)).drew.cell? ((⟨w.heap.size + 1, 0, none⟩ : Addr).add j) = some z) := by
    have := cell_three_new (w.alloc (.cells #[.int .u64 s.lo, .int .u64 s.hi, .int .u8 s.h] 38)) (.int .u64 s.lo) (.int .u64 s.hi) (.int .u8 s.h) 38
    rw [World.size_alloc] at this
    exact this
  have K2 : Kp (fun k => some k = u.ownBlock) w ((w.alloc (.cells #[.int .u64 s.lo, .int .u64 s.hi, .int .u8 s.h] 38)).alloc (.cells #[.int .u64 s.lo, .int .u64 s.hi, .int .u8 s.h] 38)).drew := ((Kp.alloc w _ _).andAlloc _).drew
  have HK := hide K2
  subst hu
  clear hown K2
  clear hown2 x0 x1 x2 ht hl hne
  unfold enc
  go_enter Tryz.func70, Tryz.ntmps70
  go_wp2_with fail
  go_region
  go_wp2_with (first
    | (at_builtin; refine wpList_append_own _ rfl _ _ 22 rfl base 38 i0 (.agg #[.int .u64 0, .int .u64 0, .int .u8 0]) 3 24 Tryz.underlying22 hi hz0 hz1 hz2 rfl (by decide) _ _ _ rfl HR.out ⟨w.heap.size + 1, 0, none⟩ 1 1 [.int .u64 s.lo, .int .u64 s.hi, .int .u8 s.h] rfl rfl HT.out (by simp [Value.oneCell']) (by unfold maxLen; omega) (by omega) (by simp; omega) ?_; intro v' w3 hown' hg3 hnil3; obtain ⟨ad3, cp3, ev3⟩ := own_slice hown'; have HO := hide hown'; have HG3 := hide hg3; subst ev3; clear hown' hg3 hnil3)
    | go_in)
  go_ret
  refine ⟨_, rfl, ?_, HK.out.trans (Kp.of_grown HG3.out) (fun i hi e => e)⟩
  have h1 := HO.out
  rw [cells_append]
  exact h1

set_option maxRecDepth 100000 in
set_option maxHeartbeats 1000000 in
theorem lay_sameB (base : Nat) (w : World) (u : Value) (s : Sg) (A : List Sg) (t : Sg) (hne : t.h = s.h) (hA : A.length + 2 ≤ 5864062014700) (hown : w.ownsRow base 38 3 u (A.length + 1) (cells (A ++ [t]))) (hb : base ≤ w.heap.size) :
    Calls Tryz.prog 70 #[u, enc s] w fun e w' => ∃ u', e = .returned u' ∧ w'.ownsRow base 38 3 u' (A.length + 1) (cells (A ++ [⟨t.lo, s.hi, t.h⟩])) ∧ Kp (fun k => some k = u.ownBlock) w w' := by
  have mixed : Tryz.prog.follows .mixedOrders = true := by kernel_rfl
  have ht : (A ++ [t])[A.length]? = some t := by simp
  have hl : (A ++ [t]).length = A.length + 1 := by simp
  have hown2 : w.ownsRow base 38 3 u (A ++ [t]).length (cells (A ++ [t])) := by rw [hl]; exact hown
  obtain ⟨r, cap, hu, x0, x1, x2⟩ := row_at hown2 ht
  rw [hl] at hu
  obtain ⟨r', cap', hu', o1, o2⟩ := own_end hown s.hi
  rw [hu] at hu'
  simp only [Value.slice.injEq, Option.some.injEq, Addr.mk.injEq] at hu'
  obtain ⟨⟨rfl, _⟩, _⟩ := hu'
  have hrlt : r < w.heap.size := own_lt hown (by rw [hu]; rfl)
  have y2 : (w.alloc (.cells #[.int .u64 s.lo, .int .u64 s.hi, .int .u8 s.h] 38)).drew.cell? ⟨r, A.length * 3 + 2, none⟩ = some (.int .u8 t.h) := (World.cell?_of_block (Below.heap_alloc w _ r hrlt)).trans x2
  have y1 : (w.alloc (.cells #[.int .u64 s.lo, .int .u64 s.hi, .int .u8 s.h] 38)).drew.cell? ⟨r, A.length * 3 + 1, none⟩ = some (.int .u64 t.hi) := (World.cell?_of_block (Below.heap_alloc w _ r hrlt)).trans x1
  have heq : (t.h == s.h) = true := by simpa using hne
  have o3 : (w.alloc (.cells #[.int .u64 s.lo, .int .u64 s.hi, .int .u8 s.h] 38)).drew.frozen? ⟨r, A.length * 3 + 1, none⟩ = false := (World.frozen?_of_block (Below.heap_alloc w _ r hrlt)).trans o2
  have HO : Hid ((((w.setCell ⟨r, A.length * 3 + 1, none⟩ (.int .u64 s.hi)).alloc (.cells #[.int .u64 s.lo, .int .u64 s.hi, .int .u8 s.h] 38)).drew).ownsRow base 38 3 u (A.length + 1) (cells (A ++ [⟨t.lo, s.hi, t.h⟩]))) := o1.alloc _
  have hwn : w.heap.size ≠ r := by omega
  have K2 : Kp (fun k => some k = u.ownBlock) w ((w.setCell ⟨r, A.length * 3 + 1, none⟩ (.int .u64 s.hi)).alloc (.cells #[.int .u64 s.lo, .int .u64 s.hi, .int .u8 s.h] 38)).drew := (((Kp.refl _ w).andSet _ _ (.inr (by rw [hu]; rfl))).andAlloc _).drew
  have HK := hide K2
  generalize A.length = N at *
  subst hu
  clear hown hown2 x0 x1 x2 ht hl hne o1 K2
  unfold enc
  go_enter Tryz.func70, Tryz.ntmps70
  go_wp2_with fail
  go_region
  go_wp2
  go_ret
  exact ⟨_, rfl, HO.out, HK.out⟩

/-- what lay answers -/
theorem lay_anyB (base : Nat) (w : World) (u : Value) (A : List Sg) (s : Sg) (hA : A.length + 1 ≤ 5864062014700) (hown : w.ownsRow base 38 3 u A.length (cells A)) (hb : base ≤ w.heap.size) :
    Calls Tryz.prog 70 #[u, enc s] w fun e w' => ∃ u', e = .returned u' ∧ w'.ownsRow base 38 3 u' (lay A s).length (cells (lay A s)) ∧ Kp (fun k => some k = u.ownBlock) w w' := by
  rcases List.eq_nil_or_concat A with rfl | ⟨A', t, rfl⟩
  · exact lay_nil base w u s hown hb
  · rw [List.concat_eq_append] at hA hown ⊢
    rw [lay_snoc]
    have hl : (A' ++ [t]).length = A'.length + 1 := by simp
    rw [hl] at hown hA
    by_cases e : t.h = s.h
    · rw [if_pos e]
      have hl2 : (A' ++ [(⟨t.lo, s.hi, t.h⟩ : Sg)]).length = A'.length + 1 := by simp
      rw [hl2]
      exact lay_sameB base w u s A' t e (by omega) hown hb
    · rw [if_neg e]
      have hl2 : (A' ++ [t] ++ [s]).length = A'.length + 2 := by simp
      rw [hl2]
      exact lay_newB base w u s A' t e (by omega) hown hb
end Go.Proofs.YtbifmcadllilhaaGreat.Rg
namespace Go.Proofs.YtbifmcadllilhaaGreat.Rg
open Go.RowKit Go.Shelf Go.Sort
open Go.Proofs.YtbifmcadllilhaaGreat.It
set_option linter.unusedVariables false

/-- nothing bars the first k -/
def Lok (M : List Sg) (k : Nat) : Prop := ∀ i, i < k → ∀ s, M[i]? = some s → flt (lays [] (M.take i)) s = 0
/-- what is laid ends at the highest key -/
def endF (A : List Sg) : Bool := match A.getLast? with
  | none => false
  | some t => t.hi == 18446744073709551615
/-- a segment's fields as they come in -/
structure SgB (s : Sg) : Prop where
  l0 : 0 ≤ s.lo
  l1 : s.lo < 18446744073709551616
  h0 : 0 ≤ s.hi
  h1 : s.hi < 18446744073709551616
  o0 : 0 ≤ s.h
  o1 : s.h < 256
theorem flt_zero {A : List Sg} {s : Sg} (h : flt A s = 0) : fol A s = true ∧ s.lo ≤ s.hi ∧ s.h < 16 := by
  unfold flt at h
  split at h
  · cases h
  · split at h
    · cases h
    · split at h
      · cases h
      · rename_i h1 h2 h3
        exact ⟨by simpa using h1, by omega, by omega⟩
theorem fol_cov {A : List Sg} {s : Sg} {m : Int} (hc : Cov 0 A m) (h : fol A s = true) : s.lo = m := by
  rcases List.eq_nil_or_concat A with rfl | ⟨A', t, rfl⟩
  · have e : (0 : Int) = m := hc
    simp only [fol, List.getLast?_nil, beq_iff_eq] at h
    omega
  · rw [List.concat_eq_append] at hc h
    have hl := cov_last hc
    simp only [fol, List.getLast?_append, List.getLast?_singleton, Option.some_or, Bool.and_eq_true, decide_eq_true_eq, beq_iff_eq] at h
    omega
theorem lok_cov {M : List Sg} : ∀ k, k ≤ M.length → Lok M k → ∃ m, Cov 0 (M.take k) m ∧ (∀ s ∈ M.take k, s.h < 16)
  | 0, _, _ => ⟨0, by simp [Cov], by simp⟩
  | k + 1, hk, hl => by
    obtain ⟨m, hc, hh⟩ := lok_cov k (by omega) (fun i hi => hl i (by omega))
    obtain ⟨s, hs⟩ : ∃ s, M[k]? = some s := ⟨_, List.getElem?_eq_getElem (by omega)⟩
    obtain ⟨f1, f2, f3⟩ := flt_zero (hl k (by omega) s hs)
    have e := fol_cov (lays_cov (A := []) (a := 0) (m := 0) rfl hc).1 f1
    have et : M.take (k + 1) = M.take k ++ [s] := by rw [List.take_add_one, hs]; rfl
    refine ⟨s.hi + 1, ?_, ?_⟩
    · rw [et]
      exact cov_append hc ⟨e, by omega, rfl⟩
    · rw [et]
      intro x hx
      rcases List.mem_append.1 hx with hx | hx
      · exact hh x hx
      · simp only [List.mem_singleton] at hx
        subst hx
        exact f3
/-- a list that nothing bars, and that ends at the highest key, may be loaded -/
theorem lok_good {M : List Sg} (h : Lok M M.length) (he : endF (lays [] M) = true) (hb : ∀ s ∈ M, SgB s) : Good M := by
  obtain ⟨m, hc, hh⟩ := lok_cov M.length (Nat.le_refl _) h
  rw [List.take_length] at hc hh
  refine ⟨?_, fun s hs => ⟨(hb s hs).o0, hh s hs⟩⟩
  have hc2 := (lays_cov (A := []) (a := 0) (m := 0) rfl hc).1
  rcases List.eq_nil_or_concat (lays [] M) with e | ⟨A', t, e⟩
  · rw [e] at he
    simp [endF] at he
  · rw [List.concat_eq_append] at e
    rw [e] at he hc2
    have hl := cov_last hc2
    simp only [endF, List.getLast?_append, List.getLast?_singleton, Option.some_or, beq_iff_eq] at he
    have em : m = 18446744073709551616 := by omega
    rw [← em]
    exact hc
theorem good_lok {M : List Sg} (h : Good M) : endF (lays [] M) = true := by
  have hc2 := h.tab.cov
  rcases List.eq_nil_or_concat (lays [] M) with e | ⟨A', t, e⟩
  · rw [e] at hc2
    have e2 : (0 : Int) = 18446744073709551616 := hc2
    omega
  · rw [List.concat_eq_append] at e
    rw [e] at hc2 ⊢
    have hl := cov_last hc2
    simp only [endF, List.getLast?_append, List.getLast?_singleton, Option.some_or, beq_iff_eq]
    omega
end Go.Proofs.YtbifmcadllilhaaGreat.Rg
