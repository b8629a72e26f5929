import Derived.Test.YtffcnonhhfhlhaaDoorRgV
namespace Go.Proofs.YtffcnonhhfhlhaaDoor.Rg
open Go.RowKit Go.Shelf Go.Sort
open Go.Proofs.YtffcnonhhfhlhaaDoor.It
set_option linter.unusedVariables false

theorem rs_of_own {w : World} {B : Nat} {u : Value} {L : List Sg} (h : w.ownsRow B 26 3 u L.length (cells L)) (hl : 0 < L.length) : Rs w u L := by
  rcases h.2 with ⟨_, h0⟩ | ⟨r, cap, cur, e, hB, hg, h1, h2, h3, h4⟩
  · omega
  · refine ⟨r, 0, cap, e, fun i s hi => ?_⟩
    obtain ⟨r', cap', e', x0, x1, x2⟩ := row_at h hi
    rw [e] at e'; cases e'
    simpa using And.intro x0 (And.intro x1 x2)

set_option maxRecDepth 100000 in
set_option maxHeartbeats 1000000 in
theorem same_true (w : World) (u1 u2 : Value) (L : List Sg) (h1 : Rs w u1 L) (h2 : Rs w u2 L) (hl : L.length ≤ 8192) :
    Calls Tryd.prog 11 #[u1, u2] w fun e w' => e = .returned (.bool true) ∧ Kp Nu w w' := by
  have mixed : Tryd.prog.follows .mixedOrders = true := by kernel_rfl
  obtain ⟨r1, o1, c1, e1, x1⟩ := h1
  obtain ⟨r2, o2, c2, e2, x2⟩ := h2
  have HX1 := hide x1
  have HX2 := hide x2
  obtain ⟨N, hN⟩ : ∃ N, L.length = N := ⟨_, rfl⟩
  have HN := hide hN
  rw [hN] at e1 e2 hl
  have z0 : ((N : Int) != (N : Int)) = false := by simp
  subst e1 e2
  clear x1 x2 hN
  go_enter Tryd.func11, Tryd.ntmps11
  go_wp2_with fail
  go_loopw [5] (fun i wr => ∃ k : Nat, i = .int .i64 (k : Int) ∧ k ≤ N ∧ Hid (Kp Nu w wr)) (fun i _ => N - (intOf i).toNat)
  case atStart => exact ⟨0, rfl, Nat.zero_le _, Kp.refl _ _⟩
  case round =>
    obtain ⟨k, rfl, hk, hI⟩ := hrel
    by_cases hlt : k < N
    · have hkL : k < L.length := by rw [HN.out]; exact hlt
      obtain ⟨s, hs⟩ : ∃ s, L[k]? = some s := ⟨_, List.getElem?_eq_getElem hkL⟩
      obtain ⟨a0, a1, a2⟩ := HX1.out k s hs
      obtain ⟨b0, b1, b2⟩ := HX2.out k s hs
      have key : ∀ {a : Addr} {x : Value}, w.cell? a = some x → wr.drew.cell? a = some x := fun h => (World.cell?_of_block (hI.out.block _ (World.block_lt_of_cell? w _ h) (fun h => h))).trans h
      replace a0 := key a0; replace a1 := key a1; replace a2 := key a2
      replace b0 := key b0; replace b1 := key b1; replace b2 := key b2
      have hltI : (k : Int) < (N : Int) := by omega
      have hk0 : (0 : Int) ≤ (k : Int) := by omega
      have hkN : (k : Int) ≤ 8192 := by omega
      have HF : Hid (Kp Nu w wr.drew) := hI.out.drew
      have y0 : (s.lo == s.lo) = true := by simp
      have y1 : (s.hi == s.hi) = true := by simp
      have y2 : (s.h == s.h) = true := by simp
      clear hI hs hkL key
      go_wp2_with fail
      go_region
      go_wp2
      go_roundw
      case rel => exact ⟨k + 1, by go_num, by omega, HF⟩
      case measure => simp [intOf]; omega
    · have hge : ¬ (k : Int) < (N : Int) := by omega
      go_wp2
      go_ret
      exact ⟨rfl, hI.out⟩

theorem cov_snoc : ∀ {A : List Sg} {a m : Int} {t : Sg}, Cov a A m → t.lo = m → t.lo ≤ t.hi → Cov a (A ++ [t]) (t.hi + 1) := fun h h1 h2 => cov_append h ⟨h1, by omega, rfl⟩
set_option maxHeartbeats 400000 in
theorem refHost_any (a : Int) (w : World) : Calls Tryd.prog 61 #[.int .u8 a] w fun e w' => e = .returned (.bool (decide (a ≤ 15))) ∧ w' = w := by
  go_enter Tryd.func61, Tryd.ntmps61
  go_wp2
  go_ret
  exact ⟨rfl, rfl⟩

set_option maxRecDepth 100000 in
set_option maxHeartbeats 2000000 in
/-- what the document's Fault answers: nothing is at fault only in a list that may be loaded -/
theorem fault_ref (w : World) (u : Value) (M : List Sg) (hM : Sgs w u M) (hlen : (M.length : Int) ≤ 5864062014634) :
    Calls Tryd.prog 30 #[u] w fun e w' => ∃ p c : Int, e = .returned (.tuple #[.int .i64 p, .int .i64 c]) ∧ (c = 0 → Good M ∧ 0 < M.length) ∧ Kp Nu w w' := by
  have mixed : Tryd.prog.follows .mixedOrders = true := by kernel_rfl
  obtain ⟨ad, cap, hu⟩ := hM.slice
  obtain ⟨N, hN⟩ : ∃ N, M.length = N := ⟨_, rfl⟩
  have HM := hide hM
  have HN := hide hN
  rw [hN] at hu hlen
  subst hu
  clear hM hN
  go_enter Tryd.func30, Tryd.ntmps30
  go_wp2_with fail
  go_loopw [4, 5, 6] (fun nx ov i wr => ∃ (k : Nat) (E : Int), i = .int .i64 (k : Int) ∧ k ≤ N ∧ nx = .int .u64 (if E = 18446744073709551616 then 0 else E) ∧ ov = .bool (decide (E = 18446744073709551616)) ∧ Hid (0 ≤ E ∧ E ≤ 18446744073709551616 ∧ Cov 0 (M.take k) E ∧ (∀ s ∈ M.take k, 0 ≤ s.h ∧ s.h < 16) ∧ Kp Nu w wr)) (fun _ _ i _ => N - (intOf i).toNat)
  case atStart => exact ⟨0, 0, rfl, Nat.zero_le _, by simp, by simp, ⟨by omega, by omega, rfl, by simp, Kp.refl _ _⟩⟩
  case round =>
    obtain ⟨k, E, rfl, hk, rfl, rfl, hI⟩ := hrel
    by_cases hlt : k < N
    · have hkM : k < M.length := by rw [HN.out]; exact hlt
      obtain ⟨s, hs⟩ : ∃ s, M[k]? = some s := ⟨_, List.getElem?_eq_getElem hkM⟩
      have hcell : ∃ bs off cp, (.slice ad N cap : Value) = .slice (some ⟨bs, off, none⟩) N cp ∧ SgAt w bs (off + k * 3) s := by
        rcases HM.out with ⟨_, h0⟩ | ⟨bs, off, cp, h0, h3⟩
        · rw [h0] at hs; simp at hs
        · rw [HN.out] at h0
          exact ⟨bs, off, cp, h0, h3 k s hs⟩
      obtain ⟨bs, off, cp, hq, hsg⟩ := hcell
      simp only [Value.slice.injEq] at hq
      obtain ⟨rfl, hq1⟩ := hq
      clear hq1
      obtain ⟨E0, E1, hc, hh, hkp⟩ := hI.out
      obtain ⟨c0, c1, c2, F1⟩ := hsg
      replace c0 := cell_nu c0 hkp
      replace c1 := cell_nu c1 hkp
      replace c2 := cell_nu c2 hkp
      have hltI : (k : Int) < (N : Int) := by omega
      have hk0 : (0 : Int) ≤ (k : Int) := by omega
      have HK := hide hkp
      have HTK : Hid (M.take (k + 1) = M.take k ++ [s]) := by
        show _ = _
        rw [List.take_add_one, hs]; rfl
      by_cases hE : E = 18446744073709551616
      · rw [if_pos hE, decide_eq_true hE]
        clear hI hc hh hkp hs hkM
        go_wp2
        go_ret2
        exact ⟨_, _, rfl, by simp, HK.out⟩
      rw [if_neg hE, decide_eq_false hE]
      by_cases hlo : s.lo = E
      · have y1 : (s.lo != E) = false := by simp [hlo]
        have y1' : (E != E) = false := by simp
        by_cases hgt : s.lo > s.hi
        · have hgd : decide (s.hi < s.lo) = true := decide_eq_true hgt
          have d0 : wr.drew.cell? ⟨bs, off + k * 3, none⟩ = some (.int .u64 s.lo) := c0
          have d1 : wr.drew.cell? ⟨bs, off + k * 3 + 1, none⟩ = some (.int .u64 s.hi) := c1
          have HK2 : Hid (Kp Nu w wr.drew) := HK.out.drew
          clear hI hc hh hkp hs hkM hlo
          go_wp2_with fail
          go_region
          go_wp2
          go_ret2
          exact ⟨_, _, rfl, by simp, HK2.out⟩
        · have hgd : decide (s.hi < s.lo) = false := decide_eq_false hgt
          have d0 : wr.drew.cell? ⟨bs, off + k * 3, none⟩ = some (.int .u64 s.lo) := c0
          have d1 : wr.drew.cell? ⟨bs, off + k * 3 + 1, none⟩ = some (.int .u64 s.hi) := c1
          have d2 : wr.drew.cell? ⟨bs, off + k * 3 + 2, none⟩ = some (.int .u8 s.h) := c2
          have HK2 : Hid (Kp Nu w wr.drew) := HK.out.drew
          have RH := refHost_any s.h wr.drew
          by_cases hho : s.h ≤ 15
          · rw [decide_eq_true hho] at RH
            have HF : Hid (0 ≤ s.hi + 1 ∧ s.hi + 1 ≤ 18446744073709551616 ∧ Cov 0 (M.take (k + 1)) (s.hi + 1) ∧ (∀ t ∈ M.take (k + 1), 0 ≤ t.h ∧ t.h < 16) ∧ Kp Nu w wr.drew) := by
              refine ⟨by omega, by omega, ?_, ?_, HK2.out⟩
              · rw [HTK.out]; exact cov_snoc hc hlo (by omega)
              · rw [HTK.out]; intro t ht
                rcases List.mem_append.1 ht with h | h
                · exact hh t h
                · simp at h; subst h; omega
            have hwp : IntKind.u64.wrap (s.hi + 1) = if s.hi + 1 = 18446744073709551616 then 0 else s.hi + 1 := by
              rw [IntKind.wrap_u64]; split <;> omega
            have hov : (s.hi == 18446744073709551615) = decide (s.hi + 1 = 18446744073709551616) := by
              by_cases e : s.hi = 18446744073709551615
              · simp [e]
              · have : ¬ s.hi + 1 = 18446744073709551616 := by omega
                simp [e, this]
            have HWP := hide (And.intro hwp hov)
            clear hI hc hh hkp hs hkM hlo hwp hov
            go_wp2_with fail
            go_region
            go_wp2_with fail
            refine RH.mono ?_; rintro e w2 ⟨rfl, hw2⟩
            obtain rfl := hw2.symm
            clear RH hw2
            go_wp2
            go_roundw
            case rel => exact ⟨k + 1, s.hi + 1, by go_num, by omega, by first | rw [HWP.out.1] | (rw [← HWP.out.1]), by rw [HWP.out.2], HF⟩
            case measure => simp [intOf]; omega
          · rw [decide_eq_false hho] at RH
            clear hI hc hh hkp hs hkM hlo
            go_wp2_with fail
            go_region
            go_wp2_with fail
            refine RH.mono ?_; rintro e w2 ⟨rfl, hw2⟩
            obtain rfl := hw2.symm
            clear RH hw2
            go_wp2
            go_ret2
            exact ⟨_, _, rfl, by simp, HK2.out⟩
      · have y1 : (s.lo != E) = true := by simp [hlo]
        clear hI hc hh hkp hs hkM
        go_wp2
        go_ret2
        exact ⟨_, _, rfl, by simp, HK.out⟩
    · have hge : ¬ (k : Int) < (N : Int) := by omega
      obtain rfl : k = N := by omega
      obtain ⟨E0, E1, hc, hh, hkp⟩ := hI.out
      rw [List.take_of_length_le (by rw [HN.out]; omega)] at hc hh
      have HK := hide hkp
      by_cases hE : E = 18446744073709551616
      · subst hE
        have HG : Hid (Good M ∧ 0 < M.length) := by
          refine ⟨⟨hc, hh⟩, ?_⟩
          cases M with
          | nil => have e : (0 : Int) = 18446744073709551616 := hc; omega
          | cons a M => simp
        clear hI hc hh hkp
        simp only [if_true, decide_true]
        go_wp2
        go_ret2
        exact ⟨_, _, rfl, fun _ => HG.out, HK.out⟩
      · rw [if_neg hE, decide_eq_false hE]
        clear hI hc hh hkp
        go_wp2
        go_ret2
        exact ⟨_, _, rfl, by simp, HK.out⟩
end Go.Proofs.YtffcnonhhfhlhaaDoor.Rg
namespace Go.Proofs.YtffcnonhhfhlhaaDoor.Rg
open Go.RowKit Go.Shelf Go.Sort
open Go.Proofs.YtffcnonhhfhlhaaDoor.It
set_option linter.unusedVariables false

/-- does a segment stand behind those that are laid? -/
def fol (A : List Sg) (s : Sg) : Bool := match A.getLast? with
  | none => s.lo == 0
  | some t => decide (0 < s.lo) && (s.lo - 1 == t.hi)
/-- what bars it -/
def flt (A : List Sg) (s : Sg) : Int := if fol A s = false then 62 else if s.hi < s.lo then 60 else if 16 ≤ s.h then 2 else 0

set_option maxRecDepth 100000 in
set_option maxHeartbeats 1000000 in
theorem follows_any (w : World) (base : Nat) (u : Value) (A : List Sg) (s : Sg) (hown : w.ownsRow base 26 3 u A.length (cells A)) (hA : A.length ≤ 6000000000000) (s0 : 0 ≤ s.lo) (s1 : s.lo < 18446744073709551616) :
    Calls Tryd.prog 100 #[enc s, u] w fun e w' => e = .returned (.bool (fol A s)) ∧ Kp Nu w w' := by
  have mixed : Tryd.prog.follows .mixedOrders = true := by kernel_rfl
  rcases List.eq_nil_or_concat A with rfl | ⟨A', t, rfl⟩
  · obtain ⟨ad, cap, hu⟩ := own_slice hown
    simp only [List.length_nil] at hu
    subst hu
    simp only [fol, List.getLast?_nil]
    unfold enc
    go_enter Tryd.func100, Tryd.ntmps100
    go_wp2
    go_ret
    exact ⟨rfl, Kp.alloc w _ Nu⟩
  · rw [List.concat_eq_append] at hown hA ⊢
    have ht : (A' ++ [t])[A'.length]? = some t := by simp
    have hl : (A' ++ [t]).length = A'.length + 1 := by simp
    obtain ⟨r, cap, hu, x0, x1, x2⟩ := row_at hown ht
    rw [hl] at hu hA
    have hrlt : r < w.heap.size := own_lt hown (by rw [hu]; rfl)
    have y1 : (w.alloc (.cells #[.int .u64 s.lo, .int .u64 s.hi, .int .u8 s.h] 26)).cell? ⟨r, A'.length * 3 + 1, none⟩ = some (.int .u64 t.hi) := (World.cell?_of_block (Below.heap_alloc w _ r hrlt)).trans x1
    have hfo : fol (A' ++ [t]) s = (decide (0 < s.lo) && (s.lo - 1 == t.hi)) := by simp [fol]
    rw [hfo]
    generalize A'.length = N at *
    subst hu
    clear hown x0 x1 x2 ht hl hfo
    unfold enc
    by_cases g1 : s.lo > 0
    · have g0 : decide (0 < s.lo) = true := decide_eq_true g1
      have g2 : IntKind.u64.wrap (s.lo - 1) = s.lo - 1 := by rw [IntKind.wrap_u64]; omega
      rw [g0, Bool.true_and]
      go_enter Tryd.func100, Tryd.ntmps100
      go_wp2_with fail
      go_region
      go_wp2
      go_ret
      exact ⟨rfl, (Kp.alloc w _ Nu).drew⟩
    · have g0 : decide (0 < s.lo) = false := decide_eq_false g1
      rw [g0, Bool.false_and]
      go_enter Tryd.func100, Tryd.ntmps100
      go_wp2_with fail
      go_region
      go_wp2
      go_ret
      exact ⟨rfl, (Kp.alloc w _ Nu).drew⟩

set_option maxRecDepth 100000 in
set_option maxHeartbeats 1000000 in
theorem fault_any (w : World) (base : Nat) (u : Value) (A : List Sg) (s : Sg) (hown : w.ownsRow base 26 3 u A.length (cells A)) (hA : A.length ≤ 6000000000000) (s0 : 0 ≤ s.lo) (s1 : s.lo < 18446744073709551616) :
    Calls Tryd.prog 79 #[enc s, u] w fun e w' => e = .returned (.int .i64 (flt A s)) ∧ Kp Nu w w' := by
  obtain ⟨ad, cap, hu⟩ := own_slice hown
  have KA := Kp.alloc w (.cells #[.int .u64 s.lo, .int .u64 s.hi, .int .u8 s.h] 26) Nu
  have FO := follows_any (w.alloc (.cells #[.int .u64 s.lo, .int .u64 s.hi, .int .u8 s.h] 26)) base u A s (hown.alloc _) hA s0 s1
  have HB : ∀ W, Kp Nu (w.alloc (.cells #[.int .u64 s.lo, .int .u64 s.hi, .int .u8 s.h] 26)) W → W.cell? ⟨w.heap.size, 0, none⟩ = some (.int .u64 s.lo) ∧ W.cell? ⟨w.heap.size, 1, none⟩ = some (.int .u64 s.hi) ∧ W.cell? ⟨w.heap.size, 2, none⟩ = some (.int .u8 s.h) := fun W k => cell3 ((k.block _ (blk_lt (heap_alloc_new w _)) (fun h => h)).trans (heap_alloc_new w _))
  have IH := fun W => isHost_any s.h W
  obtain ⟨f, hf⟩ : ∃ f, fol A s = f := ⟨_, rfl⟩
  have hfl : flt A s = if f = false then 62 else if s.hi < s.lo then 60 else if 16 ≤ s.h then 2 else 0 := by rw [← hf]; rfl
  rw [hfl]
  rw [hf] at FO
  clear hown hf hfl
  subst hu
  generalize A.length = NA at *
  unfold enc at FO ⊢
  cases f with
  | false =>
    rw [if_pos rfl]
    go_enter Tryd.func79, Tryd.ntmps79
    go_wp2_with fail
    refine FO.mono ?_; rintro e w2 ⟨rfl, hk2⟩
    go_wp2
    go_ret
    exact ⟨rfl, KA.andNu hk2⟩
  | true =>
    rw [if_neg (by simp)]
    by_cases hgt : s.lo > s.hi
    · rw [if_pos hgt]
      go_enter Tryd.func79, Tryd.ntmps79
      go_wp2_with fail
      refine FO.mono ?_; rintro e w2 ⟨rfl, hk2⟩
      obtain ⟨a0, a1, a2⟩ := HB _ hk2
      clear FO HB
      go_wp2
      go_ret
      exact ⟨rfl, KA.andNu hk2⟩
    · rw [if_neg (by omega)]
      by_cases hh : s.h < 16
      · rw [if_neg (by omega)]
        rw [decide_eq_true hh] at IH
        go_enter Tryd.func79, Tryd.ntmps79
        go_wp2_with fail
        refine FO.mono ?_; rintro e w2 ⟨rfl, hk2⟩
        obtain ⟨a0, a1, a2⟩ := HB _ hk2
        clear FO HB
        go_wp2_with fail
        refine (IH _).mono ?_; rintro e w3 ⟨rfl, hw3⟩
        obtain rfl := hw3.symm
        go_wp2
        go_ret
        exact ⟨rfl, KA.andNu hk2⟩
      · rw [if_pos (by omega)]
        rw [decide_eq_false hh] at IH
        go_enter Tryd.func79, Tryd.ntmps79
        go_wp2_with fail
        refine FO.mono ?_; rintro e w2 ⟨rfl, hk2⟩
        obtain ⟨a0, a1, a2⟩ := HB _ hk2
        clear FO HB
        go_wp2_with fail
        refine (IH _).mono ?_; rintro e w3 ⟨rfl, hw3⟩
        obtain rfl := hw3.symm
        go_wp2
        go_ret
        exact ⟨rfl, KA.andNu hk2⟩
end Go.Proofs.YtffcnonhhfhlhaaDoor.Rg
