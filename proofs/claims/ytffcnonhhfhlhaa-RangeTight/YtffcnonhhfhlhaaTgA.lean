import Derived.Test.YtffcnonhhfhlhaaRdE
import Derived.Deep.QuietTactic
import Derived.BigQuiet
namespace Go.Proofs.Ytffcnonhhfhlhaa.Rg
open Go.RowKit Go.Shelf Go.Sort
open Go.Proofs.Ytffcnonhhfhlhaa.It
set_option linter.unusedVariables false

set_option maxRecDepth 100000 in
set_option maxHeartbeats 1000000 in
theorem load_lim (w : World) (ad : Option Addr) (n cap : Nat) (lim : Int) (hl : ¬ (1 ≤ lim ∧ lim ≤ 8192)) :
    Calls Try.prog 33 #[.slice ad n cap, .int .i64 lim] w fun e w' => e = .returned (.tuple #[.pointer none, .int .i64 0, .int .i64 63]) ∧ Kp Nu w w' := by
  have LI := limit_bad lim w hl
  go_enter Try.func33, Try.ntmps33
  go_wp2_with fail
  refine LI.mono ?_; rintro e w1 ⟨rfl, hw1⟩
  obtain rfl := hw1.symm
  clear LI hw1
  go_wp2
  go_ret3
  exact ⟨rfl, Kp.refl _ _⟩
set_option maxRecDepth 100000 in
set_option maxHeartbeats 1000000 in
theorem fault_arg (w : World) (u : Value) (s : Sg) (hF : ∀ W, Kp Nu w W → Calls Try.prog 50 #[enc s, u] W fun e w' => e = .returned (.bool true) ∧ Kp Nu W w') (hu : ∃ ad n cap, u = .slice ad n cap) (hs : s.lo ≤ s.hi) (hh : ¬ s.h < 16) :
    Calls Try.prog 42 #[enc s, u] w fun e w' => e = .returned (.int .i64 2) ∧ Kp Nu w w' := by
  obtain ⟨ad, n, cap, rfl⟩ := hu
  have KA := Kp.alloc w (.cells #[.int .u64 s.lo, .int .u64 s.hi, .int .u8 s.h] 40) Nu
  have FO := hF _ KA
  have HB : ∀ W, Kp Nu (w.alloc (.cells #[.int .u64 s.lo, .int .u64 s.hi, .int .u8 s.h] 40)) W → W.cell? ⟨w.heap.size, 0, none⟩ = some (.int .u64 s.lo) ∧ W.cell? ⟨w.heap.size, 1, none⟩ = some (.int .u64 s.hi) ∧ W.cell? ⟨w.heap.size, 2, none⟩ = some (.int .u8 s.h) := fun W k => cell3 ((k.block _ (by simp) (fun h => h)).trans (heap_alloc_new w _))
  have hgt : ¬ s.lo > s.hi := by omega
  have IH := fun W => isHost_any s.h W
  rw [decide_eq_false hh] at IH
  unfold enc at FO ⊢
  clear hF
  go_enter Try.func42, Try.ntmps42
  go_wp2_with fail
  refine FO.mono ?_; rintro e w2 ⟨rfl, hk2⟩
  obtain ⟨a0, a1, a2⟩ := HB _ hk2
  clear FO HB
  go_wp2_with fail
  refine (IH _).mono ?_; rintro e w3 ⟨rfl, hw3⟩
  obtain rfl := hw3.symm
  go_wp2
  go_ret
  exact ⟨rfl, KA.andNu hk2⟩
set_option maxRecDepth 100000 in
set_option maxHeartbeats 1000000 in
theorem load_arg (w : World) (o : Int) (ho : ¬ o < 16) (lim : Int) (l1 : 1 ≤ lim) (l2 : lim ≤ 8192) (r : Nat) (hr : w.heap[r]? = some (.cells #[.int .u64 0, .int .u64 18446744073709551615, .int .u8 o] 40 (0, 0))) :
    Calls Try.prog 33 #[.slice (some ⟨r, 0, none⟩) 1 1, .int .i64 lim] w fun e w' => e = .returned (.tuple #[.pointer none, .int .i64 0, .int .i64 2]) ∧ Kp Nu w w' := by
  have LI := limit_ok lim w l1 l2
  have hc := cell3 hr
  obtain ⟨x0, x1, x2⟩ := hc
  have FA : ∀ W, Calls Try.prog 42 #[.agg #[.int .u64 0, .int .u64 18446744073709551615, .int .u8 o], .slice none 0 0] W fun e w' => e = .returned (.int .i64 2) ∧ Kp Nu W w' := fun W => fault_arg W (.slice none 0 0) ⟨0, 18446744073709551615, o⟩ (fun W' _ => follows_nil W' none 0 ⟨0, 18446744073709551615, o⟩ rfl) ⟨_, _, _, rfl⟩ (by simp) ho
  have KA := Kp.alloc w (.cells #[.int .u64 0, .int .u64 18446744073709551615, .int .u8 o] 40) Nu
  go_enter Try.func33, Try.ntmps33
  go_wp2_with fail
  refine LI.mono ?_; rintro e w1 ⟨rfl, hw1⟩
  obtain rfl := hw1.symm
  clear LI hw1
  go_wp2_with fail
  go_loopw [7, 16] (fun l i wr => l = .slice none 0 0 ∧ i = .int .i64 0 ∧ wr = w) (fun _ i _ => 0)
  case atStart => exact ⟨rfl, rfl, rfl⟩
  case round =>
    obtain ⟨rfl, rfl, rfl⟩ := hrel
    go_wp2_with fail
    refine (FA _).mono ?_; rintro e w2 ⟨rfl, hk2⟩
    have HK := hide (KA.andNu hk2)
    clear FA hk2
    go_wp2
    go_ret3
    exact ⟨rfl, HK.out⟩
set_option maxRecDepth 100000 in
set_option maxHeartbeats 1000000 in
theorem Load_nil (w : World) (ad : Option Addr) (n cap : Nat) (lim c : Int) (LO : Calls Try.prog 33 #[.slice ad n cap, .int .i64 lim] w fun e w' => e = .returned (.tuple #[.pointer none, .int .i64 0, .int .i64 c]) ∧ Kp Nu w w') :
    Calls Try.prog 18 #[.slice ad n cap, .int .i64 lim] w fun e w' => e = .returned (.tuple #[.pointer none, .int .i64 c]) ∧ Kp Nu w w' := by
  go_enter Try.func18, Try.ntmps18
  go_wp2_with fail
  refine LO.mono ?_; rintro e w2 ⟨rfl, hk⟩
  clear LO
  go_wp2
  go_ret2
  exact ⟨rfl, hk⟩
set_option maxRecDepth 100000 in
set_option maxHeartbeats 1000000 in
theorem new_bad (w : World) (o lim : Int) (h : ¬ (1 ≤ lim ∧ lim ≤ 8192) ∨ ¬ o < 16) :
    Calls Try.prog 8 #[.int .u8 o, .int .i64 lim] w fun e w' => e = .returned (.tuple #[.pointer none, .int .i64 (if 1 ≤ lim ∧ lim ≤ 8192 then 2 else 63)]) ∧ Kp Nu w w' := by
  have KA := Kp.alloc w (.cells #[.int .u64 0, .int .u64 18446744073709551615, .int .u8 o] 40) Nu
  have LO : Calls Try.prog 18 #[.slice (some ⟨w.heap.size, 0, none⟩) 1 1, .int .i64 lim] (w.alloc (.cells #[.int .u64 0, .int .u64 18446744073709551615, .int .u8 o] 40)) fun e w' => e = .returned (.tuple #[.pointer none, .int .i64 (if 1 ≤ lim ∧ lim ≤ 8192 then 2 else 63)]) ∧ Kp Nu (w.alloc (.cells #[.int .u64 0, .int .u64 18446744073709551615, .int .u8 o] 40)) w' := by
    by_cases hl : 1 ≤ lim ∧ lim ≤ 8192
    · rw [if_pos hl]
      have ho : ¬ o < 16 := h.elim (fun h => absurd hl h) id
      exact Load_nil _ _ _ _ _ _ (load_arg _ o ho lim hl.1 hl.2 _ (heap_alloc_new w _))
    · rw [if_neg hl]
      exact Load_nil _ _ _ _ _ _ (load_lim _ _ _ _ lim hl)
  generalize (if 1 ≤ lim ∧ lim ≤ 8192 then (2 : Int) else 63) = c at *
  clear h
  go_enter Try.func8, Try.ntmps8
  go_wp2_with fail
  refine LO.mono ?_; rintro e w2 ⟨rfl, hk⟩
  clear LO
  go_wp2
  go_ret2
  exact ⟨rfl, KA.andNu hk⟩
set_option maxRecDepth 100000 in
set_option maxHeartbeats 1000000 in
theorem refNew_any (w : World) (o lim : Int) :
    Calls Try.prog 22 #[.int .u8 o, .int .i64 lim] w fun e w' => ∃ v v', e = .returned (.tuple #[.agg #[v, v'], .int .i64 (if 1 ≤ lim ∧ lim ≤ 8192 then (if o < 16 then 0 else 2) else 63)]) ∧ Kp Nu w w' := by
  by_cases h1 : lim < 1
  · rw [if_neg (by omega)]
    go_enter Try.func22, Try.ntmps22
    go_wp2
    exact bodyPost_ret (v := .tuple #[.agg #[.int .i64 0, .slice none 0 0], .int .i64 63]) (by simp [results, Try.results22, go_sem]) rfl (by first | exact ⟨_, _, rfl, Kp.alloc w _ Nu⟩ | exact Kp.alloc w _ Nu | exact ⟨⟨_, _, rfl⟩, Kp.alloc w _ Nu⟩)
  · have h1d : decide (lim < 1) = false := decide_eq_false h1
    by_cases h2 : lim > 8192
    · have h2d : decide (8192 < lim) = true := decide_eq_true h2
      rw [if_neg (by omega)]
      go_enter Try.func22, Try.ntmps22
      go_wp2
      exact bodyPost_ret (v := .tuple #[.agg #[.int .i64 0, .slice none 0 0], .int .i64 63]) (by simp [results, Try.results22, go_sem]) rfl (by first | exact ⟨_, _, rfl, Kp.alloc w _ Nu⟩ | exact Kp.alloc w _ Nu | exact ⟨⟨_, _, rfl⟩, Kp.alloc w _ Nu⟩)
    · have h2d : decide (8192 < lim) = false := decide_eq_false h2
      rw [if_pos (by omega)]
      have RH := fun W => refHost_any o W
      by_cases ho : o ≤ 15
      · rw [decide_eq_true ho] at RH
        rw [if_pos (by omega)]
        go_enter Try.func22, Try.ntmps22
        go_wp2_with fail
        refine (RH _).mono ?_; rintro e w2 ⟨rfl, hw2⟩
        obtain rfl := hw2.symm
        clear RH hw2
        go_wp2
        exact bodyPost_ret (v := .tuple #[.agg #[.int .i64 lim, .slice (some ⟨w.heap.size + 1, 0, none⟩) 1 1], .int .i64 0]) (by simp [results, Try.results22, go_sem]) rfl (by first | exact ⟨_, _, rfl, (Kp.alloc w _ Nu).andAlloc _⟩ | exact ⟨⟨_, _, rfl⟩, (Kp.alloc w _ Nu).andAlloc _⟩)
      · rw [decide_eq_false ho] at RH
        rw [if_neg (by omega)]
        go_enter Try.func22, Try.ntmps22
        go_wp2_with fail
        refine (RH _).mono ?_; rintro e w2 ⟨rfl, hw2⟩
        obtain rfl := hw2.symm
        clear RH hw2
        go_wp2
        exact bodyPost_ret (v := .tuple #[.agg #[.int .i64 0, .slice none 0 0], .int .i64 2]) (by simp [results, Try.results22, go_sem]) rfl (by first | exact ⟨_, _, rfl, Kp.alloc w _ Nu⟩ | exact Kp.alloc w _ Nu | exact ⟨⟨_, _, rfl⟩, Kp.alloc w _ Nu⟩)

theorem kp_dN (w : World) (n : Nat) : Kp Nu w (w.drewN n) := by
  have := kp_grow w n #[]
  rwa [grow_empty] at this
theorem alt_get : ∀ {F : List Sg} {x z : Sg} (i : Nat), Alt F → F[i]? = some x → F[i + 1]? = some z → z.h ≠ x.h
  | [], x, z, i, h1, h2, h3 => by simp at h2
  | [a], x, z, i, h1, h2, h3 => by simp at h3
  | a :: b :: F, x, z, 0, h1, h2, h3 => by simp at h2 h3; subst h2 h3; exact fun q => h1.1 q.symm
  | a :: b :: F, x, z, i + 1, h1, h2, h3 => alt_get (F := b :: F) i h1.2 (by simpa using h2) (by simpa using h3)

set_option maxRecDepth 100000 in
set_option maxHeartbeats 2000000 in
theorem tight_true (w : World) (u : Value) (L : List Sg) (h1 : Rs w u L) (hT : Tab L) (hl : L.length ≤ 8192) :
    Calls Try.prog 23 #[u] w fun e w' => e = .returned (.bool true) ∧ Kp Nu w w' := by
  have mixed : Try.prog.follows .mixedOrders = true := by kernel_rfl
  obtain ⟨r1, o1, c1, e1, x1⟩ := h1
  have HX := hide x1
  have hpos := hT.ne
  obtain ⟨s0, hs0⟩ : ∃ s, L[0]? = some s := ⟨_, List.getElem?_eq_getElem hpos⟩
  obtain ⟨sl, hsl⟩ : ∃ s, L[L.length - 1]? = some s := ⟨_, List.getElem?_eq_getElem (by omega)⟩
  obtain ⟨a0, a1, a2⟩ := x1 0 s0 hs0
  obtain ⟨b0, b1, b2⟩ := x1 _ sl hsl
  have hz0 : s0.lo = 0 := (cov_take hT.cov hs0).1.symm
  have hzl : sl.hi = 18446744073709551615 := by
    have h := hT.cov
    have e : L = L.take (L.length - 1) ++ [sl] := by
      have := List.take_add_one (l := L) (i := L.length - 1)
      rw [hsl, show L.length - 1 + 1 = L.length by omega, List.take_of_length_le (Nat.le_refl _)] at this
      exact this
    rw [e] at h
    have := cov_last h
    omega
  obtain ⟨N, hN⟩ : ∃ N, L.length = N := ⟨_, rfl⟩
  have HN := hide hN
  have HT := hide hT
  rw [hN] at e1 hl hpos b0 b1 b2
  rw [hz0] at a0
  rw [hzl] at b1
  simp only [Nat.zero_mul, Nat.add_zero] at a0
  have z0 : ((N : Int) == 0) = false := by simpa using (by omega : ¬ (N : Int) = 0)
  have zw : IntKind.i64.wrap ((N : Int) - 1) = ((N - 1 : Nat) : Int) := by rw [IntKind.wrap_i64]; omega
  have zw1 : ((N - 1 : Nat) : Int) < (N : Int) := by omega
  have zw0 : (0 : Int) ≤ ((N - 1 : Nat) : Int) := by omega
  have zp : (0 : Int) < (N : Int) := by omega
  generalize hN1 : N - 1 = N1 at *
  subst e1
  clear x1 hN hT hs0 hsl hz0 hzl a1 a2 b0 b2
  go_enter Try.func23, Try.ntmps23
  go_wp2_with fail
  go_loopw [3] (fun i wr => ∃ k : Nat, i = .int .i64 (k : Int) ∧ k ≤ N ∧ Hid (Kp Nu w wr)) (fun i _ => N - (intOf i).toNat)
  case atStart => exact ⟨0, rfl, Nat.zero_le _, Kp.refl _ _⟩
  case round =>
    obtain ⟨k, rfl, hk, hI⟩ := hrel
    clear a0 b1 zw zw1 zw0
    by_cases hlt : k < N
    · have hkL : k < L.length := by rw [HN.out]; exact hlt
      obtain ⟨s, hs⟩ : ∃ s, L[k]? = some s := ⟨_, List.getElem?_eq_getElem hkL⟩
      obtain ⟨t1, t2, t3⟩ := cov_take HT.out.cov hs
      have hh := HT.out.hs s (List.mem_of_getElem? hs)
      obtain ⟨a0, a1, a2⟩ := HX.out k s hs
      have key : ∀ {a : Addr} {x : Value}, w.cell? a = some x → wr.cell? a = some x := fun h => (World.cell?_of_block (hI.out.block _ (World.block_lt_of_cell? w _ h) (fun h => h))).trans h
      replace a0 := key a0; replace a1 := key a1; replace a2 := key a2
      have hltI : (k : Int) < (N : Int) := by omega
      have hk0 : (0 : Int) ≤ (k : Int) := by omega
      have hkN : (k : Int) ≤ 8192 := by omega
      have g1 : decide (s.hi < s.lo) = false := decide_eq_false (by omega)
      have g2 : decide (15 < s.h) = false := decide_eq_false (by omega)
      cases k with
      | zero =>
        have g0 : decide ((0 : Int) < ((0 : Nat) : Int)) = false := by decide
        have HK := hide hI.out
        simp only [Nat.zero_mul, Nat.add_zero] at a0 a1 a2
        clear hI hs hkL key t1
        go_wp2_with fail
        go_quiet (fail)
        go_wp2_with fail
        go_quiet (fail)
        go_wp2
        go_roundw
        case rel => exact ⟨0 + 1, by go_num, by omega, by show Kp Nu w _; first | exact (HK.out.andNu (kp_dN _ _)).andNu (kp_dN _ _) | exact HK.out.andNu (kp_dN _ _)⟩
        case measure => simp [intOf]; omega
      | succ j =>
        obtain ⟨p, hp⟩ : ∃ s, L[j]? = some s := ⟨_, List.getElem?_eq_getElem (by omega)⟩
        obtain ⟨p0, p1, p2⟩ := HX.out j p hp
        replace p0 := key p0; replace p1 := key p1; replace p2 := key p2
        have hadj : s.lo = p.hi + 1 ∧ s.h ≠ p.h := by
          refine ⟨?_, alt_get j HT.out.alt hp hs⟩
          rw [List.take_add_one, hp] at t1
          have := cov_last t1
          omega
        have g0 : decide ((0 : Int) < ((j + 1 : Nat) : Int)) = true := decide_eq_true (by omega)
        have g0' : decide ((0 : Int) < (j : Int) + 1) = true := decide_eq_true (by omega)
        have gw : IntKind.i64.wrap ((j : Int) + 1 - 1) = (j : Int) := by rw [IntKind.wrap_i64]; omega
        have hp0 := (cov_mem HT.out.cov p (List.mem_of_getElem? hp))
        have gu : IntKind.u64.wrap (p.hi + 1) = p.hi + 1 := by rw [IntKind.wrap_u64]; omega
        have g3 : (s.lo != p.hi + 1) = false := by simpa using hadj.1
        have g4 : (p.hi == 18446744073709551615) = false := by simpa using (by omega : ¬ p.hi = 18446744073709551615)
        have g5 : (s.h == p.h) = false := by simpa using hadj.2
        have hjI : (j : Int) < (N : Int) := by omega
        have hj0 : (0 : Int) ≤ (j : Int) := by omega
        have HK := hide hI.out
        have HA := hide hadj
        clear hI hs hkL key t1 hp hp0 hadj
        go_wp2_with fail
        go_quiet (fail)
        go_wp2_with fail
        go_quiet (fail)
        go_wp2
        go_roundw
        case rel => exact ⟨j + 1 + 1, by go_num, by omega, by show Kp Nu w _; first | exact (HK.out.andNu (kp_dN _ _)).andNu (kp_dN _ _) | exact HK.out.andNu (kp_dN _ _)⟩
        case measure => simp [intOf]; omega
    · have hge : ¬ (k : Int) < (N : Int) := by omega
      go_wp2
      go_ret
      exact ⟨rfl, hI.out⟩
end Go.Proofs.Ytffcnonhhfhlhaa.Rg
