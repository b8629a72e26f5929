import Derived.Test.YtmlnglillgplfaaGreatRgO
namespace Go.Proofs.YtmlnglillgplfaaGreat.Rg
open Go.RowKit Go.Shelf Go.Sort
open Go.Proofs.YtmlnglillgplfaaGreat.It
set_option linter.unusedVariables false

set_option maxRecDepth 100000 in
set_option maxHeartbeats 1000000 in
theorem follows_nil (w : World) (ad : Option Addr) (cap : Nat) (s : Sg) (hs : s.lo = 0) :
    Calls Tryz.prog 147 #[enc s, .slice ad 0 cap] w fun e w' => e = .returned (.bool true) ∧ Kp Nu w w' := by
  have mixed : Tryz.prog.follows .mixedOrders = true := by kernel_rfl
  have h1 : (s.lo == 0) = true := by simp [hs]
  unfold enc
  go_enter Tryz.func147, Tryz.ntmps147
  go_wp2
  go_ret
  exact ⟨rfl, Kp.alloc w _ Nu⟩
set_option maxRecDepth 100000 in
set_option maxHeartbeats 1000000 in
theorem follows_snoc (w : World) (base : Nat) (u : Value) (A : List Sg) (t s : Sg) (hown : w.ownsRow base 76 3 u (A.length + 1) (cells (A ++ [t]))) (h0 : 0 ≤ t.hi) (h1 : t.hi < 18446744073709551615) (hs : s.lo = t.hi + 1) (hA : A.length + 1 ≤ 20000) :
    Calls Tryz.prog 147 #[enc s, u] w fun e w' => e = .returned (.bool true) ∧ Kp Nu w w' := by
  have mixed : Tryz.prog.follows .mixedOrders = true := by kernel_rfl
  have ht : (A ++ [t])[A.length]? = some t := by simp
  have hl : (A ++ [t]).length = A.length + 1 := by simp
  have hown2 : w.ownsRow base 76 3 u (A ++ [t]).length (cells (A ++ [t])) := by rw [hl]; exact hown
  obtain ⟨r, cap, hu, x0, x1, x2⟩ := row_at hown2 ht
  rw [hl] at hu
  have hrlt : r < w.heap.size := own_lt hown (by rw [hu]; rfl)
  have y1 : (w.alloc (.cells #[.int .u64 s.lo, .int .u64 s.hi, .int .u8 s.h] 76)).cell? ⟨r, A.length * 3 + 1, none⟩ = some (.int .u64 t.hi) := (World.cell?_of_block (Below.heap_alloc w _ r hrlt)).trans x1
  have g1 : s.lo > 0 := by omega
  have g0 : decide (0 < s.lo) = true := decide_eq_true g1
  have g2 : IntKind.u64.wrap (s.lo - 1) = s.lo - 1 := by rw [IntKind.wrap_u64]; omega
  have g3 : (s.lo - 1 == t.hi) = true := by simp; omega
  clear hs h0 h1
  generalize A.length = N at *
  subst hu
  clear hown hown2 x0 x1 x2 ht hl
  unfold enc
  go_enter Tryz.func147, Tryz.ntmps147
  go_wp2_with fail
  go_region
  go_wp2
  go_ret
  exact ⟨by simp, (Kp.alloc w _ Nu).drew⟩

set_option maxRecDepth 100000 in
set_option maxHeartbeats 1000000 in
theorem fault_ok (w : World) (u : Value) (s : Sg) (hF : ∀ W, Kp Nu w W → Calls Tryz.prog 147 #[enc s, u] W fun e w' => e = .returned (.bool true) ∧ Kp Nu W w') (hu : ∃ ad n cap, u = .slice ad n cap) (hs : s.lo ≤ s.hi) (hh : s.h < 16) :
    Calls Tryz.prog 146 #[enc s, u] w fun e w' => e = .returned (.int .i64 0) ∧ Kp Nu w w' := by
  obtain ⟨ad, n, cap, rfl⟩ := hu
  have KA := Kp.alloc w (.cells #[.int .u64 s.lo, .int .u64 s.hi, .int .u8 s.h] 76) Nu
  have FO := hF _ KA
  have HB : ∀ W, Kp Nu (w.alloc (.cells #[.int .u64 s.lo, .int .u64 s.hi, .int .u8 s.h] 76)) W → W.cell? ⟨w.heap.size, 0, none⟩ = some (.int .u64 s.lo) ∧ W.cell? ⟨w.heap.size, 1, none⟩ = some (.int .u64 s.hi) ∧ W.cell? ⟨w.heap.size, 2, none⟩ = some (.int .u8 s.h) := fun W k => cell3 (new_at w _ k)
  have hgt : ¬ s.lo > s.hi := by omega
  have IH := fun W => isHost_any s.h W
  rw [decide_eq_true hh] at IH
  unfold enc at FO ⊢
  clear hF
  go_enter Tryz.func146, Tryz.ntmps146
  go_wp2_with fail
  refine FO.mono ?_; rintro e w2 ⟨rfl, hk2⟩
  obtain ⟨a0, a1, a2⟩ := HB _ hk2
  clear FO HB
  go_wp2_with fail
  refine (IH _).mono ?_; rintro e w3 ⟨rfl, hw3⟩
  obtain rfl := hw3.symm
  go_wp2
  go_ret
  exact ⟨rfl, KA.andNu hk2⟩

set_option maxHeartbeats 400000 in
theorem limit_ok (n : Int) (w : World) (h1 : 1 ≤ n) (h2 : n ≤ 8192) : Calls Tryz.prog 145 #[.int .i64 n] w fun e w' => e = .returned (.bool true) ∧ w' = w := by
  have g1 : n ≥ 1 := h1
  go_enter Tryz.func145, Tryz.ntmps145
  go_wp2
  go_ret
  exact ⟨by simp, rfl⟩
set_option maxHeartbeats 400000 in
theorem limit_bad (n : Int) (w : World) (h : ¬ (1 ≤ n ∧ n ≤ 8192)) : Calls Tryz.prog 145 #[.int .i64 n] w fun e w' => e = .returned (.bool false) ∧ w' = w := by
  by_cases h1 : 1 ≤ n
  · have g1 : n ≥ 1 := h1
    have g2 : ¬ n ≤ 8192 := by omega
    have g3 : decide (n ≤ 8192) = false := decide_eq_false g2
    go_enter Tryz.func145, Tryz.ntmps145
    go_wp2
    go_ret
    exact ⟨by simp, rfl⟩
  · have g1 : ¬ n ≥ 1 := h1
    go_enter Tryz.func145, Tryz.ntmps145
    go_wp2
    go_ret
    exact ⟨by simp, rfl⟩

/-- the last of what has been laid ends where the next begins -/
theorem cov_last : ∀ {A : List Sg} {a m : Int} {t : Sg}, Cov a (A ++ [t]) m → t.hi + 1 = m
  | [], a, m, t, h => h.2.2
  | s :: A, a, m, t, h => cov_last (A := A) h.2.2
theorem cov_take : ∀ {M : List Sg} {a b : Int} {k : Nat} {s : Sg}, Cov a M b → M[k]? = some s → Cov a (M.take k) s.lo ∧ s.lo ≤ s.hi ∧ s.hi < b
  | [], a, b, k, s, h, hs => by simp at hs
  | t :: M, a, b, 0, s, h, hs => by
    simp at hs; subst hs
    have := cov_le h.2.2
    exact ⟨h.1.symm, by rw [h.1]; exact h.2.1, by omega⟩
  | t :: M, a, b, k + 1, s, h, hs => by
    obtain ⟨h1, h2, h3⟩ := cov_take (k := k) h.2.2 (by simpa using hs)
    exact ⟨⟨h.1, h.2.1, h1⟩, h2, h3⟩
end Go.Proofs.YtmlnglillgplfaaGreat.Rg
