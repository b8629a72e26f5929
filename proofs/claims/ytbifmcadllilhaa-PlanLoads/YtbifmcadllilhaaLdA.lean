import Derived.Test.YtbifmcadllilhaaRgW
namespace Go.Proofs.Ytbifmcadllilhaa.Rg
open Go.RowKit Go.Shelf Go.Sort
open Go.Proofs.Ytbifmcadllilhaa.It
set_option linter.unusedVariables false

/-- does a segment stand behind those that are laid? -/
def fol (A : List Sg) (s : Sg) : Bool := match A.getLast? with
  | none => s.lo == 0
  | some t => decide (0 < s.lo) && (s.lo - 1 == t.hi)
/-- what bars it -/
def flt (A : List Sg) (s : Sg) : Int := if fol A s = false then 62 else if s.hi < s.lo then 60 else if 16 ≤ s.h then 2 else 0

set_option maxRecDepth 100000 in
set_option maxHeartbeats 1000000 in
theorem follows_any (w : World) (base : Nat) (u : Value) (A : List Sg) (s : Sg) (hown : w.ownsRow base 82 3 u A.length (cells A)) (hA : A.length ≤ 6000000000000) (s0 : 0 ≤ s.lo) (s1 : s.lo < 18446744073709551616) :
    Calls Try.prog 101 #[enc s, u] w fun e w' => e = .returned (.bool (fol A s)) ∧ Kp Nu w w' := by
  have mixed : Try.prog.follows .mixedOrders = true := by kernel_rfl
  rcases List.eq_nil_or_concat A with rfl | ⟨A', t, rfl⟩
  · obtain ⟨ad, cap, hu⟩ := own_slice hown
    simp only [List.length_nil] at hu
    subst hu
    simp only [fol, List.getLast?_nil]
    unfold enc
    go_enter Try.func101, Try.ntmps101
    go_wp2
    go_ret
    exact ⟨rfl, Kp.alloc w _ Nu⟩
  · rw [List.concat_eq_append] at hown hA ⊢
    have ht : (A' ++ [t])[A'.length]? = some t := by simp
    have hl : (A' ++ [t]).length = A'.length + 1 := by simp
    obtain ⟨r, cap, hu, x0, x1, x2⟩ := row_at hown ht
    rw [hl] at hu hA
    have hrlt : r < w.heap.size := own_lt hown (by rw [hu]; rfl)
    have y1 : (w.alloc (.cells #[.int .u64 s.lo, .int .u64 s.hi, .int .u8 s.h] 82)).cell? ⟨r, A'.length * 3 + 1, none⟩ = some (.int .u64 t.hi) := (World.cell?_of_block (Below.heap_alloc w _ r hrlt)).trans x1
    have hfo : fol (A' ++ [t]) s = (decide (0 < s.lo) && (s.lo - 1 == t.hi)) := by simp [fol]
    rw [hfo]
    generalize A'.length = N at *
    subst hu
    clear hown x0 x1 x2 ht hl hfo
    unfold enc
    by_cases g1 : s.lo > 0
    · have g0 : decide (0 < s.lo) = true := decide_eq_true g1
      have g2 : IntKind.u64.wrap (s.lo - 1) = s.lo - 1 := by rw [IntKind.wrap_u64]; omega
      rw [g0, Bool.true_and]
      go_enter Try.func101, Try.ntmps101
      go_wp2_with fail
      go_region
      go_wp2
      go_ret
      exact ⟨rfl, (Kp.alloc w _ Nu).drew⟩
    · have g0 : decide (0 < s.lo) = false := decide_eq_false g1
      rw [g0, Bool.false_and]
      go_enter Try.func101, Try.ntmps101
      go_wp2_with fail
      go_region
      go_wp2
      go_ret
      exact ⟨rfl, (Kp.alloc w _ Nu).drew⟩

set_option maxRecDepth 100000 in
set_option maxHeartbeats 1000000 in
theorem fault_any (w : World) (base : Nat) (u : Value) (A : List Sg) (s : Sg) (hown : w.ownsRow base 82 3 u A.length (cells A)) (hA : A.length ≤ 6000000000000) (s0 : 0 ≤ s.lo) (s1 : s.lo < 18446744073709551616) :
    Calls Try.prog 83 #[enc s, u] w fun e w' => e = .returned (.int .i64 (flt A s)) ∧ Kp Nu w w' := by
  obtain ⟨ad, cap, hu⟩ := own_slice hown
  have KA := Kp.alloc w (.cells #[.int .u64 s.lo, .int .u64 s.hi, .int .u8 s.h] 82) Nu
  have FO := follows_any (w.alloc (.cells #[.int .u64 s.lo, .int .u64 s.hi, .int .u8 s.h] 82)) base u A s (hown.alloc _) hA s0 s1
  have HB : ∀ W, Kp Nu (w.alloc (.cells #[.int .u64 s.lo, .int .u64 s.hi, .int .u8 s.h] 82)) W → W.cell? ⟨w.heap.size, 0, none⟩ = some (.int .u64 s.lo) ∧ W.cell? ⟨w.heap.size, 1, none⟩ = some (.int .u64 s.hi) ∧ W.cell? ⟨w.heap.size, 2, none⟩ = some (.int .u8 s.h) := fun W k => cell3 ((k.block _ (blk_lt (heap_alloc_new w _)) (fun h => h)).trans (heap_alloc_new w _))
  have IH := fun W => isHost_any s.h W
  obtain ⟨f, hf⟩ : ∃ f, fol A s = f := ⟨_, rfl⟩
  have hfl : flt A s = if f = false then 62 else if s.hi < s.lo then 60 else if 16 ≤ s.h then 2 else 0 := by rw [← hf]; rfl
  rw [hfl]
  rw [hf] at FO
  clear hown hf hfl
  subst hu
  generalize A.length = NA at *
  unfold enc at FO ⊢
  cases f with
  | false =>
    rw [if_pos rfl]
    go_enter Try.func83, Try.ntmps83
    go_wp2_with fail
    refine FO.mono ?_; rintro e w2 ⟨rfl, hk2⟩
    go_wp2
    go_ret
    exact ⟨rfl, KA.andNu hk2⟩
  | true =>
    rw [if_neg (by simp)]
    by_cases hgt : s.lo > s.hi
    · rw [if_pos hgt]
      go_enter Try.func83, Try.ntmps83
      go_wp2_with fail
      refine FO.mono ?_; rintro e w2 ⟨rfl, hk2⟩
      obtain ⟨a0, a1, a2⟩ := HB _ hk2
      clear FO HB
      go_wp2
      go_ret
      exact ⟨rfl, KA.andNu hk2⟩
    · rw [if_neg (by omega)]
      by_cases hh : s.h < 16
      · rw [if_neg (by omega)]
        rw [decide_eq_true hh] at IH
        go_enter Try.func83, Try.ntmps83
        go_wp2_with fail
        refine FO.mono ?_; rintro e w2 ⟨rfl, hk2⟩
        obtain ⟨a0, a1, a2⟩ := HB _ hk2
        clear FO HB
        go_wp2_with fail
        refine (IH _).mono ?_; rintro e w3 ⟨rfl, hw3⟩
        obtain rfl := hw3.symm
        go_wp2
        go_ret
        exact ⟨rfl, KA.andNu hk2⟩
      · rw [if_pos (by omega)]
        rw [decide_eq_false hh] at IH
        go_enter Try.func83, Try.ntmps83
        go_wp2_with fail
        refine FO.mono ?_; rintro e w2 ⟨rfl, hk2⟩
        obtain ⟨a0, a1, a2⟩ := HB _ hk2
        clear FO HB
        go_wp2_with fail
        refine (IH _).mono ?_; rintro e w3 ⟨rfl, hw3⟩
        obtain rfl := hw3.symm
        go_wp2
        go_ret
        exact ⟨rfl, KA.andNu hk2⟩
end Go.Proofs.Ytbifmcadllilhaa.Rg
