import Derived.Test.YtffcnonhhfhlhaaDoorTxG
namespace Go.Proofs.YtffcnonhhfhlhaaDoor.Rg
open Go.RowKit Go.Shelf Go.Sort
open Go.Proofs.YtffcnonhhfhlhaaDoor.It
set_option linter.unusedVariables false

theorem sgs_of_own {w : World} {B : Nat} {u : Value} {M : List Sg} (h : w.ownsRow B 26 3 u M.length (cells M)) (hb : ∀ s ∈ M, SgB s) : Sgs w u M := by
  rcases Nat.eq_zero_or_pos M.length with h0 | h0
  · obtain rfl := List.eq_nil_of_length_eq_zero h0
    obtain ⟨ad, cp, e⟩ := own_slice h
    exact .inl ⟨⟨ad, cp, e⟩, rfl⟩
  · obtain ⟨r, off, cap, e, hc⟩ := rs_of_own h h0
    refine .inr ⟨r, off, cap, e, fun i s hs => ?_⟩
    obtain ⟨x0, x1, x2⟩ := hc i s hs
    have f := hb s (List.mem_of_getElem? hs)
    exact ⟨x0, x1, x2, f.l0, f.l1, f.h0, f.h1, f.o0, f.o1⟩

set_option maxRecDepth 100000 in
set_option maxHeartbeats 1000000 in
/-- two lists of the same segments, however long -/
theorem same_rz (w : World) (u1 u2 : Value) (L : List Sg) (h1 : Rz w u1 L) (h2 : Rz w u2 L) (hl : L.length ≤ 5864062014634) :
    Calls Tryd.prog 11 #[u1, u2] w fun e w' => e = .returned (.bool true) ∧ Kp Nu w w' := by
  have mixed : Tryd.prog.follows .mixedOrders = true := by kernel_rfl
  obtain ⟨a1, c1, e1⟩ := h1.slice
  obtain ⟨a2, c2, e2⟩ := h2.slice
  have HX1 := hide h1
  have HX2 := hide h2
  obtain ⟨N, hN⟩ : ∃ N, L.length = N := ⟨_, rfl⟩
  have HN := hide hN
  rw [hN] at e1 e2 hl
  have z0 : ((N : Int) != (N : Int)) = false := by simp
  subst e1 e2
  clear h1 h2 hN
  go_enter Tryd.func11, Tryd.ntmps11
  go_wp2_with fail
  go_loopw [5] (fun i wr => ∃ k : Nat, i = .int .i64 (k : Int) ∧ k ≤ N ∧ Hid (Kp Nu w wr)) (fun i _ => N - (intOf i).toNat)
  case atStart => exact ⟨0, rfl, Nat.zero_le _, Kp.refl _ _⟩
  case round =>
    obtain ⟨k, rfl, hk, hI⟩ := hrel
    by_cases hlt : k < N
    · have hkL : k < L.length := by rw [HN.out]; exact hlt
      obtain ⟨s, hs⟩ : ∃ s, L[k]? = some s := ⟨_, List.getElem?_eq_getElem hkL⟩
      have hX1 : ∃ r off cap, (.slice a1 N c1 : Value) = .slice (some ⟨r, off, none⟩) N cap ∧ w.cell? ⟨r, off + k * 3, none⟩ = some (.int .u64 s.lo) ∧ w.cell? ⟨r, off + k * 3 + 1, none⟩ = some (.int .u64 s.hi) ∧ w.cell? ⟨r, off + k * 3 + 2, none⟩ = some (.int .u8 s.h) := by
        rcases HX1.out with ⟨h0, _⟩ | ⟨r, off, cap, e, hc⟩
        · rw [h0] at hs; simp at hs
        · rw [HN.out] at e; exact ⟨r, off, cap, e, hc k s hs⟩
      have hX2 : ∃ r off cap, (.slice a2 N c2 : Value) = .slice (some ⟨r, off, none⟩) N cap ∧ w.cell? ⟨r, off + k * 3, none⟩ = some (.int .u64 s.lo) ∧ w.cell? ⟨r, off + k * 3 + 1, none⟩ = some (.int .u64 s.hi) ∧ w.cell? ⟨r, off + k * 3 + 2, none⟩ = some (.int .u8 s.h) := by
        rcases HX2.out with ⟨h0, _⟩ | ⟨r, off, cap, e, hc⟩
        · rw [h0] at hs; simp at hs
        · rw [HN.out] at e; exact ⟨r, off, cap, e, hc k s hs⟩
      obtain ⟨r1, o1, cp1, q1, x0, x1, x2⟩ := hX1
      obtain ⟨r2, o2, cp2, q2, y0, y1, y2⟩ := hX2
      simp only [Value.slice.injEq] at q1 q2
      obtain ⟨rfl, q1'⟩ := q1
      obtain ⟨rfl, q2'⟩ := q2
      clear q1' q2'
      replace x0 := cell_nu x0 hI.out.drew; replace x1 := cell_nu x1 hI.out.drew; replace x2 := cell_nu x2 hI.out.drew
      replace y0 := cell_nu y0 hI.out.drew; replace y1 := cell_nu y1 hI.out.drew; replace y2 := cell_nu y2 hI.out.drew
      have hltI : (k : Int) < (N : Int) := by omega
      have hk0 : (0 : Int) ≤ (k : Int) := by omega
      have hkN : (k : Int) ≤ 5864062014634 := by omega
      have HF : Hid (Kp Nu w wr.drew) := hI.out.drew
      have t0 : (s.lo == s.lo) = true := by simp
      have t1 : (s.hi == s.hi) = true := by simp
      have t2 : (s.h == s.h) = true := by simp
      clear hI hs hkL
      go_wp2_with fail
      go_region
      go_wp2
      go_roundw
      case rel => exact ⟨k + 1, by go_num, by omega, HF⟩
      case measure => simp [intOf]; omega
    · have hge : ¬ (k : Int) < (N : Int) := by omega
      go_wp2
      go_ret
      exact ⟨rfl, hI.out⟩
end Go.Proofs.YtffcnonhhfhlhaaDoor.Rg
