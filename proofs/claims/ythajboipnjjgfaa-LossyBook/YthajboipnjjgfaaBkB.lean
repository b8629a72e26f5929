import Derived.Test.YthajboipnjjgfaaBkA
namespace Go.Proofs.Ythajboipnjjgfaa.Ly
open Go.RowKit Go.Maps
set_option linter.unusedVariables false

theorem row_at94 {w : World} {B : Nat} {v : Value} {L : List Gm} (h : w.ownsRow B 94 3 v L.length (cells L)) {i : Nat} {g : Gm} (hi : L[i]? = some g) : ∃ r cap, v = .slice (some ⟨r, 0, none⟩) L.length cap ∧ w.cell? ⟨r, i * 3, none⟩ = some (.int .u8 g.f) ∧ w.cell? ⟨r, i * 3 + 1, none⟩ = some (.int .u8 g.t) ∧ w.cell? ⟨r, i * 3 + 2, none⟩ = some g.d := by
  have hlt : i < L.length := (List.getElem?_eq_some_iff.1 hi).1
  rcases h.2 with ⟨_, h0⟩ | ⟨r, cap, cur, e, hB, hg, h1, h2, h3, h4⟩
  · omega
  · have key : ∀ j, j < 3 → cur[i * 3 + j]? = g.cells[j]? := by
      intro j hj
      have e1 := cells_at L i g hi j hj
      rw [← h4, List.getElem?_take_of_lt (by omega)] at e1
      simpa using e1
    refine ⟨r, cap, e, ?_, ?_, ?_⟩
    · have := key 0 (by omega)
      simpa [World.cell?, hg, Gm.cells] using this
    · have := key 1 (by omega)
      simpa [World.cell?, hg, Gm.cells] using this
    · have := key 2 (by omega)
      simpa [World.cell?, hg, Gm.cells] using this

theorem cell_three_new (w : World) (x y z : Value) (t : TypeId) : ∀ j u, [x, y, z][j]? = some u → (w.alloc (.cells #[x, y, z] t)).cell? ((⟨w.heap.size, 0, none⟩ : Addr).add j) = some u := by
  intro j u hj
  have h := cell3 (heap_alloc_new w (.cells #[x, y, z] t))
  match j, hj with
  | 0, hj => simp at hj; subst hj; exact h.1
  | 1, hj => simp at hj; subst hj; exact h.2.1
  | 2, hj => simp at hj; subst hj; exact h.2.2
set_option maxRecDepth 100000 in
set_option maxHeartbeats 1000000 in
theorem without_any {w : World} {B : Nat} {u : Value} {M : List Gm} (h : Bo w B u M) (a : Int) (hM : (M.length : Int) ≤ 100000) :
    Calls Try.prog 55 #[u, .int .i64 a] w fun e w' => ∃ u', e = .returned u' ∧ Bo w' w.heap.size u' (sift (drP [a]) 0 M) ∧ Kp Nu w w' := by
  obtain ⟨i0, hi, hz0, hz1, hz2⟩ := info_parts info94
  obtain ⟨ad, cap, hu⟩ := own_slice h.own
  obtain ⟨N, hN⟩ : ∃ N, M.length = N := ⟨_, rfl⟩
  have HH := hide h
  have HN := hide hN
  rw [hN] at hu hM
  subst hu
  clear h hN
  go_enter Try.func55, Try.ntmps55
  go_wp2_with fail
  go_loopw [5, 6] (fun l i wr => ∃ (k n : Nat) (adl : Option Addr) (cpl : Nat), k ≤ N ∧ n ≤ k ∧ i = .int .i64 (k : Int) ∧ l = .slice adl n cpl ∧ Hid (wr.ownsRow w.heap.size 94 3 (.slice adl n cpl) n (cells (sift (drP [a]) 0 (M.take k))) ∧ Kp Nu w wr)) (fun _ i _ => N - (intOf i).toNat)
  case atStart => exact ⟨0, 0, none, 0, by omega, by omega, rfl, rfl, ⟨⟨by simp [sift, cells], .inl ⟨rfl, rfl⟩⟩, Kp.refl _ _⟩⟩
  case round =>
    obtain ⟨k, n, adl, cpl, hk, hnk, rfl, rfl, hI⟩ := hrel
    by_cases hlt : k < N
    · have hkM : k < M.length := by rw [HN.out]; exact hlt
      obtain ⟨g, hg⟩ : ∃ g, M[k]? = some g := ⟨_, List.getElem?_eq_getElem hkM⟩
      have hB := HH.out.nu hI.out.2
      have hltI : (k : Int) < (N : Int) := by omega
      have hk0 : (0 : Int) ≤ (k : Int) := by omega
      have hst := sift_step (p := drP [a]) hg
      by_cases hka : (k : Int) = a
      · have hp : drP [a] k g = true := by simp [drP, hka]
        rw [hp] at hst
        have hne : ((k : Int) != a) = false := by simpa using hka
        have HF : Hid (wr.ownsRow w.heap.size 94 3 (.slice adl n cpl) n (cells (sift (drP [a]) 0 (M.take (k + 1)))) ∧ Kp Nu w wr) := by
          refine ⟨?_, hI.out.2⟩
          rw [hst]
          simpa using hI.out.1
        clear hB hst hp hg hI hka
        go_wp2
        exact ⟨⟨k + 1, n, adl, cpl, by omega, by omega, by go_num, rfl, HF⟩, by simp [intOf]; omega⟩
      · have hp : drP [a] k g = false := by simp [drP, hka]
        rw [hp] at hst
        have hne : ((k : Int) != a) = true := by simpa using hka
        obtain ⟨r, cap', hv, x0, x1, x2⟩ := row_at94 hB.own hg
        simp only [Value.slice.injEq] at hv
        obtain ⟨hv1, hv2, hv3⟩ := hv
        clear hv2 hv3
        subst hv1
        obtain ⟨ag, cg, eg⟩ := (hB.dat g (List.mem_of_getElem? hg)).1.slice
        have HST := hide hst
        have HGm : Hid (g.cells = [.int .u8 g.f, .int .u8 g.t, g.d]) := rfl
        rw [eg] at x2 HGm
        have hrow := hI.out.1
        have HK := hide hI.out.2
        clear hB hst hp hg hI hka
        have hsz := HK.out.size
        go_wp2_with (first
          | (at_builtin; refine wpList_append_own _ rfl _ _ 64 rfl w.heap.size 94 i0 (.agg #[.int .u8 0, .int .u8 0, .slice none 0 0]) 3 32 Try.underlying64 hi hz0 hz1 hz2 rfl (by decide) _ _ _ rfl (hrow.alloc _) ⟨wr.heap.size, 0, none⟩ 1 1 [.int .u8 g.f, .int .u8 g.t, .slice ag g.ys.length cg] rfl rfl (cell_three_new _ _ _ _ _) (by simp [Value.oneCell']) (by unfold maxLen; omega) (by omega) (by simp; omega) ?_; intro v' w3 hown' hg3 hnil3; obtain ⟨ad3, cp3, ev3⟩ := own_slice hown'; have HO := hide hown'; have HG3 := hide hg3; subst ev3; clear hown' hg3 hnil3)
          | go_in)
        have HF : Hid (w3.ownsRow w.heap.size 94 3 (.slice ad3 (n + 1) cp3) (n + 1) (cells (sift (drP [a]) 0 (M.take (k + 1)))) ∧ Kp Nu w w3) := by
          refine ⟨?_, ?_⟩
          · have e := HST.out
            have hc : ∀ (X : List Gm), cells X ++ g.cells = cells (X ++ [g]) := fun X => by simp [cells]
            have h1 := HO.out
            rw [← HGm.out, hc] at h1
            rw [e]
            exact h1
          · exact (HK.out.andAlloc _).trans (Kp.of_grown HG3.out) (fun i hi e => by
              have := (hrow.lt i e.symm).1
              omega)
        go_wp2
        exact ⟨⟨k + 1, n + 1, ad3, cp3, by omega, by omega, by go_num, rfl, HF⟩, by simp [intOf]; omega⟩
    · have hge : ¬ (k : Int) < (N : Int) := by omega
      obtain rfl : k = N := by omega
      have HF : Hid (Bo wr w.heap.size (.slice adl n cpl) (sift (drP [a]) 0 M) ∧ Kp Nu w wr) := by
        have h1 := hI.out.1
        have e : M.take k = M := by rw [← HN.out]; simp
        rw [e] at h1
        have e2 : (sift (drP [a]) 0 M).length = n := by have := h1.1; rw [cells_length] at this; omega
        refine ⟨⟨by rw [e2]; exact h1, fun g hg => ?_⟩, hI.out.2⟩
        have := HH.out.dat g (sift_mem _ _ _ _ hg)
        exact ⟨this.1.nu hI.out.2, this.2⟩
      clear hI
      go_wp2
      go_ret
      exact ⟨_, rfl, HF.out⟩
end Go.Proofs.Ythajboipnjjgfaa.Ly
