import Derived.Test.YtbifmcadllilhaaPpE
namespace Go.Proofs.Ytbifmcadllilhaa.Rg
open Go.RowKit Go.Shelf Go.Sort
set_option linter.unusedVariables false
/-- a cell of one's own row is written -/
theorem own_put {w : World} {B e size n g cap : Nat} {xs : List Value} (h : w.ownsRow B e size (.slice (some ⟨g, 0, none⟩) n cap) n xs) (o : Nat) (u : Value) (ho : o < xs.length) : (w.setCell ⟨g, o, none⟩ u).ownsRow B e size (.slice (some ⟨g, 0, none⟩) n cap) n (xs.set o u) := by
  rcases h.2 with ⟨e0, _⟩ | ⟨g', cap', cur, e0, hb, hg, h1, h2, h3, h4⟩
  · cases e0
  · cases e0
    refine ⟨by rw [List.length_set]; exact h.1, .inr ⟨g, cap, cur.setIfInBounds o u, rfl, hb, set3 hg o u, h1, h2, by rw [Array.size_setIfInBounds]; exact h3, ?_⟩⟩
    rw [Array.toList_setIfInBounds, ← h4, List.take_set]
theorem row1_at {w : World} {B e : Nat} {v : Value} {xs : List Value} (h : w.ownsRow B e 1 v xs.length xs) {i : Nat} {x : Value} (hi : xs[i]? = some x) : ∃ r cap, v = .slice (some ⟨r, 0, none⟩) xs.length cap ∧ B ≤ r ∧ w.cell? ⟨r, i, none⟩ = some x ∧ ∃ cur, w.heap[r]? = some (.cells cur e (0, 0)) := by
  rcases h.2 with ⟨e0, hn⟩ | ⟨g', cap', cur, e0, hb, hg, h1, h2, h3, h4⟩
  · have : i < xs.length := (List.getElem?_eq_some_iff.1 hi).1
    omega
  · refine ⟨g', cap', e0, hb, ?_, cur, hg⟩
    have hlt : i < xs.length := (List.getElem?_eq_some_iff.1 hi).1
    rw [← h4] at hi
    rw [List.getElem?_take] at hi
    split at hi
    · simp [World.cell?, hg]
      rw [← hi]; simp
    · cases hi
def cellsMs (ms : List Mv) : List Value := ms.flatMap cellsM
theorem cellsMs_snoc (l : List Mv) (s : Mv) : cellsMs (l ++ [s]) = cellsMs l ++ cellsM s := by simp [cellsMs]
theorem cellsMs_at : ∀ (l : List Mv) (k : Nat) (x : Mv), l[k]? = some x → ∀ j, j < 5 → (cellsMs l)[k * 5 + j]? = (cellsM x)[j]?
  | [], k, x, h, j, _ => by simp at h
  | a :: l, 0, x, h, j, hj => by
    simp at h; subst h
    simp only [cellsMs, List.flatMap_cons, Nat.zero_mul, Nat.zero_add]
    rw [List.getElem?_append_left (by simp [cellsM]; omega)]
  | a :: l, k + 1, x, h, j, hj => by
    have ih := cellsMs_at l k x (by simpa using h) j hj
    simp only [cellsMs, List.flatMap_cons]
    rw [List.getElem?_append_right (by simp [cellsM]; omega)]
    have : (k + 1) * 5 + j - (cellsM a).length = k * 5 + j := by simp [cellsM]; omega
    rw [this]; exact ih
theorem mvs_of_own {w : World} {B : Nat} {v : Value} {ms : List Mv} (h : w.ownsRow B 59 5 v ms.length (cellsMs ms)) (hb : ∀ m ∈ ms, MvB m) : Mvs w v ms := by
  obtain ⟨va, vc, ev⟩ := own_slice h
  refine ⟨va, vc, ev, fun i m hm => ?_⟩
  have hlt : i < ms.length := (List.getElem?_eq_some_iff.1 hm).1
  rcases h.2 with ⟨_, h0⟩ | ⟨r, cap, cur, e, hB, hg, h1, h2, h3, h4⟩
  · omega
  · have key : ∀ j, j < 5 → cur[i * 5 + j]? = (cellsM m)[j]? := by
      intro j hj
      have e1 := cellsMs_at ms i m hm j hj
      rw [← h4, List.getElem?_take_of_lt (by omega)] at e1
      simpa using e1
    rw [ev] at e
    simp only [Value.slice.injEq] at e
    refine ⟨r, 0, e.1, ?_, ?_, ?_, ?_, ?_, hb m (List.mem_of_getElem? hm)⟩
    · have := key 0 (by omega)
      simpa [World.cell?, hg, cellsM] using this
    · have := key 1 (by omega)
      simpa [World.cell?, hg, cellsM] using this
    · have := key 2 (by omega)
      simpa [World.cell?, hg, cellsM] using this
    · have := key 3 (by omega)
      simpa [World.cell?, hg, cellsM] using this
    · have := key 4 (by omega)
      simpa [World.cell?, hg, cellsM] using this
theorem mvs_nil (w : World) : Mvs w (.slice none 0 0) [] := ⟨none, 0, rfl, fun i m hm => by simp at hm⟩
theorem info59 : (Try.prog.info? 59).map (fun i => (i.zero, i.size, i.bytes)) = some (some (.agg #[.int .u8 0, .int .u8 0, .int .u64 0, .int .u64 0, .int .i64 0]), 5, 32) := by kernel_rfl
end Go.Proofs.Ytbifmcadllilhaa.Rg
namespace Go.Proofs.Ytbifmcadllilhaa.Rg
open Go.RowKit Go.Shelf Go.Sort
set_option linter.unusedVariables false
set_option maxRecDepth 100000 in
set_option maxHeartbeats 1000000 in
theorem sameMoves18 (w : World) (u v : Value) (M : List Mv) (hu : Mvs w u M) (hv : Mvs w v M) (hN : M.length ≤ 5864062014634) : Calls Try.prog 18 #[u, v] w fun e w' => e = .returned (.bool true) ∧ Kp Nu w w' := by
  obtain ⟨a1, c1, e1, _⟩ := id hu
  obtain ⟨a2, c2, e2, _⟩ := id hv
  obtain ⟨N, eN⟩ : ∃ N, M.length = N := ⟨_, rfl⟩
  rw [eN] at e1 e2 hN
  subst e1 e2
  have HU := hide (And.intro hu (And.intro hv eN))
  have hNI : (N : Int) ≤ 5864062014634 := by omega
  have hnn : ((N : Int) != (N : Int)) = false := by simp
  clear hu hv eN hN
  go_enter Try.func18, Try.ntmps18
  go_wp2
  go_loopw [5] (fun iv wr => ∃ i : Nat, iv = .int .i64 (i : Int) ∧ i ≤ N ∧ Hid (Kp Nu w wr)) (fun iv _ => N - (intOf iv).toNat)
  case atStart => exact ⟨0, rfl, Nat.zero_le _, hide (Kp.refl _ _)⟩
  case round =>
    obtain ⟨i, rfl, hi, hk⟩ := hrel
    have hi0 : (0 : Int) ≤ (i : Int) := by omega
    by_cases hlt : i < N
    · have hltI : (i : Int) < (N : Int) := by omega
      obtain ⟨x, hx⟩ : ∃ x, M[i]? = some x := ⟨_, List.getElem?_eq_getElem (by rw [HU.out.2.2]; exact hlt)⟩
      obtain ⟨b1, o1, rfl, k1⟩ := (HU.out.1.nu hk.out).at_ hx
      obtain ⟨b2, o2, rfl, k2⟩ := (HU.out.2.1.nu hk.out).at_ hx
      obtain ⟨x0, x1, x2, x3, x4, _⟩ := k1
      obtain ⟨y0, y1, y2, y3, y4, _⟩ := k2
      have eti : (i : Int).toNat = i := by omega
      obtain ⟨q0, e0⟩ : ∃ q, x.f = q := ⟨_, rfl⟩
      obtain ⟨q1, e1⟩ : ∃ q, x.t = q := ⟨_, rfl⟩
      obtain ⟨q2, e2⟩ : ∃ q, x.lo = q := ⟨_, rfl⟩
      obtain ⟨q3, e3⟩ : ∃ q, x.hi = q := ⟨_, rfl⟩
      obtain ⟨q4, e4⟩ : ∃ q, x.n = q := ⟨_, rfl⟩
      rw [e0] at x0 y0
      rw [e1] at x1 y1
      rw [e2] at x2 y2
      rw [e3] at x3 y3
      rw [e4] at x4 y4
      clear hx e0 e1 e2 e3 e4
      go_wp2_with fail
      go_region
      go_wp2
      exact ⟨⟨i + 1, by go_num, by omega, hide (hk.out.drew)⟩, by simp [intOf]; omega⟩
    · have hge : ¬ (i : Int) < (N : Int) := by omega
      go_wp2
      go_ret
      exact ⟨rfl, hk.out⟩
end Go.Proofs.Ytbifmcadllilhaa.Rg
