import Derived.Test.YtffcnonhhfhlhaaRdC
namespace Go.Proofs.Ytffcnonhhfhlhaa.Rg
open Go.RowKit Go.Shelf Go.Sort
open Go.Proofs.Ytffcnonhhfhlhaa.It
set_option linter.unusedVariables false

theorem own_low {w : World} {B e size n : Nat} {v : Value} {xs : List Value} (h : w.ownsRow B e size v n xs) {g : Nat} (hg : v.ownBlock = some g) : B ≤ g := by
  rcases h.2 with ⟨rfl, h0⟩ | ⟨g', cap, cur, rfl, hb', hg', _⟩
  · cases hg
  · simp [Value.ownBlock] at hg; subst hg; exact hb'
theorem own_weak {w : World} {B B' e size n : Nat} {v : Value} {xs : List Value} (h : w.ownsRow B e size v n xs) (hb : B' ≤ B) : w.ownsRow B' e size v n xs := by
  refine ⟨h.1, ?_⟩
  rcases h.2 with h0 | ⟨g', cap, cur, e1, hb', r⟩
  · exact .inl h0
  · exact .inr ⟨g', cap, cur, e1, Nat.le_trans hb hb', r⟩
theorem Tb.weak {B B' b : Nat} {w : World} {lim : Int} {v : Value} {L : List Sg} (h : Tb B w b lim v L) (hb : B' ≤ B) : Tb B' w b lim v L :=
  ⟨h.blk, Nat.le_trans hb h.low, own_weak h.own hb, h.tab, h.len, h.lim1⟩
theorem own_oth {w w' : World} {B e size n b : Nat} {v : Value} {xs : List Value} (h : w.ownsRow B e size v n xs) (k : Kp (fun k => k = b) w w') (hb : b < B) : w'.ownsRow B e size v n xs :=
  own_keep h (fun g eg => k.block g (own_lt h eg) (fun e2 => by have h1 := own_low h eg; have e3 : g = b := e2; omega))
theorem Tb.oth {B b b0 : Nat} {w w' : World} {lim : Int} {v : Value} {L : List Sg} (h : Tb B w b lim v L) (k : Kp (fun k => k = b0) w w') (hb : b0 < B) : Tb B w' b lim v L :=
  ⟨(k.block _ (blk_lt h.blk) (fun e => by have h1 := h.low; have e3 : b = b0 := e; omega)).trans h.blk, h.low, own_oth h.own k hb, h.tab, h.len, h.lim1⟩
theorem cellsC_at : ∀ (l : List Cg) (k : Nat) (x : Cg), l[k]? = some x → ∀ j, j < 4 → (cellsC l)[k * 4 + j]? = (cellsK x)[j]?
  | [], k, x, h, j, _ => by simp at h
  | a :: l, 0, x, h, j, hj => by
    simp at h; subst h
    simp only [cellsC, List.flatMap_cons, Nat.zero_mul, Nat.zero_add]
    rw [List.getElem?_append_left (by simp [cellsK]; omega)]
  | a :: l, k + 1, x, h, j, hj => by
    have ih := cellsC_at l k x (by simpa using h) j hj
    simp only [cellsC, List.flatMap_cons]
    rw [List.getElem?_append_right (by simp [cellsK]; omega)]
    have : (k + 1) * 4 + j - (cellsK a).length = k * 4 + j := by simp [cellsK]; omega
    rw [this]; exact ih
theorem rowC_at {w : World} {B : Nat} {v : Value} {L : List Cg} (h : w.ownsRow B 55 4 v L.length (cellsC L)) {i : Nat} {g : Cg} (hi : L[i]? = some g) : ∃ r cap, v = .slice (some ⟨r, 0, none⟩) L.length cap ∧ B ≤ r ∧ r < w.heap.size ∧ w.cell? ⟨r, i * 4, none⟩ = some (.int .u64 g.lo) ∧ w.cell? ⟨r, i * 4 + 1, none⟩ = some (.int .u64 g.hi) ∧ w.cell? ⟨r, i * 4 + 2, none⟩ = some (.int .u8 g.f) ∧ w.cell? ⟨r, i * 4 + 3, none⟩ = some (.int .u8 g.t) := by
  have hlt : i < L.length := (List.getElem?_eq_some_iff.1 hi).1
  rcases h.2 with ⟨_, h0⟩ | ⟨r, cap, cur, e, hB, hg, h1, h2, h3, h4⟩
  · omega
  · have key : ∀ j, j < 4 → cur[i * 4 + j]? = (cellsK g)[j]? := by
      intro j hj
      have e1 := cellsC_at L i g hi j hj
      rw [← h4, List.getElem?_take_of_lt (by omega)] at e1
      simpa using e1
    refine ⟨r, cap, e, hB, blk_lt hg, ?_, ?_, ?_, ?_⟩
    · have := key 0 (by omega)
      simpa [World.cell?, hg, cellsK] using this
    · have := key 1 (by omega)
      simpa [World.cell?, hg, cellsK] using this
    · have := key 2 (by omega)
      simpa [World.cell?, hg, cellsK] using this
    · have := key 3 (by omega)
      simpa [World.cell?, hg, cellsK] using this
theorem same_any (w : World) (u1 u2 : Value) (L M : List Sg) (h1 : Rs w u1 L) (h2 : Rs w u2 M) (hl : L.length ≤ 8192) :
    Calls Try.prog 20 #[u1, u2] w fun e w' => ∃ b : Bool, e = .returned (.bool b) ∧ (b = true ↔ L = M) ∧ Kp Nu w w' := by
  by_cases h : L = M
  · subst h
    refine (same_true w u1 u2 L h1 h2 hl).mono ?_
    rintro e w' ⟨rfl, hk⟩
    exact ⟨true, rfl, by simp, hk⟩
  · refine (same_false w u1 u2 L M h1 h2 hl h).mono ?_
    rintro e w' ⟨rfl, hk⟩
    exact ⟨false, rfl, by simp [h], hk⟩
end Go.Proofs.Ytffcnonhhfhlhaa.Rg
