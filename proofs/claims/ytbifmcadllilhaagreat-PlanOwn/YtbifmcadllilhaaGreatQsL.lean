import Derived.Test.YtbifmcadllilhaaGreatQsK
import Derived.Deep.DeepCutAuto
namespace Go.Proofs.YtbifmcadllilhaaGreat.Rg
open Go.RowKit Go.Shelf Go.Sort
set_option linter.unusedVariables false
/-- what stands outside of a' to b' stands where it belongs -/
structure Fr (a a' b' b : Nat) (l : List Int) : Prop where
  la : Srd a a' l
  lb : Srd b' b l
  lo : ∀ x y, a ≤ x → x < a' → a' ≤ y → y < b → gt l x ≤ gt l y
  hi : ∀ x y, a ≤ x → x < b' → b' ≤ y → y < b → gt l x ≤ gt l y
theorem Fr.start (a b : Nat) (l : List Int) : Fr a a b b l := ⟨fun i j i1 i2 i3 => by omega, fun i j i1 i2 i3 => by omega, fun x y x1 x2 => by omega, fun x y x1 x2 y1 y2 => by omega⟩
theorem Fr.keep {a a' b' b : Nat} {l l' : List Int} (h : Fr a a' b' b l) (p : Pm a' b' l l') (h1 : a ≤ a') (h2 : a' ≤ b') (h3 : b' ≤ b) (hl : b' ≤ l.length) : Fr a a' b' b l' := by
  have s : ∀ k, a' ≤ k → k < b' → ∃ i, a' ≤ i ∧ i < b' ∧ gt l' k = gt l i := fun k k1 k2 => p.src h2 hl k1 k2
  refine ⟨fun i j i1 i2 i3 => ?_, fun i j i1 i2 i3 => ?_, fun x y x1 x2 y1 y2 => ?_, fun x y x1 x2 y1 y2 => ?_⟩
  · rw [p.out i (.inl (by omega)), p.out j (.inl (by omega))]; exact h.la i j i1 i2 i3
  · rw [p.out i (.inr (by omega)), p.out j (.inr (by omega))]; exact h.lb i j i1 i2 i3
  · rw [p.out x (.inl (by omega))]
    by_cases e : y < b'
    · obtain ⟨i, i1, i2, e2⟩ := s y y1 e
      rw [e2]; exact h.lo x i x1 x2 i1 (by omega)
    · rw [p.out y (.inr (by omega))]; exact h.lo x y x1 x2 y1 y2
  · rw [p.out y (.inr (by omega))]
    by_cases e : a' ≤ x
    · obtain ⟨i, i1, i2, e2⟩ := s x e x2
      rw [e2]; exact h.hi i y (by omega) i2 y1 y2
    · rw [p.out x (.inl (by omega))]; exact h.hi x y x1 x2 y1 y2
theorem Fr.low {a a' b' b : Nat} {l : List Int} (h : Fr a a' b' b l) (hL : Low a b l) (h1 : a ≤ a') (h3 : b' ≤ b) : Low a' b' l := fun h0 k k1 k2 => by
  by_cases e : a' = a
  · subst e; exact hL h0 k k1 (by omega)
  · exact h.lo (a' - 1) k (by omega) (by omega) k1 (by omega)
theorem Fr.fin {a a' b' b : Nat} {l : List Int} (h : Fr a a' b' b l) (hs : Srd a' b' l) (h1 : a ≤ a') (h2 : a' ≤ b') (h3 : b' ≤ b) : Srd a b l := fun i j i1 i2 i3 => by
  by_cases e1 : j < a'
  · exact h.la i j i1 i2 e1
  · by_cases e2 : i < a'
    · exact h.lo i j i1 e2 (by omega) i3
    · by_cases e3 : j < b'
      · exact hs i j (by omega) i2 e3
      · by_cases e4 : i < b'
        · exact h.hi i j i1 e4 (by omega) i3
        · exact h.lb i j (by omega) i2 i3
theorem Fr.left {a a' b' b m : Nat} {l : List Int} (h : Fr a a' b' b l) (h1 : a ≤ a') (h2 : a' ≤ m) (h3 : m < b') (h4 : b' ≤ b) (hs : Srd a' m l) (hL : ∀ k, a' ≤ k → k < m → gt l k ≤ gt l m) (hR : ∀ k, m < k → k < b' → gt l m ≤ gt l k) : Fr a (m + 1) b' b l := by
  have hm : ∀ k, a ≤ k → k ≤ m → gt l k ≤ gt l m := fun k k1 k2 => by
    by_cases e : k = m
    · rw [e]; exact Int.le_refl _
    · by_cases e2 : k < a'
      · exact h.lo k m k1 e2 h2 (by omega)
      · exact hL k (by omega) (by omega)
  refine ⟨fun i j i1 i2 i3 => ?_, h.lb, fun x y x1 x2 y1 y2 => ?_, h.hi⟩
  · by_cases e : j = m
    · rw [e]; exact hm i i1 (by omega)
    · by_cases e2 : j < a'
      · exact h.la i j i1 i2 e2
      · by_cases e3 : i < a'
        · exact h.lo i j i1 e3 (by omega) (by omega)
        · exact hs i j (by omega) i2 (by omega)
  · have q := hm x x1 (by omega)
    by_cases e : y < b'
    · have := hR y (by omega) e
      omega
    · exact h.hi x y x1 (by omega) (by omega) y2
theorem Fr.right {a a' b' b m : Nat} {l : List Int} (h : Fr a a' b' b l) (h1 : a ≤ a') (h2 : a' ≤ m) (h3 : m < b') (h4 : b' ≤ b) (hs : Srd (m + 1) b' l) (hL : ∀ k, a' ≤ k → k < m → gt l k ≤ gt l m) (hR : ∀ k, m < k → k < b' → gt l m ≤ gt l k) : Fr a a' m b l := by
  have hm : ∀ k, m ≤ k → k < b → gt l m ≤ gt l k := fun k k1 k2 => by
    by_cases e : k = m
    · rw [e]; exact Int.le_refl _
    · by_cases e2 : k < b'
      · exact hR k (by omega) e2
      · exact h.hi m k (by omega) h3 (by omega) k2
  refine ⟨h.la, fun i j i1 i2 i3 => ?_, h.lo, fun x y x1 x2 y1 y2 => ?_⟩
  · by_cases e : i = m
    · rw [e]; exact hm j (by omega) i3
    · by_cases e2 : j < b'
      · exact hs i j (by omega) i2 e2
      · by_cases e3 : i < b'
        · exact h.hi i j (by omega) e3 (by omega) i3
        · exact h.lb i j (by omega) i2 i3
  · have q := hm y y1 y2
    by_cases e : x < a'
    · have := h.lo x m x1 e h2 (by omega)
      omega
    · have := hL x (by omega) x2
      omega
theorem Fr.eq {a a' b' b m : Nat} {P : Int} {l l' : List Int} (h : Fr a a' b' b l) (p : Pm a' b' l l') (h1 : a ≤ a') (h2 : a' ≤ m) (h3 : m ≤ b') (h4 : b' ≤ b) (hl : b' ≤ l.length) (hP : ∀ k, a' ≤ k → k < b' → P ≤ gt l k) (hE : ∀ k, a' ≤ k → k < m → gt l' k ≤ P) (hG : ∀ k, m ≤ k → k < b' → P < gt l' k) : Fr a m b' b l' := by
  have k := h.keep p h1 (by omega) h4 hl
  have hP' : ∀ k, a' ≤ k → k < b' → P ≤ gt l' k := fun k k1 k2 => by
    obtain ⟨i, i1, i2, e⟩ := p.src (by omega) hl k1 k2
    rw [e]; exact hP i i1 i2
  refine ⟨fun i j i1 i2 i3 => ?_, k.lb, fun x y x1 x2 y1 y2 => ?_, k.hi⟩
  · by_cases e : j < a'
    · exact k.la i j i1 i2 e
    · by_cases e2 : i < a'
      · exact k.lo i j i1 e2 (by omega) (by omega)
      · have := hE i (by omega) (by omega)
        have := hP' j (by omega) (by omega)
        omega
  · by_cases e : x < a'
    · exact k.lo x y x1 e (by omega) y2
    · by_cases e2 : y < b'
      · have := hE x (by omega) x2
        have := hG y y1 e2
        omega
      · exact k.hi x y x1 (by omega) (by omega) y2
/-- where the sort stands -/
structure Sx (w0 w : World) (B g n c : Nat) (l : List Int) (a a' b' b : Nat) (l' : List Int) : Prop where
  dr : Dr w B g n c l'
  pm : Pm a b l l'
  fr : Fr a a' b' b l'
  lw : Low a b l'
  kp : Kp (fun k => k = g) w0 w
theorem Sx.more {w0 w w' : World} {B g n c a a' b' b : Nat} {l l1 l2 : List Int} (h : Sx w0 w B g n c l a a' b' b l1) (h1 : a ≤ a') (h2 : a' ≤ b') (h3 : b' ≤ b) (hb : b ≤ n) (hD : Dr w' B g n c l2) (p : Pm a' b' l1 l2) (k : Kp (fun k => k = g) w w') : Sx w0 w' B g n c l a a' b' b l2 := by
  have hl := h.dr.len
  have p2 := p.mono h1 h3
  exact ⟨hD, h.pm.trans p2, h.fr.keep p h1 h2 h3 (by omega), h.lw.keep p2 (by omega) (by omega), h.kp.trans k (fun _ _ e => e)⟩
theorem Sx.done {w0 w w' : World} {B g n c a a' b' b : Nat} {l l1 l2 : List Int} (h : Sx w0 w B g n c l a a' b' b l1) (h1 : a ≤ a') (h2 : a' ≤ b') (h3 : b' ≤ b) (hb : b ≤ n) (hD : Dr w' B g n c l2) (p : Pm a' b' l1 l2) (hs : Srd a' b' l2) (k : Kp (fun k => k = g) w w') : Dr w' B g n c l2 ∧ Pm a b l l2 ∧ Srd a b l2 ∧ Kp (fun k => k = g) w0 w' := by
  have q := h.more h1 h2 h3 hb hD p k
  exact ⟨q.dr, q.pm, q.fr.fin hs h1 h2 h3, q.kp⟩
theorem Sx.low {w0 w : World} {B g n c a a' b' b : Nat} {l l1 : List Int} (h : Sx w0 w B g n c l a a' b' b l1) (h1 : a ≤ a') (h3 : b' ≤ b) : Low a' b' l1 := h.fr.low h.lw h1 h3
end Go.Proofs.YtbifmcadllilhaaGreat.Rg
