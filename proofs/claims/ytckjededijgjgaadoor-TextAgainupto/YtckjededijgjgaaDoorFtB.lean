import Derived.Test.YtckjededijgjgaaDoorPcF
import Derived.Test.YtckjededijgjgaaDoorWdG
import Derived.Test.YtckjededijgjgaaDoorWdI
namespace Go.Proofs.YtckjededijgjgaaDoor.Ft
open Go.Proofs.YtckjededijgjgaaDoor.Pc (P4 pieces piecesFrom piecesFrom_end pcF encAt isEnc isEnc_unique decode_cases encAt_len width_le)
open Go.Proofs.YtckjededijgjgaaDoor.Wd (wF wS clipG clipT clipR wF_range bl bl_len)
open Go.Proofs.YtckjededijgjgaaDoor.Enc (kindF)
set_option linter.unusedVariables false

/-- the columns of the piece at a place -/
def wA (s : ByteArray) (p : Nat) : Int := wF (pcF s p)

/-- pieces from a to b, and their columns -/
inductive Seg (s : ByteArray) : Nat → Nat → Int → Prop
  | nil (a : Nat) : Seg s a a 0
  | cons {a b : Nat} {W : Int} : a < s.size → Seg s (a + (Utf8.decode s a).2) b W → Seg s a b (wA s a + W)

theorem Seg.le {s : ByteArray} {a b : Nat} {W : Int} (h : Seg s a b W) : a ≤ b := by
  induction h with
  | nil => exact Nat.le_refl _
  | cons _ _ ih => omega
theorem Seg.nonneg {s : ByteArray} {a b : Nat} {W : Int} (h : Seg s a b W) : 0 ≤ W := by
  induction h with
  | nil => exact Int.le_refl _
  | @cons a b W _ _ ih => have := (wF_range (pcF s a)).1; unfold wA; omega
theorem Seg.append {s : ByteArray} {a b c : Nat} {W V : Int} (h : Seg s a b W) (k : Seg s b c V) : Seg s a c (W + V) := by
  induction h with
  | nil => simpa using k
  | @cons a b W h1 _ ih => rw [Int.add_assoc]; exact .cons h1 (ih k)
theorem Seg.one {s : ByteArray} {a : Nat} (h : a < s.size) : Seg s a (a + (Utf8.decode s a).2) (wA s a) := by
  have := Seg.cons h (.nil (a + (Utf8.decode s a).2))
  simpa using this

/-- all the way: the columns of the pieces -/
theorem seg_all {s : ByteArray} {a b : Nat} {W : Int} (h : Seg s a b W) (hb : b = s.size) : ∀ f, s.size ≤ a + f → wS (piecesFrom s f a) = W := by
  induction h with
  | nil a => intro f _; rw [piecesFrom_end s f a (by omega)]; rfl
  | @cons a b W h1 h2 ih =>
    intro f hf
    have hw := width_le s a h1
    obtain ⟨f, rfl⟩ : ∃ g, f = g + 1 := ⟨f - 1, by omega⟩
    rw [Pc.piecesFrom, if_pos h1, wS, ih hb f (by omega)]
    rfl
theorem seg_width {s : ByteArray} {W : Int} (h : Seg s 0 s.size W) : wS (pieces s) = W := seg_all h rfl s.size (by omega)

/-- what Clip's search finds -/
theorem clip_from (s : ByteArray) (cols : Int) (f : Nat) : ∀ (a : Nat) (u : Int), a ≤ s.size → s.size ≤ a + f → u ≤ cols →
    (∃ (p : Nat) (W : Int), clipG cols (piecesFrom s f a) u = some (p : Int) ∧ p < s.size ∧ Seg s a p W ∧ u + W ≤ cols ∧ cols < u + W + wA s p) ∨
    (∃ W : Int, clipG cols (piecesFrom s f a) u = none ∧ Seg s a s.size W ∧ u + W ≤ cols) := by
  induction f with
  | zero =>
    intro a u ha hf hu
    have : a = s.size := by omega
    subst this
    exact .inr ⟨0, rfl, .nil _, by omega⟩
  | succ f ih =>
    intro a u ha hf hu
    by_cases h : a < s.size
    · have hw := width_le s a h
      rw [Pc.piecesFrom, if_pos h, clipG]
      by_cases hc : u + wF (pcF s a) > cols
      · rw [if_pos hc]
        refine .inl ⟨a, 0, ?_, h, .nil _, by omega, by unfold wA; omega⟩
        congr 1
        unfold Pc.pcF
        split <;> rfl
      · rw [if_neg hc]
        rcases ih (a + (Utf8.decode s a).2) (u + wF (pcF s a)) (by omega) (by omega) (by omega) with ⟨p, W, h1, h2, h3, h4, h5⟩ | ⟨W, h1, h2, h3⟩
        · exact .inl ⟨p, _, h1, h2, .cons h h3, by unfold wA; omega, by unfold wA at *; omega⟩
        · exact .inr ⟨_, h1, .cons h h2, by unfold wA; omega⟩
    · have : a = s.size := by omega
      subst this
      rw [piecesFrom_end s _ _ h]
      exact .inr ⟨0, rfl, .nil _, by omega⟩

/-! the same bytes elsewhere -/
theorem encAt_end {s : ByteArray} {p r k : Nat} (h : encAt s p r k) (hp : p < s.size) : p + k ≤ s.size ∧ 1 ≤ k ∧ k ≤ 4 := by
  rcases h with h | h | h | h <;> omega
/-- the further bytes of a rune are 128 and more -/
theorem encAt_tail {s : ByteArray} {p r k : Nat} (h : encAt s p r k) (j : Nat) (h1 : 1 ≤ j) (h2 : j < k) : 128 ≤ (s.get! (p + j)).toNat := by
  have hj : j = 1 ∨ j = 2 ∨ j = 3 := by rcases h with h | h | h | h <;> omega
  rcases hj with rfl | rfl | rfl <;> rcases h with h | h | h | h <;> omega
theorem encAt_move {s t : ByteArray} {p q r k : Nat} (h : encAt s p r k) (hq : q + k ≤ t.size) (he : ∀ j, j < k → t.get! (q + j) = s.get! (p + j)) : encAt t q r k := by
  unfold Pc.encAt at h ⊢
  unfold Pc.isEnc at h ⊢
  rcases h with ⟨rfl, h⟩ | ⟨rfl, h⟩ | ⟨rfl, h⟩ | ⟨rfl, h⟩
  · have e0 := he 0 (by omega)
    simp only [Nat.add_zero] at e0
    exact .inl ⟨rfl, by omega, by rw [e0]; omega⟩
  · have e0 := he 0 (by omega)
    have e1 := he 1 (by omega)
    simp only [Nat.add_zero] at e0
    rw [e0, e1]
    exact .inr (.inl ⟨rfl, by omega, by omega, by omega, by omega, by omega⟩)
  · have e0 := he 0 (by omega)
    have e1 := he 1 (by omega)
    have e2 := he 2 (by omega)
    simp only [Nat.add_zero] at e0
    rw [e0, e1, e2]
    exact .inr (.inr (.inl ⟨rfl, by omega, by omega, by omega, by omega, by omega, by omega, by omega⟩))
  · have e0 := he 0 (by omega)
    have e1 := he 1 (by omega)
    have e2 := he 2 (by omega)
    have e3 := he 3 (by omega)
    simp only [Nat.add_zero] at e0
    rw [e0, e1, e2, e3]
    exact .inr (.inr (.inr ⟨rfl, by omega, by omega, by omega, by omega, by omega, by omega, by omega⟩))

/-- what is decoded at a place, by its two kinds -/
theorem dec_whole {s : ByteArray} {p r k : Nat} (h : encAt s p r k) : Utf8.decode s p = (r, k) := by
  rcases decode_cases s p with ⟨_, _, h2⟩ | ⟨r', k', h1, h2⟩
  · exact absurd h (h2 _ _)
  · obtain ⟨rfl, rfl⟩ := isEnc_unique h h2
    exact h1
theorem wA_whole {s : ByteArray} {p r k : Nat} (h : encAt s p r k) : wA s p = (if kindF (r : Int) = 1 ∨ kindF (r : Int) = 2 then 0 else if kindF (r : Int) = 3 then 2 else 1) := by
  unfold wA Pc.pcF
  have hn : ¬ ((r, k) : Nat × Nat) = (65533, 1) := by
    intro e
    simp only [Prod.mk.injEq] at e
    obtain ⟨rfl, rfl⟩ := e
    rcases h with h | h | h | h <;> omega
  rw [dec_whole h, if_neg hn]
  rfl
theorem dec_broken {s : ByteArray} {p : Nat} (h : ∀ r k, ¬ encAt s p r k) : Utf8.decode s p = (65533, 1) := by
  rcases decode_cases s p with ⟨h1, _, _⟩ | ⟨r', k', h1, h2⟩
  · exact h1
  · exact absurd h2 (h _ _)
theorem wA_broken {s : ByteArray} {p : Nat} (h : ∀ r k, ¬ encAt s p r k) : wA s p = 1 := by
  unfold wA Pc.pcF
  rw [dec_broken h, if_pos rfl]
  rfl

/-- a place p of s and a place q of t where the same is cut -/
theorem same_cut {s t : ByteArray} {p q : Nat} (h1 : ∀ r k, encAt s p r k → encAt t q r k) (h2 : ∀ r k, encAt t q r k → encAt s p r k) : Utf8.decode t q = Utf8.decode s p ∧ wA t q = wA s p := by
  rcases decode_cases s p with ⟨h, _, h3⟩ | ⟨r, k, h, h3⟩
  · have h4 : ∀ r k, ¬ encAt t q r k := fun r k e => h3 _ _ (h2 _ _ e)
    rw [h, dec_broken h4, wA_broken h3, wA_broken h4]
    exact ⟨rfl, rfl⟩
  · have h4 := h1 _ _ h3
    rw [h, dec_whole h4, wA_whole h3, wA_whole h4]
    exact ⟨rfl, rfl⟩

/-- a stretch of pieces, elsewhere -/
theorem seg_move {s t : ByteArray} {d e b : Nat} (hb : b + d ≤ s.size) (ht : b + e ≤ t.size) (heq : ∀ i, i < b → t.get! (i + e) = s.get! (i + d))
    (hR : ∀ i r k, i < b → encAt t (i + e) r k → i + k ≤ b) {x y : Nat} {W : Int} (h : Seg s x y W) : ∀ a, x = a + d → y = b + d → Seg t (a + e) (b + e) W := by
  induction h with
  | nil x =>
    intro a h1 h2
    have : a = b := by omega
    subst this
    exact .nil _
  | @cons x y W h1 h2 ih =>
    intro a hx hy
    subst hx hy
    have hw := width_le s _ h1
    have hle := h2.le
    have hab : a < b := by omega
    have hs := same_cut (s := s) (t := t) (p := a + d) (q := a + e)
      (fun r k he => by
        have hk := dec_whole he
        rw [hk] at hw hle
        simp only at hw hle
        refine encAt_move he (by omega) fun j hj => ?_
        have := heq (a + j) (by omega)
        rw [show a + e + j = a + j + e by omega, show a + d + j = a + j + d by omega]
        exact this)
      (fun r k he => by
        have hk := hR a r k hab he
        refine encAt_move he (by omega) fun j hj => ?_
        have := heq (a + j) (by omega)
        rw [show a + e + j = a + j + e by omega, show a + d + j = a + j + d by omega]
        exact this.symm)
    have := ih (a + (Utf8.decode s (a + d)).2) (by omega) rfl
    rw [← hs.2]
    refine .cons (by omega) ?_
    rw [hs.1, show a + e + (Utf8.decode s (a + d)).2 = a + (Utf8.decode s (a + d)).2 + e by omega]
    exact this
end Go.Proofs.YtckjededijgjgaaDoor.Ft
namespace Go.Proofs.YtckjededijgjgaaDoor.Ft
open Go.Proofs.YtckjededijgjgaaDoor.Pc (P4 pieces piecesFrom piecesFrom_end pcF encAt isEnc isEnc_unique decode_cases encAt_len width_le)
open Go.Proofs.YtckjededijgjgaaDoor.Wd (wF wS clipG clipT clipR wF_range bl bl_len padA padT padM)
open Go.Proofs.YtckjededijgjgaaDoor.Enc (kindF)
set_option linter.unusedVariables false

theorem get_ext (s : ByteArray) (a b i : Nat) (hb : b ≤ s.size) (hi : a + i < b) : (s.extract a b).get! i = s.get! (a + i) := by
  have h1 : i < (s.extract a b).size := by rw [ByteArray.size_extract]; omega
  rw [Pc.get_at _ _ h1, Pc.get_at s (a + i) (by omega), ByteArray.getElem_extract]

/-- what Clip leaves -/
theorem clip_facts (s : ByteArray) (cols : Int) (hc : 0 ≤ cols) : ∃ (n : Nat) (W : Int), clipR s cols = s.extract 0 n ∧ n ≤ s.size ∧ Seg (s.extract 0 n) 0 n W ∧ W ≤ cols ∧ (n < s.size → cols < W + wA s n) := by
  have hr : clipR s cols = clipT s cols := by unfold Wd.clipR; rw [if_neg (by omega)]
  rw [hr]
  unfold Wd.clipT
  rcases clip_from s cols s.size 0 0 (by omega) (by omega) hc with ⟨p, W, h1, h2, h3, h4, h5⟩ | ⟨W, h1, h2, h3⟩
  · refine ⟨p, W, ?_, by omega, ?_, by omega, fun _ => by omega⟩
    · rw [show pieces s = piecesFrom s s.size 0 from rfl, h1]
      simp
    · have hz : (s.extract 0 p).size = p := by rw [ByteArray.size_extract]; omega
      have := seg_move (s := s) (t := s.extract 0 p) (d := 0) (e := 0) (b := p) (by omega) (by omega)
        (fun i hi => by rw [Nat.add_zero]; have := get_ext s 0 p i (by omega) (by omega); rw [Nat.zero_add] at this; exact this)
        (fun i r k hi he => by have := (encAt_end he (by omega)).1; omega) h3 0 rfl rfl
      exact this
  · refine ⟨s.size, W, ?_, by omega, ?_, by omega, fun h => by omega⟩
    · rw [show pieces s = piecesFrom s s.size 0 from rfl, h1]
      simp
    · rw [show s.extract 0 s.size = s by simp]
      exact h2

/-- the piece behind what is left -/
theorem rest_facts (s : ByteArray) (n : Nat) (hn : n < s.size) : ∃ (k : Nat) (x : P4) (l : List P4), 1 ≤ k ∧ n + k ≤ s.size ∧ pieces (s.extract n s.size) = x :: l ∧ x.2.2.1 = (k : Int) ∧ wS (pieces (s.extract n (n + k))) = wA s n := by
  have hw := width_le s n hn
  have hz : (s.extract n s.size).size = s.size - n := by rw [ByteArray.size_extract]; omega
  have hc := same_cut (s := s) (t := s.extract n s.size) (p := n) (q := 0)
    (fun r k he => encAt_move he (by have := (encAt_end he hn).1; omega) fun j hj => by rw [Nat.zero_add]; exact get_ext s n s.size j (by omega) (by have := (encAt_end he hn).1; omega))
    (fun r k he => encAt_move he (by have := (encAt_end he (by omega)).1; omega) fun j hj => by rw [Nat.zero_add]; exact (get_ext s n s.size j (by omega) (by have := (encAt_end he (by omega)).1; omega)).symm)
  obtain ⟨f, hf⟩ : ∃ f, (s.extract n s.size).size = f + 1 := ⟨s.size - n - 1, by omega⟩
  refine ⟨(Utf8.decode s n).2, pcF (s.extract n s.size) 0, piecesFrom (s.extract n s.size) f (0 + (Utf8.decode (s.extract n s.size) 0).2), hw.1, hw.2.2, ?_, ?_, ?_⟩
  · unfold Pc.pieces
    rw [hf, Pc.piecesFrom, if_pos (by omega)]
  · unfold Pc.pcF
    rw [hc.1]
    split
    · rename_i h; rw [h]; rfl
    · rfl
  · have hz2 : (s.extract n (n + (Utf8.decode s n).2)).size = (Utf8.decode s n).2 := by rw [ByteArray.size_extract]; omega
    have := seg_move (s := s) (t := s.extract n (n + (Utf8.decode s n).2)) (d := n) (e := 0) (b := (Utf8.decode s n).2) (by omega) (by omega)
      (fun i hi => by rw [Nat.add_zero, Nat.add_comm i n]; exact get_ext s n _ i (by omega) (by omega))
      (fun i r k hi he => by have := (encAt_end he (by omega)).1; omega) (Seg.one hn) 0 (by omega) (by omega)
    refine seg_width ?_
    rw [hz2]
    exact this

/-! blanks about a text -/
def padB (c : ByteArray) (a b : Nat) : ByteArray := ⟨(bl a).toArray⟩ ++ c ++ ⟨(bl b).toArray⟩
theorem padB_size (c : ByteArray) (a b : Nat) : (padB c a b).size = a + c.size + b := by
  unfold padB
  rw [ByteArray.size_append, ByteArray.size_append]
  show (bl a).toArray.size + c.size + (bl b).toArray.size = _
  simp [bl]
theorem padB_list (c : ByteArray) (a b : Nat) : (padB c a b).data.toList = bl a ++ c.data.toList ++ bl b := by
  unfold padB
  simp [ByteArray.data_append]
theorem get_list (t : ByteArray) (i : Nat) (h : i < t.size) : t.data.toList[i]? = some (t.get! i) := by
  rw [Pc.get_at t i h, List.getElem?_eq_getElem (by simpa using h)]
  rfl
theorem padB_ahead (c : ByteArray) (a b i : Nat) (h : i < a) : (padB c a b).get! i = 32 := by
  have h1 := get_list (padB c a b) i (by rw [padB_size]; omega)
  rw [padB_list, List.append_assoc, List.getElem?_append_left (by rw [bl_len]; omega)] at h1
  unfold Wd.bl at h1
  rw [List.getElem?_replicate] at h1
  simpa [h] using h1.symm
theorem padB_mid (c : ByteArray) (a b i : Nat) (h : i < c.size) : (padB c a b).get! (i + a) = c.get! i := by
  have h1 := get_list (padB c a b) (i + a) (by rw [padB_size]; omega)
  rw [padB_list, List.append_assoc, List.getElem?_append_right (by rw [bl_len]; omega), bl_len, List.getElem?_append_left (by rw [Array.length_toList]; show i + a - a < c.size; omega), show i + a - a = i by omega, get_list c i h] at h1
  exact (Option.some.inj h1).symm
theorem padB_behind (c : ByteArray) (a b i : Nat) (h : i < b) : (padB c a b).get! (a + c.size + i) = 32 := by
  have h1 := get_list (padB c a b) (a + c.size + i) (by rw [padB_size]; omega)
  have hl : (bl a ++ c.data.toList).length = a + c.size := by rw [List.length_append, bl_len, Array.length_toList]; rfl
  rw [padB_list, List.getElem?_append_right (by rw [hl]; omega), hl, show a + c.size + i - (a + c.size) = i by omega] at h1
  unfold Wd.bl at h1
  rw [List.getElem?_replicate] at h1
  simpa [h] using h1.symm
theorem padB_cut (c : ByteArray) (a b : Nat) : (padB c a b).extract a (a + c.size) = c := by
  have hz : ((padB c a b).extract a (a + c.size)).size = c.size := by rw [ByteArray.size_extract, padB_size]; omega
  apply ByteArray.ext_getElem hz
  intro i h1 h2
  rw [← Pc.get_at _ _ h1, ← Pc.get_at _ _ h2, get_ext _ _ _ _ (by rw [padB_size]; omega) (by omega), Nat.add_comm a i]
  exact padB_mid c a b i h2

/-- a blank is a piece of one column -/
theorem blank_at {t : ByteArray} {p : Nat} (hp : p < t.size) (h : t.get! p = 32) : Utf8.decode t p = (32, 1) ∧ wA t p = 1 := by
  have he : encAt t p 32 1 := .inl ⟨rfl, by omega, by rw [h]; rfl⟩
  refine ⟨dec_whole he, ?_⟩
  rw [wA_whole he]
  decide
theorem blanks_seg {t : ByteArray} (a : Nat) : ∀ (n : Nat), a + n ≤ t.size → (∀ i, i < n → t.get! (a + i) = 32) → Seg t a (a + n) (n : Int)
  | 0, _, _ => .nil _
  | n + 1, h, hb => by
    have ih := blanks_seg a n (by omega) (fun i hi => hb i (by omega))
    have hl := blank_at (p := a + n) (by omega) (hb n (by omega))
    have := ih.append (Seg.one (s := t) (a := a + n) (by omega))
    rw [hl.1, hl.2] at this
    simpa [Nat.add_assoc] using this
/-- the columns of a padded text -/
theorem padB_width (c : ByteArray) (a b : Nat) (W : Int) (h : Seg c 0 c.size W) : wS (pieces (padB c a b)) = (a : Int) + W + (b : Int) := by
  have hz := padB_size c a b
  have h1 := blanks_seg (t := padB c a b) 0 a (by omega) (fun i hi => by rw [Nat.zero_add]; exact padB_ahead c a b i hi)
  have h3 := blanks_seg (t := padB c a b) (a + c.size) b (by omega) (fun i hi => padB_behind c a b i hi)
  have h2 := seg_move (s := c) (t := padB c a b) (d := 0) (e := a) (b := c.size) (by omega) (by omega)
    (fun i hi => padB_mid c a b i hi)
    (fun i r k hi he => by
      have hend := (encAt_end he (by omega)).1
      by_cases hk : i + k ≤ c.size
      · exact hk
      · exfalso
        have ht := encAt_tail he (c.size - i) (by omega) (by omega)
        rw [show i + a + (c.size - i) = a + c.size + 0 by omega, padB_behind c a b 0 (by omega)] at ht
        exact absurd ht (by decide)) h 0 rfl rfl
  rw [Nat.zero_add] at h1 h2
  rw [Nat.add_comm c.size a] at h2
  refine seg_width ?_
  rw [hz]
  exact (h1.append h2).append h3

/-- Pad's answer, by its blanks -/
theorem padT_padB (c : ByteArray) (m side : Int) : padT c m side = padB c (padA m side).toNat (m - padA m side).toNat := rfl
end Go.Proofs.YtckjededijgjgaaDoor.Ft
