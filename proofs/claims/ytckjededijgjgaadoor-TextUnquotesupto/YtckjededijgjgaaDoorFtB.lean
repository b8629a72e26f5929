import Derived.Test.YtckjededijgjgaaDoorFtA
namespace Go.Proofs.YtckjededijgjgaaDoor.Ft
open Go.Proofs.YtckjededijgjgaaDoor.Pc (P4 pieces piecesFrom piecesFrom_end pcF encAt isEnc isEnc_unique decode_cases encAt_len width_le)
open Go.Proofs.YtckjededijgjgaaDoor.Wd (wF wS clipG clipT clipR wF_range bl bl_len padA padT padM)
open Go.Proofs.YtckjededijgjgaaDoor.Enc (kindF)
set_option linter.unusedVariables false

theorem get_ext (s : ByteArray) (a b i : Nat) (hb : b ≤ s.size) (hi : a + i < b) : (s.extract a b).get! i = s.get! (a + i) := by
  have h1 : i < (s.extract a b).size := by rw [ByteArray.size_extract]; omega
  rw [Pc.get_at _ _ h1, Pc.get_at s (a + i) (by omega), ByteArray.getElem_extract]

/-- what Clip leaves -/
theorem clip_facts (s : ByteArray) (cols : Int) (hc : 0 ≤ cols) : ∃ (n : Nat) (W : Int), clipR s cols = s.extract 0 n ∧ n ≤ s.size ∧ Seg (s.extract 0 n) 0 n W ∧ W ≤ cols ∧ (n < s.size → cols < W + wA s n) := by
  have hr : clipR s cols = clipT s cols := by unfold Wd.clipR; rw [if_neg (by omega)]
  rw [hr]
  unfold Wd.clipT
  rcases clip_from s cols s.size 0 0 (by omega) (by omega) hc with ⟨p, W, h1, h2, h3, h4, h5⟩ | ⟨W, h1, h2, h3⟩
  · refine ⟨p, W, ?_, by omega, ?_, by omega, fun _ => by omega⟩
    · rw [show pieces s = piecesFrom s s.size 0 from rfl, h1]
      simp
    · have hz : (s.extract 0 p).size = p := by rw [ByteArray.size_extract]; omega
      have := seg_move (s := s) (t := s.extract 0 p) (d := 0) (e := 0) (b := p) (by omega) (by omega)
        (fun i hi => by rw [Nat.add_zero]; have := get_ext s 0 p i (by omega) (by omega); rw [Nat.zero_add] at this; exact this)
        (fun i r k hi he => by have := (encAt_end he (by omega)).1; omega) h3 0 rfl rfl
      exact this
  · refine ⟨s.size, W, ?_, by omega, ?_, by omega, fun h => by omega⟩
    · rw [show pieces s = piecesFrom s s.size 0 from rfl, h1]
      simp
    · rw [show s.extract 0 s.size = s by simp]
      exact h2

/-- the piece behind what is left -/
theorem rest_facts (s : ByteArray) (n : Nat) (hn : n < s.size) : ∃ (k : Nat) (x : P4) (l : List P4), 1 ≤ k ∧ n + k ≤ s.size ∧ pieces (s.extract n s.size) = x :: l ∧ x.2.2.1 = (k : Int) ∧ wS (pieces (s.extract n (n + k))) = wA s n := by
  have hw := width_le s n hn
  have hz : (s.extract n s.size).size = s.size - n := by rw [ByteArray.size_extract]; omega
  have hc := same_cut (s := s) (t := s.extract n s.size) (p := n) (q := 0)
    (fun r k he => encAt_move he (by have := (encAt_end he hn).1; omega) fun j hj => by rw [Nat.zero_add]; exact get_ext s n s.size j (by omega) (by have := (encAt_end he hn).1; omega))
    (fun r k he => encAt_move he (by have := (encAt_end he (by omega)).1; omega) fun j hj => by rw [Nat.zero_add]; exact (get_ext s n s.size j (by omega) (by have := (encAt_end he (by omega)).1; omega)).symm)
  obtain ⟨f, hf⟩ : ∃ f, (s.extract n s.size).size = f + 1 := ⟨s.size - n - 1, by omega⟩
  refine ⟨(Utf8.decode s n).2, pcF (s.extract n s.size) 0, piecesFrom (s.extract n s.size) f (0 + (Utf8.decode (s.extract n s.size) 0).2), hw.1, hw.2.2, ?_, ?_, ?_⟩
  · unfold Pc.pieces
    rw [hf, Pc.piecesFrom, if_pos (by omega)]
  · unfold Pc.pcF
    rw [hc.1]
    split
    · rename_i h; rw [h]; rfl
    · rfl
  · have hz2 : (s.extract n (n + (Utf8.decode s n).2)).size = (Utf8.decode s n).2 := by rw [ByteArray.size_extract]; omega
    have := seg_move (s := s) (t := s.extract n (n + (Utf8.decode s n).2)) (d := n) (e := 0) (b := (Utf8.decode s n).2) (by omega) (by omega)
      (fun i hi => by rw [Nat.add_zero, Nat.add_comm i n]; exact get_ext s n _ i (by omega) (by omega))
      (fun i r k hi he => by have := (encAt_end he (by omega)).1; omega) (Seg.one hn) 0 (by omega) (by omega)
    refine seg_width ?_
    rw [hz2]
    exact this

/-! blanks about a text -/
def padB (c : ByteArray) (a b : Nat) : ByteArray := ⟨(bl a).toArray⟩ ++ c ++ ⟨(bl b).toArray⟩
theorem padB_size (c : ByteArray) (a b : Nat) : (padB c a b).size = a + c.size + b := by
  unfold padB
  rw [ByteArray.size_append, ByteArray.size_append]
  show (bl a).toArray.size + c.size + (bl b).toArray.size = _
  simp [bl]
theorem padB_list (c : ByteArray) (a b : Nat) : (padB c a b).data.toList = bl a ++ c.data.toList ++ bl b := by
  unfold padB
  simp [ByteArray.data_append]
theorem get_list (t : ByteArray) (i : Nat) (h : i < t.size) : t.data.toList[i]? = some (t.get! i) := by
  rw [Pc.get_at t i h, List.getElem?_eq_getElem (by simpa using h)]
  rfl
theorem padB_ahead (c : ByteArray) (a b i : Nat) (h : i < a) : (padB c a b).get! i = 32 := by
  have h1 := get_list (padB c a b) i (by rw [padB_size]; omega)
  rw [padB_list, List.append_assoc, List.getElem?_append_left (by rw [bl_len]; omega)] at h1
  unfold Wd.bl at h1
  rw [List.getElem?_replicate] at h1
  simpa [h] using h1.symm
theorem padB_mid (c : ByteArray) (a b i : Nat) (h : i < c.size) : (padB c a b).get! (i + a) = c.get! i := by
  have h1 := get_list (padB c a b) (i + a) (by rw [padB_size]; omega)
  rw [padB_list, List.append_assoc, List.getElem?_append_right (by rw [bl_len]; omega), bl_len, List.getElem?_append_left (by rw [Array.length_toList]; show i + a - a < c.size; omega), show i + a - a = i by omega, get_list c i h] at h1
  exact (Option.some.inj h1).symm
theorem padB_behind (c : ByteArray) (a b i : Nat) (h : i < b) : (padB c a b).get! (a + c.size + i) = 32 := by
  have h1 := get_list (padB c a b) (a + c.size + i) (by rw [padB_size]; omega)
  have hl : (bl a ++ c.data.toList).length = a + c.size := by rw [List.length_append, bl_len, Array.length_toList]; rfl
  rw [padB_list, List.getElem?_append_right (by rw [hl]; omega), hl, show a + c.size + i - (a + c.size) = i by omega] at h1
  unfold Wd.bl at h1
  rw [List.getElem?_replicate] at h1
  simpa [h] using h1.symm
theorem padB_cut (c : ByteArray) (a b : Nat) : (padB c a b).extract a (a + c.size) = c := by
  have hz : ((padB c a b).extract a (a + c.size)).size = c.size := by rw [ByteArray.size_extract, padB_size]; omega
  apply ByteArray.ext_getElem hz
  intro i h1 h2
  rw [← Pc.get_at _ _ h1, ← Pc.get_at _ _ h2, get_ext _ _ _ _ (by rw [padB_size]; omega) (by omega), Nat.add_comm a i]
  exact padB_mid c a b i h2

/-- a blank is a piece of one column -/
theorem blank_at {t : ByteArray} {p : Nat} (hp : p < t.size) (h : t.get! p = 32) : Utf8.decode t p = (32, 1) ∧ wA t p = 1 := by
  have he : encAt t p 32 1 := .inl ⟨rfl, by omega, by rw [h]; rfl⟩
  refine ⟨dec_whole he, ?_⟩
  rw [wA_whole he]
  decide
theorem blanks_seg {t : ByteArray} (a : Nat) : ∀ (n : Nat), a + n ≤ t.size → (∀ i, i < n → t.get! (a + i) = 32) → Seg t a (a + n) (n : Int)
  | 0, _, _ => .nil _
  | n + 1, h, hb => by
    have ih := blanks_seg a n (by omega) (fun i hi => hb i (by omega))
    have hl := blank_at (p := a + n) (by omega) (hb n (by omega))
    have := ih.append (Seg.one (s := t) (a := a + n) (by omega))
    rw [hl.1, hl.2] at this
    simpa [Nat.add_assoc] using this
/-- the columns of a padded text -/
theorem padB_width (c : ByteArray) (a b : Nat) (W : Int) (h : Seg c 0 c.size W) : wS (pieces (padB c a b)) = (a : Int) + W + (b : Int) := by
  have hz := padB_size c a b
  have h1 := blanks_seg (t := padB c a b) 0 a (by omega) (fun i hi => by rw [Nat.zero_add]; exact padB_ahead c a b i hi)
  have h3 := blanks_seg (t := padB c a b) (a + c.size) b (by omega) (fun i hi => padB_behind c a b i hi)
  have h2 := seg_move (s := c) (t := padB c a b) (d := 0) (e := a) (b := c.size) (by omega) (by omega)
    (fun i hi => padB_mid c a b i hi)
    (fun i r k hi he => by
      have hend := (encAt_end he (by omega)).1
      by_cases hk : i + k ≤ c.size
      · exact hk
      · exfalso
        have ht := encAt_tail he (c.size - i) (by omega) (by omega)
        rw [show i + a + (c.size - i) = a + c.size + 0 by omega, padB_behind c a b 0 (by omega)] at ht
        exact absurd ht (by decide)) h 0 rfl rfl
  rw [Nat.zero_add] at h1 h2
  rw [Nat.add_comm c.size a] at h2
  refine seg_width ?_
  rw [hz]
  exact (h1.append h2).append h3

/-- Pad's answer, by its blanks -/
theorem padT_padB (c : ByteArray) (m side : Int) : padT c m side = padB c (padA m side).toNat (m - padA m side).toNat := rfl
end Go.Proofs.YtckjededijgjgaaDoor.Ft
