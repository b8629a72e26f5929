import Derived.Test.YtckjededijgjgaaDoorPcE
namespace Go.Proofs.YtckjededijgjgaaDoor.Pc
open Go.RowKit

theorem valid_yes (r : Int) (h : (0 ≤ r ∧ r < 55296) ∨ (57343 < r ∧ r ≤ 1114111)) : true = Utf8.valid r := by
  unfold Utf8.valid; symm; simp; omega
theorem valid_no (r : Int) (h : r < 0 ∨ (55296 ≤ r ∧ r ≤ 57343) ∨ 1114111 < r) : false = Utf8.valid r := by
  unfold Utf8.valid; symm; simp; omega

set_option maxHeartbeats 400000 in
theorem validRune_any (r : Int) (w : World) :
    Calls Tryd.prog 48 #[.int .i32 r] w fun e w' => e = .returned (.bool (Utf8.valid r)) ∧ w' = w := by
  go_enter Tryd.func48, Tryd.ntmps48
  go_wp2
  all_goals go_ret
  · exact ⟨ret_bool (valid_yes r (.inl ⟨‹_›, ‹_›⟩)), rfl⟩
  · exact ⟨ret_bool (valid_yes r (.inr ⟨‹_›, ‹_›⟩)), rfl⟩
  · exact ⟨ret_bool (valid_no r (.inr (.inr ‹_›))), rfl⟩
  · exact ⟨ret_bool (valid_no r (.inr (.inl ⟨‹_›, ‹_›⟩))), rfl⟩
  · exact ⟨ret_bool (valid_no r (.inl ‹_›)), rfl⟩
set_option maxHeartbeats 400000 in
theorem encode_yes (r : Int) (w : World) (h : Hid (Utf8.valid r = true)) :
    Calls Tryd.prog 19 #[.int .i32 r] w fun e w' => e = .returned (.tuple #[.string (Utf8.encode r), .int .i64 0]) ∧ w' = w := by
  go_enter Tryd.func19, Tryd.ntmps19
  go_wp2_with (go_at_call 48; refine (validRune_any r _).mono ?_; rw [h.out]; rintro e w' ⟨rfl, rfl⟩)
  go_ret2
  exact ⟨rfl, rfl⟩
set_option maxHeartbeats 400000 in
theorem encode_no (r : Int) (w : World) (h : Hid (Utf8.valid r = false)) :
    Calls Tryd.prog 19 #[.int .i32 r] w fun e w' => e = .returned (.tuple #[.string ⟨#[]⟩, .int .i64 19]) ∧ w' = w := by
  go_enter Tryd.func19, Tryd.ntmps19
  go_wp2_with (go_at_call 48; refine (validRune_any r _).mono ?_; rw [h.out]; rintro e w' ⟨rfl, rfl⟩)
  go_ret2
  exact ⟨rfl, rfl⟩

/-! the pieces of a string, one by one -/
theorem width_le (s : ByteArray) (pos : Nat) (h : pos < s.size) : 1 ≤ (Utf8.decode s pos).2 ∧ (Utf8.decode s pos).2 ≤ 4 ∧ pos + (Utf8.decode s pos).2 ≤ s.size := by
  rcases decode_cases s pos with ⟨hd, _, _⟩ | ⟨r, k, hd, he⟩
  · rw [hd]; simp; omega
  · rw [hd]; simp only
    rcases he with he | he | he | he <;> omega

/-- k pieces have come, the rest begins at pos -/
def At (s : ByteArray) (k pos : Nat) : Prop := ∃ f, (pieces s).drop k = piecesFrom s f pos ∧ s.size ≤ pos + f ∧ pos ≤ s.size ∧ k ≤ (pieces s).length

theorem At.start (s : ByteArray) : At s 0 0 := ⟨s.size, rfl, by omega, by omega, by omega⟩
theorem At.more {s : ByteArray} {k pos : Nat} (h : At s k pos) (hk : k < (pieces s).length) : pos < s.size ∧ (pieces s)[k]? = some (pcF s pos) ∧ At s (k + 1) (pos + (Utf8.decode s pos).2) := by
  obtain ⟨f, hd, hf, hp, _⟩ := h
  have hlt : pos < s.size := by
    by_cases e : pos < s.size
    · exact e
    · rw [piecesFrom_end s f pos e] at hd
      have := congrArg List.length hd
      simp at this; omega
  obtain ⟨f, rfl⟩ : ∃ f', f = f' + 1 := ⟨f - 1, by omega⟩
  have hw := width_le s pos hlt
  rw [piecesFrom, if_pos hlt, List.drop_eq_getElem_cons hk] at hd
  simp only [List.cons.injEq] at hd
  exact ⟨hlt, by rw [List.getElem?_eq_getElem hk, hd.1], f, hd.2, by omega, hw.2.2, hk⟩
theorem At.done {s : ByteArray} {k pos : Nat} (h : At s k pos) (hk : ¬ k < (pieces s).length) : pos = s.size := by
  obtain ⟨f, hd, hf, hp, _⟩ := h
  by_cases e : pos < s.size
  · obtain ⟨f, rfl⟩ : ∃ f', f = f' + 1 := ⟨f - 1, by omega⟩
    rw [piecesFrom, if_pos e, List.drop_of_length_le (by omega)] at hd
    cases hd
  · omega

theorem pieces_len (s : ByteArray) : (pieces s).length ≤ s.size := by
  have : ∀ f pos, (piecesFrom s f pos).length ≤ f := by
    intro f
    induction f with
    | zero => intro pos; simp [piecesFrom]
    | succ f ih => intro pos; rw [piecesFrom]; split
                   · have := ih (pos + (Utf8.decode s pos).2); simp; omega
                   · simp
  exact this _ _

/-- a piece's cells in the row -/
theorem cellsL_at : ∀ (l : List P4) (k j : Nat) (x : P4), l[k]? = some x → j < 4 → (cellsL l)[k * 4 + j]? = (cells4 x)[j]?
  | [], k, j, x, h, _ => by simp at h
  | a :: l, 0, j, x, h, hj => by
    simp at h; subst h
    simp only [cellsL, List.flatMap_cons, Nat.zero_mul, Nat.zero_add]
    rw [List.getElem?_append_left (by simp [cells4]; omega)]
  | a :: l, k + 1, j, x, h, hj => by
    have ih := cellsL_at l k j x (by simpa using h) hj
    simp only [cellsL, List.flatMap_cons]
    rw [List.getElem?_append_right (by simp [cells4]; omega)]
    have : (k + 1) * 4 + j - (cells4 a).length = k * 4 + j := by simp [cells4]; omega
    rw [this]; exact ih

/-- the row of pieces in memory: what the walk reads -/
theorem row_cells {W : World} {g : Nat} {cur : Array Value} {l : List P4} (hg : W.heap[g]? = some (.cells cur 55 (0, 0))) (ht : cur.toList.take (l.length * 4) = cellsL l) (k : Nat) (x : P4) (hx : l[k]? = some x) :
    W.cell? ⟨g, k * 4, none⟩ = some (.int .i32 x.1) ∧ W.cell? ⟨g, k * 4 + 1, none⟩ = some (.int .i64 x.2.1) ∧ W.cell? ⟨g, k * 4 + 2, none⟩ = some (.int .i64 x.2.2.1) ∧ W.cell? ⟨g, k * 4 + 3, none⟩ = some (.bool x.2.2.2) := by
  have hk : k < l.length := (List.getElem?_eq_some_iff.1 hx).1
  have cell : ∀ j, j < 4 → W.cell? ⟨g, k * 4 + j, none⟩ = (cells4 x)[j]? := by
    intro j hj
    rw [← cellsL_at l k j x hx hj, ← ht, List.getElem?_take_of_lt (by omega)]
    simp [World.cell?, hg]
  exact ⟨cell 0 (by omega), cell 1 (by omega), cell 2 (by omega), cell 3 (by omega)⟩

/-- the two kinds of pieces -/
theorem pc_cases (s : ByteArray) (pos : Nat) (h : pos < s.size) :
    ((Utf8.decode s pos).2 = 1 ∧ pcF s pos = ((s[pos].toNat : Int), (pos : Int), 1, true) ∧ 128 ≤ s[pos].toNat) ∨
    (∃ r k : Nat, pcF s pos = ((r : Int), (pos : Int), (k : Int), false) ∧ (Utf8.decode s pos).2 = k ∧ encAt s pos r k) := by
  rcases decode_cases s pos with ⟨hd, h128, _⟩ | ⟨r, k, hd, he⟩
  · left
    refine ⟨by rw [hd], ?_, by rw [← get_at s pos h]; exact h128⟩
    unfold pcF; rw [if_pos hd, get_at s pos h]
  · right
    refine ⟨r, k, ?_, by rw [hd], he⟩
    unfold pcF
    rw [if_neg, hd]
    rw [hd]; intro e
    simp only [Prod.mk.injEq] at e
    obtain ⟨rfl, rfl⟩ := e
    rcases he with he | he | he | he <;> omega

theorem bytes_at (s : ByteArray) (pos k : Nat) (h : pos + k ≤ s.size) : (s.extract pos (pos + k)).data.toList = (List.range k).map fun j => s.get! (pos + j) := by
  rw [Lib.extract_data]
  apply List.ext_getElem?
  intro i
  by_cases hi : i < k
  · have e : pos + k - pos = k := by omega
    rw [e, List.getElem?_take_of_lt hi, List.getElem?_drop, List.getElem?_eq_getElem (by simp; omega)]
    simp [hi, get_at s (pos + i) (by omega)]
    rfl
  · rw [List.getElem?_eq_none (by simp; omega), List.getElem?_eq_none (by simp; omega)]

theorem u8_of (c : UInt8) (n : Nat) (h : c.toNat = n) : c = UInt8.ofNat n := by
  rw [← UInt8.toNat_inj]; subst h; simp

/-- a whole rune's bytes are its encoding -/
theorem enc_bytes {s : ByteArray} {pos r k : Nat} (hp : pos < s.size) (h : encAt s pos r k) : (s.extract pos (pos + k)).data.toList = (Utf8.encode (r : Int)).data.toList := by
  have hv : Utf8.valid (r : Int) = true := by
    have := (encAt_len h).2
    exact (valid_yes _ (by omega)).symm
  have hk : pos + k ≤ s.size := by rcases h with h | h | h | h <;> omega
  rw [bytes_at s pos k hk]
  unfold Utf8.encode
  simp only [hv, if_true, Int.toNat_natCast]
  rcases h with ⟨rfl, h1, h2⟩ | ⟨rfl, h1, h2, h3, h4, h5⟩ | ⟨rfl, h1, h2, h3, h4, h5, h6, h7⟩ | ⟨rfl, h1, h2, h3, h4, h5, h6, h7⟩
  · rw [if_pos h1]
    simp [List.range_succ, u8_of _ _ h2]
  · rw [if_neg (by omega), if_pos h2]
    simp [List.range_succ, u8_of _ _ h4, u8_of _ _ h5]
  · rw [if_neg (by omega), if_neg (by omega), if_pos h2]
    simp [List.range_succ, u8_of _ _ h5, u8_of _ _ h6, u8_of _ _ h7]
  · rw [if_neg (by omega), if_neg (by omega), if_neg (by omega)]
    simp [List.range_succ, u8_of _ _ h4, u8_of _ _ h5, u8_of _ _ h6, u8_of _ _ h7]
end Go.Proofs.YtckjededijgjgaaDoor.Pc
