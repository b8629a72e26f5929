import Derived.Test.YtffcnonhhfhlhaaDoorNumB
import Derived.Lib.Strings
import Derived.Test.YtffcnonhhfhlhaaDoorRgA
import Derived.Shelf.Strings.Search1
namespace Go.Proofs.YtffcnonhhfhlhaaDoor.Num
open Go.RowKit

/-- does the text begin with 0x? -/
def pre (l : List UInt8) : Bool := l.take 2 == [48, 120]

theorem ret_bool {a b : Bool} (h : a = b) : Ending.returned (.bool a) = .returned (.bool b) := by rw [h]

theorem pre_ext (s : ByteArray) : ((s.extract 0 2).toList == [48, 120]) = pre s.data.toList := by
  unfold pre; rw [ByteArray.toList_eq, Lib.extract_data]; simp
theorem pre_short (s : ByteArray) (h : (s.size : Int) < 2) : false = pre s.data.toList := by
  have hl : s.data.toList.length < 2 := by simp; omega
  unfold pre
  rw [List.take_of_length_le (by omega)]
  symm
  rw [beq_eq_false_iff_ne]
  intro e; rw [e] at hl; simp at hl

set_option maxHeartbeats 400000 in
theorem hasPrefix_any (s : ByteArray) (w : World) (hs : s.size ≤ 140737488355328) :
    Calls Tryd.prog 106 #[.string s, .string ⟨#[48, 120]⟩] w fun e w' => e = .returned (.bool (pre s.data.toList)) ∧ w' = w := by
  by_cases h : 2 ≤ s.size
  · have h' : (2 : Int) ≤ (s.size : Int) := by omega
    go_enter Tryd.func106, Tryd.ntmps106
    go_wp2
    go_ret
    exact ⟨ret_bool (pre_ext s), rfl⟩
  · have h' : (s.size : Int) < 2 := by omega
    go_enter Tryd.func106, Tryd.ntmps106
    go_wp2
    go_ret
    exact ⟨ret_bool (pre_short s h'), rfl⟩

set_option maxHeartbeats 400000 in
theorem readHex_two (s : ByteArray) (w : World) (h2 : s.size = 2) :
    Calls Tryd.prog 118 #[.string s] w fun e w' => e = .returned (.tuple #[.int .u64 0, .int .i64 2, .int .i64 15]) ∧ w' = w := by
  have hne : ((s.size : Int) == 2) = true := by simp; omega
  clear h2
  go_enter Tryd.func118, Tryd.ntmps118
  go_wp2
  go_ret3
  exact ⟨rfl, rfl⟩

/-- three results out of a triple -/
def three (r : Nat × Nat × Nat) : Value := .tuple #[.int .u64 (r.1 : Int), .int .i64 (r.2.1 : Int), .int .i64 (r.2.2 : Int)]

theorem len (s : ByteArray) : s.data.toList.length = s.size := by simp
theorem ne_nil (s : ByteArray) (h : 0 < s.size) : s.data.toList ≠ [] := by
  intro e; have := len s; rw [e] at this; simp only [List.length_nil] at this; omega
theorem nil_of (s : ByteArray) (h : s.size = 0) : s.data.toList = [] := List.eq_nil_of_length_eq_zero (by rw [len]; exact h)
theorem empty_iff (s : ByteArray) (h : s.size = 0) : s.toList.isEmpty = true := by
  rw [ByteArray.toList_eq, nil_of s h]; rfl
theorem not_empty (s : ByteArray) (h : 0 < s.size) : s.toList.isEmpty = false := by
  rw [ByteArray.toList_eq]
  cases e : s.data.toList with
  | nil => exact absurd e (ne_nil s h)
  | cons => rfl

theorem numF_empty (s : ByteArray) (h : s.size = 0) : numF s.data.toList = (0, 0, 15) := by
  rw [nil_of s h]; rfl
theorem numF_two (s : ByteArray) (h : s.size = 2) (hp : pre s.data.toList = true) : numF s.data.toList = (0, 2, 15) := by
  unfold numF; rw [if_neg (ne_nil s (by omega)), if_pos (by simpa [pre] using hp), if_pos (by simpa using h)]
theorem numF_hex (s : ByteArray) (h : 2 < s.size) (hp : pre s.data.toList = true) : numF s.data.toList = hexF 0 2 (s.data.toList.drop 2) := by
  unfold numF; rw [if_neg (ne_nil s (by omega)), if_pos (by simpa [pre] using hp), if_neg (by simp; omega)]
theorem head_at (s : ByteArray) (h : 0 < s.size) : s.data.toList.head? = some s[0] := by
  rw [List.head?_eq_getElem?, List.getElem?_eq_getElem (by rw [len]; exact h)]; rfl
theorem u8_of (c : UInt8) (n : Nat) (h : n < 256) (e : c.toNat = n) : c = UInt8.ofNat n := by
  rw [← UInt8.toNat_inj]; simp; omega
/-- not empty, not 0x -/
def decR (l : List UInt8) : Nat × Nat × Nat := if l.head? = some 48 ∧ 1 < l.length then (0, 1, 15) else decF 0 0 l
theorem numF_dec (s : ByteArray) (h : 0 < s.size) (hp : pre s.data.toList = false) : numF s.data.toList = decR s.data.toList := by
  unfold numF decR; rw [if_neg (ne_nil s h), if_neg (by simpa [pre] using hp)]
theorem decR_zero (s : ByteArray) (h : 1 < s.size) (h0 : s[0].toNat = 48) : decR s.data.toList = (0, 1, 15) := by
  unfold decR; rw [if_pos ⟨by rw [head_at s (by omega), u8_of s[0] 48 (by omega) h0]; rfl, by simpa using h⟩]
theorem decR_else (s : ByteArray) (h : 0 < s.size) (h0 : s.size = 1 ∨ s[0].toNat ≠ 48) : decR s.data.toList = decF 0 0 s.data.toList := by
  unfold decR; rw [if_neg]
  rintro ⟨e, l⟩
  rw [head_at s h] at e
  simp at l
  rcases h0 with h0 | h0
  · omega
  · apply h0; injection e with e; rw [e]; rfl

set_option maxHeartbeats 400000 in
theorem number_any (s : ByteArray) (w : World) (hs : s.size ≤ 140737488355328) :
    Calls Tryd.prog 105 #[.string s] w fun e w' => e = .returned (three (numF s.data.toList)) ∧ w' = w := by
  by_cases h0 : s.size = 0
  · have he := empty_iff s h0
    have H := hide (numF_empty s h0)
    clear h0
    go_enter Tryd.func105, Tryd.ntmps105
    go_wp2
    go_ret3
    rw [H.out]; exact ⟨rfl, rfl⟩
  · have hpos : 0 < s.size := by omega
    have he := not_empty s hpos
    cases hp : pre s.data.toList with
    | true =>
      have HP := hide hp
      by_cases h2 : s.size = 2
      · have H := hide (numF_two s h2 hp)
        have H2 := hide h2
        clear h2 hp h0
        go_enter Tryd.func105, Tryd.ntmps105
        go_wp2_with (first | (go_at_call 106; refine (hasPrefix_any _ _ hs).mono ?_; rw [HP.out]; rintro e w' ⟨rfl, rfl⟩) | (go_at_call 118; refine (readHex_two _ _ H2).mono ?_; rintro e w' ⟨rfl, rfl⟩))
        go_ret3
        rw [H.out]; exact ⟨rfl, rfl⟩
      · have hl : 2 < s.size := by
          by_cases e1 : s.size = 1
          · rw [← pre_short s (by omega)] at hp; cases hp
          · omega
        have H := hide (numF_hex s hl hp)
        clear h2 hp h0
        go_enter Tryd.func105, Tryd.ntmps105
        go_wp2_with (first | (go_at_call 106; refine (hasPrefix_any _ _ hs).mono ?_; rw [HP.out]; rintro e w' ⟨rfl, rfl⟩) | (go_at_call 118; refine (readHex_any _ _ hs hl).mono ?_; rintro e w' ⟨rfl, rfl⟩))
        go_ret3
        rw [H.out]; exact ⟨rfl, rfl⟩
    | false =>
      have HP := hide hp
      have HN := hide (numF_dec s hpos hp)
      by_cases hz : s[0].toNat = 48
      · by_cases h1 : 1 < s.size
        · have H := hide (decR_zero s h1 hz)
          have hz' : ((s[0].toNat : Int) == 48) = true := by simp; omega
          have h1' : (1 : Int) < (s.size : Int) := by omega
          clear hz hp h0
          go_enter Tryd.func105, Tryd.ntmps105
          go_wp2_with (first | (go_at_call 106; refine (hasPrefix_any _ _ hs).mono ?_; rw [HP.out]; rintro e w' ⟨rfl, rfl⟩) | (go_at_call 119; refine (readDecimal_any _ _ hs).mono ?_; rintro e w' ⟨rfl, rfl⟩))
          go_ret3
          rw [HN.out, H.out]; exact ⟨rfl, rfl⟩
        · have H := hide (decR_else s hpos (.inl (by omega)))
          have hz' : ((s[0].toNat : Int) == 48) = true := by simp; omega
          have h1' : (s.size : Int) ≤ 1 := by omega
          clear hz hp h0
          go_enter Tryd.func105, Tryd.ntmps105
          go_wp2_with (first | (go_at_call 106; refine (hasPrefix_any _ _ hs).mono ?_; rw [HP.out]; rintro e w' ⟨rfl, rfl⟩) | (go_at_call 119; refine (readDecimal_any _ _ hs).mono ?_; rintro e w' ⟨rfl, rfl⟩))
          go_ret3
          rw [HN.out, H.out]; exact ⟨rfl, rfl⟩
      · have H := hide (decR_else s hpos (.inr hz))
        have hz' : ((s[0].toNat : Int) == 48) = false := by simp; omega
        clear hz hp h0
        go_enter Tryd.func105, Tryd.ntmps105
        go_wp2_with (first | (go_at_call 106; refine (hasPrefix_any _ _ hs).mono ?_; rw [HP.out]; rintro e w' ⟨rfl, rfl⟩) | (go_at_call 119; refine (readDecimal_any _ _ hs).mono ?_; rintro e w' ⟨rfl, rfl⟩))
        go_ret3
        rw [HN.out, H.out]; exact ⟨rfl, rfl⟩

/-! ### the document's answer -/

theorem pre_iff (s : ByteArray) (h : 1 < s.size) : pre s.data.toList = (s[0].toNat == 48 && s[1].toNat == 120) := by
  have e : s.data.toList.take 2 = [s[0], s[1]] := by
    apply List.ext_getElem
    · simp; omega
    · intro i h1 h2
      have : i = 0 ∨ i = 1 := by simp at h2; omega
      rcases this with rfl | rfl
      · simp; rfl
      · simp; rfl
  unfold pre
  rw [e, Bool.eq_iff_iff]
  simp [← UInt8.toNat_inj]

/-- k digits have been read as the document reads them -/
def Ref (s : ByteArray) (n k : Nat) : Prop := Dec s.data.toList n k ∧ n = dv (s.data.toList.take k) ∧ digs (s.data.toList.take k) ∧ (∀ h : 0 < s.size, 2 ≤ k → s[0].toNat ≠ 48)

theorem Ref.start (s : ByteArray) : Ref s 0 0 := ⟨Dec.start _, rfl, fun c hc => by simp at hc, fun _ h => by omega⟩

theorem Ref.bad {s : ByteArray} {n k : Nat} (h : Ref s n k) (hp : 0 < s.size) (hk : k < s.size) (hc : (s[k].toNat : Int) < 48 ∨ 57 < (s[k].toNat : Int)) : decR s.data.toList = (0, k, 15) := by
  obtain ⟨hD, _, _, hz⟩ := h
  by_cases h0 : s.size = 1 ∨ s[0].toNat ≠ 48
  · rw [decR_else s hp h0]; exact dec_bad hD hk hc
  · have h1 : 1 < s.size := by omega
    have h2 : s[0].toNat = 48 := by omega
    rw [decR_zero s h1 h2]
    have : k = 1 := by
      by_cases e0 : k = 0
      · subst e0; omega
      · by_cases e2 : 2 ≤ k
        · exact absurd h2 (hz hp e2)
        · omega
    rw [this]
theorem Ref.zero {s : ByteArray} {n k : Nat} (h : Ref s n k) (hp : 0 < s.size) (hk : k < s.size) (h0 : 0 < k) (hc : s[0].toNat = 48) : decR s.data.toList = (0, k, 15) := by
  obtain ⟨_, _, _, hz⟩ := h
  have : k = 1 := by
    by_cases e2 : 2 ≤ k
    · exact absurd hc (hz hp e2)
    · omega
  subst this
  exact decR_zero s hk hc
theorem take_snoc (s : ByteArray) (k : Nat) (h : k < s.size) : s.data.toList.take (k + 1) = s.data.toList.take k ++ [s[k]] := by
  rw [List.take_succ_eq_append_getElem (by rw [len]; exact h)]; rfl
theorem Ref.over {s : ByteArray} {n k : Nat} (h : Ref s n k) (hp : 0 < s.size) (hk : k < s.size) (h1 : 48 ≤ s[k].toNat) (h2 : s[k].toNat ≤ 57) (h0 : k = 0 ∨ s[0].toNat ≠ 48) :
    overF (s.extract 0 (k + 1)).data.toList = decide (top < 10 * n + (s[k].toNat - 48)) ∧ digs (s.data.toList.take (k + 1)) := by
  obtain ⟨_, hn, hd, _⟩ := h
  have e := take_snoc s k hk
  have hd' : digs (s.data.toList.take (k + 1)) := by
    rw [e]; intro c hc
    rcases List.mem_append.1 hc with hc | hc
    · exact hd c hc
    · simp at hc; subst hc; exact ⟨h1, h2⟩
  refine ⟨?_, hd'⟩
  rw [Lib.extract_data]
  simp only [List.drop_zero, Nat.sub_zero]
  rw [over_iff _ hd' ?_, e, dv_snoc, ← hn]
  by_cases e0 : k = 0
  · subst e0; left; simp; omega
  · right
    have hne : s[0].toNat ≠ 48 := by omega
    have hm : s[0] ∈ s.data.toList.take (k + 1) := by
      rw [List.mem_take_iff_getElem]
      exact ⟨0, by rw [len]; omega, rfl⟩
    have := hd' _ hm
    refine ⟨s[0], (s.data.toList.drop 1).take k, ?_, by omega⟩
    have e1 : s.data.toList = s[0] :: s.data.toList.drop 1 := by
      have := drop_at (l := s.data.toList) (k := 0) (by rw [len]; exact hp)
      rw [byte_at s 0 hp] at this
      simpa using this
    rw [e1]; simp
theorem Ref.large {s : ByteArray} {n k : Nat} (h : Ref s n k) (hp : 0 < s.size) (hk : k < s.size) (h1 : 48 ≤ s[k].toNat) (h2 : s[k].toNat ≤ 57) (h0 : k = 0 ∨ s[0].toNat ≠ 48) (ho : top < 10 * n + (s[k].toNat - 48)) : decR s.data.toList = (0, k, 16) := by
  obtain ⟨hD, hn, _, hz⟩ := h
  have hb := byte_at s k hk
  by_cases hz0 : s.size = 1 ∨ s[0].toNat ≠ 48
  · rw [decR_else s hp hz0]
    exact hD.large (by rw [len]; exact hk) (by rw [hb]; omega) (by rw [hb]; omega) (by rw [hb]; omega)
  · have : k = 0 := by omega
    subst this
    have : s[0].toNat = 48 := by omega
    simp only [List.take_zero, dv] at hn
    subst hn
    unfold top at ho
    omega
theorem Ref.step {s : ByteArray} {n k : Nat} (h : Ref s n k) (hp : 0 < s.size) (hk : k < s.size) (h1 : 48 ≤ s[k].toNat) (h2 : s[k].toNat ≤ 57) (h0 : k = 0 ∨ s[0].toNat ≠ 48) (ho : 10 * n + (s[k].toNat - 48) ≤ top) : Ref s (10 * n + (s[k].toNat - 48)) (k + 1) := by
  have hd := (h.over hp hk h1 h2 h0).2
  obtain ⟨hD, hn, _, hz⟩ := h
  have hb := byte_at s k hk
  have hs := hD.step (by rw [len]; exact hk) (by rw [hb]; omega) (by rw [hb]; omega) (by rw [hb]; omega)
  rw [hb] at hs
  refine ⟨hs, by rw [take_snoc s k hk, dv_snoc, ← hn], hd, fun _ h2 => by omega⟩
theorem Ref.done {s : ByteArray} {n k : Nat} (h : Ref s n k) (hp : 0 < s.size) (hk : s.size ≤ k) : decR s.data.toList = (n, 0, 0) := by
  obtain ⟨hD, _, _, hz⟩ := h
  rw [decR_else s hp ?_]
  · exact hD.done (by rw [len]; exact hk)
  · by_cases e : s.size = 1
    · exact .inl e
    · exact .inr (hz hp (by omega))
end Go.Proofs.YtffcnonhhfhlhaaDoor.Num
namespace Go.Proofs.YtffcnonhhfhlhaaDoor.Ws
open Go.RowKit Go.Shelf
set_option linter.unusedVariables false
theorem hide {p : Prop} (h : p) : Hid p := h
/-- what lies ahead of the first c, and behind it -/
def cutL (c : UInt8) : List UInt8 → List UInt8 × Option (List UInt8)
  | [] => ([], none)
  | x :: r => if x = c then ([], some r) else (x :: (cutL c r).1, (cutL c r).2)
/-- the words between the c -/
def spl (c : UInt8) : List UInt8 → List (List UInt8)
  | [] => [[]]
  | x :: r => if x = c then [] :: spl c r else (x :: ((spl c r).head?.getD [])) :: (spl c r).tail
theorem spl_ne (c : UInt8) : ∀ l, spl c l ≠ []
  | [] => by simp [spl]
  | x :: r => by unfold spl; split <;> simp
theorem spl_cut (c : UInt8) : ∀ l, spl c l = (cutL c l).1 :: (match (cutL c l).2 with | none => [] | some r => spl c r)
  | [] => rfl
  | x :: r => by
    have ih := spl_cut c r
    by_cases h : x = c
    · have e1 : spl c (x :: r) = [] :: spl c r := by simp only [spl, h, if_true]
      have e2 : cutL c (x :: r) = ([], some r) := by simp only [cutL, h, if_true]
      rw [e1, e2]
    · have e1 : spl c (x :: r) = (x :: ((spl c r).head?.getD [])) :: (spl c r).tail := by simp only [spl, h, if_false]
      have e2 : cutL c (x :: r) = (x :: (cutL c r).1, (cutL c r).2) := by simp only [cutL, h, if_false]
      rw [e1, e2, ih]
      rfl
theorem cut_idx (c : UInt8) : ∀ l : List UInt8, (Lib.indexByte l c = -1 ∧ cutL c l = (l, none)) ∨ (∃ k : Nat, k < l.length ∧ Lib.indexByte l c = (k : Int) ∧ cutL c l = (l.take k, some (l.drop (k + 1))))
  | [] => .inl ⟨rfl, rfl⟩
  | x :: r => by
    by_cases h : x = c
    · right
      refine ⟨0, by simp, by simp [Lib.indexByte, h], by simp [cutL, h]⟩
    · have hb : (x == c) = false := by simpa using h
      rcases cut_idx c r with ⟨h1, h2⟩ | ⟨k, h1, h2, h3⟩
      · left
        refine ⟨by simp [Lib.indexByte, hb, h1], by simp [cutL, h, h2]⟩
      · right
        refine ⟨k + 1, by simpa using h1, ?_, by simp [cutL, h, h3]⟩
        have hne : ((k : Int) == -1) = false := by simp
        simp [Lib.indexByte, hb, h2, hne]
theorem cut_len (c : UInt8) {l r : List UInt8} (h : (cutL c l).2 = some r) : r.length < l.length ∧ (cutL c l).1.length + 1 + r.length = l.length := by
  rcases cut_idx c l with ⟨_, h2⟩ | ⟨k, h1, _, h3⟩
  · rw [h2] at h; cases h
  · rw [h3] at h ⊢
    cases h
    simp
    omega
theorem ext_list (s : ByteArray) (a b : Nat) : (s.extract a b).data.toList = (s.data.toList.take b).drop a := by
  simp [ByteArray.data_extract, Array.toList_extract, List.drop_take]
set_option maxHeartbeats 1000000 in
set_option maxRecDepth 100000 in
/-- internal/stringslite.IndexByte -/
theorem indexByte_any (s : ByteArray) (c : Int) (w : World) :
    Calls Tryd.prog 126 #[.string s, .int .u8 c] w fun e w' => e = .returned (.int .i64 (Lib.indexByte s.data.toList c.toNat.toUInt8)) ∧ w' = w := by
  go_enter Tryd.func126, Tryd.ntmps126
  go_wp2
  rw [run_callFunc_extern Tryd.func133 (by kernel_rfl) (by kernel_rfl) (by kernel_rfl) (e := Extern.BytealgIndexByte.indexByte) (by kernel_rfl), Lib.run_indexByteString]
  simp only [Result.andThen]
  rw [Oper.upon_value]
  go_wp2
  go_ret
  exact ⟨rfl, rfl⟩
set_option maxHeartbeats 1000000 in
set_option maxRecDepth 100000 in
/-- strings.Index at one byte -/
theorem index_one (s : ByteArray) (c : UInt8) (w : World) :
    Calls Tryd.prog 117 #[.string s, .string ⟨#[c]⟩] w fun e w' => e = .returned (.int .i64 (Lib.indexByte s.data.toList c)) ∧ w' = w := by
  have IX := indexByte_any s (c.toNat : Int) w
  have hc : ((c.toNat : Int)).toNat.toUInt8 = c := by simp
  rw [hc] at IX
  have hidx : (⟨#[c]⟩ : ByteArray)[0]'(by show 0 < 1; decide) = c := rfl
  have hL : s.toList = s.data.toList := ByteArray.toList_eq s
  by_cases h : s.data.toList = [c]
  · have hb : ([c] == s.toList) = true := by rw [hL, h]; simp
    have hr : Lib.indexByte s.data.toList c = 0 := by rw [h]; simp [Lib.indexByte]
    rw [hr]
    clear hr h hL IX hc
    go_enter Tryd.func117, Tryd.ntmps117
    go_wp2
    go_ret
    exact ⟨rfl, rfl⟩
  · have hb : ([c] == s.toList) = false := by
      rw [hL]
      simp only [beq_eq_false_iff_ne, ne_eq]
      exact fun e => h e.symm
    have hR := hide hL
    clear h hL hc
    go_enter Tryd.func117, Tryd.ntmps117
    go_wp2_with fail
    refine IX.mono ?_; rintro e w' ⟨rfl, hw'⟩; obtain rfl := hw'.symm
    go_wp2
    go_ret
    exact ⟨rfl, rfl⟩
/-- the other name of it -/
theorem index103 (s : ByteArray) (c : UInt8) (w : World) :
    Calls Tryd.prog 103 #[.string s, .string ⟨#[c]⟩] w fun e w' => e = .returned (.int .i64 (Lib.indexByte s.data.toList c)) ∧ w' = w := by
  have IX := index_one s c w
  go_enter Tryd.func103, Tryd.ntmps103
  go_wp2_with fail
  refine IX.mono ?_; rintro e w' ⟨rfl, hw'⟩; obtain rfl := hw'.symm
  go_wp2
  go_ret
  exact ⟨rfl, rfl⟩
end Go.Proofs.YtffcnonhhfhlhaaDoor.Ws
