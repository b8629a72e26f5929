import Derived.Test.YtckjededijgjgaaDoorRows
import Derived.Test.YtckjededijgjgaaDoorPcA
import Derived.WalkKit
import Derived.WalkLawsBesides
import Derived.WalkSpells
import Derived.Outline
import Derived.Lib.Strings
namespace Go.Proofs.YtckjededijgjgaaDoor.Pc
open Go.RowKit

theorem hide {p : Prop} (h : p) : Hid p := h
theorem ret_bool {a b : Bool} (h : a = b) : Ending.returned (.bool a) = .returned (.bool b) := by rw [h]

/-- the size by the number, on Int -/
def lenI (r : Int) : Int := if r ≤ 127 then 1 else if r ≤ 2047 then 2 else if r ≤ 65535 then 3 else 4

set_option maxHeartbeats 400000 in
theorem runeLen_any (r : Int) (w : World) (h0 : 0 ≤ r) (h1 : r ≤ 1114111) (hv : r < 55296 ∨ 57343 < r) :
    Calls Tryd.prog 111 #[.int .i32 r] w fun e w' => e = .returned (.int .i64 (lenI r)) ∧ w' = w := by
  by_cases c1 : r ≤ 127
  · have E := hide (show lenI r = 1 by unfold lenI; rw [if_pos c1])
    go_enter Tryd.func111, Tryd.ntmps111
    go_wp2
    go_ret
    rw [E.out]; exact ⟨rfl, rfl⟩
  · by_cases c2 : r ≤ 2047
    · have E := hide (show lenI r = 2 by unfold lenI; rw [if_neg c1, if_pos c2])
      go_enter Tryd.func111, Tryd.ntmps111
      go_wp2
      go_ret
      rw [E.out]; exact ⟨rfl, rfl⟩
    · by_cases c3 : r ≤ 65535
      · have E := hide (show lenI r = 3 by unfold lenI; rw [if_neg c1, if_neg c2, if_pos c3])
        rcases hv with hv | hv
        all_goals
          go_enter Tryd.func111, Tryd.ntmps111
          go_wp2
          go_ret
          rw [E.out]; exact ⟨rfl, rfl⟩
      · have E := hide (show lenI r = 4 by unfold lenI; rw [if_neg c1, if_neg c2, if_neg c3])
        have hv' : 57343 < r := by omega
        clear hv
        go_enter Tryd.func111, Tryd.ntmps111
        go_wp2
        go_ret
        rw [E.out]; exact ⟨rfl, rfl⟩

/-- does the text begin with U+FFFD's bytes? -/
def preR (l : List UInt8) : Bool := l.take 3 == [239, 191, 189]
theorem preR_ext (s : ByteArray) : ((s.extract 0 3).toList == [239, 191, 189]) = preR s.data.toList := by
  unfold preR; rw [ByteArray.toList_eq, Lib.extract_data]; simp
theorem preR_short (s : ByteArray) (h : (s.size : Int) < 3) : false = preR s.data.toList := by
  have hl : s.data.toList.length < 3 := by simp; omega
  unfold preR
  rw [List.take_of_length_le (by omega)]
  symm
  rw [beq_eq_false_iff_ne]
  intro e; rw [e] at hl; simp at hl

set_option maxHeartbeats 400000 in
theorem hasPrefixR_any (s : ByteArray) (w : World) :
    Calls Tryd.prog 68 #[.string s, .string ⟨#[239, 191, 189]⟩] w fun e w' => e = .returned (.bool (preR s.data.toList)) ∧ w' = w := by
  by_cases h : 3 ≤ s.size
  · have h' : (3 : Int) ≤ (s.size : Int) := by omega
    go_enter Tryd.func68, Tryd.ntmps68
    go_wp2
    go_ret
    exact ⟨ret_bool (preR_ext s), rfl⟩
  · have h' : (s.size : Int) < 3 := by omega
    go_enter Tryd.func68, Tryd.ntmps68
    go_wp2
    go_ret
    exact ⟨ret_bool (preR_short s h'), rfl⟩
theorem hasPrefixR_is {s : ByteArray} {b : Bool} (h : Hid (preR s.data.toList = b)) (w : World) :
    Calls Tryd.prog 68 #[.string s, .string ⟨#[239, 191, 189]⟩] w fun e w' => e = .returned (.bool b) ∧ w' = w := by
  have := hasPrefixR_any s w
  rw [h.out] at this
  exact this

set_option maxHeartbeats 400000 in
theorem pieceAt_plain (s : ByteArray) (pos : Nat) (r : Int) (w : World) (h0 : 0 ≤ r) (h1 : r ≤ 1114111) (hv : r < 55296 ∨ 57343 < r) (hne : (r == 65533) = false) :
    Calls Tryd.prog 90 #[.string s, .int .i64 (pos : Int), .int .i32 r] w fun e w' => e = .returned (.agg #[.int .i32 r, .int .i64 (pos : Int), .int .i64 (lenI r), .bool false]) ∧ ∃ c, w' = w.alloc (.cells c 55) := by
  go_enter Tryd.func90, Tryd.ntmps90
  go_wp2_with (go_at_call 111; refine (runeLen_any _ _ h0 h1 hv).mono ?_; rintro e w' ⟨rfl, rfl⟩)
  exact bodyPost_ret (v := .agg #[.int .i32 r, .int .i64 (pos : Int), .int .i64 (lenI r), .bool false]) (by simp [results, Tryd.results90, go_sem]) rfl ⟨rfl, _, rfl⟩

set_option maxHeartbeats 400000 in
theorem pieceAt_whole (s : ByteArray) (pos : Nat) (w : World) (hp : pos < s.size) (_hs : s.size ≤ 9223372036854775807) (hx : Hid (preR (s.extract pos s.size).data.toList = true)) :
    Calls Tryd.prog 90 #[.string s, .int .i64 (pos : Int), .int .i32 65533] w fun e w' => e = .returned (.agg #[.int .i32 65533, .int .i64 (pos : Int), .int .i64 3, .bool false]) ∧ ∃ c, w' = w.alloc (.cells c 55) := by
  go_enter Tryd.func90, Tryd.ntmps90
  go_wp2_with (first | (go_at_call 68; refine (hasPrefixR_is hx _).mono ?_; rintro e w' ⟨rfl, rfl⟩) | (go_at_call 111; refine (runeLen_any _ _ (by omega) (by omega) (by omega)).mono ?_; rintro e w' ⟨rfl, rfl⟩))
  exact bodyPost_ret (v := .agg #[.int .i32 65533, .int .i64 (pos : Int), .int .i64 3, .bool false]) (by simp [results, Tryd.results90, go_sem, lenI]) rfl ⟨rfl, _, rfl⟩

set_option maxHeartbeats 400000 in
theorem pieceAt_broken (s : ByteArray) (pos : Nat) (w : World) (hp : pos < s.size) (_hs : s.size ≤ 9223372036854775807) (hx : Hid (preR (s.extract pos s.size).data.toList = false)) :
    Calls Tryd.prog 90 #[.string s, .int .i64 (pos : Int), .int .i32 65533] w fun e w' => e = .returned (.agg #[.int .i32 (s[pos].toNat : Int), .int .i64 (pos : Int), .int .i64 1, .bool true]) ∧ ∃ c, w' = w.alloc (.cells c 55) := by
  have hb : (s[pos].toNat : Int) ≤ 255 := by have := s[pos].toNat_lt; omega
  go_enter Tryd.func90, Tryd.ntmps90
  go_wp2_with (first | (go_at_call 68; refine (hasPrefixR_is hx _).mono ?_; rintro e w' ⟨rfl, rfl⟩) | (go_at_call 111; refine (runeLen_any _ _ (by omega) (by omega) (by omega)).mono ?_; rintro e w' ⟨rfl, rfl⟩))
  exact bodyPost_ret (v := .agg #[.int .i32 (s[pos].toNat : Int), .int .i64 (pos : Int), .int .i64 1, .bool true]) (by simp [results, Tryd.results90, go_sem]) rfl ⟨rfl, _, rfl⟩
end Go.Proofs.YtckjededijgjgaaDoor.Pc
