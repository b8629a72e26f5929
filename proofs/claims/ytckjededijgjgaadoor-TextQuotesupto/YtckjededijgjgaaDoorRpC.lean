import Derived.Test.YtckjededijgjgaaDoorRpB
namespace Go.Proofs.YtckjededijgjgaaDoor.Rp
open Go.RowKit
open Go.Proofs.YtckjededijgjgaaDoor.Pc
set_option linter.unusedVariables false

theorem ret_int {k : IntKind} {a b : Int} (h : a = b) : Ending.returned (.int k a) = .returned (.int k b) := by rw [h]

set_option maxHeartbeats 400000 in
theorem value_1 (s : ByteArray) (i r : Nat) (w : World) (hi : i < s.size) (h : Hid (s[i].toNat = r)) :
    Calls Tryd.prog 96 #[.string s, .int .i64 (i : Int), .int .i64 1] w fun e w' => e = .returned (.int .i64 (r : Int)) ∧ w' = w := by
  have hI : (i : Int) < (s.size : Int) := by omega
  have hb : (s[i].toNat : Int) ≤ 255 := by have := s[i].toNat_lt; omega
  go_enter Tryd.func96, Tryd.ntmps96
  go_wp2
  go_ret
  exact ⟨ret_int (by rw [h.out]), rfl⟩

set_option maxHeartbeats 400000 in
theorem value_2 (s : ByteArray) (i r : Nat) (w : World) (hs : (s.size : Int) ≤ 140737488355328) (hi : i + 1 < s.size) (h0 : Hid (s[i].toNat = 192 + r / 64)) (h1 : Hid (s[i + 1].toNat = 128 + r % 64)) :
    Calls Tryd.prog 96 #[.string s, .int .i64 (i : Int), .int .i64 2] w fun e w' => e = .returned (.int .i64 (r : Int)) ∧ ∃ n, w' = w.drewN n := by
  have hI : (i : Int) < (s.size : Int) := by omega
  have hI1 : (i : Int) + 1 < (s.size : Int) := by omega
  have hb : (s[i].toNat : Int) ≤ 255 := by have := s[i].toNat_lt; omega
  have hb1 : (s[i + 1].toNat : Int) ≤ 255 := by have := s[i + 1].toNat_lt; omega
  go_enter Tryd.func96, Tryd.ntmps96
  go_wp2
  go_ret
  exact ⟨ret_int (by have := h0.out; have := h1.out; omega), 0, rfl⟩
set_option maxHeartbeats 400000 in
theorem value_3 (s : ByteArray) (i r : Nat) (w : World) (hs : (s.size : Int) ≤ 140737488355328) (hi : i + 2 < s.size) (h0 : Hid (s[i].toNat = 224 + r / 4096)) (h1 : Hid (s[i + 1].toNat = 128 + r / 64 % 64)) (h2 : Hid (s[i + 2].toNat = 128 + r % 64)) :
    Calls Tryd.prog 96 #[.string s, .int .i64 (i : Int), .int .i64 3] w fun e w' => e = .returned (.int .i64 (r : Int)) ∧ ∃ n, w' = w.drewN n := by
  have hI : (i : Int) < (s.size : Int) := by omega
  have hI1 : (i : Int) + 1 < (s.size : Int) := by omega
  have hI2 : (i : Int) + 2 < (s.size : Int) := by omega
  have hz1 : (0 : Int) ≤ (i : Int) + 1 := by omega
  have hz2 : (0 : Int) ≤ (i : Int) + 2 := by omega
  have hb : (s[i].toNat : Int) ≤ 255 := by have := s[i].toNat_lt; omega
  have hb1 : (s[i + 1].toNat : Int) ≤ 255 := by have := s[i + 1].toNat_lt; omega
  have hb2 : (s[i + 2].toNat : Int) ≤ 255 := by have := s[i + 2].toNat_lt; omega
  go_enter Tryd.func96, Tryd.ntmps96
  go_wp2
  go_quiet (fail)
  go_wp2
  go_ret
  exact ⟨ret_int (by have := h0.out; have := h1.out; have := h2.out; omega), _, rfl⟩
set_option maxHeartbeats 400000 in
theorem value_4 (s : ByteArray) (i r : Nat) (w : World) (hs : (s.size : Int) ≤ 140737488355328) (hi : i + 3 < s.size) (h0 : Hid (s[i].toNat = 240 + r / 262144)) (h1 : Hid (s[i + 1].toNat = 128 + r / 4096 % 64)) (h2 : Hid (s[i + 2].toNat = 128 + r / 64 % 64)) (h3 : Hid (s[i + 3].toNat = 128 + r % 64)) :
    Calls Tryd.prog 96 #[.string s, .int .i64 (i : Int), .int .i64 4] w fun e w' => e = .returned (.int .i64 (r : Int)) ∧ ∃ n, w' = w.drewN n := by
  have hI : (i : Int) < (s.size : Int) := by omega
  have hI1 : (i : Int) + 1 < (s.size : Int) := by omega
  have hI2 : (i : Int) + 2 < (s.size : Int) := by omega
  have hI3 : (i : Int) + 3 < (s.size : Int) := by omega
  have hz1 : (0 : Int) ≤ (i : Int) + 1 := by omega
  have hz2 : (0 : Int) ≤ (i : Int) + 2 := by omega
  have hz3 : (0 : Int) ≤ (i : Int) + 3 := by omega
  have hb : (s[i].toNat : Int) ≤ 255 := by have := s[i].toNat_lt; omega
  have hb1 : (s[i + 1].toNat : Int) ≤ 255 := by have := s[i + 1].toNat_lt; omega
  have hb2 : (s[i + 2].toNat : Int) ≤ 255 := by have := s[i + 2].toNat_lt; omega
  have hb3 : (s[i + 3].toNat : Int) ≤ 255 := by have := s[i + 3].toNat_lt; omega
  go_enter Tryd.func96, Tryd.ntmps96
  go_wp2
  go_quiet (fail)
  go_wp2
  go_ret
  exact ⟨ret_int (by have := h0.out; have := h1.out; have := h2.out; have := h3.out; omega), _, rfl⟩
end Go.Proofs.YtckjededijgjgaaDoor.Rp
