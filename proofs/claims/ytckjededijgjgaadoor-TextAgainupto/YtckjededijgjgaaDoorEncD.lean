import Derived.Test.YtckjededijgjgaaDoorEncB
import Derived.Laws.BytesArg
namespace Go.Proofs.YtckjededijgjgaaDoor.Enc
open Go.RowKit

set_option maxHeartbeats 400000 in
theorem encode_yes (r : Int) (w : World) (h : Utf8.valid r = true) :
    Calls Tryd.prog 19 #[.int .i32 r] w fun e w' => e = .returned (.tuple #[.string (Utf8.encode r), .int .i64 0]) ∧ w' = w := by
  have H := hide h
  clear h
  go_enter Tryd.func19, Tryd.ntmps19
  go_wp2_with (go_at_call 48; refine (validRune_any r _).mono ?_; rw [H.out]; rintro e w' ⟨rfl, rfl⟩)
  go_ret2
  exact ⟨rfl, rfl⟩
set_option maxHeartbeats 400000 in
theorem encode_no (r : Int) (w : World) (h : Utf8.valid r = false) :
    Calls Tryd.prog 19 #[.int .i32 r] w fun e w' => e = .returned (.tuple #[.string ⟨#[]⟩, .int .i64 19]) ∧ w' = w := by
  have H := hide h
  clear h
  go_enter Tryd.func19, Tryd.ntmps19
  go_wp2_with (go_at_call 48; refine (validRune_any r _).mono ?_; rw [H.out]; rintro e w' ⟨rfl, rfl⟩)
  go_ret2
  exact ⟨rfl, rfl⟩

set_option maxHeartbeats 400000 in
theorem refEncode_no (r : Int) (w : World) (h : r < 0 ∨ (55296 ≤ r ∧ r ≤ 57343) ∨ 1114111 < r) :
    Calls Tryd.prog 20 #[.int .i64 r] w fun e w' => e = .returned (.tuple #[.string ⟨#[]⟩, .int .i64 19]) ∧ w' = w := by
  rcases h with h | ⟨h, h'⟩ | h
  all_goals
    go_enter Tryd.func20, Tryd.ntmps20
    go_wp2
    go_ret2
    exact ⟨rfl, rfl⟩

theorem conv1 (w : World) (a : Int) : (convert 75 9 (.slice (some ⟨w.heap.size, 0, none⟩) 1 1)).run Tryd.prog (w.alloc (.cells #[.int .u8 a] 5)) = .ok (.string (strOfNums [a])) (w.alloc (.cells #[.int .u8 a] 5)) := by
  refine run_convert_bytes_arg _ 75 5 Tryd.underlying75 Tryd.underlying5 _ _ 1 1 [a] rfl (fun i hi => ?_) 9 Tryd.underlying9
  obtain rfl : i = 0 := by omega
  simp [World.cell?_alloc_new]
theorem conv2 (w : World) (x : Value) (a b : Int) : (convert 75 9 (.slice (some ⟨w.heap.size + 1, 0, none⟩) 2 2)).run Tryd.prog ((w.alloc (.cells #[x] 5)).alloc (.cells #[.int .u8 a, .int .u8 b] 5)) = .ok (.string (strOfNums [a, b])) ((w.alloc (.cells #[x] 5)).alloc (.cells #[.int .u8 a, .int .u8 b] 5)) := by
  refine run_convert_bytes_arg _ 75 5 Tryd.underlying75 Tryd.underlying5 _ _ 2 2 [a, b] rfl (fun i hi => ?_) 9 Tryd.underlying9
  have : i = 0 ∨ i = 1 := by omega
  rcases this with rfl | rfl
  all_goals simp
theorem conv3 (w : World) (x : Value) (a b c : Int) : (convert 75 9 (.slice (some ⟨w.heap.size + 1, 0, none⟩) 3 3)).run Tryd.prog ((w.alloc (.cells #[x] 5)).alloc (.cells #[.int .u8 a, .int .u8 b, .int .u8 c] 5)) = .ok (.string (strOfNums [a, b, c])) ((w.alloc (.cells #[x] 5)).alloc (.cells #[.int .u8 a, .int .u8 b, .int .u8 c] 5)) := by
  refine run_convert_bytes_arg _ 75 5 Tryd.underlying75 Tryd.underlying5 _ _ 3 3 [a, b, c] rfl (fun i hi => ?_) 9 Tryd.underlying9
  have : i = 0 ∨ i = 1 ∨ i = 2 := by omega
  rcases this with rfl | rfl | rfl
  all_goals simp
theorem conv4 (w : World) (x : Value) (a b c d : Int) : (convert 75 9 (.slice (some ⟨w.heap.size + 1, 0, none⟩) 4 4)).run Tryd.prog ((w.alloc (.cells #[x] 5)).alloc (.cells #[.int .u8 a, .int .u8 b, .int .u8 c, .int .u8 d] 5)) = .ok (.string (strOfNums [a, b, c, d])) ((w.alloc (.cells #[x] 5)).alloc (.cells #[.int .u8 a, .int .u8 b, .int .u8 c, .int .u8 d] 5)) := by
  refine run_convert_bytes_arg _ 75 5 Tryd.underlying75 Tryd.underlying5 _ _ 4 4 [a, b, c, d] rfl (fun i hi => ?_) 9 Tryd.underlying9
  have : i = 0 ∨ i = 1 ∨ i = 2 ∨ i = 3 := by omega
  rcases this with rfl | rfl | rfl | rfl
  all_goals simp

theorem valid_of (n : Nat) (h : n < 55296 ∨ (57343 < n ∧ n ≤ 1114111)) : Utf8.valid (n : Int) = true := (valid_yes n (by omega)).symm

theorem enc1 (n : Nat) (h : n < 128) : strOfNums [(n : Int)] = Utf8.encode (n : Int) := by
  unfold Utf8.encode strOfNums
  simp only [valid_of n (by omega), if_true, Int.toNat_natCast]
  rw [if_pos (by omega)]
  simp
theorem enc2 (n : Nat) (h1 : 128 ≤ n) (h : n < 2048) : strOfNums [192 + (n : Int) / 64, 128 + (n : Int) % 64] = Utf8.encode (n : Int) := by
  have e1 : (192 + (n : Int) / 64).toNat = 192 + n / 64 := by omega
  have e2 : (128 + (n : Int) % 64).toNat = 128 + n % 64 := by omega
  unfold Utf8.encode strOfNums
  simp only [valid_of n (by omega), if_true, Int.toNat_natCast]
  rw [if_neg (by omega), if_pos (by omega)]
  simp only [List.map_cons, List.map_nil, e1, e2]
theorem enc3 (n : Nat) (h1 : 2048 ≤ n) (h : n < 65536) (hv : n < 55296 ∨ 57343 < n) : strOfNums [224 + (n : Int) / 4096, 128 + (n : Int) / 64 % 64, 128 + (n : Int) % 64] = Utf8.encode (n : Int) := by
  have e1 : (224 + (n : Int) / 4096).toNat = 224 + n / 4096 := by omega
  have e2 : (128 + (n : Int) / 64 % 64).toNat = 128 + n / 64 % 64 := by omega
  have e3 : (128 + (n : Int) % 64).toNat = 128 + n % 64 := by omega
  unfold Utf8.encode strOfNums
  simp only [valid_of n (by omega), if_true, Int.toNat_natCast]
  rw [if_neg (by omega), if_neg (by omega), if_pos (by omega)]
  simp only [List.map_cons, List.map_nil, e1, e2, e3]
theorem enc4 (n : Nat) (h1 : 65536 ≤ n) (h : n ≤ 1114111) : strOfNums [240 + (n : Int) / 262144, 128 + (n : Int) / 4096 % 64, 128 + (n : Int) / 64 % 64, 128 + (n : Int) % 64] = Utf8.encode (n : Int) := by
  have e0 : (240 + (n : Int) / 262144).toNat = 240 + n / 262144 := by omega
  have e1 : (128 + (n : Int) / 4096 % 64).toNat = 128 + n / 4096 % 64 := by omega
  have e2 : (128 + (n : Int) / 64 % 64).toNat = 128 + n / 64 % 64 := by omega
  have e3 : (128 + (n : Int) % 64).toNat = 128 + n % 64 := by omega
  unfold Utf8.encode strOfNums
  simp only [valid_of n (by omega), if_true, Int.toNat_natCast]
  rw [if_neg (by omega), if_neg (by omega), if_neg (by omega)]
  simp only [List.map_cons, List.map_nil, e0, e1, e2, e3]

theorem encI1 (r : Int) (h0 : 0 ≤ r) (h1 : r < 128) : strOfNums [r] = Utf8.encode r := by
  obtain ⟨n, rfl⟩ := Int.eq_ofNat_of_zero_le (show 0 ≤ r by omega)
  exact enc1 n (by omega)
theorem encI2 (r : Int) (h0 : 128 ≤ r) (h1 : r < 2048) : strOfNums [192 + r / 64, 128 + r % 64] = Utf8.encode r := by
  obtain ⟨n, rfl⟩ := Int.eq_ofNat_of_zero_le (show 0 ≤ r by omega)
  exact enc2 n (by omega) (by omega)
theorem encI3 (r : Int) (h0 : 2048 ≤ r) (h1 : r < 65536) (hv : r < 55296 ∨ 57343 < r) : strOfNums [224 + r / 4096, 128 + r / 64 % 64, 128 + r % 64] = Utf8.encode r := by
  obtain ⟨n, rfl⟩ := Int.eq_ofNat_of_zero_le (show 0 ≤ r by omega)
  exact enc3 n (by omega) (by omega) (by omega)
theorem encI4 (r : Int) (h0 : 65536 ≤ r) (h1 : r ≤ 1114111) : strOfNums [240 + r / 262144, 128 + r / 4096 % 64, 128 + r / 64 % 64, 128 + r % 64] = Utf8.encode r := by
  obtain ⟨n, rfl⟩ := Int.eq_ofNat_of_zero_le (show 0 ≤ r by omega)
  exact enc4 n (by omega) (by omega)

set_option maxHeartbeats 400000 in
theorem refEncode_1 (r : Int) (w : World) (h0 : 0 ≤ r) (h1 : r < 128) :
    Calls Tryd.prog 20 #[.int .i64 r] w fun e w' => e = .returned (.tuple #[.string (Utf8.encode r), .int .i64 0]) ∧ Below w.heap.size w w' := by
  have kc := conv1 w
  have E := hide (encI1 r h0 h1)
  go_enter Tryd.func20, Tryd.ntmps20
  go_wp2
  go_ret2
  rw [← E.out]
  exact ⟨rfl, (Below.refl _ _).alloc (Nat.le_refl _) _⟩

set_option maxHeartbeats 400000 in
theorem refEncode_2 (r : Int) (w : World) (h0 : 128 ≤ r) (h1 : r < 2048) :
    Calls Tryd.prog 20 #[.int .i64 r] w fun e w' => e = .returned (.tuple #[.string (Utf8.encode r), .int .i64 0]) ∧ Below w.heap.size w w' := by
  have kc := conv2 w
  have E := hide (encI2 r h0 h1)
  go_enter Tryd.func20, Tryd.ntmps20
  go_wp2
  go_ret2
  rw [← E.out]
  exact ⟨rfl, ((Below.refl _ _).alloc (Nat.le_refl _) _).alloc (by simp) _⟩

set_option maxHeartbeats 400000 in
theorem refEncode_3 (r : Int) (w : World) (h0 : 2048 ≤ r) (h1 : r < 65536) (hv : r < 55296 ∨ 57343 < r) :
    Calls Tryd.prog 20 #[.int .i64 r] w fun e w' => e = .returned (.tuple #[.string (Utf8.encode r), .int .i64 0]) ∧ Below w.heap.size w w' := by
  have kc := conv3 w
  have E := hide (encI3 r h0 h1 hv)
  rcases hv with hv | hv
  all_goals
    go_enter Tryd.func20, Tryd.ntmps20
    go_wp2
    go_ret2
    rw [← E.out]
    exact ⟨rfl, ((Below.refl _ _).alloc (Nat.le_refl _) _).alloc (by simp) _⟩

set_option maxHeartbeats 400000 in
theorem refEncode_4 (r : Int) (w : World) (h0 : 65536 ≤ r) (h1 : r ≤ 1114111) :
    Calls Tryd.prog 20 #[.int .i64 r] w fun e w' => e = .returned (.tuple #[.string (Utf8.encode r), .int .i64 0]) ∧ Below w.heap.size w w' := by
  have kc := conv4 w
  have E := hide (encI4 r h0 h1)
  go_enter Tryd.func20, Tryd.ntmps20
  go_wp2
  go_ret2
  rw [← E.out]
  exact ⟨rfl, ((Below.refl _ _).alloc (Nat.le_refl _) _).alloc (by simp) _⟩

theorem refEncode_yes (r : Int) (w : World) (h : Utf8.valid r = true) :
    Calls Tryd.prog 20 #[.int .i64 r] w fun e w' => e = .returned (.tuple #[.string (Utf8.encode r), .int .i64 0]) ∧ Below w.heap.size w w' := by
  have hv : (0 ≤ r ∧ r < 55296) ∨ (57343 < r ∧ r ≤ 1114111) := by
    unfold Utf8.valid at h; simp at h; omega
  by_cases h1 : r < 128
  · exact refEncode_1 r w (by omega) h1
  · by_cases h2 : r < 2048
    · exact refEncode_2 r w (by omega) h2
    · by_cases h3 : r < 65536
      · exact refEncode_3 r w (by omega) h3 (by omega)
      · exact refEncode_4 r w (by omega) (by omega)
theorem refEncode_not (r : Int) (w : World) (h : Utf8.valid r = false) :
    Calls Tryd.prog 20 #[.int .i64 r] w fun e w' => e = .returned (.tuple #[.string ⟨#[]⟩, .int .i64 19]) ∧ w' = w := by
  refine refEncode_no r w ?_
  by_cases h' : (0 ≤ r ∧ r < 55296) ∨ (57343 < r ∧ r ≤ 1114111)
  · rw [← valid_yes r h'] at h; cases h
  · omega
end Go.Proofs.YtckjededijgjgaaDoor.Enc
