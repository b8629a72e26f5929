import Derived.Test.YtckjededijgjgaaDoorPcF
import Derived.RegionTactic
import Derived.ChangeAlike
import Derived.BigQuiet
import Derived.Deep.QuietTactic
namespace Go.Proofs.YtckjededijgjgaaDoor.Rp
open Go.RowKit
set_option linter.unusedVariables false
open Go.Proofs.YtckjededijgjgaaDoor.Pc

/-- is there a byte at i, from lo to hi? -/
def bt (s : ByteArray) (i lo hi : Nat) : Bool := decide (i < s.size ∧ lo ≤ (s.get! i).toNat ∧ (s.get! i).toNat ≤ hi)

theorem bt_out (s : ByteArray) (i lo hi : Nat) (h : ¬ i < s.size) : false = bt s i lo hi := by
  unfold bt; symm; rw [decide_eq_false_iff_not]; rintro ⟨a, _⟩; exact h a
theorem bt_low (s : ByteArray) (i lo hi : Nat) (h : i < s.size) (h2 : ¬ (lo : Int) ≤ (s[i].toNat : Int)) : false = bt s i lo hi := by
  unfold bt; symm; rw [decide_eq_false_iff_not, Pc.get_at s i h]; rintro ⟨_, b, _⟩; omega
theorem bt_in (s : ByteArray) (i lo hi : Nat) (h : i < s.size) (h2 : (lo : Int) ≤ (s[i].toNat : Int)) : decide (s[i].toNat ≤ hi) = bt s i lo hi := by
  unfold bt; rw [Pc.get_at s i h]; exact decide_eq_decide.2 (by omega)

set_option maxHeartbeats 400000 in
theorem between_any (s : ByteArray) (i lo hi : Nat) (w : World) (hs : s.size ≤ 140737488355328) :
    Calls Tryd.prog 128 #[.string s, .int .i64 (i : Int), .int .i64 (lo : Int), .int .i64 (hi : Int)] w fun e w' => e = .returned (.bool (bt s i lo hi)) ∧ w' = w := by
  by_cases h : i < s.size
  · have hb : (s[i].toNat : Int) ≤ 255 := by have := s[i].toNat_lt; omega
    by_cases h2 : (lo : Int) ≤ (s[i].toNat : Int)
    · have E := hide (bt_in s i lo hi h h2)
      have h' : (i : Int) < (s.size : Int) := by omega
      clear hs
      go_enter Tryd.func128, Tryd.ntmps128
      go_wp2
      go_ret
      exact ⟨ret_bool E.out, rfl⟩
    · have E := hide (bt_low s i lo hi h h2)
      have h' : (i : Int) < (s.size : Int) := by omega
      have h2' : (s[i].toNat : Int) < (lo : Int) := by omega
      clear hs
      go_enter Tryd.func128, Tryd.ntmps128
      go_wp2
      go_ret
      exact ⟨ret_bool E.out, rfl⟩
  · have E := hide (bt_out s i lo hi h)
    have h' : (s.size : Int) ≤ (i : Int) := by omega
    clear hs h
    go_enter Tryd.func128, Tryd.ntmps128
    go_wp2
    go_ret
    exact ⟨ret_bool E.out, rfl⟩
theorem between_is {s : ByteArray} {i lo hi : Nat} {b : Bool} (h : Hid (bt s i lo hi = b)) (w : World) (hs : s.size ≤ 140737488355328) :
    Calls Tryd.prog 128 #[.string s, .int .i64 (i : Int), .int .i64 (lo : Int), .int .i64 (hi : Int)] w fun e w' => e = .returned (.bool b) ∧ w' = w := by
  have := between_any s i lo hi w hs
  rw [h.out] at this
  exact this

/-- n bytes from 80 to BF from i on -/
def tl (s : ByteArray) (i : Nat) : Nat → Bool
  | 0 => true
  | n + 1 => bt s i 128 191 && tl s (i + 1) n

set_option maxHeartbeats 400000 in
theorem tails_any (s : ByteArray) (i n : Nat) (w : World) (hs : s.size ≤ 140737488355328) (hi : (i : Int) ≤ 140737488355328) (hn : (n : Int) ≤ 4) :
    Calls Tryd.prog 129 #[.string s, .int .i64 (i : Int), .int .i64 (n : Int)] w fun e w' => e = .returned (.bool (tl s i n)) ∧ w' = w := by
  have HS := hide hs
  clear hs
  go_enter Tryd.func129, Tryd.ntmps129
  go_wp2
  go_loop [7] (fun z => ∃ k : Nat, k ≤ n ∧ z = .int .i64 k ∧ tl s i n = tl s (i + k) (n - k)) (fun z => n - (intOf z).toNat)
  case atStart => exact ⟨0, by omega, rfl, rfl⟩
  case round =>
    obtain ⟨k, hk, rfl, he⟩ := hrel
    by_cases hlt : k < n
    · obtain ⟨m, hm⟩ : ∃ m, n - k = m + 1 := ⟨n - k - 1, by omega⟩
      have hm' : n - (k + 1) = m := by omega
      rw [hm] at he
      have hlt' : (k : Int) < (n : Int) := by omega
      have ec : ((i : Int) + (k : Int)) = ((i + k : Nat) : Int) := by omega
      cases hb : bt s (i + k) 128 191 with
      | true =>
        have e2 : tl s i n = tl s (i + (k + 1)) (n - (k + 1)) := by rw [he, hm', tl, hb, Bool.true_and]; rfl
        have E := hide e2
        have HB := hide hb
        have HC := hide ec
        clear he hm hm' hb e2 ec
        go_wp2_with fail
        rw [HC.out]
        refine (between_is (lo := 128) (hi := 191) HB _ HS).mono ?_
        rintro e w' ⟨rfl, rfl⟩
        go_wp2
        exact ⟨⟨k + 1, by omega, by go_num, E.out⟩, by simp [intOf]; omega⟩
      | false =>
        have e2 : tl s i n = false := by rw [he, tl, hb, Bool.false_and]
        have E := hide e2
        have HB := hide hb
        have HC := hide ec
        clear he hm hm' hb e2 ec
        go_wp2_with fail
        rw [HC.out]
        refine (between_is (lo := 128) (hi := 191) HB _ HS).mono ?_
        rintro e w' ⟨rfl, rfl⟩
        go_wp2
        go_ret
        rw [E.out]; exact ⟨rfl, rfl⟩
    · have e0 : n - k = 0 := by omega
      rw [e0, tl] at he
      have E := hide he
      clear he
      go_wp2
      go_ret
      rw [E.out]; exact ⟨rfl, rfl⟩

/-- one row of the table -/
def rw3 (s : ByteArray) (i lo hi lo2 hi2 n : Nat) : Bool := bt s i lo hi && bt s (i + 1) lo2 hi2 && tl s (i + 2) (n - 2)

set_option maxHeartbeats 400000 in
theorem row_any (s : ByteArray) (i lo hi lo2 hi2 n : Nat) (w : World) (hs : s.size ≤ 140737488355328) (hi' : (i : Int) ≤ 140737488355000) (hn : (2 : Int) ≤ (n : Int)) (hn' : (n : Int) ≤ 4) :
    Calls Tryd.prog 115 #[.string s, .int .i64 (i : Int), .int .i64 (lo : Int), .int .i64 (hi : Int), .int .i64 (lo2 : Int), .int .i64 (hi2 : Int), .int .i64 (n : Int)] w fun e w' => e = .returned (.bool (rw3 s i lo hi lo2 hi2 n)) ∧ w' = w := by
  have HS := hide hs
  have e1 := hide (show ((i : Int) + 1) = ((i + 1 : Nat) : Int) by omega)
  have e2 := hide (show ((i : Int) + 2) = ((i + 2 : Nat) : Int) by omega)
  have e3 := hide (show ((n : Int) - 2) = ((n - 2 : Nat) : Int) by omega)
  have hi2' := hide (show ((i + 2 : Nat) : Int) ≤ 140737488355328 by omega)
  have hn2' := hide (show ((n - 2 : Nat) : Int) ≤ 4 by omega)
  clear hs
  have E : Hid (rw3 s i lo hi lo2 hi2 n = (bt s i lo hi && bt s (i + 1) lo2 hi2 && tl s (i + 2) (n - 2))) := rfl
  obtain ⟨a, ha⟩ : ∃ a, Hid (bt s i lo hi = a) := ⟨_, rfl⟩
  obtain ⟨b, hb⟩ : ∃ b, Hid (bt s (i + 1) lo2 hi2 = b) := ⟨_, rfl⟩
  obtain ⟨c, hc⟩ : ∃ c, Hid (tl s (i + 2) (n - 2) = c) := ⟨_, rfl⟩
  rw [ha.out, hb.out, hc.out] at E
  cases a <;> cases b
  all_goals
    go_enter Tryd.func115, Tryd.ntmps115
    go_wp2_with fail
    refine (between_is ha _ HS).mono ?_
    rintro e w' ⟨rfl, rfl⟩
    go_wp2_with fail
    rw [e1.out]
    refine (between_is hb _ HS).mono ?_
    rintro e w' ⟨rfl, rfl⟩
    go_wp2_with fail
    rw [e2.out, e3.out]
    refine (tails_any _ _ _ _ HS hi2'.out hn2'.out).mono ?_
    rw [hc.out]
    rintro e w' ⟨rfl, rfl⟩
    go_wp2
    go_ret
    rw [E.out]; exact ⟨ret_bool (by simp), rfl⟩
theorem row_is {s : ByteArray} {i lo hi lo2 hi2 n : Nat} {b : Bool} (h : Hid (rw3 s i lo hi lo2 hi2 n = b)) (w : World) (hs : s.size ≤ 140737488355328) (hi' : (i : Int) ≤ 140737488355000) (hn : (2 : Int) ≤ (n : Int)) (hn' : (n : Int) ≤ 4) :
    Calls Tryd.prog 115 #[.string s, .int .i64 (i : Int), .int .i64 (lo : Int), .int .i64 (hi : Int), .int .i64 (lo2 : Int), .int .i64 (hi2 : Int), .int .i64 (n : Int)] w fun e w' => e = .returned (.bool b) ∧ w' = w := by
  have := row_any s i lo hi lo2 hi2 n w hs hi' hn hn'
  rw [h.out] at this
  exact this
end Go.Proofs.YtckjededijgjgaaDoor.Rp
