import Derived.Test.YtckjededijgjgaaDoorPcF
import Derived.RegionTactic
import Derived.ChangeAlike
import Derived.BigQuiet
import Derived.Deep.QuietTactic
import Derived.OwnWalk
import Derived.Maps.AppendAt
namespace Go.Proofs.YtckjededijgjgaaDoor.Rp
open Go.RowKit
set_option linter.unusedVariables false
open Go.Proofs.YtckjededijgjgaaDoor.Pc

/-- is there a byte at i, from lo to hi? -/
def bt (s : ByteArray) (i lo hi : Nat) : Bool := decide (i < s.size ∧ lo ≤ (s.get! i).toNat ∧ (s.get! i).toNat ≤ hi)

theorem bt_out (s : ByteArray) (i lo hi : Nat) (h : ¬ i < s.size) : false = bt s i lo hi := by
  unfold bt; symm; rw [decide_eq_false_iff_not]; rintro ⟨a, _⟩; exact h a
theorem bt_low (s : ByteArray) (i lo hi : Nat) (h : i < s.size) (h2 : ¬ (lo : Int) ≤ (s[i].toNat : Int)) : false = bt s i lo hi := by
  unfold bt; symm; rw [decide_eq_false_iff_not, Pc.get_at s i h]; rintro ⟨_, b, _⟩; omega
theorem bt_in (s : ByteArray) (i lo hi : Nat) (h : i < s.size) (h2 : (lo : Int) ≤ (s[i].toNat : Int)) : decide (s[i].toNat ≤ hi) = bt s i lo hi := by
  unfold bt; rw [Pc.get_at s i h]; exact decide_eq_decide.2 (by omega)

set_option maxHeartbeats 400000 in
theorem between_any (s : ByteArray) (i lo hi : Nat) (w : World) (hs : s.size ≤ 140737488355328) :
    Calls Tryd.prog 128 #[.string s, .int .i64 (i : Int), .int .i64 (lo : Int), .int .i64 (hi : Int)] w fun e w' => e = .returned (.bool (bt s i lo hi)) ∧ w' = w := by
  by_cases h : i < s.size
  · have hb : (s[i].toNat : Int) ≤ 255 := by have := s[i].toNat_lt; omega
    by_cases h2 : (lo : Int) ≤ (s[i].toNat : Int)
    · have E := hide (bt_in s i lo hi h h2)
      have h' : (i : Int) < (s.size : Int) := by omega
      clear hs
      go_enter Tryd.func128, Tryd.ntmps128
      go_wp2
      go_ret
      exact ⟨ret_bool E.out, rfl⟩
    · have E := hide (bt_low s i lo hi h h2)
      have h' : (i : Int) < (s.size : Int) := by omega
      have h2' : (s[i].toNat : Int) < (lo : Int) := by omega
      clear hs
      go_enter Tryd.func128, Tryd.ntmps128
      go_wp2
      go_ret
      exact ⟨ret_bool E.out, rfl⟩
  · have E := hide (bt_out s i lo hi h)
    have h' : (s.size : Int) ≤ (i : Int) := by omega
    clear hs h
    go_enter Tryd.func128, Tryd.ntmps128
    go_wp2
    go_ret
    exact ⟨ret_bool E.out, rfl⟩
theorem between_is {s : ByteArray} {i lo hi : Nat} {b : Bool} (h : Hid (bt s i lo hi = b)) (w : World) (hs : s.size ≤ 140737488355328) :
    Calls Tryd.prog 128 #[.string s, .int .i64 (i : Int), .int .i64 (lo : Int), .int .i64 (hi : Int)] w fun e w' => e = .returned (.bool b) ∧ w' = w := by
  have := between_any s i lo hi w hs
  rw [h.out] at this
  exact this

/-- n bytes from 80 to BF from i on -/
def tl (s : ByteArray) (i : Nat) : Nat → Bool
  | 0 => true
  | n + 1 => bt s i 128 191 && tl s (i + 1) n

set_option maxHeartbeats 400000 in
theorem tails_any (s : ByteArray) (i n : Nat) (w : World) (hs : s.size ≤ 140737488355328) (hi : (i : Int) ≤ 140737488355328) (hn : (n : Int) ≤ 4) :
    Calls Tryd.prog 129 #[.string s, .int .i64 (i : Int), .int .i64 (n : Int)] w fun e w' => e = .returned (.bool (tl s i n)) ∧ w' = w := by
  have HS := hide hs
  clear hs
  go_enter Tryd.func129, Tryd.ntmps129
  go_wp2
  go_loop [7] (fun z => ∃ k : Nat, k ≤ n ∧ z = .int .i64 k ∧ tl s i n = tl s (i + k) (n - k)) (fun z => n - (intOf z).toNat)
  case atStart => exact ⟨0, by omega, rfl, rfl⟩
  case round =>
    obtain ⟨k, hk, rfl, he⟩ := hrel
    by_cases hlt : k < n
    · obtain ⟨m, hm⟩ : ∃ m, n - k = m + 1 := ⟨n - k - 1, by omega⟩
      have hm' : n - (k + 1) = m := by omega
      rw [hm] at he
      have hlt' : (k : Int) < (n : Int) := by omega
      have ec : ((i : Int) + (k : Int)) = ((i + k : Nat) : Int) := by omega
      cases hb : bt s (i + k) 128 191 with
      | true =>
        have e2 : tl s i n = tl s (i + (k + 1)) (n - (k + 1)) := by rw [he, hm', tl, hb, Bool.true_and]; rfl
        have E := hide e2
        have HB := hide hb
        have HC := hide ec
        clear he hm hm' hb e2 ec
        go_wp2_with fail
        rw [HC.out]
        refine (between_is (lo := 128) (hi := 191) HB _ HS).mono ?_
        rintro e w' ⟨rfl, rfl⟩
        go_wp2
        exact ⟨⟨k + 1, by omega, by go_num, E.out⟩, by simp [intOf]; omega⟩
      | false =>
        have e2 : tl s i n = false := by rw [he, tl, hb, Bool.false_and]
        have E := hide e2
        have HB := hide hb
        have HC := hide ec
        clear he hm hm' hb e2 ec
        go_wp2_with fail
        rw [HC.out]
        refine (between_is (lo := 128) (hi := 191) HB _ HS).mono ?_
        rintro e w' ⟨rfl, rfl⟩
        go_wp2
        go_ret
        rw [E.out]; exact ⟨rfl, rfl⟩
    · have e0 : n - k = 0 := by omega
      rw [e0, tl] at he
      have E := hide he
      clear he
      go_wp2
      go_ret
      rw [E.out]; exact ⟨rfl, rfl⟩

/-- one row of the table -/
def rw3 (s : ByteArray) (i lo hi lo2 hi2 n : Nat) : Bool := bt s i lo hi && bt s (i + 1) lo2 hi2 && tl s (i + 2) (n - 2)

set_option maxHeartbeats 400000 in
theorem row_any (s : ByteArray) (i lo hi lo2 hi2 n : Nat) (w : World) (hs : s.size ≤ 140737488355328) (hi' : (i : Int) ≤ 140737488355000) (hn : (2 : Int) ≤ (n : Int)) (hn' : (n : Int) ≤ 4) :
    Calls Tryd.prog 115 #[.string s, .int .i64 (i : Int), .int .i64 (lo : Int), .int .i64 (hi : Int), .int .i64 (lo2 : Int), .int .i64 (hi2 : Int), .int .i64 (n : Int)] w fun e w' => e = .returned (.bool (rw3 s i lo hi lo2 hi2 n)) ∧ w' = w := by
  have HS := hide hs
  have e1 := hide (show ((i : Int) + 1) = ((i + 1 : Nat) : Int) by omega)
  have e2 := hide (show ((i : Int) + 2) = ((i + 2 : Nat) : Int) by omega)
  have e3 := hide (show ((n : Int) - 2) = ((n - 2 : Nat) : Int) by omega)
  have hi2' := hide (show ((i + 2 : Nat) : Int) ≤ 140737488355328 by omega)
  have hn2' := hide (show ((n - 2 : Nat) : Int) ≤ 4 by omega)
  clear hs
  have E : Hid (rw3 s i lo hi lo2 hi2 n = (bt s i lo hi && bt s (i + 1) lo2 hi2 && tl s (i + 2) (n - 2))) := rfl
  obtain ⟨a, ha⟩ : ∃ a, Hid (bt s i lo hi = a) := ⟨_, rfl⟩
  obtain ⟨b, hb⟩ : ∃ b, Hid (bt s (i + 1) lo2 hi2 = b) := ⟨_, rfl⟩
  obtain ⟨c, hc⟩ : ∃ c, Hid (tl s (i + 2) (n - 2) = c) := ⟨_, rfl⟩
  rw [ha.out, hb.out, hc.out] at E
  cases a <;> cases b
  all_goals
    go_enter Tryd.func115, Tryd.ntmps115
    go_wp2_with fail
    refine (between_is ha _ HS).mono ?_
    rintro e w' ⟨rfl, rfl⟩
    go_wp2_with fail
    rw [e1.out]
    refine (between_is hb _ HS).mono ?_
    rintro e w' ⟨rfl, rfl⟩
    go_wp2_with fail
    rw [e2.out, e3.out]
    refine (tails_any _ _ _ _ HS hi2'.out hn2'.out).mono ?_
    rw [hc.out]
    rintro e w' ⟨rfl, rfl⟩
    go_wp2
    go_ret
    rw [E.out]; exact ⟨ret_bool (by simp), rfl⟩
theorem row_is {s : ByteArray} {i lo hi lo2 hi2 n : Nat} {b : Bool} (h : Hid (rw3 s i lo hi lo2 hi2 n = b)) (w : World) (hs : s.size ≤ 140737488355328) (hi' : (i : Int) ≤ 140737488355000) (hn : (2 : Int) ≤ (n : Int)) (hn' : (n : Int) ≤ 4) :
    Calls Tryd.prog 115 #[.string s, .int .i64 (i : Int), .int .i64 (lo : Int), .int .i64 (hi : Int), .int .i64 (lo2 : Int), .int .i64 (hi2 : Int), .int .i64 (n : Int)] w fun e w' => e = .returned (.bool b) ∧ w' = w := by
  have := row_any s i lo hi lo2 hi2 n w hs hi' hn hn'
  rw [h.out] at this
  exact this
end Go.Proofs.YtckjededijgjgaaDoor.Rp
namespace Go.Proofs.YtckjededijgjgaaDoor.Rp
open Go.RowKit
open Go.Proofs.YtckjededijgjgaaDoor.Pc
set_option linter.unusedVariables false

def szB (a b c d e f g h : Bool) : Int := if a then 2 else if b || c || d || e then 3 else if f || g || h then 4 else 0

set_option maxRecDepth 100000 in
set_option maxHeartbeats 4000000 in
theorem size_gen (s : ByteArray) (i : Nat) (w : World) (a b c d e f g h : Bool) (hi : i < s.size) (hs : s.size ≤ 140737488355328) (hi' : (i : Int) ≤ 140737488355000) (h128 : (128 : Int) ≤ (s[i].toNat : Int))
    (ha : Hid (rw3 s i 194 223 128 191 2 = a)) (hb : Hid (rw3 s i 224 224 160 191 3 = b)) (hc : Hid (rw3 s i 225 236 128 191 3 = c)) (hd : Hid (rw3 s i 237 237 128 159 3 = d)) (he : Hid (rw3 s i 238 239 128 191 3 = e)) (hf : Hid (rw3 s i 240 240 144 191 4 = f)) (hg : Hid (rw3 s i 241 243 128 191 4 = g)) (hh : Hid (rw3 s i 244 244 128 143 4 = h)) :
    Calls Tryd.prog 95 #[.string s, .int .i64 (i : Int)] w fun e0 w' => e0 = .returned (.int .i64 (szB a b c d e f g h)) ∧ w' = w := by
  have HS := hide hs
  have hb2 : (s[i].toNat : Int) ≤ 255 := by have := s[i].toNat_lt; omega
  have hI : (i : Int) < (s.size : Int) := by omega
  have hdec : decide ((s[i].toNat : Int) < 128) = false := by simp; omega
  clear hs h128
  cases a with
  | true =>
    go_enter Tryd.func95, Tryd.ntmps95
    go_wp2_with fail
    refine (row_is (lo := 194) (hi := 223) (lo2 := 128) (hi2 := 191) (n := 2) ha _ HS hi' (by omega) (by omega)).mono ?_
    rintro e0 w' ⟨rfl, rfl⟩
    go_wp2
    go_ret
    exact ⟨rfl, rfl⟩
  | false =>
    cases b with
    | true =>
      go_enter Tryd.func95, Tryd.ntmps95
      go_wp2_with fail
      refine (row_is (lo := 194) (hi := 223) (lo2 := 128) (hi2 := 191) (n := 2) ha _ HS hi' (by omega) (by omega)).mono ?_
      rintro e0 w' ⟨rfl, rfl⟩
      go_wp2_with fail
      refine (row_is (lo := 224) (hi := 224) (lo2 := 160) (hi2 := 191) (n := 3) hb _ HS hi' (by omega) (by omega)).mono ?_
      rintro e0 w' ⟨rfl, rfl⟩
      go_wp2_with fail
      refine (row_is (lo := 225) (hi := 236) (lo2 := 128) (hi2 := 191) (n := 3) hc _ HS hi' (by omega) (by omega)).mono ?_
      rintro e0 w' ⟨rfl, rfl⟩
      go_wp2_with fail
      refine (row_is (lo := 237) (hi := 237) (lo2 := 128) (hi2 := 159) (n := 3) hd _ HS hi' (by omega) (by omega)).mono ?_
      rintro e0 w' ⟨rfl, rfl⟩
      go_wp2_with fail
      refine (row_is (lo := 238) (hi := 239) (lo2 := 128) (hi2 := 191) (n := 3) he _ HS hi' (by omega) (by omega)).mono ?_
      rintro e0 w' ⟨rfl, rfl⟩
      go_wp2
      go_ret
      exact ⟨rfl, rfl⟩
    | false =>
      cases c with
      | true =>
        go_enter Tryd.func95, Tryd.ntmps95
        go_wp2_with fail
        refine (row_is (lo := 194) (hi := 223) (lo2 := 128) (hi2 := 191) (n := 2) ha _ HS hi' (by omega) (by omega)).mono ?_
        rintro e0 w' ⟨rfl, rfl⟩
        go_wp2_with fail
        refine (row_is (lo := 224) (hi := 224) (lo2 := 160) (hi2 := 191) (n := 3) hb _ HS hi' (by omega) (by omega)).mono ?_
        rintro e0 w' ⟨rfl, rfl⟩
        go_wp2_with fail
        refine (row_is (lo := 225) (hi := 236) (lo2 := 128) (hi2 := 191) (n := 3) hc _ HS hi' (by omega) (by omega)).mono ?_
        rintro e0 w' ⟨rfl, rfl⟩
        go_wp2_with fail
        refine (row_is (lo := 237) (hi := 237) (lo2 := 128) (hi2 := 159) (n := 3) hd _ HS hi' (by omega) (by omega)).mono ?_
        rintro e0 w' ⟨rfl, rfl⟩
        go_wp2_with fail
        refine (row_is (lo := 238) (hi := 239) (lo2 := 128) (hi2 := 191) (n := 3) he _ HS hi' (by omega) (by omega)).mono ?_
        rintro e0 w' ⟨rfl, rfl⟩
        go_wp2
        go_ret
        exact ⟨rfl, rfl⟩
      | false =>
        cases d with
        | true =>
          go_enter Tryd.func95, Tryd.ntmps95
          go_wp2_with fail
          refine (row_is (lo := 194) (hi := 223) (lo2 := 128) (hi2 := 191) (n := 2) ha _ HS hi' (by omega) (by omega)).mono ?_
          rintro e0 w' ⟨rfl, rfl⟩
          go_wp2_with fail
          refine (row_is (lo := 224) (hi := 224) (lo2 := 160) (hi2 := 191) (n := 3) hb _ HS hi' (by omega) (by omega)).mono ?_
          rintro e0 w' ⟨rfl, rfl⟩
          go_wp2_with fail
          refine (row_is (lo := 225) (hi := 236) (lo2 := 128) (hi2 := 191) (n := 3) hc _ HS hi' (by omega) (by omega)).mono ?_
          rintro e0 w' ⟨rfl, rfl⟩
          go_wp2_with fail
          refine (row_is (lo := 237) (hi := 237) (lo2 := 128) (hi2 := 159) (n := 3) hd _ HS hi' (by omega) (by omega)).mono ?_
          rintro e0 w' ⟨rfl, rfl⟩
          go_wp2_with fail
          refine (row_is (lo := 238) (hi := 239) (lo2 := 128) (hi2 := 191) (n := 3) he _ HS hi' (by omega) (by omega)).mono ?_
          rintro e0 w' ⟨rfl, rfl⟩
          go_wp2
          go_ret
          exact ⟨rfl, rfl⟩
        | false =>
          cases e with
          | true =>
            go_enter Tryd.func95, Tryd.ntmps95
            go_wp2_with fail
            refine (row_is (lo := 194) (hi := 223) (lo2 := 128) (hi2 := 191) (n := 2) ha _ HS hi' (by omega) (by omega)).mono ?_
            rintro e0 w' ⟨rfl, rfl⟩
            go_wp2_with fail
            refine (row_is (lo := 224) (hi := 224) (lo2 := 160) (hi2 := 191) (n := 3) hb _ HS hi' (by omega) (by omega)).mono ?_
            rintro e0 w' ⟨rfl, rfl⟩
            go_wp2_with fail
            refine (row_is (lo := 225) (hi := 236) (lo2 := 128) (hi2 := 191) (n := 3) hc _ HS hi' (by omega) (by omega)).mono ?_
            rintro e0 w' ⟨rfl, rfl⟩
            go_wp2_with fail
            refine (row_is (lo := 237) (hi := 237) (lo2 := 128) (hi2 := 159) (n := 3) hd _ HS hi' (by omega) (by omega)).mono ?_
            rintro e0 w' ⟨rfl, rfl⟩
            go_wp2_with fail
            refine (row_is (lo := 238) (hi := 239) (lo2 := 128) (hi2 := 191) (n := 3) he _ HS hi' (by omega) (by omega)).mono ?_
            rintro e0 w' ⟨rfl, rfl⟩
            go_wp2
            go_ret
            exact ⟨rfl, rfl⟩
          | false =>
            cases f with
            | true =>
              go_enter Tryd.func95, Tryd.ntmps95
              go_wp2_with fail
              refine (row_is (lo := 194) (hi := 223) (lo2 := 128) (hi2 := 191) (n := 2) ha _ HS hi' (by omega) (by omega)).mono ?_
              rintro e0 w' ⟨rfl, rfl⟩
              go_wp2_with fail
              refine (row_is (lo := 224) (hi := 224) (lo2 := 160) (hi2 := 191) (n := 3) hb _ HS hi' (by omega) (by omega)).mono ?_
              rintro e0 w' ⟨rfl, rfl⟩
              go_wp2_with fail
              refine (row_is (lo := 225) (hi := 236) (lo2 := 128) (hi2 := 191) (n := 3) hc _ HS hi' (by omega) (by omega)).mono ?_
              rintro e0 w' ⟨rfl, rfl⟩
              go_wp2_with fail
              refine (row_is (lo := 237) (hi := 237) (lo2 := 128) (hi2 := 159) (n := 3) hd _ HS hi' (by omega) (by omega)).mono ?_
              rintro e0 w' ⟨rfl, rfl⟩
              go_wp2_with fail
              refine (row_is (lo := 238) (hi := 239) (lo2 := 128) (hi2 := 191) (n := 3) he _ HS hi' (by omega) (by omega)).mono ?_
              rintro e0 w' ⟨rfl, rfl⟩
              go_wp2_with fail
              refine (row_is (lo := 240) (hi := 240) (lo2 := 144) (hi2 := 191) (n := 4) hf _ HS hi' (by omega) (by omega)).mono ?_
              rintro e0 w' ⟨rfl, rfl⟩
              go_wp2_with fail
              refine (row_is (lo := 241) (hi := 243) (lo2 := 128) (hi2 := 191) (n := 4) hg _ HS hi' (by omega) (by omega)).mono ?_
              rintro e0 w' ⟨rfl, rfl⟩
              go_wp2_with fail
              refine (row_is (lo := 244) (hi := 244) (lo2 := 128) (hi2 := 143) (n := 4) hh _ HS hi' (by omega) (by omega)).mono ?_
              rintro e0 w' ⟨rfl, rfl⟩
              go_wp2
              go_ret
              exact ⟨rfl, rfl⟩
            | false =>
              cases g with
              | true =>
                go_enter Tryd.func95, Tryd.ntmps95
                go_wp2_with fail
                refine (row_is (lo := 194) (hi := 223) (lo2 := 128) (hi2 := 191) (n := 2) ha _ HS hi' (by omega) (by omega)).mono ?_
                rintro e0 w' ⟨rfl, rfl⟩
                go_wp2_with fail
                refine (row_is (lo := 224) (hi := 224) (lo2 := 160) (hi2 := 191) (n := 3) hb _ HS hi' (by omega) (by omega)).mono ?_
                rintro e0 w' ⟨rfl, rfl⟩
                go_wp2_with fail
                refine (row_is (lo := 225) (hi := 236) (lo2 := 128) (hi2 := 191) (n := 3) hc _ HS hi' (by omega) (by omega)).mono ?_
                rintro e0 w' ⟨rfl, rfl⟩
                go_wp2_with fail
                refine (row_is (lo := 237) (hi := 237) (lo2 := 128) (hi2 := 159) (n := 3) hd _ HS hi' (by omega) (by omega)).mono ?_
                rintro e0 w' ⟨rfl, rfl⟩
                go_wp2_with fail
                refine (row_is (lo := 238) (hi := 239) (lo2 := 128) (hi2 := 191) (n := 3) he _ HS hi' (by omega) (by omega)).mono ?_
                rintro e0 w' ⟨rfl, rfl⟩
                go_wp2_with fail
                refine (row_is (lo := 240) (hi := 240) (lo2 := 144) (hi2 := 191) (n := 4) hf _ HS hi' (by omega) (by omega)).mono ?_
                rintro e0 w' ⟨rfl, rfl⟩
                go_wp2_with fail
                refine (row_is (lo := 241) (hi := 243) (lo2 := 128) (hi2 := 191) (n := 4) hg _ HS hi' (by omega) (by omega)).mono ?_
                rintro e0 w' ⟨rfl, rfl⟩
                go_wp2_with fail
                refine (row_is (lo := 244) (hi := 244) (lo2 := 128) (hi2 := 143) (n := 4) hh _ HS hi' (by omega) (by omega)).mono ?_
                rintro e0 w' ⟨rfl, rfl⟩
                go_wp2
                go_ret
                exact ⟨rfl, rfl⟩
              | false =>
                cases h with
                | true =>
                  go_enter Tryd.func95, Tryd.ntmps95
                  go_wp2_with fail
                  refine (row_is (lo := 194) (hi := 223) (lo2 := 128) (hi2 := 191) (n := 2) ha _ HS hi' (by omega) (by omega)).mono ?_
                  rintro e0 w' ⟨rfl, rfl⟩
                  go_wp2_with fail
                  refine (row_is (lo := 224) (hi := 224) (lo2 := 160) (hi2 := 191) (n := 3) hb _ HS hi' (by omega) (by omega)).mono ?_
                  rintro e0 w' ⟨rfl, rfl⟩
                  go_wp2_with fail
                  refine (row_is (lo := 225) (hi := 236) (lo2 := 128) (hi2 := 191) (n := 3) hc _ HS hi' (by omega) (by omega)).mono ?_
                  rintro e0 w' ⟨rfl, rfl⟩
                  go_wp2_with fail
                  refine (row_is (lo := 237) (hi := 237) (lo2 := 128) (hi2 := 159) (n := 3) hd _ HS hi' (by omega) (by omega)).mono ?_
                  rintro e0 w' ⟨rfl, rfl⟩
                  go_wp2_with fail
                  refine (row_is (lo := 238) (hi := 239) (lo2 := 128) (hi2 := 191) (n := 3) he _ HS hi' (by omega) (by omega)).mono ?_
                  rintro e0 w' ⟨rfl, rfl⟩
                  go_wp2_with fail
                  refine (row_is (lo := 240) (hi := 240) (lo2 := 144) (hi2 := 191) (n := 4) hf _ HS hi' (by omega) (by omega)).mono ?_
                  rintro e0 w' ⟨rfl, rfl⟩
                  go_wp2_with fail
                  refine (row_is (lo := 241) (hi := 243) (lo2 := 128) (hi2 := 191) (n := 4) hg _ HS hi' (by omega) (by omega)).mono ?_
                  rintro e0 w' ⟨rfl, rfl⟩
                  go_wp2_with fail
                  refine (row_is (lo := 244) (hi := 244) (lo2 := 128) (hi2 := 143) (n := 4) hh _ HS hi' (by omega) (by omega)).mono ?_
                  rintro e0 w' ⟨rfl, rfl⟩
                  go_wp2
                  go_ret
                  exact ⟨rfl, rfl⟩
                | false =>
                  go_enter Tryd.func95, Tryd.ntmps95
                  go_wp2_with fail
                  refine (row_is (lo := 194) (hi := 223) (lo2 := 128) (hi2 := 191) (n := 2) ha _ HS hi' (by omega) (by omega)).mono ?_
                  rintro e0 w' ⟨rfl, rfl⟩
                  go_wp2_with fail
                  refine (row_is (lo := 224) (hi := 224) (lo2 := 160) (hi2 := 191) (n := 3) hb _ HS hi' (by omega) (by omega)).mono ?_
                  rintro e0 w' ⟨rfl, rfl⟩
                  go_wp2_with fail
                  refine (row_is (lo := 225) (hi := 236) (lo2 := 128) (hi2 := 191) (n := 3) hc _ HS hi' (by omega) (by omega)).mono ?_
                  rintro e0 w' ⟨rfl, rfl⟩
                  go_wp2_with fail
                  refine (row_is (lo := 237) (hi := 237) (lo2 := 128) (hi2 := 159) (n := 3) hd _ HS hi' (by omega) (by omega)).mono ?_
                  rintro e0 w' ⟨rfl, rfl⟩
                  go_wp2_with fail
                  refine (row_is (lo := 238) (hi := 239) (lo2 := 128) (hi2 := 191) (n := 3) he _ HS hi' (by omega) (by omega)).mono ?_
                  rintro e0 w' ⟨rfl, rfl⟩
                  go_wp2_with fail
                  refine (row_is (lo := 240) (hi := 240) (lo2 := 144) (hi2 := 191) (n := 4) hf _ HS hi' (by omega) (by omega)).mono ?_
                  rintro e0 w' ⟨rfl, rfl⟩
                  go_wp2_with fail
                  refine (row_is (lo := 241) (hi := 243) (lo2 := 128) (hi2 := 191) (n := 4) hg _ HS hi' (by omega) (by omega)).mono ?_
                  rintro e0 w' ⟨rfl, rfl⟩
                  go_wp2_with fail
                  refine (row_is (lo := 244) (hi := 244) (lo2 := 128) (hi2 := 143) (n := 4) hh _ HS hi' (by omega) (by omega)).mono ?_
                  rintro e0 w' ⟨rfl, rfl⟩
                  go_wp2
                  go_ret
                  exact ⟨rfl, rfl⟩

set_option maxHeartbeats 400000 in
theorem size_one (s : ByteArray) (i : Nat) (w : World) (hi : i < s.size) (h128 : (s[i].toNat : Int) < 128) :
    Calls Tryd.prog 95 #[.string s, .int .i64 (i : Int)] w fun e0 w' => e0 = .returned (.int .i64 1) ∧ w' = w := by
  have hI : (i : Int) < (s.size : Int) := by omega
  go_enter Tryd.func95, Tryd.ntmps95
  go_wp2
  go_ret
  exact ⟨rfl, rfl⟩
end Go.Proofs.YtckjededijgjgaaDoor.Rp
namespace Go.Proofs.YtckjededijgjgaaDoor.Rp
open Go.RowKit
open Go.Proofs.YtckjededijgjgaaDoor.Pc
set_option linter.unusedVariables false

theorem ret_int {k : IntKind} {a b : Int} (h : a = b) : Ending.returned (.int k a) = .returned (.int k b) := by rw [h]

set_option maxHeartbeats 400000 in
theorem value_1 (s : ByteArray) (i r : Nat) (w : World) (hi : i < s.size) (h : Hid (s[i].toNat = r)) :
    Calls Tryd.prog 96 #[.string s, .int .i64 (i : Int), .int .i64 1] w fun e w' => e = .returned (.int .i64 (r : Int)) ∧ w' = w := by
  have hI : (i : Int) < (s.size : Int) := by omega
  have hb : (s[i].toNat : Int) ≤ 255 := by have := s[i].toNat_lt; omega
  go_enter Tryd.func96, Tryd.ntmps96
  go_wp2
  go_ret
  exact ⟨ret_int (by rw [h.out]), rfl⟩

set_option maxHeartbeats 400000 in
theorem value_2 (s : ByteArray) (i r : Nat) (w : World) (hs : (s.size : Int) ≤ 140737488355328) (hi : i + 1 < s.size) (h0 : Hid (s[i].toNat = 192 + r / 64)) (h1 : Hid (s[i + 1].toNat = 128 + r % 64)) :
    Calls Tryd.prog 96 #[.string s, .int .i64 (i : Int), .int .i64 2] w fun e w' => e = .returned (.int .i64 (r : Int)) ∧ ∃ n, w' = w.drewN n := by
  have hI : (i : Int) < (s.size : Int) := by omega
  have hI1 : (i : Int) + 1 < (s.size : Int) := by omega
  have hb : (s[i].toNat : Int) ≤ 255 := by have := s[i].toNat_lt; omega
  have hb1 : (s[i + 1].toNat : Int) ≤ 255 := by have := s[i + 1].toNat_lt; omega
  go_enter Tryd.func96, Tryd.ntmps96
  go_wp2
  go_ret
  exact ⟨ret_int (by have := h0.out; have := h1.out; omega), 0, rfl⟩
set_option maxHeartbeats 400000 in
theorem value_3 (s : ByteArray) (i r : Nat) (w : World) (hs : (s.size : Int) ≤ 140737488355328) (hi : i + 2 < s.size) (h0 : Hid (s[i].toNat = 224 + r / 4096)) (h1 : Hid (s[i + 1].toNat = 128 + r / 64 % 64)) (h2 : Hid (s[i + 2].toNat = 128 + r % 64)) :
    Calls Tryd.prog 96 #[.string s, .int .i64 (i : Int), .int .i64 3] w fun e w' => e = .returned (.int .i64 (r : Int)) ∧ ∃ n, w' = w.drewN n := by
  have hI : (i : Int) < (s.size : Int) := by omega
  have hI1 : (i : Int) + 1 < (s.size : Int) := by omega
  have hI2 : (i : Int) + 2 < (s.size : Int) := by omega
  have hz1 : (0 : Int) ≤ (i : Int) + 1 := by omega
  have hz2 : (0 : Int) ≤ (i : Int) + 2 := by omega
  have hb : (s[i].toNat : Int) ≤ 255 := by have := s[i].toNat_lt; omega
  have hb1 : (s[i + 1].toNat : Int) ≤ 255 := by have := s[i + 1].toNat_lt; omega
  have hb2 : (s[i + 2].toNat : Int) ≤ 255 := by have := s[i + 2].toNat_lt; omega
  go_enter Tryd.func96, Tryd.ntmps96
  go_wp2
  go_quiet (fail)
  go_wp2
  go_ret
  exact ⟨ret_int (by have := h0.out; have := h1.out; have := h2.out; omega), _, rfl⟩
set_option maxHeartbeats 400000 in
theorem value_4 (s : ByteArray) (i r : Nat) (w : World) (hs : (s.size : Int) ≤ 140737488355328) (hi : i + 3 < s.size) (h0 : Hid (s[i].toNat = 240 + r / 262144)) (h1 : Hid (s[i + 1].toNat = 128 + r / 4096 % 64)) (h2 : Hid (s[i + 2].toNat = 128 + r / 64 % 64)) (h3 : Hid (s[i + 3].toNat = 128 + r % 64)) :
    Calls Tryd.prog 96 #[.string s, .int .i64 (i : Int), .int .i64 4] w fun e w' => e = .returned (.int .i64 (r : Int)) ∧ ∃ n, w' = w.drewN n := by
  have hI : (i : Int) < (s.size : Int) := by omega
  have hI1 : (i : Int) + 1 < (s.size : Int) := by omega
  have hI2 : (i : Int) + 2 < (s.size : Int) := by omega
  have hI3 : (i : Int) + 3 < (s.size : Int) := by omega
  have hz1 : (0 : Int) ≤ (i : Int) + 1 := by omega
  have hz2 : (0 : Int) ≤ (i : Int) + 2 := by omega
  have hz3 : (0 : Int) ≤ (i : Int) + 3 := by omega
  have hb : (s[i].toNat : Int) ≤ 255 := by have := s[i].toNat_lt; omega
  have hb1 : (s[i + 1].toNat : Int) ≤ 255 := by have := s[i + 1].toNat_lt; omega
  have hb2 : (s[i + 2].toNat : Int) ≤ 255 := by have := s[i + 2].toNat_lt; omega
  have hb3 : (s[i + 3].toNat : Int) ≤ 255 := by have := s[i + 3].toNat_lt; omega
  go_enter Tryd.func96, Tryd.ntmps96
  go_wp2
  go_quiet (fail)
  go_wp2
  go_ret
  exact ⟨ret_int (by have := h0.out; have := h1.out; have := h2.out; have := h3.out; omega), _, rfl⟩
end Go.Proofs.YtckjededijgjgaaDoor.Rp
namespace Go.Proofs.YtckjededijgjgaaDoor.Rp
open Go.RowKit
open Go.Proofs.YtckjededijgjgaaDoor.Pc
set_option linter.unusedVariables false

theorem rw2_iff (s : ByteArray) (i lo hi lo2 hi2 : Nat) : rw3 s i lo hi lo2 hi2 2 = true ↔ (i + 1 < s.size ∧ lo ≤ (s.get! i).toNat ∧ (s.get! i).toNat ≤ hi ∧ lo2 ≤ (s.get! (i + 1)).toNat ∧ (s.get! (i + 1)).toNat ≤ hi2) := by
  have e : tl s (i + 2) (2 - 2) = true := rfl
  unfold rw3
  rw [e, Bool.and_true]
  simp only [bt, Bool.and_eq_true, decide_eq_true_eq]
  constructor
  · rintro ⟨⟨_, a, b⟩, c, d, e⟩; exact ⟨c, a, b, d, e⟩
  · rintro ⟨c, a, b, d, e⟩; exact ⟨⟨by omega, a, b⟩, c, d, e⟩
theorem rw3_iff (s : ByteArray) (i lo hi lo2 hi2 : Nat) : rw3 s i lo hi lo2 hi2 3 = true ↔ (i + 2 < s.size ∧ lo ≤ (s.get! i).toNat ∧ (s.get! i).toNat ≤ hi ∧ lo2 ≤ (s.get! (i + 1)).toNat ∧ (s.get! (i + 1)).toNat ≤ hi2 ∧ 128 ≤ (s.get! (i + 2)).toNat ∧ (s.get! (i + 2)).toNat ≤ 191) := by
  simp only [rw3, bt, tl, Bool.and_eq_true, decide_eq_true_eq, and_true]
  constructor
  · rintro ⟨⟨⟨_, a, b⟩, _, d, e⟩, f, g, h⟩; exact ⟨f, a, b, d, e, g, h⟩
  · rintro ⟨f, a, b, d, e, g, h⟩; exact ⟨⟨⟨by omega, a, b⟩, by omega, d, e⟩, f, g, h⟩
theorem rw4_iff (s : ByteArray) (i lo hi lo2 hi2 : Nat) : rw3 s i lo hi lo2 hi2 4 = true ↔ (i + 3 < s.size ∧ lo ≤ (s.get! i).toNat ∧ (s.get! i).toNat ≤ hi ∧ lo2 ≤ (s.get! (i + 1)).toNat ∧ (s.get! (i + 1)).toNat ≤ hi2 ∧ 128 ≤ (s.get! (i + 2)).toNat ∧ (s.get! (i + 2)).toNat ≤ 191 ∧ 128 ≤ (s.get! (i + 3)).toNat ∧ (s.get! (i + 3)).toNat ≤ 191) := by
  simp only [rw3, bt, tl, Bool.and_eq_true, decide_eq_true_eq, and_true]
  constructor
  · rintro ⟨⟨⟨_, a, b⟩, _, d, e⟩, ⟨_, g, h⟩, p, q, r⟩; exact ⟨p, a, b, d, e, g, h, q, r⟩
  · rintro ⟨p, a, b, d, e, g, h, q, r⟩; exact ⟨⟨⟨by omega, a, b⟩, by omega, d, e⟩, ⟨by omega, g, h⟩, p, q, r⟩

/-- the size by the table's rows -/
def szR (s : ByteArray) (i : Nat) : Int :=
  szB (rw3 s i 194 223 128 191 2) (rw3 s i 224 224 160 191 3) (rw3 s i 225 236 128 191 3) (rw3 s i 237 237 128 159 3) (rw3 s i 238 239 128 191 3) (rw3 s i 240 240 144 191 4) (rw3 s i 241 243 128 191 4) (rw3 s i 244 244 128 143 4)

theorem szR_enc {s : ByteArray} {i r k : Nat} (h : encAt s i r k) (hk : 2 ≤ k) : szR s i = (k : Int) := by
  unfold szR szB
  rcases h with h | h | h | h
  · omega
  · obtain ⟨rfl, h1, h2, h3, h4, h5⟩ := h
    rw [if_pos]
    · rfl
    · rw [rw2_iff]; omega
  · obtain ⟨rfl, h1, h2, h3, h4, h5, h6, h7⟩ := h
    rw [if_neg, if_pos]
    · rfl
    · simp only [Bool.or_eq_true, rw3_iff]; omega
    · rw [rw2_iff]; omega
  · obtain ⟨rfl, h1, h2, h3, h4, h5, h6, h7⟩ := h
    rw [if_neg, if_neg, if_pos]
    · rfl
    · simp only [Bool.or_eq_true, rw4_iff]; omega
    · simp only [Bool.or_eq_true, rw3_iff]; omega
    · rw [rw2_iff]; omega

theorem szR_none {s : ByteArray} {i : Nat} (h : ∀ r k, ¬ encAt s i r k) : szR s i = 0 := by
  have b0 := (s.get! i).toNat_lt; have b1 := (s.get! (i + 1)).toNat_lt; have b2 := (s.get! (i + 2)).toNat_lt; have b3 := (s.get! (i + 3)).toNat_lt
  unfold szR szB
  rw [if_neg, if_neg, if_neg]
  · simp only [Bool.or_eq_true, rw4_iff]
    intro hh
    refine h (((s.get! i).toNat - 240) * 262144 + ((s.get! (i + 1)).toNat - 128) * 4096 + ((s.get! (i + 2)).toNat - 128) * 64 + ((s.get! (i + 3)).toNat - 128)) 4 (.inr (.inr (.inr ⟨rfl, ?_, ?_, ?_, ?_, ?_, ?_, ?_⟩))) <;> omega
  · simp only [Bool.or_eq_true, rw3_iff]
    intro hh
    refine h (((s.get! i).toNat - 224) * 4096 + ((s.get! (i + 1)).toNat - 128) * 64 + ((s.get! (i + 2)).toNat - 128)) 3 (.inr (.inr (.inl ⟨rfl, ?_, ?_, ?_, ?_, ?_, ?_, ?_⟩))) <;> omega
  · rw [rw2_iff]
    intro hh
    refine h (((s.get! i).toNat - 192) * 64 + ((s.get! (i + 1)).toNat - 128)) 2 (.inr (.inl ⟨rfl, ?_, ?_, ?_, ?_, ?_⟩)) <;> omega

/-- what size answers: 0 of a broken byte -/
def szF (s : ByteArray) (i : Nat) : Int := if Utf8.decode s i = (65533, 1) then 0 else ((Utf8.decode s i).2 : Int)

theorem size_any (s : ByteArray) (i : Nat) (w : World) (hi : i < s.size) (hs : s.size ≤ 1048576) :
    Calls Tryd.prog 95 #[.string s, .int .i64 (i : Int)] w fun e0 w' => e0 = .returned (.int .i64 (szF s i)) ∧ w' = w := by
  have gen : 128 ≤ s[i].toNat → Calls Tryd.prog 95 #[.string s, .int .i64 (i : Int)] w fun e0 w' => e0 = .returned (.int .i64 (szR s i)) ∧ w' = w := fun h128 =>
    size_gen s i w _ _ _ _ _ _ _ _ hi (by omega) (by omega) (by omega) rfl rfl rfl rfl rfl rfl rfl rfl
  rcases decode_cases s i with ⟨hd, h128, hno⟩ | ⟨r, k, hd, he⟩
  · have e : szF s i = szR s i := by unfold szF; rw [if_pos hd, szR_none hno]
    rw [e]
    exact gen (by rw [← Pc.get_at s i hi]; exact h128)
  · have hne : ¬ (Utf8.decode s i = (65533, 1)) := by
      rw [hd]; intro e
      simp only [Prod.mk.injEq] at e
      obtain ⟨rfl, rfl⟩ := e
      rcases he with he | he | he | he <;> omega
    by_cases hk : k = 1
    · subst hk
      have e : szF s i = 1 := by unfold szF; rw [if_neg hne, hd]; rfl
      rw [e]
      refine size_one s i w hi ?_
      rw [← Pc.get_at s i hi]
      rcases he with he | he | he | he <;> omega
    · have hk2 : 2 ≤ k := by rcases he with he | he | he | he <;> omega
      have e : szF s i = szR s i := by unfold szF; rw [if_neg hne, hd, szR_enc he hk2]
      rw [e]
      refine gen ?_
      rw [← Pc.get_at s i hi]
      rcases he with he | he | he | he <;> omega

theorem value_any (s : ByteArray) (i r k : Nat) (w : World) (hi : i < s.size) (hs : s.size ≤ 1048576) (he : encAt s i r k) :
    Calls Tryd.prog 96 #[.string s, .int .i64 (i : Int), .int .i64 (k : Int)] w fun e w' => e = .returned (.int .i64 (r : Int)) ∧ ∃ n, w' = w.drewN n := by
  rcases he with h | h | h | h
  · obtain ⟨rfl, h1, h2⟩ := h
    refine (value_1 s i r w hi (by rw [← Pc.get_at s i hi]; exact h2)).mono ?_
    rintro e w' ⟨rfl, rfl⟩
    exact ⟨rfl, 0, rfl⟩
  · obtain ⟨rfl, h1, h2, h3, h4, h5⟩ := h
    exact value_2 s i r w (by omega) (by omega) (by rw [← Pc.get_at s i hi]; exact h4) (by rw [← Pc.get_at s (i + 1) (by omega)]; exact h5)
  · obtain ⟨rfl, h1, h2, h3, h4, h5, h6, h7⟩ := h
    exact value_3 s i r w (by omega) (by omega) (by rw [← Pc.get_at s i hi]; exact h5) (by rw [← Pc.get_at s (i + 1) (by omega)]; exact h6) (by rw [← Pc.get_at s (i + 2) (by omega)]; exact h7)
  · obtain ⟨rfl, h1, h2, h3, h4, h5, h6, h7⟩ := h
    exact value_4 s i r w (by omega) (by omega) (by rw [← Pc.get_at s i hi]; exact h4) (by rw [← Pc.get_at s (i + 1) (by omega)]; exact h5) (by rw [← Pc.get_at s (i + 2) (by omega)]; exact h6) (by rw [← Pc.get_at s (i + 3) (by omega)]; exact h7)
end Go.Proofs.YtckjededijgjgaaDoor.Rp
namespace Go.Proofs.YtckjededijgjgaaDoor.Rp
open Go.RowKit
open Go.Proofs.YtckjededijgjgaaDoor.Pc
set_option linter.unusedVariables false

theorem info97 : (Tryd.prog.info? 97).map (fun i => (i.zero, i.size, i.bytes)) = some (some (.agg #[.int .i64 0, .int .i64 0, .int .i64 0, .bool false]), 4, 32) := by kernel_rfl

/-- the reference's piece: four cells -/
def cellsR4 (x : P4) : List Value := [.int .i64 x.1, .int .i64 x.2.1, .int .i64 x.2.2.1, .bool x.2.2.2]
def cellsR (l : List P4) : List Value := l.flatMap cellsR4
theorem newR (W : World) (x : P4) (j : Nat) (u : Value) (h : (cellsR4 x)[j]? = some u) : (W.alloc (.cells #[.int .i64 x.1, .int .i64 x.2.1, .int .i64 x.2.2.1, .bool x.2.2.2] 97)).cell? ((⟨W.heap.size, 0, none⟩ : Addr).add j) = some u := by
  rw [Pc.addP, World.cell?_alloc_new, Nat.zero_add]
  simpa [cellsR4] using h
theorem oneR (x : P4) : ∀ u ∈ cellsR4 x, u.oneCell' = true := by
  intro u hu
  simp [cellsR4] at hu
  rcases hu with rfl | rfl | rfl | rfl <;> rfl
theorem cellsR_snoc (pre : List P4) (x : P4) : cellsR (pre ++ [x]) = cellsR pre ++ cellsR4 x := by simp [cellsR]

set_option maxRecDepth 100000 in
set_option maxHeartbeats 1000000 in
theorem refPieces_any (s : ByteArray) (hs : s.size ≤ 1048576) (w : World) :
    Calls Tryd.prog 56 #[.string s] w fun e W' => ∃ v, e = .returned v ∧ W'.ownsRow w.heap.size 97 4 v (pieces s).length (cellsR (pieces s)) ∧ Below w.heap.size w W' := by
  obtain ⟨i0, hi, hz0, hz1, hz2⟩ := info_parts info97
  go_enter Tryd.func56, Tryd.ntmps56
  go_wp2
  go_loopw [3, 4] (fun v i wr => ∃ (pos f : Nat) (pre : List P4), i = .int .i64 pos ∧ wr.ownsRow w.heap.size 97 4 v pre.length (cellsR pre) ∧ pieces s = pre ++ piecesFrom s f pos ∧ s.size ≤ pos + f ∧ pre.length ≤ pos ∧ pos ≤ s.size ∧ Below w.heap.size w wr)
    (fun _ i _ => s.size - (intOf i).toNat)
  case atStart => exact ⟨0, s.size, [], rfl, World.ownsRow_nil _ _ _ _, rfl, by omega, Nat.le_refl _, by omega, Below.refl _ _⟩
  case round =>
    obtain ⟨pos, f, pre, rfl, hrow, hx, hf, hl, hps, hB⟩ := hrel
    by_cases hp : pos < s.size
    · have hw := width_le s pos hp
      obtain ⟨f, rfl⟩ : ∃ f', f = f' + 1 := ⟨f - 1, by omega⟩
      have hstep : pieces s = (pre ++ [pcF s pos]) ++ piecesFrom s f (pos + (Utf8.decode s pos).2) := by rw [hx, piecesFrom, if_pos hp]; simp
      have hpI : (pos : Int) < (s.size : Int) := by omega
      have hsI : (pos : Int) ≤ 1048576 := by omega
      have hs8 := hide hs
      rcases pc_cases s pos hp with ⟨hw1, hpc, h128⟩ | ⟨r, k', hpc, hw1, he⟩
      · have hsz : szF s pos = 0 := by
          rcases decode_cases s pos with ⟨hd, _, _⟩ | ⟨r, k, hd, he⟩
          · unfold szF; rw [if_pos hd]
          · exfalso
            have : pcF s pos = ((r : Int), (pos : Int), (k : Int), false) := by
              unfold pcF; rw [if_neg, hd]
              rw [hd]; intro e
              simp only [Prod.mk.injEq] at e
              obtain ⟨rfl, rfl⟩ := e
              rcases he with he | he | he | he <;> omega
            rw [hpc] at this
            simp at this
        rw [hpc, hw1] at hstep
        have HX := hide hstep
        have HZ := hide hsz
        have hb2 : (s[pos].toNat : Int) ≤ 255 := by have := s[pos].toNat_lt; omega
        clear hstep hx hsz hpc hw hw1 h128 hs
        go_wp2_with fail
        refine (size_any s pos _ hp hs8).mono ?_
        rw [HZ.out]
        rintro e wz ⟨rfl, rfl⟩
        go_wp2_with (at_builtin; refine wpList_append_own _ rfl _ _ 93 rfl w.heap.size 97 i0 _ 4 32 Tryd.underlying93 hi hz0 hz1 hz2 rfl (by decide) _ _ _ rfl (hrow.alloc _) ⟨wz.heap.size, 0, none⟩ 1 1 (cellsR4 ((s[pos].toNat : Int), (pos : Int), 1, true)) rfl rfl (newR _ ((s[pos].toNat : Int), (pos : Int), 1, true)) (oneR ((s[pos].toNat : Int), (pos : Int), 1, true)) ?q1 ?q2 ?q3 ?_; rotate_left 3; intro v' w1 hown' hgrow _; obtain ⟨g', cap', rfl⟩ := ownsRow_succ hown')
        · have hb2 : Below w.heap.size w w1 := (hB.alloc hB.size _).grown hgrow (by have := hB.size; simp; omega) (fun j ej => by
            rcases hrow.2 with ⟨rfl, _⟩ | ⟨g, cap, cur, rfl, hgb, _⟩
            · cases ej
            · cases ej; exact hgb)
          exact ⟨⟨pos + 1, f, pre ++ [((s[pos].toNat : Int), (pos : Int), 1, true)], by go_num, by rw [cellsR_snoc, List.length_append]; exact hown', HX.out, by omega, by simp; omega, by omega, hb2⟩, by simp [intOf]; omega⟩
        · unfold maxLen; have := hs8.out; omega
        · have := hs8.out; omega
        · have := hB.size; simp; omega
      · have hsz : szF s pos = (k' : Int) := by
          rcases decode_cases s pos with ⟨hd, _, hno⟩ | ⟨r2, k2, hd, he2⟩
          · exact absurd he (hno _ _)
          · unfold szF
            rw [if_neg]
            · rw [hw1]
            · rw [hd]; intro e
              simp only [Prod.mk.injEq] at e
              obtain ⟨rfl, rfl⟩ := e
              rcases he2 with he2 | he2 | he2 | he2 <;> omega
        have hE := encAt_len he
        rw [hpc, hw1] at hstep
        rw [hw1] at hw
        have HX := hide hstep
        have HZ := hide hsz
        have hk0 : ((k' : Int) == 0) = false := beq_eq_false_iff_ne.2 (by omega)
        have hk4 : (k' : Int) ≤ 4 := by omega
        have HW := hide hw
        clear hstep hx hsz hpc hw hw1 hE hs
        go_wp2_with fail
        refine (size_any s pos _ hp hs8).mono ?_
        rw [HZ.out]
        rintro e wz ⟨rfl, rfl⟩
        go_wp2_with fail
        refine (value_any s pos r k' _ hp hs8 he).mono ?_
        rintro e wq ⟨rfl, nq, rfl⟩
        have hrowq : (wz.drewN nq).ownsRow w.heap.size 97 4 _ pre.length (cellsR pre) := hrow
        have hBq : Below w.heap.size w (wz.drewN nq) := below_drewN hB nq
        clear hB hrow
        generalize wz.drewN nq = wd at hrowq hBq ⊢
        go_wp2_with (at_builtin; refine wpList_append_own _ rfl _ _ 93 rfl w.heap.size 97 i0 _ 4 32 Tryd.underlying93 hi hz0 hz1 hz2 rfl (by decide) _ _ _ rfl (hrowq.alloc _) ⟨wd.heap.size, 0, none⟩ 1 1 (cellsR4 ((r : Int), (pos : Int), (k' : Int), false)) rfl rfl (newR _ ((r : Int), (pos : Int), (k' : Int), false)) (oneR ((r : Int), (pos : Int), (k' : Int), false)) ?p1 ?p2 ?p3 ?_; rotate_left 3; intro v' w1 hown' hgrow _; obtain ⟨g', cap', rfl⟩ := ownsRow_succ hown')
        · have hb2 : Below w.heap.size w w1 := (hBq.alloc hBq.size _).grown hgrow (by have := hBq.size; simp; omega) (fun j ej => by
            rcases hrowq.2 with ⟨rfl, _⟩ | ⟨g, cap, cur, rfl, hgb, _⟩
            · cases ej
            · cases ej; exact hgb)
          have := HW.out
          exact ⟨⟨pos + k', f, pre ++ [((r : Int), (pos : Int), (k' : Int), false)], by go_num, by rw [cellsR_snoc, List.length_append]; exact hown', HX.out, by omega, by simp; omega, by omega, hb2⟩, by simp [intOf]; omega⟩
        · unfold maxLen; have := hs8.out; omega
        · have := hs8.out; omega
        · have := hBq.size; simp; omega
    · rw [piecesFrom_end s f pos hp, List.append_nil] at hx
      have HX := hide hx
      clear hx
      go_wp2
      go_ret
      rw [HX.out]
      exact ⟨_, rfl, hrow, hB⟩
end Go.Proofs.YtckjededijgjgaaDoor.Rp
