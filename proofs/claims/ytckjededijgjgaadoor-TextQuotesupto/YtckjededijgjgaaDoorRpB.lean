import Derived.Test.YtckjededijgjgaaDoorRpA
namespace Go.Proofs.YtckjededijgjgaaDoor.Rp
open Go.RowKit
open Go.Proofs.YtckjededijgjgaaDoor.Pc
set_option linter.unusedVariables false

def szB (a b c d e f g h : Bool) : Int := if a then 2 else if b || c || d || e then 3 else if f || g || h then 4 else 0

set_option maxRecDepth 100000 in
set_option maxHeartbeats 4000000 in
theorem size_gen (s : ByteArray) (i : Nat) (w : World) (a b c d e f g h : Bool) (hi : i < s.size) (hs : s.size ≤ 140737488355328) (hi' : (i : Int) ≤ 140737488355000) (h128 : (128 : Int) ≤ (s[i].toNat : Int))
    (ha : Hid (rw3 s i 194 223 128 191 2 = a)) (hb : Hid (rw3 s i 224 224 160 191 3 = b)) (hc : Hid (rw3 s i 225 236 128 191 3 = c)) (hd : Hid (rw3 s i 237 237 128 159 3 = d)) (he : Hid (rw3 s i 238 239 128 191 3 = e)) (hf : Hid (rw3 s i 240 240 144 191 4 = f)) (hg : Hid (rw3 s i 241 243 128 191 4 = g)) (hh : Hid (rw3 s i 244 244 128 143 4 = h)) :
    Calls Tryd.prog 95 #[.string s, .int .i64 (i : Int)] w fun e0 w' => e0 = .returned (.int .i64 (szB a b c d e f g h)) ∧ w' = w := by
  have HS := hide hs
  have hb2 : (s[i].toNat : Int) ≤ 255 := by have := s[i].toNat_lt; omega
  have hI : (i : Int) < (s.size : Int) := by omega
  have hdec : decide ((s[i].toNat : Int) < 128) = false := by simp; omega
  clear hs h128
  cases a with
  | true =>
    go_enter Tryd.func95, Tryd.ntmps95
    go_wp2_with fail
    refine (row_is (lo := 194) (hi := 223) (lo2 := 128) (hi2 := 191) (n := 2) ha _ HS hi' (by omega) (by omega)).mono ?_
    rintro e0 w' ⟨rfl, rfl⟩
    go_wp2
    go_ret
    exact ⟨rfl, rfl⟩
  | false =>
    cases b with
    | true =>
      go_enter Tryd.func95, Tryd.ntmps95
      go_wp2_with fail
      refine (row_is (lo := 194) (hi := 223) (lo2 := 128) (hi2 := 191) (n := 2) ha _ HS hi' (by omega) (by omega)).mono ?_
      rintro e0 w' ⟨rfl, rfl⟩
      go_wp2_with fail
      refine (row_is (lo := 224) (hi := 224) (lo2 := 160) (hi2 := 191) (n := 3) hb _ HS hi' (by omega) (by omega)).mono ?_
      rintro e0 w' ⟨rfl, rfl⟩
      go_wp2_with fail
      refine (row_is (lo := 225) (hi := 236) (lo2 := 128) (hi2 := 191) (n := 3) hc _ HS hi' (by omega) (by omega)).mono ?_
      rintro e0 w' ⟨rfl, rfl⟩
      go_wp2_with fail
      refine (row_is (lo := 237) (hi := 237) (lo2 := 128) (hi2 := 159) (n := 3) hd _ HS hi' (by omega) (by omega)).mono ?_
      rintro e0 w' ⟨rfl, rfl⟩
      go_wp2_with fail
      refine (row_is (lo := 238) (hi := 239) (lo2 := 128) (hi2 := 191) (n := 3) he _ HS hi' (by omega) (by omega)).mono ?_
      rintro e0 w' ⟨rfl, rfl⟩
      go_wp2
      go_ret
      exact ⟨rfl, rfl⟩
    | false =>
      cases c with
      | true =>
        go_enter Tryd.func95, Tryd.ntmps95
        go_wp2_with fail
        refine (row_is (lo := 194) (hi := 223) (lo2 := 128) (hi2 := 191) (n := 2) ha _ HS hi' (by omega) (by omega)).mono ?_
        rintro e0 w' ⟨rfl, rfl⟩
        go_wp2_with fail
        refine (row_is (lo := 224) (hi := 224) (lo2 := 160) (hi2 := 191) (n := 3) hb _ HS hi' (by omega) (by omega)).mono ?_
        rintro e0 w' ⟨rfl, rfl⟩
        go_wp2_with fail
        refine (row_is (lo := 225) (hi := 236) (lo2 := 128) (hi2 := 191) (n := 3) hc _ HS hi' (by omega) (by omega)).mono ?_
        rintro e0 w' ⟨rfl, rfl⟩
        go_wp2_with fail
        refine (row_is (lo := 237) (hi := 237) (lo2 := 128) (hi2 := 159) (n := 3) hd _ HS hi' (by omega) (by omega)).mono ?_
        rintro e0 w' ⟨rfl, rfl⟩
        go_wp2_with fail
        refine (row_is (lo := 238) (hi := 239) (lo2 := 128) (hi2 := 191) (n := 3) he _ HS hi' (by omega) (by omega)).mono ?_
        rintro e0 w' ⟨rfl, rfl⟩
        go_wp2
        go_ret
        exact ⟨rfl, rfl⟩
      | false =>
        cases d with
        | true =>
          go_enter Tryd.func95, Tryd.ntmps95
          go_wp2_with fail
          refine (row_is (lo := 194) (hi := 223) (lo2 := 128) (hi2 := 191) (n := 2) ha _ HS hi' (by omega) (by omega)).mono ?_
          rintro e0 w' ⟨rfl, rfl⟩
          go_wp2_with fail
          refine (row_is (lo := 224) (hi := 224) (lo2 := 160) (hi2 := 191) (n := 3) hb _ HS hi' (by omega) (by omega)).mono ?_
          rintro e0 w' ⟨rfl, rfl⟩
          go_wp2_with fail
          refine (row_is (lo := 225) (hi := 236) (lo2 := 128) (hi2 := 191) (n := 3) hc _ HS hi' (by omega) (by omega)).mono ?_
          rintro e0 w' ⟨rfl, rfl⟩
          go_wp2_with fail
          refine (row_is (lo := 237) (hi := 237) (lo2 := 128) (hi2 := 159) (n := 3) hd _ HS hi' (by omega) (by omega)).mono ?_
          rintro e0 w' ⟨rfl, rfl⟩
          go_wp2_with fail
          refine (row_is (lo := 238) (hi := 239) (lo2 := 128) (hi2 := 191) (n := 3) he _ HS hi' (by omega) (by omega)).mono ?_
          rintro e0 w' ⟨rfl, rfl⟩
          go_wp2
          go_ret
          exact ⟨rfl, rfl⟩
        | false =>
          cases e with
          | true =>
            go_enter Tryd.func95, Tryd.ntmps95
            go_wp2_with fail
            refine (row_is (lo := 194) (hi := 223) (lo2 := 128) (hi2 := 191) (n := 2) ha _ HS hi' (by omega) (by omega)).mono ?_
            rintro e0 w' ⟨rfl, rfl⟩
            go_wp2_with fail
            refine (row_is (lo := 224) (hi := 224) (lo2 := 160) (hi2 := 191) (n := 3) hb _ HS hi' (by omega) (by omega)).mono ?_
            rintro e0 w' ⟨rfl, rfl⟩
            go_wp2_with fail
            refine (row_is (lo := 225) (hi := 236) (lo2 := 128) (hi2 := 191) (n := 3) hc _ HS hi' (by omega) (by omega)).mono ?_
            rintro e0 w' ⟨rfl, rfl⟩
            go_wp2_with fail
            refine (row_is (lo := 237) (hi := 237) (lo2 := 128) (hi2 := 159) (n := 3) hd _ HS hi' (by omega) (by omega)).mono ?_
            rintro e0 w' ⟨rfl, rfl⟩
            go_wp2_with fail
            refine (row_is (lo := 238) (hi := 239) (lo2 := 128) (hi2 := 191) (n := 3) he _ HS hi' (by omega) (by omega)).mono ?_
            rintro e0 w' ⟨rfl, rfl⟩
            go_wp2
            go_ret
            exact ⟨rfl, rfl⟩
          | false =>
            cases f with
            | true =>
              go_enter Tryd.func95, Tryd.ntmps95
              go_wp2_with fail
              refine (row_is (lo := 194) (hi := 223) (lo2 := 128) (hi2 := 191) (n := 2) ha _ HS hi' (by omega) (by omega)).mono ?_
              rintro e0 w' ⟨rfl, rfl⟩
              go_wp2_with fail
              refine (row_is (lo := 224) (hi := 224) (lo2 := 160) (hi2 := 191) (n := 3) hb _ HS hi' (by omega) (by omega)).mono ?_
              rintro e0 w' ⟨rfl, rfl⟩
              go_wp2_with fail
              refine (row_is (lo := 225) (hi := 236) (lo2 := 128) (hi2 := 191) (n := 3) hc _ HS hi' (by omega) (by omega)).mono ?_
              rintro e0 w' ⟨rfl, rfl⟩
              go_wp2_with fail
              refine (row_is (lo := 237) (hi := 237) (lo2 := 128) (hi2 := 159) (n := 3) hd _ HS hi' (by omega) (by omega)).mono ?_
              rintro e0 w' ⟨rfl, rfl⟩
              go_wp2_with fail
              refine (row_is (lo := 238) (hi := 239) (lo2 := 128) (hi2 := 191) (n := 3) he _ HS hi' (by omega) (by omega)).mono ?_
              rintro e0 w' ⟨rfl, rfl⟩
              go_wp2_with fail
              refine (row_is (lo := 240) (hi := 240) (lo2 := 144) (hi2 := 191) (n := 4) hf _ HS hi' (by omega) (by omega)).mono ?_
              rintro e0 w' ⟨rfl, rfl⟩
              go_wp2_with fail
              refine (row_is (lo := 241) (hi := 243) (lo2 := 128) (hi2 := 191) (n := 4) hg _ HS hi' (by omega) (by omega)).mono ?_
              rintro e0 w' ⟨rfl, rfl⟩
              go_wp2_with fail
              refine (row_is (lo := 244) (hi := 244) (lo2 := 128) (hi2 := 143) (n := 4) hh _ HS hi' (by omega) (by omega)).mono ?_
              rintro e0 w' ⟨rfl, rfl⟩
              go_wp2
              go_ret
              exact ⟨rfl, rfl⟩
            | false =>
              cases g with
              | true =>
                go_enter Tryd.func95, Tryd.ntmps95
                go_wp2_with fail
                refine (row_is (lo := 194) (hi := 223) (lo2 := 128) (hi2 := 191) (n := 2) ha _ HS hi' (by omega) (by omega)).mono ?_
                rintro e0 w' ⟨rfl, rfl⟩
                go_wp2_with fail
                refine (row_is (lo := 224) (hi := 224) (lo2 := 160) (hi2 := 191) (n := 3) hb _ HS hi' (by omega) (by omega)).mono ?_
                rintro e0 w' ⟨rfl, rfl⟩
                go_wp2_with fail
                refine (row_is (lo := 225) (hi := 236) (lo2 := 128) (hi2 := 191) (n := 3) hc _ HS hi' (by omega) (by omega)).mono ?_
                rintro e0 w' ⟨rfl, rfl⟩
                go_wp2_with fail
                refine (row_is (lo := 237) (hi := 237) (lo2 := 128) (hi2 := 159) (n := 3) hd _ HS hi' (by omega) (by omega)).mono ?_
                rintro e0 w' ⟨rfl, rfl⟩
                go_wp2_with fail
                refine (row_is (lo := 238) (hi := 239) (lo2 := 128) (hi2 := 191) (n := 3) he _ HS hi' (by omega) (by omega)).mono ?_
                rintro e0 w' ⟨rfl, rfl⟩
                go_wp2_with fail
                refine (row_is (lo := 240) (hi := 240) (lo2 := 144) (hi2 := 191) (n := 4) hf _ HS hi' (by omega) (by omega)).mono ?_
                rintro e0 w' ⟨rfl, rfl⟩
                go_wp2_with fail
                refine (row_is (lo := 241) (hi := 243) (lo2 := 128) (hi2 := 191) (n := 4) hg _ HS hi' (by omega) (by omega)).mono ?_
                rintro e0 w' ⟨rfl, rfl⟩
                go_wp2_with fail
                refine (row_is (lo := 244) (hi := 244) (lo2 := 128) (hi2 := 143) (n := 4) hh _ HS hi' (by omega) (by omega)).mono ?_
                rintro e0 w' ⟨rfl, rfl⟩
                go_wp2
                go_ret
                exact ⟨rfl, rfl⟩
              | false =>
                cases h with
                | true =>
                  go_enter Tryd.func95, Tryd.ntmps95
                  go_wp2_with fail
                  refine (row_is (lo := 194) (hi := 223) (lo2 := 128) (hi2 := 191) (n := 2) ha _ HS hi' (by omega) (by omega)).mono ?_
                  rintro e0 w' ⟨rfl, rfl⟩
                  go_wp2_with fail
                  refine (row_is (lo := 224) (hi := 224) (lo2 := 160) (hi2 := 191) (n := 3) hb _ HS hi' (by omega) (by omega)).mono ?_
                  rintro e0 w' ⟨rfl, rfl⟩
                  go_wp2_with fail
                  refine (row_is (lo := 225) (hi := 236) (lo2 := 128) (hi2 := 191) (n := 3) hc _ HS hi' (by omega) (by omega)).mono ?_
                  rintro e0 w' ⟨rfl, rfl⟩
                  go_wp2_with fail
                  refine (row_is (lo := 237) (hi := 237) (lo2 := 128) (hi2 := 159) (n := 3) hd _ HS hi' (by omega) (by omega)).mono ?_
                  rintro e0 w' ⟨rfl, rfl⟩
                  go_wp2_with fail
                  refine (row_is (lo := 238) (hi := 239) (lo2 := 128) (hi2 := 191) (n := 3) he _ HS hi' (by omega) (by omega)).mono ?_
                  rintro e0 w' ⟨rfl, rfl⟩
                  go_wp2_with fail
                  refine (row_is (lo := 240) (hi := 240) (lo2 := 144) (hi2 := 191) (n := 4) hf _ HS hi' (by omega) (by omega)).mono ?_
                  rintro e0 w' ⟨rfl, rfl⟩
                  go_wp2_with fail
                  refine (row_is (lo := 241) (hi := 243) (lo2 := 128) (hi2 := 191) (n := 4) hg _ HS hi' (by omega) (by omega)).mono ?_
                  rintro e0 w' ⟨rfl, rfl⟩
                  go_wp2_with fail
                  refine (row_is (lo := 244) (hi := 244) (lo2 := 128) (hi2 := 143) (n := 4) hh _ HS hi' (by omega) (by omega)).mono ?_
                  rintro e0 w' ⟨rfl, rfl⟩
                  go_wp2
                  go_ret
                  exact ⟨rfl, rfl⟩
                | false =>
                  go_enter Tryd.func95, Tryd.ntmps95
                  go_wp2_with fail
                  refine (row_is (lo := 194) (hi := 223) (lo2 := 128) (hi2 := 191) (n := 2) ha _ HS hi' (by omega) (by omega)).mono ?_
                  rintro e0 w' ⟨rfl, rfl⟩
                  go_wp2_with fail
                  refine (row_is (lo := 224) (hi := 224) (lo2 := 160) (hi2 := 191) (n := 3) hb _ HS hi' (by omega) (by omega)).mono ?_
                  rintro e0 w' ⟨rfl, rfl⟩
                  go_wp2_with fail
                  refine (row_is (lo := 225) (hi := 236) (lo2 := 128) (hi2 := 191) (n := 3) hc _ HS hi' (by omega) (by omega)).mono ?_
                  rintro e0 w' ⟨rfl, rfl⟩
                  go_wp2_with fail
                  refine (row_is (lo := 237) (hi := 237) (lo2 := 128) (hi2 := 159) (n := 3) hd _ HS hi' (by omega) (by omega)).mono ?_
                  rintro e0 w' ⟨rfl, rfl⟩
                  go_wp2_with fail
                  refine (row_is (lo := 238) (hi := 239) (lo2 := 128) (hi2 := 191) (n := 3) he _ HS hi' (by omega) (by omega)).mono ?_
                  rintro e0 w' ⟨rfl, rfl⟩
                  go_wp2_with fail
                  refine (row_is (lo := 240) (hi := 240) (lo2 := 144) (hi2 := 191) (n := 4) hf _ HS hi' (by omega) (by omega)).mono ?_
                  rintro e0 w' ⟨rfl, rfl⟩
                  go_wp2_with fail
                  refine (row_is (lo := 241) (hi := 243) (lo2 := 128) (hi2 := 191) (n := 4) hg _ HS hi' (by omega) (by omega)).mono ?_
                  rintro e0 w' ⟨rfl, rfl⟩
                  go_wp2_with fail
                  refine (row_is (lo := 244) (hi := 244) (lo2 := 128) (hi2 := 143) (n := 4) hh _ HS hi' (by omega) (by omega)).mono ?_
                  rintro e0 w' ⟨rfl, rfl⟩
                  go_wp2
                  go_ret
                  exact ⟨rfl, rfl⟩

set_option maxHeartbeats 400000 in
theorem size_one (s : ByteArray) (i : Nat) (w : World) (hi : i < s.size) (h128 : (s[i].toNat : Int) < 128) :
    Calls Tryd.prog 95 #[.string s, .int .i64 (i : Int)] w fun e0 w' => e0 = .returned (.int .i64 1) ∧ w' = w := by
  have hI : (i : Int) < (s.size : Int) := by omega
  go_enter Tryd.func95, Tryd.ntmps95
  go_wp2
  go_ret
  exact ⟨rfl, rfl⟩
end Go.Proofs.YtckjededijgjgaaDoor.Rp
