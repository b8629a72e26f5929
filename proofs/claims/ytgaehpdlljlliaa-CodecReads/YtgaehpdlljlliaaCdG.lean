import Derived.Test.YtgaehpdlljlliaaCdF
namespace Go.Proofs.Ytgaehpdlljlliaa.Cd
open Go.RowKit
set_option linter.unusedVariables false

def Byt (xs : List Int) : Prop := ∀ z ∈ xs, 0 ≤ z ∧ z ≤ 255
theorem Byt.take {xs : List Int} (h : Byt xs) (n : Nat) : Byt (xs.take n) := fun z hz => h z (List.mem_of_mem_take hz)
theorem Byt.drop {xs : List Int} (h : Byt xs) (n : Nat) : Byt (xs.drop n) := fun z hz => h z (List.mem_of_mem_drop hz)
theorem Byt.append {xs ys : List Int} (h : Byt xs) (k : Byt ys) : Byt (xs ++ ys) := fun z hz => by
  rcases List.mem_append.1 hz with hz | hz
  · exact h z hz
  · exact k z hz

/-- the number that bytes are, going on from a -/
def numF (a : Int) : List Int → Int
  | [] => a
  | c :: r => numF (a * 256 + c) r

theorem orByte (x c : Int) (h0 : 0 ≤ x) (h1 : x < 72057594037927936) (c0 : 0 ≤ c) (c1 : c ≤ 255) : bits .or .u64 (x * 256) c = x * 256 + c := by
  rw [u64_or (x * 256) c (by omega) (by omega) c0 (by omega)]
  have : (x * 256).toNat ||| c.toNat = x.toNat * 256 + c.toNat := by
    have e1 : (x * 256).toNat = x.toNat <<< 8 := by rw [Nat.shiftLeft_eq]; omega
    rw [e1, ← Nat.shiftLeft_add_eq_or_of_lt (by omega), Nat.shiftLeft_eq]
  rw [this]
  omega

theorem getNumber_any (w : World) (v : Value) (xs : List Int) (h : Rd w v xs) (hb : Byt xs) (hl : xs.length ≤ 8) :
    Calls Try.prog 74 #[v] w fun e w' => e = .returned (.int .u64 (numF 0 xs)) ∧ w' = w := by
  rcases h with ⟨rfl, rfl⟩ | ⟨a, cap, rfl, hc⟩
  · go_enter Try.func74, Try.ntmps74
    go_wp2
    go_loop [3, 8] (fun x i => x = .int .u64 0 ∧ i = .int .i64 0) (fun _ _ => 0)
    case atStart => exact ⟨rfl, rfl⟩
    case round =>
      obtain ⟨rfl, rfl⟩ := hrel
      go_wp2
      go_ret
      exact ⟨rfl, rfl⟩
  · have HC := hide hc
    have HB := hide hb
    clear hc hb
    go_enter Try.func74, Try.ntmps74
    go_wp2
    go_loop [3, 8] (fun x i => ∃ (k : Nat) (y : Int), k ≤ xs.length ∧ x = .int .u64 y ∧ i = .int .i64 (k : Int) ∧ 0 ≤ y ∧ Hid (y < 256 ^ k ∧ numF y (xs.drop k) = numF 0 xs)) (fun _ i => xs.length - (intOf i).toNat)
    case atStart => exact ⟨0, 0, Nat.zero_le _, rfl, rfl, by omega, by simp [Hid]⟩
    case round =>
      obtain ⟨k, y, hk, rfl, rfl, hy, hH⟩ := hrel
      by_cases hlt : k < xs.length
      · have hcell := HC.out k (.int .u8 xs[k]) (by simp [cs, hlt])
        obtain ⟨z0, z1⟩ := HB.out xs[k] (List.getElem_mem hlt)
        have hstep : numF (y * 256 + xs[k]) (xs.drop (k + 1)) = numF 0 xs := by
          rw [← hH.out.2, List.drop_eq_getElem_cons hlt]
          rfl
        have hp : y * 256 + xs[k] < 256 ^ (k + 1) := by
          have := hH.out.1
          rw [Int.pow_succ]
          omega
        have hy7 : y < 72057594037927936 := by
          have h7 : k ≤ 7 := by omega
          have h1 := hH.out.1
          have h2 : (256 : Nat) ^ k ≤ 256 ^ 7 := Nat.pow_le_pow_right (by omega) h7
          have h3 : (256 : Int) ^ k = ((256 ^ k : Nat) : Int) := by simp
          rw [h3] at h1
          have h4 : (256 : Nat) ^ 7 = 72057594037927936 := by decide
          omega
        have hor := orByte y xs[k] hy hy7 z0 z1
        have HS := hide hstep
        have HP := hide hp
        clear hstep hp hH
        generalize xs[k] = z at *
        have hltI : (k : Int) < (xs.length : Int) := by omega
        go_wp2
        exact ⟨⟨k + 1, y * 256 + z, by omega, rfl, by go_num, by omega, HP.out, HS.out⟩, by simp [intOf]; omega⟩
      · have hke : k = xs.length := by omega
        subst hke
        have e := hH.out.2
        rw [List.drop_length] at e
        have HE := hide e
        clear e hH
        go_wp2
        go_ret
        rw [← HE.out]
        exact ⟨rfl, rfl⟩

/-- the varint at the beginning of bytes: number, length, error -/
def gv (i : Nat) (x : Int) : List Int → Int × Int × Int
  | [] => (0, 0, 21)
  | c :: r =>
    if i = 9 ∧ c > 1 then (0, 0, 23) else
    if c ≥ 128 then gv (i + 1) (x + c % 128 * 128 ^ i) r else
    if c = 0 ∧ 0 < i then (0, 0, 22) else (x + c % 128 * 128 ^ i, (i : Int) + 1, 0)

theorem orGroup (y z : Int) (k : Nat) (h0 : 0 ≤ y) (h1 : y < 128 ^ k) (z0 : 0 ≤ z) (hb : z * 128 ^ k + y < 18446744073709551616) : bits .or .u64 y (z * 128 ^ k) = y + z * 128 ^ k := by
  have hp : (128 : Int) ^ k = ((128 ^ k : Nat) : Int) := by simp
  have hz : 0 ≤ z * 128 ^ k := Int.mul_nonneg z0 (by rw [hp]; omega)
  rw [u64_or y (z * 128 ^ k) h0 (by omega) hz (by omega)]
  have e1 : (z * 128 ^ k).toNat = z.toNat <<< (7 * k) := by
    rw [Nat.shiftLeft_eq, Nat.pow_mul, hp]
    obtain ⟨n, rfl⟩ := Int.eq_ofNat_of_zero_le z0
    rw [← Int.natCast_mul, Int.toNat_natCast, Int.toNat_natCast]
  have e2 : y.toNat < 2 ^ (7 * k) := by
    rw [Nat.pow_mul]
    rw [hp] at h1
    have : (2 : Nat) ^ 7 = 128 := by decide
    rw [this]
    omega
  rw [e1, Nat.or_comm, ← Nat.shiftLeft_add_eq_or_of_lt e2, ← e1]
  omega

theorem drop_cons {xs : List Int} {k : Nat} (h : k < xs.length) : xs.drop k = xs[k] :: xs.drop (k + 1) := List.drop_eq_getElem_cons h

set_option maxHeartbeats 1000000 in
theorem getVarint_any (w : World) (v : Value) (xs : List Int) (g : Nat) (h : Win w g v xs) (hb : Byt xs) :
    Calls Try.prog 76 #[v] w fun e w' => e = .returned (.tuple #[.int .u64 (gv 0 0 xs).1, .int .i64 (gv 0 0 xs).2.1, .int .i64 (gv 0 0 xs).2.2]) ∧ w' = w := by
  obtain ⟨off, cap, rfl, hlc, hcb, hc⟩ := h.is
  have HC := hide hc
  have HB := hide hb
  have HQ := hide hcb
  clear hc hb hcb hlc h
  go_enter Try.func76, Try.ntmps76
  go_wp2
  go_loop [5, 10] (fun x i => ∃ (k : Nat) (y : Int), k ≤ xs.length ∧ k ≤ 9 ∧ x = .int .u64 y ∧ i = .int .i64 (k : Int) ∧ 0 ≤ y ∧ Hid (y < 128 ^ k ∧ gv k y (xs.drop k) = gv 0 0 xs)) (fun _ i => xs.length - (intOf i).toNat)
  case atStart => exact ⟨0, 0, Nat.zero_le _, by omega, rfl, rfl, by omega, by simp [Hid]⟩
  case round =>
    obtain ⟨k, y, hk, hk9, rfl, rfl, hy, hH⟩ := hrel
    by_cases hlt : k < xs.length
    · have hcell := HC.out k (.int .u8 xs[k]) (by simp [cs, hlt])
      rw [addo] at hcell
      obtain ⟨z0, z1⟩ := HB.out xs[k] (List.getElem_mem hlt)
      have hltI : (k : Int) < (xs.length : Int) := by omega
      have hk9I : (k : Int) ≤ 9 := by omega
      have hg := hH.out.2
      have hy1 := hH.out.1
      rw [drop_cons hlt] at hg
      generalize xs[k] = z at *
      clear hH
      by_cases h9 : k = 9
      · subst h9
        have hy9 : y < 9223372036854775808 := by
          have : (128 : Int) ^ 9 = 9223372036854775808 := by decide
          omega
        by_cases hz1 : z > 1
        · have e : gv 9 y (z :: xs.drop (9 + 1)) = (0, 0, 23) := by rw [gv, if_pos ⟨rfl, hz1⟩]
          rw [e] at hg
          have HE := hide hg
          clear hg e hy1
          go_wp2
          go_ret3
          rw [← HE.out]
          exact ⟨rfl, rfl⟩
        · by_cases hz0 : z = 0
          · subst hz0
            have e : gv 9 y (0 :: xs.drop (9 + 1)) = (0, 0, 22) := by
              rw [gv, if_neg (by omega), if_neg (by omega), if_pos (by omega)]
            rw [e] at hg
            have HE := hide hg
            clear hg e hy1
            go_wp2
            go_ret3
            rw [← HE.out]
            exact ⟨rfl, rfl⟩
          · have hz1 : z = 1 := by omega
            subst hz1
            have e : gv 9 y (1 :: xs.drop (9 + 1)) = (y + 9223372036854775808, 10, 0) := by
              rw [gv, if_neg (by omega), if_neg (by omega), if_neg (by omega)]
              simp
            rw [e] at hg
            have hor : bits .or .u64 y 9223372036854775808 = y + 9223372036854775808 := by
              have h7 : (128 : Int) ^ 9 = 9223372036854775808 := by decide
              have := orGroup y 1 9 hy hy1 (by omega) (by rw [h7]; omega)
              rw [h7] at this
              simpa using this
            have HE := hide hg
            clear hg e hy1
            go_wp2
            go_ret3
            rw [← HE.out]
            exact ⟨rfl, rfl⟩
      · have hk8 : k ≤ 8 := by omega
        have hp : (128 : Int) ^ k ≤ 72057594037927936 := by
          have h2 : (128 : Nat) ^ k ≤ 128 ^ 8 := Nat.pow_le_pow_right (by omega) hk8
          have h3 : (128 : Int) ^ k = ((128 ^ k : Nat) : Int) := by simp
          have h4 : (128 : Nat) ^ 8 = 72057594037927936 := by decide
          omega
        have hp0 : (0 : Int) < 128 ^ k := by
          have h3 : (128 : Int) ^ k = ((128 ^ k : Nat) : Int) := by simp
          have := Nat.pow_pos (n := k) (show 0 < 128 by omega)
          omega
        have hm : z % 128 * 128 ^ k ≤ 127 * 128 ^ k := Int.mul_le_mul_of_nonneg_right (by omega) (by omega)
        have hm0 : 0 ≤ z % 128 * 128 ^ k := Int.mul_nonneg (by omega) (by omega)
        have hor : bits .or .u64 y (IntKind.u64.wrap (z % 128 * 2 ^ (7 * k))) = y + z % 128 * 128 ^ k := by
          rw [show (2 : Int) ^ (7 * k) = 128 ^ k by rw [Int.pow_mul]; rfl, IntKind.wrap_u64, Int.emod_eq_of_lt hm0 (by omega)]
          exact orGroup y (z % 128) k hy hy1 (by omega) (by omega)
        have hnx : y + z % 128 * 128 ^ k < 128 ^ (k + 1) := by rw [Int.pow_succ]; omega
        have hny : 0 ≤ y + z % 128 * 128 ^ k := by omega
        have h9I : ((k : Int) == 9) = false := by simp; omega
        by_cases hz128 : z ≥ 128
        · have e : gv k y (z :: xs.drop (k + 1)) = gv (k + 1) (y + z % 128 * 128 ^ k) (xs.drop (k + 1)) := by
            rw [gv, if_neg (by omega), if_pos hz128]
          rw [e] at hg
          have HE := hide hg
          have HX := hide hnx
          clear hg e hy1 hp hp0 hm hm0 hnx
          generalize y + z % 128 * 128 ^ k = y' at *
          go_wp2
          exact ⟨⟨k + 1, y', by omega, by omega, rfl, by go_num, hny, HX.out, HE.out⟩, by simp [intOf]; omega⟩
        · by_cases hz0 : z = 0 ∧ 0 < k
          · have e : gv k y (z :: xs.drop (k + 1)) = (0, 0, 22) := by
              rw [gv, if_neg (by omega), if_neg hz128, if_pos hz0]
            rw [e] at hg
            have HE := hide hg
            obtain ⟨hz0, hk0⟩ := hz0
            have hk0I : (k : Int) > 0 := by omega
            subst hz0
            clear hg e hy1 hp hp0 hm hm0 hnx
            go_wp2
            go_ret3
            rw [← HE.out]
            exact ⟨rfl, rfl⟩
          · by_cases hzz : z = 0
            · have hk0 : k = 0 := by omega
              subst hzz hk0
              have hy0 : y = 0 := by simp at hy1; omega
              subst hy0
              have e : gv 0 0 (0 :: xs.drop (0 + 1)) = (0, 1, 0) := by
                rw [gv, if_neg (by omega), if_neg (by omega), if_neg (by omega)]
                rfl
              rw [e] at hg
              have HE := hide hg
              have ho : bits .or .u64 0 0 = 0 := by decide
              have hcell0 : w.cell? ⟨g, off, none⟩ = some (.int .u8 0) := hcell
              clear hg e hy1 hp hp0 hm hm0 hnx hor hny
              go_wp2
              go_ret3
              rw [← HE.out]
              exact ⟨rfl, rfl⟩
            · have hzb : (z == 0) = false := by simpa using hzz
              have e : gv k y (z :: xs.drop (k + 1)) = (y + z % 128 * 128 ^ k, (k : Int) + 1, 0) := by
                rw [gv, if_neg (by omega), if_neg hz128, if_neg hz0]
              rw [e] at hg
              have HE := hide hg
              clear hg e hy1 hp hp0 hm hm0 hnx
              generalize y + z % 128 * 128 ^ k = y' at *
              go_wp2
              go_ret3
              rw [← HE.out]
              exact ⟨rfl, rfl⟩
    · have hke : k = xs.length := by omega
      subst hke
      have e := hH.out.2
      rw [List.drop_length] at e
      have HE := hide e
      clear e hH
      go_wp2
      go_ret3
      rw [← HE.out]
      exact ⟨rfl, rfl⟩
end Go.Proofs.Ytgaehpdlljlliaa.Cd
