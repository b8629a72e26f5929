import Derived.Test.YtffcnonhhfhlhaaDoorKpA
import Derived.Lib.ItoaNum
import Derived.Laws.Concat
namespace Go.Proofs.YtffcnonhhfhlhaaDoor.Rg
open Go.RowKit
set_option linter.unusedVariables false

theorem dec_big {n : Nat} (h : ¬ n < 10) : Lib.decDigits n = Lib.decDigits (n / 10) ++ [UInt8.ofNat (48 + n % 10)] := by
  rw [Lib.decDigits, dif_neg h]
theorem dec_len (n : Nat) (h : n < 18446744073709551616) : (Lib.decDigits n).length ≤ 20 := by
  have key : ∀ k m : Nat, m < 10 ^ k → 1 ≤ k → (Lib.decDigits m).length ≤ k := by
    intro k
    induction k with
    | zero => intro m _ h; omega
    | succ k ih =>
      intro m hm _
      by_cases h1 : m < 10
      · rw [Lib.decDigits_one h1]; simp
      · rw [dec_big h1, List.length_append]
        have hk : 1 ≤ k := by
          rcases Nat.eq_zero_or_pos k with rfl | h
          · simp at hm; omega
          · exact h
        have := ih (m / 10) (by rw [Nat.pow_succ] at hm; omega) hk
        simp; omega
  exact key 20 n (by omega) (by omega)
theorem dec_pos (n : Nat) : 0 < (Lib.decDigits n).length := by
  by_cases h : n < 10
  · rw [Lib.decDigits_one h]; simp
  · rw [dec_big h]; simp

theorem one_back (W : World) (c : UInt8) : (convert 100 9 (.slice (some ⟨W.heap.size, 0, none⟩) 1 1)).run Tryd.prog (W.alloc (.cells #[.int .u8 (c.toNat : Int)] 5)) = .ok (.string ⟨[c].toArray⟩) (W.alloc (.cells #[.int .u8 (c.toNat : Int)] 5)) := by
  refine run_convert_bytes_back _ 100 9 5 ⟨W.heap.size, 0, none⟩ 1 [c] Tryd.underlying100 Tryd.underlying5 Tryd.underlying9 (fun j hj => ?_)
  have : j = 0 := by simpa using hj
  subst this
  show World.cell? _ ⟨W.heap.size, 0, none⟩ = _
  rw [World.cell?_alloc_new]
  simp

theorem u8_dig (M : Int) (h0 : 0 ≤ M) (h1 : M < 10) : IntKind.u8.wrap (48 + M) = ((UInt8.ofNat (48 + M.toNat)).toNat : Int) := by
  rw [IntKind.wrap_u8]
  simp
  omega

set_option maxRecDepth 100000 in
set_option maxHeartbeats 1000000 in
theorem refDigits_any (n : Int) (h0 : 0 ≤ n) (h1 : n < 18446744073709551616) (w : World) :
    Calls Tryd.prog 71 #[.int .u64 n] w fun e w' => e = .returned (.string ⟨(Lib.decDigits n.toNat).toArray⟩) ∧ Kp Nu w w' := by
  have mixed : Tryd.prog.follows .mixedOrders = true := by kernel_rfl
  have HLn := hide (dec_len n.toNat (by omega))
  go_enter Tryd.func71, Tryd.ntmps71
  go_wp2_with fail
  go_loopw [0, 3] (fun nv sv wr => ∃ (M : Int) (acc : List UInt8), nv = .int .u64 M ∧ sv = .string ⟨acc.toArray⟩ ∧ 0 ≤ M ∧ M < 18446744073709551616 ∧ Hid (Lib.decDigits n.toNat = Lib.decDigits M.toNat ++ acc) ∧ Hid (Kp Nu w wr)) (fun nv _ _ => (intOf nv).toNat)
  case atStart => exact ⟨n, [], rfl, rfl, h0, h1, by simp [Hid], Kp.refl _ _⟩
  case round =>
    obtain ⟨M, acc, rfl, rfl, hm0, hm1, HS, HK⟩ := hrel
    have hal : acc.length ≤ 20 := by have h2 := HS.out; have h3 := HLn.out; rw [h2, List.length_append] at h3; omega
    have hsz : ByteArray.size ⟨acc.toArray⟩ = acc.length := by simp [ByteArray.size]
    by_cases hM : 9 < M
    · obtain ⟨c, hc⟩ : ∃ c, c = UInt8.ofNat (48 + M.toNat % 10) := ⟨_, rfl⟩
      have hcI : IntKind.u8.wrap (48 + M % 10) = (c.toNat : Int) := by
        rw [hc, u8_dig (M % 10) (by omega) (by omega)]; congr 3; omega
      have HN : Hid (Lib.decDigits n.toNat = Lib.decDigits (M / 10).toNat ++ (c :: acc)) := by
        show Lib.decDigits n.toNat = _
        rw [HS.out, dec_big (show ¬ M.toNat < 10 by omega), hc, show (M / 10).toNat = M.toNat / 10 by omega]; simp
      have OB := one_back wr.drew c
      have OB2 := one_back wr c
      have KW := hide (HK.out.andAlloc (.cells #[.int .u8 (c.toNat : Int)] 5))
      have hm10 : M % 10 < 10 := by omega
      have hm11 : 0 ≤ M % 10 := by omega
      have hcat : (ByteArray.mk [c].toArray ++ ByteArray.mk acc.toArray) = ByteArray.mk (c :: acc).toArray := ByteArray.mk_append_mk [c] acc
      have hsz1 : ByteArray.size ⟨[c].toArray⟩ = 1 := rfl
      clear HS hc
      go_wp2
      go_roundw
      case rel => exact ⟨M / 10, c :: acc, by go_num, rfl, by omega, by omega, HN, KW⟩
      case measure => simp [intOf]; omega
    · obtain ⟨c, hc⟩ : ∃ c, c = UInt8.ofNat (48 + M.toNat) := ⟨_, rfl⟩
      have hcI : IntKind.u8.wrap (48 + M) = (c.toNat : Int) := by
        rw [hc, u8_dig M (by omega) (by omega)]
      have HN : Hid (Lib.decDigits n.toNat = c :: acc) := by
        show Lib.decDigits n.toNat = _
        rw [HS.out, Lib.decDigits_one (show M.toNat < 10 by omega), hc]; simp
      have OB := one_back wr.drew c
      have OB2 := one_back wr c
      have KW := hide (HK.out.andAlloc (.cells #[.int .u8 (c.toNat : Int)] 5))
      have hcat : (ByteArray.mk [c].toArray ++ ByteArray.mk acc.toArray) = ByteArray.mk (c :: acc).toArray := ByteArray.mk_append_mk [c] acc
      have hsz1 : ByteArray.size ⟨[c].toArray⟩ = 1 := rfl
      clear HS hc
      go_wp2
      go_ret
      rw [HN.out]
      exact ⟨rfl, KW.out⟩
end Go.Proofs.YtffcnonhhfhlhaaDoor.Rg
