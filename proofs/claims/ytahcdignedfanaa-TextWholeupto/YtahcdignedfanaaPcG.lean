import Derived.Test.YtahcdignedfanaaPcF
import Derived.RegionTactic
import Derived.ChangeAlike
import Derived.BigQuiet
import Derived.Deep.QuietTactic
import Derived.WideShapes
namespace Go.Proofs.Ytahcdignedfanaa.Pc
open Go.RowKit

theorem encode_is {r : Int} {E : ByteArray} (h : Hid (Utf8.valid r = true)) (he : Hid (Utf8.encode r = E)) (w : World) :
    Calls Try.prog 8 #[.int .i32 r] w fun e w' => e = .returned (.tuple #[.string E, .int .i64 0]) ∧ w' = w := by
  have := encode_yes r w h
  rw [he.out] at this
  exact this

set_option maxHeartbeats 1000000 in
set_option maxRecDepth 100000 in
theorem whole_walk (s : ByteArray) (hs : s.size ≤ 1048576) (w : World) :
    Calls Try.prog 3 #[.string s] w fun e w' => e = .returned (.bool true) ∧ Below w.heap.size w w' := by
  have hlen := pieces_len s
  go_enter Try.func3, Try.ntmps3
  go_wp2_with fail
  refine (callsIn_wide.1 (pieces_in 4 (by omega) s hs _)).mono ?_
  rintro e w1 ⟨v, rfl, hown, hB⟩
  rcases hown.2 with ⟨rfl, hn0⟩ | ⟨g, cap, cur, rfl, hg, hcur, hcap, hmax, hcs, ht⟩
  · have hpe := hide ((At.start s).done (by omega))
    clear hn0 hown hlen
    go_wp2_with fail
    go_loop [4, 5] (fun z i => i = .int .i64 0 ∧ z = .int .i64 0) (fun _ _ => 0)
    case atStart => exact ⟨rfl, rfl⟩
    case round =>
      obtain ⟨rfl, rfl⟩ := hrel
      go_wp2
      go_ret
      exact ⟨ret_bool (beq_iff_eq.2 (by have := hpe.out; omega)), hB⟩
  · go_wp2_with fail
    go_loopw [4, 5] (fun z i wr => ∃ k pos : Nat, i = .int .i64 k ∧ z = .int .i64 pos ∧ At s k pos ∧ Below w1.heap.size w1 wr) (fun _ i _ => (pieces s).length - (intOf i).toNat)
    case atStart => exact ⟨0, 0, rfl, rfl, At.start s, Below.refl _ _⟩
    case round =>
      obtain ⟨k, pos, rfl, rfl, hA, hB2⟩ := hrel
      by_cases hlt : k < (pieces s).length
      · obtain ⟨hp, hx, hA2⟩ := hA.more hlt
        have hw := width_le s pos hp
        have hcur2 : wr.heap[g]? = some (.cells cur 25 (0, 0)) := (hB2.block g (Array.getElem?_eq_some_iff.1 hcur).1).trans hcur
        obtain ⟨c0, c1, c2, c3⟩ := row_cells hcur2 ht k _ hx
        rcases pc_cases s pos hp with ⟨hw1, hpc, h128⟩ | ⟨r, k', hpc, hw1, he⟩
        · rw [hpc] at c0 c1 c2 c3
          rw [hw1] at hA2
          clear hpc hx
          have hv : Hid (Utf8.valid (s[pos].toNat : Int) = true) := (valid_yes _ (by have := s[pos].toNat_lt; omega)).symm
          have hb1 : (128 : Int) ≤ (s[pos].toNat : Int) := by omega
          have hb2 : (s[pos].toNat : Int) ≤ 255 := by have := s[pos].toNat_lt; omega
          have hlt' : (k : Int) < ((pieces s).length : Int) := by omega
          have hd1 : decide ((s.size : Int) < (pos : Int) + 1) = false := by simp; omega
          have HA := hide hA2
          obtain ⟨b, hbe⟩ : ∃ b : Nat, s[pos].toNat = b := ⟨_, rfl⟩
          have hne : ((b : Int) != (s[pos].toNat : Int)) = false := by rw [hbe]; simp
          rw [hbe] at c0 hb1 hb2 hv
          have HB := hide hbe
          clear hw hw1 h128 hA2 hA hbe hcur2
          clear ht hcs
          go_wp2_with (go_at_call 8; refine (encode_yes _ _ hv).mono ?_; rintro e w' ⟨rfl, rfl⟩)
          have hg2 : decide ((b : Int) < 128) = false := by simp; omega
          have hg4 : decide ((255 : Int) < (b : Int)) = false := by simp; omega
          have hpI : (pos : Int) < (s.size : Int) := by omega
          go_quiet (fail)
          go_wp2
          exact ⟨⟨k + 1, pos + 1, by go_num, by go_num, HA.out, below_drewN (hB2.alloc hB2.size _) _⟩, by simp [intOf]; omega⟩
        · rw [hpc] at c0 c1 c2 c3
          rw [hw1] at hA2 hw
          have hE := encAt_len he
          have hv : Hid (Utf8.valid (r : Int) = true) := (valid_yes _ (by omega)).symm
          have hq : Hid (Utf8.encode (r : Int) = s.extract pos (pos + k')) := WideShapes.bytes_inj (enc_bytes hp he).symm
          have hd1 : decide ((s.size : Int) < (pos : Int) + (k' : Int)) = false := by simp; omega
          have hd2 : decide ((k' : Int) < 1) = false := by simp; omega
          have hd3 : decide ((4 : Int) < (k' : Int)) = false := by simp; omega
          have hk4 : (k' : Int) ≤ 4 := by omega
          have hpI : (pos : Int) ≤ (s.size : Int) := by omega
          have hlt' : (k : Int) < ((pieces s).length : Int) := by omega
          have HA := hide hA2
          have HW := hide hw
          have hsI : (pos : Int) + (k' : Int) ≤ 140737488355328 := by omega
          have hkI : (k : Int) ≤ 140737488355328 := by omega
          have hsl : ∀ wx, (Instr.slice 9 (.string s) (some (.int .i64 (pos : Int))) (some (.int .i64 ((pos : Int) + (k' : Int)))) none).run Try.prog wx = .ok (.string (s.extract pos (pos + k'))) wx := fun wx => by
            have := run_slice_string (P := Try.prog) (w := wx) 9 s .i64 .i64 (pos : Int) ((pos : Int) + (k' : Int)) Try.underlying9 (by omega) (by omega) (by omega)
            have e1 : (pos : Int).toNat = pos := by omega
            have e2 : ((pos : Int) + (k' : Int)).toNat = pos + k' := by omega
            rw [e1, e2] at this
            exact this
          have HS := hide hs
          have HL := hide hlen
          clear hw hw1 hE he hA2 hA hpc hx hcur2 ht hcs hs hlen hp hcap hmax
          go_wp2_with (go_at_call 8; refine (encode_is hv hq _).mono ?_; rintro e w' ⟨rfl, rfl⟩)
          exact ⟨⟨k + 1, pos + k', by go_num, by go_num, HA.out, hB2.alloc hB2.size _⟩, by simp [intOf]; omega⟩
      · have hpe := hide (hA.done hlt)
        go_wp2
        go_ret
        exact ⟨ret_bool (beq_iff_eq.2 (by have := hpe.out; omega)), hB.trans (hB2.mono hB.size)⟩
end Go.Proofs.Ytahcdignedfanaa.Pc
