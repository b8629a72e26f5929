import Derived.Test.YtbhdhoeaogbfbaaGnB
import Derived.Test.YtbhdhoeaogbfbaaEnS
namespace Go.Proofs.Ytbhdhoeaogbfbaa.Xo
open Go.RowKit
set_option linter.unusedVariables false
set_option maxHeartbeats 1000000 in
theorem lists_true (w : World) (ra oa ca rb ob cb : Nat) (vs us : List (Value × List Int)) (n : Nat) (hn : vs.length = n) (hn2 : us.length = n) (hn16 : n ≤ 16) (h : Rp w ra oa vs) (h2 : Rp w rb ob us) (he : ∀ (i : Nat) (x y : Value × List Int), vs[i]? = some x → us[i]? = some y → x.2 = y.2) : Calls Try.prog 77 #[.slice (some ⟨ra, oa, none⟩) n ca, .slice (some ⟨rb, ob, none⟩) n cb] w fun e w' => e = .returned (.bool true) ∧ Kp Nu w w' := by
  have hnn : ((n : Int) != (n : Int)) = false := by simp
  have HN := hide (And.intro hn (And.intro hn2 hn16))
  have HR := hide (And.intro h (And.intro h2 he))
  clear hn hn2 hn16 h h2 he
  go_enter Try.func77, Try.ntmps77
  go_wp2
  go_loopw [5] (fun i wr => ∃ k : Nat, k ≤ n ∧ i = .int .i64 (k : Int) ∧ Hid (Kp Nu w wr)) (fun i _ => n - (intOf i).toNat)
  case atStart => exact ⟨0, by omega, rfl, Kp.refl _ _⟩
  case round =>
    obtain ⟨k, hkn, rfl, HK⟩ := hrel
    by_cases hlt : k < n
    · obtain ⟨x, hx⟩ : ∃ x, vs[k]? = some x := ⟨vs[k]'(by rw [HN.out.1]; exact hlt), List.getElem?_eq_getElem _⟩
      obtain ⟨y, hy⟩ : ∃ y, us[k]? = some y := ⟨us[k]'(by rw [HN.out.2.1]; exact hlt), List.getElem?_eq_getElem _⟩
      have exy := HR.out.2.2 k x y hx hy
      have HS : ∀ W, Kp Nu wr W → W.cell? ⟨ra, oa + k, none⟩ = some x.1 ∧ W.cell? ⟨rb, ob + k, none⟩ = some y.1 := fun W kW => ⟨((HR.out.1.nu (HK.out.andNu kW)) k x hx).1, ((HR.out.2.1.nu (HK.out.andNu kW)) k y hy).1⟩
      have SA : ∀ W, Kp Nu wr W → Calls Try.prog 24 #[x.1, y.1] W fun e w' => e = .returned (.bool true) ∧ Kp Nu wr w' := fun W kW => by
        obtain ⟨_, r1, _, l1⟩ := (HR.out.1.nu (HK.out.andNu kW)) k x hx
        obtain ⟨_, r2, _, l2⟩ := (HR.out.2.1.nu (HK.out.andNu kW)) k y hy
        refine (same_any r1 r2 (by omega)).mono ?_
        rintro e w' ⟨rfl, hk⟩
        exact ⟨by simp [exy], kW.andNu hk⟩
      have hltI : (k : Int) < (n : Int) := by omega
      have hk0 : (0 : Int) ≤ (k : Int) := by omega
      have hwk : Hid (wrap64 ((k : Int) + 1) = ((k + 1 : Nat) : Int)) := by have := HN.out.2.2; exact wrap_small (by omega) (by omega)
      obtain ⟨a1, n1, c1, e1⟩ : ∃ a n c, x.1 = .slice a n c := by
        obtain ⟨_, r1, _, _⟩ := HR.out.1 k x hx
        obtain ⟨a, c, e⟩ := r1.slice
        exact ⟨_, _, _, e⟩
      obtain ⟨a2, n2, c2, e2⟩ : ∃ a n c, y.1 = .slice a n c := by
        obtain ⟨_, r1, _, _⟩ := HR.out.2.1 k y hy
        obtain ⟨a, c, e⟩ := r1.slice
        exact ⟨_, _, _, e⟩
      rw [e1, e2] at HS SA
      clear exy e1 e2
      go_wp2_with fail
      go_region_held3 (fun W => W.cell? ⟨ra, oa + k, none⟩ = some (.slice a1 n1 c1) ∧ W.cell? ⟨rb, ob + k, none⟩ = some (.slice a2 n2 c2)) (first | (refine HS _ ?_; repeat (first | assumption | exact Kp.refl _ _ | apply Kp.drew))) (first | (go_at_call 24; refine (SA _ ?_).mono ?_; (repeat (first | assumption | exact Kp.refl _ _ | apply Kp.drew)); rintro e w3 ⟨rfl, hk3⟩))
      have HK3 := hide (HK.out.andNu hk3)
      clear HS SA hk3
      go_wp2
      exact ⟨⟨k + 1, hlt, by rw [hwk.out], HK3⟩, lt_m _ hwk.out hlt⟩
    · obtain rfl : k = n := by omega
      clear hlt
      go_wp2
      go_ret
      exact ⟨rfl, HK.out⟩
set_option maxHeartbeats 2000000 in
theorem frames_true (w : World) (ra oa ca rb ob cb : Nat) (vs us : List Fm) (n : Nat) (hn : vs.length = n) (hn2 : us.length = n) (hn16 : n ≤ 16) (h : Rf w ra oa vs) (h2 : Rf w rb ob us) (he : ∀ (i : Nat) (x y : Fm), vs[i]? = some x → us[i]? = some y → x.seq = y.seq ∧ x.ys = y.ys) : Calls Try.prog 78 #[.slice (some ⟨ra, oa, none⟩) n ca, .slice (some ⟨rb, ob, none⟩) n cb] w fun e w' => e = .returned (.bool true) ∧ Kp Nu w w' := by
  have hnn : ((n : Int) != (n : Int)) = false := by simp
  have HN := hide (And.intro hn (And.intro hn2 hn16))
  have HR := hide (And.intro h (And.intro h2 he))
  clear hn hn2 hn16 h h2 he
  go_enter Try.func78, Try.ntmps78
  go_wp2
  go_loopw [5] (fun i wr => ∃ k : Nat, k ≤ n ∧ i = .int .i64 (k : Int) ∧ Hid (Kp Nu w wr)) (fun i _ => n - (intOf i).toNat)
  case atStart => exact ⟨0, by omega, rfl, Kp.refl _ _⟩
  case round =>
    obtain ⟨k, hkn, rfl, HK⟩ := hrel
    by_cases hlt : k < n
    · obtain ⟨x, hx⟩ : ∃ x, vs[k]? = some x := ⟨vs[k]'(by rw [HN.out.1]; exact hlt), List.getElem?_eq_getElem _⟩
      obtain ⟨y, hy⟩ : ∃ y, us[k]? = some y := ⟨us[k]'(by rw [HN.out.2.1]; exact hlt), List.getElem?_eq_getElem _⟩
      obtain ⟨exq, exy⟩ := HR.out.2.2 k x y hx hy
      have hqq : (x.seq != x.seq) = false := by simp
      have HS : ∀ W, Kp Nu wr W → W.cell? ⟨ra, oa + k * 2, none⟩ = some (.int .u64 x.seq) ∧ W.cell? ⟨ra, oa + k * 2 + 1, none⟩ = some x.v ∧ W.cell? ⟨rb, ob + k * 2, none⟩ = some (.int .u64 x.seq) ∧ W.cell? ⟨rb, ob + k * 2 + 1, none⟩ = some y.v := fun W kW => by
        obtain ⟨p1, p2, _⟩ := (HR.out.1.nu (HK.out.andNu kW)) k x hx
        obtain ⟨q1, q2, _⟩ := (HR.out.2.1.nu (HK.out.andNu kW)) k y hy
        rw [← exq] at q1
        exact ⟨p1, p2, q1, q2⟩
      have SA : ∀ W, Kp Nu wr W → Calls Try.prog 24 #[x.v, y.v] W fun e w' => e = .returned (.bool true) ∧ Kp Nu wr w' := fun W kW => by
        obtain ⟨_, _, r1, _, l1⟩ := (HR.out.1.nu (HK.out.andNu kW)) k x hx
        obtain ⟨_, _, r2, _, l2⟩ := (HR.out.2.1.nu (HK.out.andNu kW)) k y hy
        refine (same_any r1 r2 (by omega)).mono ?_
        rintro e w' ⟨rfl, hk⟩
        exact ⟨by simp [exy], kW.andNu hk⟩
      have hltI : (k : Int) < (n : Int) := by omega
      have hk0 : (0 : Int) ≤ (k : Int) := by omega
      have hwk : Hid (wrap64 ((k : Int) + 1) = ((k + 1 : Nat) : Int)) := by have := HN.out.2.2; exact wrap_small (by omega) (by omega)
      obtain ⟨a1, n1, c1, e1⟩ : ∃ a n c, x.v = .slice a n c := by
        obtain ⟨_, _, r1, _, _⟩ := HR.out.1 k x hx
        obtain ⟨a, c, e⟩ := r1.slice
        exact ⟨_, _, _, e⟩
      obtain ⟨a2, n2, c2, e2⟩ : ∃ a n c, y.v = .slice a n c := by
        obtain ⟨_, _, r1, _, _⟩ := HR.out.2.1 k y hy
        obtain ⟨a, c, e⟩ := r1.slice
        exact ⟨_, _, _, e⟩
      rw [e1, e2] at HS SA
      clear exy e1 e2 exq
      go_wp2_with fail
      go_region_held3 (fun W => W.cell? ⟨ra, oa + k * 2, none⟩ = some (.int .u64 x.seq) ∧ W.cell? ⟨ra, oa + k * 2 + 1, none⟩ = some (.slice a1 n1 c1) ∧ W.cell? ⟨rb, ob + k * 2, none⟩ = some (.int .u64 x.seq) ∧ W.cell? ⟨rb, ob + k * 2 + 1, none⟩ = some (.slice a2 n2 c2)) (first | (refine HS _ ?_; repeat (first | assumption | exact Kp.refl _ _ | apply Kp.drew))) (first | (go_at_call 24; refine (SA _ ?_).mono ?_; (repeat (first | assumption | exact Kp.refl _ _ | apply Kp.drew)); rintro e w3 ⟨rfl, hk3⟩))
      have HK3 := hide (HK.out.andNu hk3)
      clear HS SA hk3
      go_wp2
      exact ⟨⟨k + 1, hlt, by rw [hwk.out], HK3⟩, lt_m _ hwk.out hlt⟩
    · obtain rfl : k = n := by omega
      clear hlt
      go_wp2
      go_ret
      exact ⟨rfl, HK.out⟩
end Go.Proofs.Ytbhdhoeaogbfbaa.Xo
