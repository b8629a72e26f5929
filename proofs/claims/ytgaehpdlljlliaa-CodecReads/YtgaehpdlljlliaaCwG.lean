import Derived.Test.YtgaehpdlljlliaaCwF
import Derived.Deep.Draws
import Derived.Deep.RegionHeld
namespace Go.Proofs.Ytgaehpdlljlliaa.Cd
open Go.RowKit
set_option linter.unusedVariables false

theorem decide_self' (bs : List Int) : decide (bs = bs) = true := by simp

/-- a writer's questions: both answer alike -/
theorem asked_any {w : World} {b pb : Nat} {lim err : Int} {v v2 : Value} {xs : List Int} (h : Wr w b lim err v xs) (g : Wg w pb true lim err v2 xs) (k : Ok lim xs) (kind : Int) :
    Calls Try.prog 16 #[.pointer (some ⟨b, 0, none⟩), .pointer (some ⟨pb, 0, none⟩), .int .i64 kind] w fun e w' => e = .returned (.bool true) ∧ Kp Nu w w' := by
  by_cases h10 : kind = 10
  · subst h10
    obtain ⟨c0, c1, c2, c3⟩ := cell4 g.blk
    obtain ⟨ad2, cap2, hv2⟩ := own_slice g.own
    subst hv2
    have L1 := len_any (w := w.drew) (b := b) (lim := lim) (err := err) (v := v) (xs := xs) ⟨h.blk, h.own⟩
    have hs : ((xs.length : Int) == (xs.length : Int)) = true := by simp
    go_enter Try.func16, Try.ntmps16
    go_wp2
    go_region_held (fun w' => w'.cell? ⟨pb, 2, none⟩ = some (.slice ad2 xs.length cap2)) (first | assumption | go_keep) (first | (go_at_call 26; refine L1.mono ?_; rintro e w' ⟨rfl, rfl⟩))
    all_goals go_wp2
    all_goals go_ret
    all_goals exact ⟨by simp, (Kp.refl Nu w).drew⟩
  by_cases h11 : kind = 11
  · subst h11
    have E1 := err_any h
    have E2 := error_any g
    have nm := fun w => num_any err w
    rw [show errG true err = err from rfl] at E2
    have hs : (err == err) = true := by simp
    go_enter Try.func16, Try.ntmps16
    go_wp2_with fail
    refine E1.mono ?_; rintro e w' ⟨rfl, rfl⟩
    go_wp2_with fail
    refine (nm _).mono ?_; rintro e w' ⟨rfl, rfl⟩
    go_wp2_with fail
    refine E2.mono ?_; rintro e w' ⟨rfl, rfl⟩
    go_wp2
    go_ret
    exact ⟨rfl, Kp.refl _ _⟩
  by_cases h12 : kind = 12
  · subst h12
    have nm := fun w => num_any err w
    have hs : (err == err) = true := by simp
    have hkl := k.le
    have hkh := k.hi
    by_cases he : err = 0
    · subst he
      have O := out_ok h k
      have A := fun (w2 : World) (k2 : Kp Nu w w2) => all_ok (g.keeps k2 (fun h => h) (fun _ _ h => h)) (by omega)
      have SM : ∀ (w2 w3 : World) (u : Value), w2.heap[w.heap.size]? = some (.cells (cs xs).toArray 5 (0, 0)) → News w2.heap.size w2 w3 u xs → Calls Try.prog 28 #[.slice (some ⟨w.heap.size, 0, none⟩) xs.length xs.length, u] w3 fun e w' => e = .returned (.bool true) ∧ Kp Nu w3 w' := by
        intro w2 w3 u hh hu
        have := same_any ((rd_new hh).keeps hu.2.2 (fun _ _ h => h)) hu.1 (by omega)
        rw [decide_self'] at this
        exact this
      clear hkl hkh
      go_enter Try.func16, Try.ntmps16
      go_wp2_with fail
      refine O.mono ?_; rintro e w2 ⟨rfl, hh, hk2⟩
      go_wp2_with fail
      refine (A _ hk2).mono ?_; rintro e w3 ⟨u, rfl, hu⟩
      have S2 := SM _ _ _ hh hu
      have hk3 := hk2.trans hu.2.2 (fun _ _ h => h)
      clear SM A O hh hu hk2
      go_wp2_with fail
      refine (nm _).mono ?_; rintro e w' ⟨rfl, rfl⟩
      go_wp2_with fail
      refine S2.mono ?_; rintro e w4 ⟨rfl, hk4⟩
      go_wp2
      go_ret
      exact ⟨rfl, hk3.trans hk4 (fun _ _ h => h)⟩
    · have he' : (err != 0) = true := by simpa using he
      have O := out_err h he'
      have A := all_err g (by rw [show errG true err = err from rfl]; exact he')
      rw [show errG true err = err from rfl] at A
      have S2 := same_any (rd_nil w) (rd_nil w) (by simp)
      rw [decide_self'] at S2
      clear hkl hkh
      go_enter Try.func16, Try.ntmps16
      go_wp2_with fail
      refine O.mono ?_; rintro e w2 ⟨rfl, rfl⟩
      go_wp2_with fail
      refine A.mono ?_; rintro e w3 ⟨rfl, rfl⟩
      go_wp2_with fail
      refine (nm _).mono ?_; rintro e w' ⟨rfl, rfl⟩
      go_wp2_with fail
      refine S2.mono ?_; rintro e w4 ⟨rfl, hk4⟩
      go_wp2
      go_ret
      exact ⟨rfl, hk4⟩
  · go_enter Try.func16, Try.ntmps16
    go_wp2
    go_ret
    exact ⟨rfl, Kp.refl _ _⟩

theorem asked_nil {w : World} {pb : Nat} {v2 : Value} (g : Wg w pb false 0 0 v2 []) (kind : Int) :
    Calls Try.prog 16 #[.pointer none, .pointer (some ⟨pb, 0, none⟩), .int .i64 kind] w fun e w' => e = .returned (.bool true) ∧ Kp Nu w w' := by
  by_cases h10 : kind = 10
  · subst h10
    obtain ⟨c0, c1, c2, c3⟩ := cell4 g.blk
    obtain ⟨ad2, cap2, hv2⟩ := own_slice g.own
    rw [List.length_nil] at hv2
    subst hv2
    have L1 := len_nil w.drew
    go_enter Try.func16, Try.ntmps16
    go_wp2
    go_region_held (fun w' => w'.cell? ⟨pb, 2, none⟩ = some (.slice ad2 0 cap2)) (first | assumption | go_keep) (first | (go_at_call 26; refine L1.mono ?_; rintro e w' ⟨rfl, rfl⟩))
    all_goals go_wp2
    all_goals go_ret
    all_goals exact ⟨rfl, (Kp.refl Nu w).drew⟩
  by_cases h11 : kind = 11
  · subst h11
    have E2 := error_any g
    rw [show errG false 0 = 1 from rfl] at E2
    go_enter Try.func16, Try.ntmps16
    go_wp2_with fail
    refine (err_nil _).mono ?_; rintro e w' ⟨rfl, rfl⟩
    go_wp2_with fail
    refine (num_any 1 _).mono ?_; rintro e w' ⟨rfl, rfl⟩
    go_wp2_with fail
    refine E2.mono ?_; rintro e w' ⟨rfl, rfl⟩
    go_wp2
    go_ret
    exact ⟨rfl, Kp.refl _ _⟩
  by_cases h12 : kind = 12
  · subst h12
    have A := all_err g (by decide)
    rw [show errG false 0 = 1 from rfl] at A
    have S2 := same_any (rd_nil w) (rd_nil w) (by simp)
    rw [decide_self'] at S2
    go_enter Try.func16, Try.ntmps16
    go_wp2_with fail
    refine (out_nil _).mono ?_; rintro e w2 ⟨rfl, rfl⟩
    go_wp2_with fail
    refine A.mono ?_; rintro e w3 ⟨rfl, rfl⟩
    go_wp2_with fail
    refine (num_any 1 _).mono ?_; rintro e w' ⟨rfl, rfl⟩
    go_wp2_with fail
    refine S2.mono ?_; rintro e w4 ⟨rfl, hk4⟩
    go_wp2
    go_ret
    exact ⟨rfl, hk4⟩
  · go_enter Try.func16, Try.ntmps16
    go_wp2
    go_ret
    exact ⟨rfl, Kp.refl _ _⟩
end Go.Proofs.Ytgaehpdlljlliaa.Cd
