import Derived.Test.YthajboipnjjgfaaReN
namespace Go.Proofs.Ythajboipnjjgfaa.Ly
open Go.RowKit Go.Maps
set_option linter.unusedVariables false
set_option linter.unusedSimpArgs false

/-! a nil network -/
theorem made_none (w : World) : Calls Try.prog 40 #[.pointer none] w fun e w' => e = .returned (.bool false) ∧ w' = w := by
  go_enter Try.func40, Try.ntmps40
  go_wp2
  go_ret
  exact ⟨rfl, rfl⟩
theorem send_nil (w : World) (f t : Int) (d : Value) (ad : Option Addr) (n cap : Nat) (hd : d = .slice ad n cap) : Calls Try.prog 16 #[.pointer none, .int .u8 f, .int .u8 t, d] w fun e w' => e = .returned (.int .i64 1) ∧ w' = w := by
  have MA := made_none w
  subst hd
  go_enter Try.func16, Try.ntmps16
  go_wp2_with fail
  refine MA.mono ?_; rintro e w' ⟨rfl, rfl⟩
  go_wp2
  go_ret
  exact ⟨rfl, rfl⟩
theorem inject_nil (w : World) (f t : Int) (d : Value) (ad : Option Addr) (n cap : Nat) (hd : d = .slice ad n cap) : Calls Try.prog 34 #[.pointer none, .int .u8 f, .int .u8 t, d] w fun e w' => e = .returned (.int .i64 1) ∧ w' = w := by
  have MA := made_none w
  subst hd
  go_enter Try.func34, Try.ntmps34
  go_wp2_with fail
  refine MA.mono ?_; rintro e w' ⟨rfl, rfl⟩
  go_wp2
  go_ret
  exact ⟨rfl, rfl⟩
theorem look_nil (w : World) (i : Int) : Calls Try.prog 26 #[.pointer none, .int .i64 i] w fun e w' => e = .returned (.tuple #[.agg #[.int .u8 0, .int .u8 0, .slice none 0 0], .int .i64 1]) ∧ Kp Nu w w' := by
  have MA := made_none
  go_enter Try.func26, Try.ntmps26
  go_wp2_with fail
  refine (MA _).mono ?_; rintro e w' ⟨rfl, rfl⟩
  go_wp2
  refine bodyPost_ret (v := .tuple #[.agg #[.int .u8 0, .int .u8 0, .slice none 0 0], .int .i64 1]) (by simp [results, Try.results26, go_sem]) rfl ⟨rfl, ?_⟩
  exact Kp.alloc _ _ _
theorem deliver_nil (w : World) (i : Int) (keep : Bool) : Calls Try.prog 25 #[.pointer none, .int .i64 i, .bool keep] w fun e w' => e = .returned (.tuple #[.agg #[.int .u8 0, .int .u8 0, .slice none 0 0], .int .i64 1]) ∧ Kp Nu w w' := by
  have K1 := Kp.alloc w (.cells #[.int .u8 0, .int .u8 0, .slice none 0 0] 38) Nu
  have LO := look_nil (w.alloc (.cells #[.int .u8 0, .int .u8 0, .slice none 0 0] 38)) i
  go_enter Try.func25, Try.ntmps25
  go_wp2_with fail
  refine LO.mono ?_; rintro e w2 ⟨rfl, hk2⟩
  have hk3 := hk2.andAlloc (.cells #[.int .u8 0, .int .u8 0, .slice none 0 0] 38)
  have hbx := new_at w _ hk3
  obtain ⟨d0, d1, d2⟩ := cell3 hbx
  have g0 := free3 hbx 0
  have g1 := free3 hbx 1
  have g2 := free3 hbx 2
  have hbx2 := new_at w _ hk2
  obtain ⟨dd0, dd1, dd2⟩ := cell3 hbx2
  have gg0 := free3 hbx2 0
  have gg1 := free3 hbx2 1
  have gg2 := free3 hbx2 2
  have HK := hide (K1.andNu hk2)
  clear LO hk2 hk3 hbx K1 hbx2
  go_wp2
  refine bodyPost_ret (v := .tuple #[.agg #[.int .u8 0, .int .u8 0, .slice none 0 0], .int .i64 1]) (by simp [results, Try.results25, go_sem, d0, d1, d2, dd0, dd1, dd2]) rfl ⟨rfl, ?_⟩
  first
    | exact (((HK.out.andAlloc _).andSet _ _ (.inl (by simp))).andSet _ _ (.inl (by simp))).andSet _ _ (.inl (by simp))
    | exact ((HK.out.andSet _ _ (.inl (by simp))).andSet _ _ (.inl (by simp))).andSet _ _ (.inl (by simp))
theorem drop_nil (w : World) (u : Value) (ad : Option Addr) (n cap : Nat) (hu : u = .slice ad n cap) : Calls Try.prog 19 #[.pointer none, u] w fun e w' => e = .returned (.tuple #[.int .i64 0, .int .i64 1]) ∧ w' = w := by
  have MA := made_none w
  subst hu
  go_enter Try.func19, Try.ntmps19
  go_wp2_with fail
  refine MA.mono ?_; rintro e w' ⟨rfl, rfl⟩
  go_wp2
  go_ret2
  exact ⟨rfl, rfl⟩
theorem takeOut_nil (w : World) (fn : Fn) (a b : Array Value) : Calls Try.prog 44 #[.pointer none, .func fn a b] w fun e w' => e = .returned (.int .i64 0) ∧ w' = w := by
  have MA := made_none w
  go_enter Try.func44, Try.ntmps44
  go_wp2_with fail
  refine MA.mono ?_; rintro e w' ⟨rfl, rfl⟩
  go_wp2
  go_ret
  exact ⟨rfl, rfl⟩
theorem sweep_nil (w : World) (n m : Int) : Calls Try.prog 51 #[.pointer none, .int .i64 n, .int .i64 m] w fun e w' => e = .returned (.int .i64 0) ∧ Kp Nu w w' := by
  have TN := takeOut_nil
  go_enter Try.func51, Try.ntmps51
  go_wp2_with fail
  refine (TN _ _ _ _).mono ?_; rintro e w' ⟨rfl, rfl⟩
  go_wp2
  go_ret
  exact ⟨rfl, ((Kp.refl Nu w).andAlloc _).andAlloc _⟩
theorem empty_nil (w : World) : Calls Try.prog 32 #[.pointer none] w fun e w' => e = .returned (.int .i64 0) ∧ Kp Nu w w' := by
  have TN := takeOut_nil
  go_enter Try.func32, Try.ntmps32
  go_wp2_with fail
  refine (TN _ _ _ _).mono ?_; rintro e w' ⟨rfl, rfl⟩
  go_wp2
  go_ret
  exact ⟨rfl, Kp.refl Nu _⟩
theorem block_nil (w : World) (f t : Int) : Calls Try.prog 35 #[.pointer none, .int .u8 f, .int .u8 t] w fun e w' => e = .returned (.int .i64 1) ∧ w' = w := by
  have MA := made_none w
  go_enter Try.func35, Try.ntmps35
  go_wp2_with fail
  refine MA.mono ?_; rintro e w' ⟨rfl, rfl⟩
  go_wp2
  go_ret
  exact ⟨rfl, rfl⟩
theorem heal_nil (w : World) (n m : Int) : Calls Try.prog 33 #[.pointer none, .int .i64 n, .int .i64 m] w fun e w' => e = .returned (.int .i64 0) ∧ w' = w := by
  have MA := made_none w
  go_enter Try.func33, Try.ntmps33
  go_wp2_with fail
  refine MA.mono ?_; rintro e w' ⟨rfl, rfl⟩
  go_wp2
  go_ret
  exact ⟨rfl, rfl⟩
theorem blocked_nil (w : World) : Calls Try.prog 47 #[.pointer none] w fun e w' => e = .returned (.slice none 0 0) ∧ w' = w := by
  have MA := made_none w
  go_enter Try.func47, Try.ntmps47
  go_wp2_with fail
  refine MA.mono ?_; rintro e w' ⟨rfl, rfl⟩
  go_wp2
  go_ret
  exact ⟨rfl, rfl⟩
theorem len_nil (w : World) : Calls Try.prog 18 #[.pointer none] w fun e w' => e = .returned (.int .i64 0) ∧ w' = w := by
  have MA := made_none w
  go_enter Try.func18, Try.ntmps18
  go_wp2_with fail
  refine MA.mono ?_; rintro e w' ⟨rfl, rfl⟩
  go_wp2
  go_ret
  exact ⟨rfl, rfl⟩
theorem list_nil (w : World) : Calls Try.prog 22 #[.pointer none] w fun e w' => e = .returned (.slice none 0 0) ∧ w' = w := by
  have MA := made_none w
  go_enter Try.func22, Try.ntmps22
  go_wp2_with fail
  refine MA.mono ?_; rintro e w' ⟨rfl, rfl⟩
  go_wp2
  go_ret
  exact ⟨rfl, rfl⟩
theorem count_nil (w : World) : Calls Try.prog 31 #[.pointer none] w fun e w' => e = .returned (.agg #[.int .i64 0, .int .i64 0, .int .i64 0, .int .i64 0, .int .i64 0, .int .i64 0, .int .i64 0]) ∧ Kp Nu w w' := by
  have MA := made_none
  go_enter Try.func31, Try.ntmps31
  go_wp2_with fail
  refine (MA _).mono ?_; rintro e w' ⟨rfl, rfl⟩
  go_wp2
  refine bodyPost_ret (v := .agg #[.int .i64 0, .int .i64 0, .int .i64 0, .int .i64 0, .int .i64 0, .int .i64 0, .int .i64 0]) (by simp [results, Try.results31, go_sem]) rfl ⟨rfl, ?_⟩
  exact (Kp.refl Nu w).andAlloc _
end Go.Proofs.Ythajboipnjjgfaa.Ly
