import Derived.Test.YtchealdgncgjoaaNlB
namespace Go.Proofs.Ytchealdgncgjoaa.StI
open Go.RowKit Go.Proofs.Ytchealdgncgjoaa.St
set_option linter.unusedVariables false

theorem put_first {w : World} {mb : Nat} (h : Mp w mb .nil) (k v : Int) :
    Calls Try.prog 17 #[.pointer (some ⟨mb, 0, none⟩), .int .i64 k, .int .i64 v] w fun e w' => e = .returned (.tuple #[.int .i64 0, .bool false]) ∧ Mp w' mb (.node .nil (k, v) .nil) ∧ Kp (fun i => i = mb) w w' := by
  refine (put_any h k v (by simp [T.sz])).mono ?_
  rintro e w' ⟨e1, e2, e3⟩
  exact ⟨e1, e2, e3⟩
theorem get_first {w : World} {mb : Nat} {k v : Int} (h : Mp w mb (.node .nil (k, v) .nil)) :
    Calls Try.prog 56 #[.pointer (some ⟨mb, 0, none⟩), .int .i64 k] w fun e w' => e = .returned (.tuple #[.int .i64 v, .bool true]) ∧ Kp Nu w w' := by
  refine (get_any h k (by simp [T.sz])).mono ?_
  rintro e w' ⟨e1, e2⟩
  have hc : cmpI k k = 0 := cmpI_ord.zero k
  have hf : T.fd (sd k) (.node .nil (k, v) .nil) = (0, true) := by
    simp [T.fd, sd, side, hc, T.sz]
  rw [hf] at e1
  have hg : getT k (.node .nil (k, v) .nil) = some (k, v) := by unfold getT; rw [hf]; rfl
  rw [hg] at e1
  exact ⟨e1, e2⟩

set_option maxRecDepth 100000 in
set_option maxHeartbeats 2000000 in
theorem nil_walk (w : World) (k v : Int) : Calls Try.prog 11 #[.int .i64 k, .int .i64 v] w fun e w' => e = .returned (.bool true) ∧ Kp Nu w w' := by
  have NM := newMap_nil w
  have NA := new_any w
  have PN := fun W => put_nil W k v
  have GN := fun W => get_nil W k
  have DN := fun W => del_nil W k
  have AN := At_nil
  have FN := fun W => floor_nil W k
  have CN := fun W => ceil_nil W k
  have ON := collect_nil
  have KN := clone_nil
  have LN := len_nil
  have HN := height_nil
  have RN := fun W => rank_nil W k
  go_enter Try.func11, Try.ntmps11
  go_wp2_with (first
    | (go_at_call 55; refine NM.mono ?_; rintro e w' ⟨rfl, hw⟩; obtain rfl := hw.symm)
    | (go_at_call 16; refine NA.mono ?_; rintro e w1 ⟨rfl, hm1, k1⟩; have PF := put_first hm1 k v)
    | (go_at_call 17; refine PF.mono ?_; rintro e w2 ⟨rfl, hm2, k2⟩; have GF := get_first hm2; clear PF)
    | (go_at_call 56; refine GF.mono ?_; rintro e w3 ⟨rfl, k3⟩; clear GF)
    | (go_at_call 17; refine (PN _).mono ?_; rintro e w' ⟨rfl, hw⟩; obtain rfl := hw.symm)
    | (go_at_call 56; refine (GN _).mono ?_; rintro e w' ⟨rfl, hw⟩; obtain rfl := hw.symm)
    | (go_at_call 24; refine (DN _).mono ?_; rintro e w' ⟨rfl, hw⟩; obtain rfl := hw.symm)
    | (go_at_call 23; refine (AN _).mono ?_; rintro e w' ⟨rfl, hw⟩; obtain rfl := hw.symm)
    | (go_at_call 57; refine (FN _).mono ?_; rintro e w' ⟨rfl, hw⟩; obtain rfl := hw.symm)
    | (go_at_call 58; refine (CN _).mono ?_; rintro e w' ⟨rfl, hw⟩; obtain rfl := hw.symm)
    | (go_at_call 59; refine (ON _).mono ?_; rintro e w4 ⟨s1, s2, q1, q2, rfl, k4⟩)
    | (go_at_call 60; refine (KN _).mono ?_; rintro e w' ⟨rfl, hw⟩; obtain rfl := hw.symm)
    | (go_at_call 21; refine (LN _).mono ?_; rintro e w' ⟨rfl, hw⟩; obtain rfl := hw.symm)
    | (go_at_call 22; refine (HN _).mono ?_; rintro e w' ⟨rfl, hw⟩; obtain rfl := hw.symm)
    | (go_at_call 61; refine (RN _).mono ?_; rintro e w' ⟨rfl, hw⟩; obtain rfl := hw.symm))
  go_ret
  refine ⟨rfl, ?_⟩
  exact ((k1.trans k2 (fun i hi e => by have e : i = w.heap.size := e; omega)).andNu k3).andNu k4
end Go.Proofs.Ytchealdgncgjoaa.StI
