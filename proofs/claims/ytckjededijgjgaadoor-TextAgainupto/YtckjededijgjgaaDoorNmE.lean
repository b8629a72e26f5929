import Derived.Test.YtckjededijgjgaaDoorNmD
namespace Go.Proofs.YtckjededijgjgaaDoor.Nm
open Go.RowKit

set_option maxRecDepth 100000 in
theorem name_none (w : World) :
    Calls Tryd.prog 24 #[.string ⟨#[]⟩] w fun e W' => e = .returned (.tuple #[.string ⟨#[]⟩, .int .i64 0, .int .i64 17]) ∧ Below w.heap.size w W' := by
  go_enter Tryd.func24, Tryd.ntmps24
  go_wp2
  refine bodyPost_ret (v := .tuple #[.string ⟨#[]⟩, .int .i64 0, .int .i64 17]) (by simp [results, Tryd.results24, go_sem]) rfl ⟨rfl, ?_⟩
  exact (((Below.refl _ w).alloc (Nat.le_refl _) _).alloc (by simp) _).alloc (by simp; omega) _

/-- what Name answers, of whatever string -/
theorem name_any (s : ByteArray) (hs : s.size ≤ 9223372036854775807) (w : World) (R off cap : Nat) (hS : Lets w R off cap) :
    Calls Tryd.prog 24 #[.string s] w fun e W' => e = .returned (.tuple #[.string ⟨(nameR s).1.toArray⟩, .int .i64 (nameR s).2.1, .int .i64 (nameR s).2.2]) ∧ Below w.heap.size w W' := by
  unfold nameR
  by_cases h : s.size = 0
  · rw [if_pos h]
    obtain rfl : s = ⟨#[]⟩ := by
      cases s with
      | mk d => congr 1; exact Array.eq_empty_of_size_eq_zero h
    exact name_none w
  · rw [if_neg h]
    exact (callsIn_wide (n := 4)).1 (name_in 4 (by omega) s hs h w R off cap hS)
theorem name_is {s : ByteArray} {a : List UInt8} {p e : Int} (h : Hid (nameR s = (a, p, e))) (hs : s.size ≤ 9223372036854775807) (w : World) (R off cap : Nat) (hS : Lets w R off cap) :
    Calls Tryd.prog 24 #[.string s] w fun e' W' => e' = .returned (.tuple #[.string ⟨a.toArray⟩, .int .i64 p, .int .i64 e]) ∧ Below w.heap.size w W' := by
  have := name_any s hs w R off cap hS
  rw [h.out] at this
  exact this

theorem str_beq (a : List UInt8) : ((⟨a.toArray⟩ : ByteArray).toList == (⟨a.toArray⟩ : ByteArray).toList) = true := by simp

set_option maxHeartbeats 800000 in
theorem walk_err (s : ByteArray) (hs : s.size ≤ 9223372036854775807) (w : World) (R off cap : Nat) (hS : Lets w R off cap) (p e : Int) (h : Hid (nameR s = ([], p, e))) (he : (e == 0) = false) (hp : p ≤ (s.size : Int)) :
    Calls Tryd.prog 4 #[.string s] w fun e w' => e = .returned (.bool true) ∧ Below w.heap.size w w' := by
  go_enter Tryd.func4, Tryd.ntmps4
  go_wp2_with fail
  refine (name_is (hide name_first) (by decide) _ R off cap hS).mono ?_
  rintro e1 w1 ⟨rfl, hb1⟩
  go_wp2_with fail
  refine (name_is h hs _ R off cap (hS.below hb1 (Nat.le_refl _))).mono ?_
  rintro e2 w2 ⟨rfl, hb2⟩
  go_wp2
  go_ret
  exact ⟨rfl, hb1.trans (hb2.mono hb1.size)⟩

theorem name_as {s A : ByteArray} {a : List UInt8} {p e : Int} (hA : Hid (A = ⟨a.toArray⟩)) (h : Hid (nameR s = (a, p, e))) (hs : s.size ≤ 9223372036854775807) (w : World) (R off cap : Nat) (hS : Lets w R off cap) :
    Calls Tryd.prog 24 #[.string s] w fun e' W' => e' = .returned (.tuple #[.string A, .int .i64 p, .int .i64 e]) ∧ Below w.heap.size w W' := by
  rw [hA.out]
  exact name_is h hs w R off cap hS

set_option maxHeartbeats 800000 in
theorem walk_ok (s : ByteArray) (hs : s.size ≤ 9223372036854775807) (w : World) (R off cap : Nat) (hS : Lets w R off cap) (A : ByteArray) (a : List UInt8) (hA : Hid (A = ⟨a.toArray⟩)) (h : Hid (nameR s = (a, 0, 0))) (h2 : Hid (nameR A = (a, 0, 0))) (hl : (A.size : Int) = (s.size : Int)) :
    Calls Tryd.prog 4 #[.string s] w fun e w' => e = .returned (.bool true) ∧ Below w.heap.size w w' := by
  have hA' : A.size ≤ 9223372036854775807 := by omega
  go_enter Tryd.func4, Tryd.ntmps4
  go_wp2_with fail
  refine (name_is (hide name_first) (by decide) _ R off cap hS).mono ?_
  rintro e1 w1 ⟨rfl, hb1⟩
  go_wp2_with fail
  refine (name_as hA h hs _ R off cap (hS.below hb1 (Nat.le_refl _))).mono ?_
  rintro e2 w2 ⟨rfl, hb2⟩
  go_wp2_with fail
  refine (name_as hA h2 hA' _ R off cap ((hS.below hb1 (Nat.le_refl _)).below hb2 (Nat.le_refl _))).mono ?_
  rintro e3 w3 ⟨rfl, hb3⟩
  go_wp2
  go_ret
  exact ⟨rfl, hb1.trans ((hb2.trans (hb3.mono hb2.size)).mono hb1.size)⟩

theorem walk (s : ByteArray) (hs : s.size ≤ 9223372036854775807) (w : World) (R off cap : Nat) (hS : Lets w R off cap) :
    Calls Tryd.prog 4 #[.string s] w fun e w' => e = .returned (.bool true) ∧ Below w.heap.size w w' := by
  obtain ⟨a, p, e, h⟩ : ∃ a p e, nameR s = (a, p, e) := ⟨_, _, _, rfl⟩
  by_cases he : e = 0
  · subst he
    obtain ⟨rfl, h2, h3⟩ := name_ok h
    exact walk_ok s hs w R off cap hS ⟨a.toArray⟩ a rfl h h3 (by rw [← h2]; simp [ByteArray.size])
  · obtain ⟨rfl, hp⟩ := name_err h he
    exact walk_err s hs w R off cap hS p e h (beq_eq_false_iff_ne.2 he) hp
end Go.Proofs.YtckjededijgjgaaDoor.Nm
