import Derived.Test.YtckjededijgjgaaDoorRnD
import Derived.Test.YtckjededijgjgaaDoorNmE
namespace Go.Proofs.YtckjededijgjgaaDoor.Rn
open Go.RowKit Go.Proofs.YtckjededijgjgaaDoor.Nm
set_option linter.unusedVariables false

theorem num_any (n : Int) (w : World) : Calls Tryd.prog 23 #[.int .i64 n] w fun e w' => e = .returned (.int .i64 n) ∧ w' = w := by
  go_enter Tryd.func23, Tryd.ntmps23
  go_wp2
  go_ret
  exact ⟨rfl, rfl⟩

theorem refName_is {s : ByteArray} {a : List UInt8} {p e : Int} (h : Hid (nameR s = (a, p, e))) (hs : s.size ≤ 1048576) (w : World) :
    Calls Tryd.prog 27 #[.string s] w fun e' W' => e' = .returned (.tuple #[.string ⟨a.toArray⟩, .int .i64 p, .int .i64 e]) ∧ Below w.heap.size w W' := by
  by_cases h0 : s.size = 0
  · have hh := h.out
    unfold nameR at hh
    rw [if_pos h0] at hh
    cases hh
    exact refName_none s h0 w
  · have := refName_some s hs h0 w
    rw [h.out] at this
    exact this

set_option maxRecDepth 100000 in
set_option maxHeartbeats 1000000 in
theorem names_walk (s : ByteArray) (hs : s.size ≤ 1048575) (w : World) (R off cap : Nat) (hS : Lets w R off cap) :
    Calls Tryd.prog 6 #[.string s] w fun e w' => e = .returned (.bool true) ∧ Below w.heap.size w w' := by
  have nm := fun n w => num_any n w
  obtain ⟨S2, hS2⟩ : ∃ S2, (⟨#[110]⟩ : ByteArray) ++ s = S2 := ⟨_, rfl⟩
  have hs2 : S2.size ≤ 1048576 := by
    rw [← hS2, ByteArray.size_append]
    have : (⟨#[110]⟩ : ByteArray).size = 1 := rfl
    omega
  obtain ⟨a0, p0, e0, h0⟩ : ∃ a p e, nameR s = (a, p, e) := ⟨_, _, _, rfl⟩
  obtain ⟨a1, p1, e1, h1⟩ : ∃ a p e, nameR S2 = (a, p, e) := ⟨_, _, _, rfl⟩
  have H0 := hide h0
  have H1 := hide h1
  have b0 := str_beq a0
  have b1 := str_beq a1
  have bp0 : (p0 == p0) = true := by simp
  have bp1 : (p1 == p1) = true := by simp
  have be0 : (e0 == e0) = true := by simp
  have be1 : (e1 == e1) = true := by simp
  have HZ := hide hs
  have HZ2 := hide hs2
  have hS1 : Lets (w.alloc (.cells #[.string s, .string S2] 9)) R off cap := hS.below ((Below.refl w.heap.size w).alloc (Nat.le_refl _) _) (Nat.le_refl _)
  have hlt1 : w.heap.size < (w.alloc (.cells #[.string s, .string S2] 9)).heap.size := by simp
  have hbw : Below w.heap.size w (w.alloc (.cells #[.string s, .string S2] 9)) := (Below.refl w.heap.size w).alloc (Nat.le_refl _) _
  have C0 : (w.alloc (.cells #[.string s, .string S2] 9)).cell? ⟨w.heap.size, 0, none⟩ = some (.string s) := by simp [World.cell?_alloc_new]
  have C1 : (w.alloc (.cells #[.string s, .string S2] 9)).cell? ⟨w.heap.size, 1, none⟩ = some (.string S2) := by simp [World.cell?_alloc_new]
  clear h0 h1 hs2
  go_enter Tryd.func6, Tryd.ntmps6
  go_wp2_with fail
  try rw [hS2]
  clear hS2 hs
  generalize w.alloc (.cells #[.string s, .string S2] 9) = w1 at *
  go_loopw [4] (fun i wr => ∃ k : Nat, i = .int .i64 (k : Int) ∧ k ≤ 2 ∧ Below w1.heap.size w1 wr) (fun i _ => 2 - (intOf i).toNat)
  case atStart => exact ⟨0, rfl, by omega, Below.refl _ _⟩
  case round =>
    obtain ⟨k, rfl, hk, hB⟩ := hrel
    have c0 := (hB.cell (p := ⟨w.heap.size, 0, none⟩) hlt1).trans C0
    have c1 := (hB.cell (p := ⟨w.heap.size, 1, none⟩) hlt1).trans C1
    match k, hk with
    | 0, _ =>
      go_wp2_with fail
      refine (name_is H0 (by have := HZ.out; omega) _ R off cap (hS1.below hB (Nat.le_refl _))).mono ?_
      rintro e w2 ⟨rfl, hb2⟩
      have c2 := (hb2.cell (p := ⟨w.heap.size, 0, none⟩) (Nat.lt_of_lt_of_le hlt1 hB.size)).trans c0
      go_wp2_with fail
      refine (refName_is H0 (by have := HZ.out; omega) _).mono ?_
      rintro e w3 ⟨rfl, hb3⟩
      go_wp2_with fail
      refine (nm _ _).mono ?_; rintro e w4 ⟨rfl, rfl⟩
      have hB3 := hB.trans ((hb2.trans (hb3.mono hb2.size)).mono hB.size)
      go_wp2
      exact ⟨⟨1, rfl, by omega, hB3⟩, by simp [intOf]⟩
    | 1, _ =>
      go_wp2_with fail
      refine (name_is H1 (by have := HZ2.out; omega) _ R off cap (hS1.below hB (Nat.le_refl _))).mono ?_
      rintro e w2 ⟨rfl, hb2⟩
      have c2 := (hb2.cell (p := ⟨w.heap.size, 1, none⟩) (Nat.lt_of_lt_of_le hlt1 hB.size)).trans c1
      go_wp2_with fail
      refine (refName_is H1 HZ2.out _).mono ?_
      rintro e w3 ⟨rfl, hb3⟩
      go_wp2_with fail
      refine (nm _ _).mono ?_; rintro e w4 ⟨rfl, rfl⟩
      have hB3 := hB.trans ((hb2.trans (hb3.mono hb2.size)).mono hB.size)
      go_wp2
      exact ⟨⟨2, rfl, by omega, hB3⟩, by simp [intOf]⟩
    | 2, _ =>
      go_wp2
      go_ret
      exact ⟨rfl, hbw.trans (hB.mono hbw.size)⟩
end Go.Proofs.YtckjededijgjgaaDoor.Rn
