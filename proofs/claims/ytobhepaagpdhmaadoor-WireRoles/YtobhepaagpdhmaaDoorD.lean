import Derived.Test.YtobhepaagpdhmaaDoorB
import Derived.Test.YtobhepaagpdhmaaDoorC
namespace Go.Proofs.YtobhepaagpdhmaaDoor.Wi
open Go.RowKit
set_option linter.unusedVariables false

/-- the kinds' words -/
def wd : List (List UInt8) := [[], [103, 101, 116], [115, 101, 116], [100, 101, 108, 101, 116, 101], [99, 97, 115], [115, 99, 97, 110], [114, 101, 112, 108, 121], [114, 101, 100, 105, 114, 101, 99, 116], [115, 104, 97, 114, 100], [100, 111, 110, 101], [100, 97, 116, 97], [97, 99, 107], [100, 101, 108, 101, 103, 97, 116, 101]]
theorem wd_all : ∀ l ∈ wd, l.length ≤ 8 := by decide
theorem wd_le (n : Nat) : (wd.getD n []).length ≤ 8 := by
  rw [List.getD_eq_getElem?_getD]
  rcases h : wd[n]? with _ | l
  · simp
  · exact wd_all l (List.mem_of_getElem? h)
def wordB (n : Nat) : ByteArray := ⟨(wd.getD n []).toArray⟩
theorem wordB_le (n : Nat) : (wordB n).size ≤ 1000 := by
  have := wd_le n
  show (wd.getD n []).toArray.size ≤ 1000
  rw [List.size_toArray]
  omega

/-- the variable at block g holds the words -/
def Words (w : World) (g : Nat) : Prop := ∀ k, k < 13 → w.cell? ⟨g, k, none⟩ = some (.string (wordB k))
theorem Words.below {w w' : World} {g n : Nat} (h : Words w g) (hb : Below n w w') (hn : w.heap.size ≤ n) : Words w' g := fun k hk =>
  (hb.cell (p := ⟨g, k, none⟩) (Nat.lt_of_lt_of_le (World.block_lt_of_cell? w ⟨g, k, none⟩ (h k hk)) hn)).trans (h k hk)

def nm (k : Nat) : ByteArray := if 1 ≤ k ∧ k ≤ 12 then wordB k else ByteArray.empty

theorem kindName_any (k : Nat) (hk : k ≤ 255) {w : World} (h : Words w 0) : Calls Tryd.prog 6 #[.int .u8 (k : Int)] w fun e w' => e = .returned (.string (nm k)) ∧ Below w.heap.size w w' := by
  have I := fun w => isKind_any (k : Int) w
  by_cases hin : 1 ≤ k ∧ k ≤ 12
  · have e : nm k = wordB k := by unfold nm; rw [if_pos hin]
    rw [e]
    have hc := h k (by omega)
    have C := fun w => clone_any (wordB k) w (wordB_le k)
    have hb : (decide (1 ≤ (k : Int)) && decide ((k : Int) ≤ 12)) = true := by simp; omega
    rw [hb] at I
    generalize wordB k = s at *
    have h13 : (k : Int) < 13 := by omega
    clear h hb e hin
    go_enter Tryd.func6, Tryd.ntmps6
    go_wp2_with fail
    refine (I _).mono ?_; rintro e w' ⟨rfl, rfl⟩
    go_wp2_with fail
    refine (C _).mono ?_; rintro e w' ⟨rfl, hb⟩
    go_wp2
    go_ret
    exact ⟨rfl, hb⟩
  · have e : nm k = ByteArray.empty := by unfold nm; rw [if_neg hin]
    rw [e]
    have hb : (decide (1 ≤ (k : Int)) && decide ((k : Int) ≤ 12)) = false := by simp; omega
    rw [hb] at I
    clear h hb e hin
    go_enter Tryd.func6, Tryd.ntmps6
    go_wp2_with fail
    refine (I _).mono ?_; rintro e w' ⟨rfl, rfl⟩
    go_wp2
    go_ret
    exact ⟨rfl, Below.refl _ _⟩

theorem refKindName_any (k : Nat) (hk : k ≤ 255) {w : World} (h : Words w 1) : Calls Tryd.prog 7 #[.int .i64 (k : Int)] w fun e w' => e = .returned (.string (nm k)) ∧ w' = w := by
  by_cases hin : 1 ≤ k ∧ k ≤ 12
  · have e : nm k = wordB k := by unfold nm; rw [if_pos hin]
    rw [e]
    have hc := h k (by omega)
    generalize wordB k = s at *
    have h13 : (k : Int) < 13 := by omega
    have h1 : ¬ (k : Int) < 1 := by omega
    have h12 : ¬ (k : Int) > 12 := by omega
    clear h e hin
    go_enter Tryd.func7, Tryd.ntmps7
    go_wp2
    go_ret
    exact ⟨rfl, rfl⟩
  · have e : nm k = ByteArray.empty := by unfold nm; rw [if_neg hin]
    rw [e]
    clear h e
    by_cases h1 : (k : Int) < 1
    · go_enter Tryd.func7, Tryd.ntmps7
      go_wp2
      go_ret
      exact ⟨rfl, rfl⟩
    · have h12 : (k : Int) > 12 := by omega
      clear hin
      go_enter Tryd.func7, Tryd.ntmps7
      go_wp2
      go_ret
      exact ⟨rfl, rfl⟩

set_option maxHeartbeats 1000000 in
theorem walk (x y k : Int) (hx : 0 ≤ x ∧ x ≤ 255) (hy : 0 ≤ y ∧ y ≤ 255) (hk : 0 ≤ k ∧ k ≤ 255) {w : World} (h0 : Words w 0) (h1 : Words w 1) :
    Calls Tryd.prog 3 #[.int .u8 x, .int .u8 y, .int .u8 k] w fun e w' => e = .returned (.bool true) ∧ Below w.heap.size w w' := by
  obtain ⟨n, rfl⟩ : ∃ n : Nat, k = (n : Int) := ⟨k.toNat, by omega⟩
  have R1 := fun w => roleOf_any x w
  have R2 := fun w => roleOf_any y w
  have A := fun w => allowed_any x y (n : Int) w
  have K := kindName_any n (by omega) h0
  have Q := fun (w' : World) (hb : Below w.heap.size w w') => refKindName_any n (by omega) (h1.below hb (Nat.le_refl _))
  have RA := fun w => refAllowed_any x y (n : Int) w
  have G1 := fun w => refRole_any x w
  have G2 := fun w => refRole_any y w
  have haa : (al x y (n : Int) == al x y (n : Int)) = true := by simp
  have r1 : 0 ≤ role x ∧ role x ≤ 4 := by rcases role4 x with h | h | h | h <;> omega
  have r2 : 0 ≤ role y ∧ role y ≤ 4 := by rcases role4 y with h | h | h | h <;> omega
  obtain ⟨r10, r11⟩ := r1
  obtain ⟨r20, r21⟩ := r2
  obtain ⟨x0, x1⟩ := hx
  obtain ⟨y0, y1⟩ := hy
  have hn : (n : Int) ≤ 255 := by omega
  generalize nm n = s at *
  generalize al x y (n : Int) = a at *
  generalize role x = p at *
  generalize role y = q at *
  have hp : (p == p) = true := by simp
  have hq : (q == q) = true := by simp
  clear h0 h1 hk
  go_enter Tryd.func3, Tryd.ntmps3
  go_wp2_with fail
  refine (R1 _).mono ?_; rintro e w' ⟨rfl, rfl⟩
  go_wp2_with fail
  refine (R2 _).mono ?_; rintro e w' ⟨rfl, rfl⟩
  go_wp2_with fail
  refine (A _).mono ?_; rintro e w' ⟨rfl, rfl⟩
  go_wp2_with fail
  refine K.mono ?_; rintro e w1 ⟨rfl, hb⟩
  go_wp2_with fail
  refine (Q _ hb).mono ?_; rintro e w' ⟨rfl, rfl⟩
  go_wp2_with fail
  refine (RA _).mono ?_; rintro e w' ⟨rfl, rfl⟩
  go_wp2_with fail
  refine (G1 _).mono ?_; rintro e w' ⟨rfl, rfl⟩
  go_wp2_with fail
  refine (G2 _).mono ?_; rintro e w' ⟨rfl, rfl⟩
  go_wp2
  go_ret
  exact ⟨rfl, hb⟩
end Go.Proofs.YtobhepaagpdhmaaDoor.Wi
