import Derived.Test.YtbhdhoeaogbfbaaGnC
namespace Go.Proofs.Ytbhdhoeaogbfbaa.Xo
open Go.RowKit
set_option linter.unusedVariables false
/-- may a payload not be? -/
def unf (ys : List Int) : Bool := decide ((ys.length : Int) < 1) || decide ((ys.length : Int) > 3072)
set_option maxHeartbeats 1000000 in
theorem unfit_gen (ad : Option Addr) (cap : Nat) (ys : List Int) (w : World) : Calls Try.prog 54 #[.slice ad ys.length cap] w fun e w' => e = .returned (.bool (unf ys)) ∧ w' = w := by
  unfold unf
  generalize ys.length = n
  by_cases h1 : (n : Int) < 1
  · go_enter Try.func54, Try.ntmps54
    go_wp2
    go_ret
    exact ⟨by simp [h1], rfl⟩
  · by_cases h2 : (n : Int) > 3072
    · go_enter Try.func54, Try.ntmps54
      go_wp2
      go_ret
      exact ⟨by simp, rfl⟩
    · go_enter Try.func54, Try.ntmps54
      go_wp2
      go_ret
      exact ⟨by simp [h1, h2], rfl⟩
/-- payloads that can be read, of whatever length -/
def Rl (w : World) (r off : Nat) (vs : List (Value × List Int)) : Prop := ∀ (i : Nat) (x : Value × List Int), vs[i]? = some x → w.cell? ⟨r, off + i, none⟩ = some x.1 ∧ Rd w x.1 x.2
theorem Rl.nu {w w' : World} {r off : Nat} {vs : List (Value × List Int)} (h : Rl w r off vs) (k : Kp Nu w w') : Rl w' r off vs := fun i x hi => by
  obtain ⟨h1, h2⟩ := h i x hi
  exact ⟨(World.cell?_of_block (k.block _ (World.block_lt_of_cell? w _ h1) (fun h => h))).trans h1, h2.nu k⟩
set_option maxHeartbeats 1000000 in
theorem index_any (w : World) (r off cap : Nat) (vs : List (Value × List Int)) (n : Nat) (hn : vs.length = n) (hn16 : n ≤ 16) (h : Rl w r off vs) : Calls Try.prog 105 #[.slice (some ⟨r, off, none⟩) n cap, .func (.func 54) #[] #[]] w fun e w' => ∃ j : Int, e = .returned (.int .i64 j) ∧ (decide (j ≥ 0) = vs.any (fun x => unf x.2)) ∧ Kp Nu w w' := by
  have HN := hide (And.intro hn hn16)
  have HR := hide h
  clear hn hn16 h
  go_enter Try.func105, Try.ntmps105
  go_wp2
  go_loopw [8] (fun i wr => ∃ k : Nat, k ≤ n ∧ i = .int .i64 (k : Int) ∧ wr = w ∧ Hid ((vs.take k).any (fun x => unf x.2) = false)) (fun i _ => n - (intOf i).toNat)
  case atStart => exact ⟨0, by omega, rfl, rfl, by simp [Hid]⟩
  case round =>
    obtain ⟨k, hkn, rfl, rfl, HK⟩ := hrel
    by_cases hlt : k < n
    · have hkv : k < vs.length := by rw [HN.out.1]; exact hlt
      obtain ⟨x, hx⟩ : ∃ x, vs[k]? = some x := ⟨vs[k], List.getElem?_eq_getElem hkv⟩
      obtain ⟨c1, hrd⟩ := HR.out k x hx
      obtain ⟨adx, cpx, ex⟩ := hrd.slice
      rw [ex] at c1
      have UF := fun W => unfit_gen adx cpx x.2 W
      have hltI : (k : Int) < (n : Int) := by omega
      have hk0 : (0 : Int) ≤ (k : Int) := by omega
      have hwk : Hid (wrap64 ((k : Int) + 1) = ((k + 1 : Nat) : Int)) := by have := HN.out.2; exact wrap_small (by omega) (by omega)
      obtain ⟨b, hb⟩ : ∃ b, unf x.2 = b := ⟨_, rfl⟩
      have HB := hide hb
      rw [hb] at UF
      generalize x.2.length = N at *
      clear hrd ex hkv hb
      cases b with
      | true =>
        go_wp2_with (go_at_call 54; refine (UF _).mono ?_; rintro e w2 ⟨rfl, hw2⟩; obtain rfl := hw2.symm)
        go_ret
        refine ⟨_, rfl, ?_, Kp.refl _ _⟩
        have : vs.any (fun x => unf x.2) = true := List.any_eq_true.2 ⟨x, List.mem_of_getElem? hx, HB.out⟩
        rw [this]
        simp
      | false =>
        go_wp2_with (go_at_call 54; refine (UF _).mono ?_; rintro e w2 ⟨rfl, hw2⟩; obtain rfl := hw2.symm)
        refine ⟨⟨k + 1, hlt, by rw [hwk.out], trivial, ?_⟩, lt_m _ hwk.out hlt⟩
        show (vs.take (k + 1)).any _ = false
        rw [List.take_add_one, hx]
        simp only [List.any_append, HK.out, Option.toList_some, List.any_cons, List.any_nil, HB.out]
        rfl
    · obtain rfl : k = n := by omega
      clear hlt
      go_wp2
      go_ret
      refine ⟨_, rfl, ?_, Kp.refl _ _⟩
      have := HK.out
      rw [List.take_of_length_le (by rw [HN.out.1]; exact Nat.le_refl _)] at this
      rw [this]
      decide
set_option maxHeartbeats 1000000 in
theorem contains_any (w : World) (r off cap : Nat) (vs : List (Value × List Int)) (n : Nat) (hn : vs.length = n) (hn16 : n ≤ 16) (h : Rl w r off vs) : Calls Try.prog 87 #[.slice (some ⟨r, off, none⟩) n cap, .func (.func 54) #[] #[]] w fun e w' => e = .returned (.bool (vs.any (fun x => unf x.2))) ∧ Kp Nu w w' := by
  have IA := index_any w r off cap vs n hn hn16 h
  clear h hn hn16
  generalize vs.any (fun x => unf x.2) = B at *
  go_enter Try.func87, Try.ntmps87
  go_wp2_with (go_at_call 105; refine IA.mono ?_; rintro e w1 ⟨j, rfl, hj, hk1⟩)
  go_ret
  exact ⟨by rw [← hj]; rfl, hk1⟩
end Go.Proofs.Ytbhdhoeaogbfbaa.Xo
