import Derived.Test.YtahcdignedfanaaNumE
import Derived.ProofKit
import Derived.OpenShut
import Derived.ShutString
import Derived.SizedLaws
namespace Go.Proofs.Ytahcdignedfanaa.Num
open Go.ChangeShapes Go.WideShapes Go.ChangeAt Go.RowKit
open Go.ChangeMaps (open_string shut_string)
set_option linter.unusedVariables false

theorem number_is {s : ByteArray} {a p q : Nat} (h : Hid (numF s.data.toList = (a, p, q))) (w : World) (hs : s.size ≤ 140737488355328) :
    Calls Try.prog 9 #[.string s] w fun e w' => e = .returned (.tuple #[.int .u64 (a : Int), .int .i64 (p : Int), .int .i64 (q : Int)]) ∧ w' = w := by
  have := number_any s w hs
  rw [h.out] at this
  exact this
theorem refNumber_is {s : ByteArray} {a p q : Nat} (h : Hid (numF s.data.toList = (a, p, q))) (w : World) (hs : s.size ≤ 140737488355328) :
    Calls Try.prog 10 #[.string s] w fun e w' => e = .returned (.tuple #[.int .u64 (a : Int), .int .i64 (p : Int), .int .i64 (q : Int)]) ∧ w' = w := by
  have := refNumber_any s w hs
  rw [h.out] at this
  exact this
theorem numF_some (s : ByteArray) : ∃ a p q, Hid (numF s.data.toList = (a, p, q)) := ⟨(numF s.data.toList).1, (numF s.data.toList).2.1, (numF s.data.toList).2.2, rfl⟩

theorem num_any (n : Int) (w : World) : Calls Try.prog 11 #[.int .i64 n] w fun e w' => e = .returned (.int .i64 n) ∧ w' = w := by
  go_enter Try.func11, Try.ntmps11
  go_wp2
  go_ret
  exact ⟨rfl, rfl⟩

set_option maxHeartbeats 800000 in
theorem walk (s : ByteArray) (hs : s.size ≤ 140737488351232) (w : World) :
    Calls Try.prog 5 #[.string s] w fun e w' => e = .returned (.bool true) ∧ Grown w w' := by
  obtain ⟨a, p, q, h1⟩ := numF_some s
  obtain ⟨a', p', q', h2⟩ := numF_some ({ data := #[48, 120] } ++ s)
  have hs1 : s.size ≤ 140737488355328 := by omega
  have hs2 : ({ data := #[48, 120] } ++ s : ByteArray).size ≤ 140737488355328 := by
    rw [ByteArray.size_append]; show 2 + s.size ≤ _; omega
  go_enter Try.func5, Try.ntmps5
  go_wp2
  go_loop [4] (fun i => ∃ k : Nat, k ≤ 2 ∧ i = .int .i64 k) (fun i => 2 - (intOf i).toNat)
  case atStart => exact ⟨0, by omega, rfl⟩
  case round =>
    obtain ⟨k, hk, rfl⟩ := hrel
    by_cases h0 : k = 0
    · subst h0
      go_wp2_with (first | (go_at_call 9; refine (number_is h1 _ hs1).mono ?_; rintro e w' ⟨rfl, rfl⟩) | (go_at_call 10; refine (refNumber_is h1 _ hs1).mono ?_; rintro e w' ⟨rfl, rfl⟩) | (go_at_call 11; refine (num_any _ _).mono ?_; rintro e w' ⟨rfl, rfl⟩))
      exact ⟨⟨1, by omega, rfl⟩, by simp [intOf]⟩
    · by_cases h1 : k = 1
      · subst h1
        go_wp2_with (first | (go_at_call 9; refine (number_is h2 _ hs2).mono ?_; rintro e w' ⟨rfl, rfl⟩) | (go_at_call 10; refine (refNumber_is h2 _ hs2).mono ?_; rintro e w' ⟨rfl, rfl⟩) | (go_at_call 11; refine (num_any _ _).mono ?_; rintro e w' ⟨rfl, rfl⟩))
        exact ⟨⟨2, by omega, rfl⟩, by simp [intOf]⟩
      · have h2 : k = 2 := by omega
        subst h2
        go_wp2
        go_ret
        exact ⟨rfl, Grown.alloc (Grown.refl _) _ _⟩

theorem own : ownKnob Try.prog.godebug = none := by kernel_rfl

set_option maxRecDepth 100000 in
theorem lifted (os : Os) (started : os.Started) (H : Type) (enc : TypeId × Value → H) :
    ReturnsInHanded {} Try.checked os 5 .any (Rows.textNumbersSpec.pre6 enc Try.prog Try.f5 Rows.textNumbersRow.domain false) (Rows.textNumbersSpec.post enc Try.prog Try.f5 false true false false) := by
  refine returnsInHanded_of_change_sized (C := Try.checked) own started (by kernel_rfl) Try.func5
    (ChangeSpec.witness6 (enc := enc) (C := Try.checked) false ⟨#[], #[.string ByteArray.empty], []⟩ 8 (by kernel_rfl) (by kernel_rfl) (by kernel_rfl) (by kernel_rfl)) ?_
  intro W base args ds gs before hval0 hW hcnd hsz0 _
  have hval : ∀ (j : Nat) t v, Try.f5.params[j]? = some t → args[j]? = some v → Value.okWide Try.prog W .any base t v := hval0
  have hsz : (DataW.weightsEach Try.prog (Try.f5.params.toList ++ Rows.textNumbersSpec.plain.varTypes Try.prog) (ds ++ gs)).all (· ≤ reachBytes) = true := hsz0
  have hW' := hW
  obtain ⟨p, q, hA0, hV, rfl, hfz, hnd⟩ := hW
  have hA : DataW.TrodAll enc Try.prog W 0 (fun _ => true) true Try.f5.params.toList args.toList ds p := hA0
  rw [Try.params5] at hA hval hsz
  obtain ⟨v0, vs0, d0, ds0, p0, q0, hargs, rfl, rfl, h0, r0⟩ := trodAll_cons hA
  obtain ⟨rfl, rfl, rfl⟩ := trodAll_nil r0
  obtain rfl : args = #[v0] := by cases args; simp_all
  obtain ⟨rfl, rfl⟩ := trodVars_none hV
  obtain ⟨a0, rfl, rfl, rfl, w0⟩ := open_string Try.underlying9 (hval 0 9 v0 rfl rfl) h0
  have hlen : a0.data.toList.length ≤ reachBytes := sized_string hsz (j := 0) (t := 9) rfl rfl
  simp only [reachBytes, len] at hlen
  clear hA0 hval0
  simp only [List.append_nil] at hW'
  refine (walk a0 hlen W).mono fun e W' ⟨he, hg⟩ => ?_
  subst he
  exact ⟨_, rfl, post_of_same (pa := []) (pv := []) hW' (fun _ _ _ => (trodAll_cons_mk (shut_bool Try.underlying4 _) trodAll_mk0)) (fun sp _ => (trodAll_cons_mk (shut_string Try.underlying9 w0) trodAll_mk0)) (fun _ _ => rfl) rfl
    (hg.frame _) hg.2.1 (ok_one (by kernel_rfl) rfl (okWide_bool_mk Try.underlying4 _))⟩

theorem over : Rows.textNumbersRow.holds Try.pinned (OpenSpec.ofChange Rows.textNumbersSpec) :=
  OpenClaim.holds_of_wide 5 Try.f5 rfl rfl rfl rfl rfl rfl rfl ⟨rfl, rfl, rfl, rfl, rfl⟩ rfl rfl rfl rfl rfl (by kernel_rfl) Try.func5 (by kernel_rfl)
    (of_decide_eq_true (by kernel_rfl)) (by unfold Func.isWrapper; first | (rw [if_pos (by decide +kernel)]; kernel_rfl) | (rw [if_neg (by decide +kernel)]; exact ⟨rfl, rfl⟩))
    (fun os started H enc _ => lifted os started H enc)

theorem proved : Rows.TextNumbersSaid :=
  over
#print axioms proved
end Go.Proofs.Ytahcdignedfanaa.Num
namespace Go.Proofs.Ytahcdignedfanaa
theorem textNumbers_holds : Rows.TextNumbersSaid := Num.proved
#print axioms textNumbers_holds
end Go.Proofs.Ytahcdignedfanaa
