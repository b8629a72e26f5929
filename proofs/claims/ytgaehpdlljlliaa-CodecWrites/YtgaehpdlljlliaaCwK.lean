import Derived.Test.YtgaehpdlljlliaaCwJ
import Derived.Test.YtgaehpdlljlliaaCrK
namespace Go.Proofs.Ytgaehpdlljlliaa.Cw
open Go.ChangeShapes Go.WideShapes Go.ChangeAt Go.RowKit
open Go.Proofs.Ytgaehpdlljlliaa.Cd
set_option linter.unusedVariables false

theorem own : ownKnob Try.prog.godebug = none := by kernel_rfl
theorem laidOut : laidOutB Try.prog = true := by kernel_rfl

theorem sized_two {H : Type} {t t2 : TypeId} {d d2 : DataW H} (h : (DataW.weightsEach Try.prog [t, t2] [d, d2]).all (· ≤ reachBytes) = true) : (∀ n ∈ d.weights Try.prog t, n ≤ 140737488351232) ∧ (∀ n ∈ d2.weights Try.prog t2, n ≤ 140737488351232) := by
  refine ⟨fun n hn => ?_, fun n hn => ?_⟩
  · exact of_decide_eq_true (List.all_eq_true.1 h n (DataW.weights_mem_each (j := 0) rfl rfl n hn))
  · exact of_decide_eq_true (List.all_eq_true.1 h n (DataW.weights_mem_each (j := 1) rfl rfl n hn))

theorem writes_walk {w : World} {v : Value} {S : List Stp} (lim : Int) (h : Scr w v S) (hSb : S.length ≤ 140737488351232) : Calls Try.prog 4 #[.int .i64 lim, v] w fun e w' => e = .returned (.bool true) ∧ Kp Nu w w' := by
  by_cases h1 : lim < 0 ∨ lim > 16777216
  · exact writes_bad lim h1 h hSb
  · exact writes_ok lim (by omega) (by omega) h hSb

set_option maxRecDepth 100000 in
theorem writesLifted (os : Os) (started : os.Started) (H : Type) (enc : TypeId × Value → H) :
    ReturnsInHanded {} Try.checked os 4 .any (Rows.codecWritesSpec.pre6 enc Try.prog Try.f4 Rows.codecWritesRow.domain false) (Rows.codecWritesSpec.post enc Try.prog Try.f4 false true false false) := by
  refine returnsInHanded_of_change_sized (C := Try.checked) own started (by kernel_rfl) Try.func4
    (ChangeSpec.witness6 (enc := enc) (C := Try.checked) false ⟨#[], #[.int .i64 0, .slice none 0 0], []⟩ 8 (by kernel_rfl) (by kernel_rfl) (by kernel_rfl) (by kernel_rfl)) ?_
  intro W base args ds gs before hval0 hW hcnd hsz0 _
  have hval : ∀ (j : Nat) t v, Try.f4.params[j]? = some t → args[j]? = some v → Value.okWide Try.prog W .any base t v := hval0
  have hsz : (DataW.weightsEach Try.prog (Try.f4.params.toList ++ Rows.codecWritesSpec.plain.varTypes Try.prog) (ds ++ gs)).all (· ≤ reachBytes) = true := hsz0
  have hW' := hW
  obtain ⟨p, q, hA0, hV, rfl, hfz, hnd⟩ := hW
  have hA : DataW.TrodAll enc Try.prog W 0 (fun _ => true) true Try.f4.params.toList args.toList ds p := hA0
  rw [Try.params4] at hA hval hsz
  obtain ⟨v0, vs0, d0, ds0, p0, q0, hargs, rfl, rfl, h0, r0⟩ := trodAll_cons hA
  obtain ⟨v1, vs1, d1, ds1, p1, q1, rfl, rfl, rfl, h1, r1⟩ := trodAll_cons r0
  obtain ⟨rfl, rfl, rfl⟩ := trodAll_nil r1
  obtain rfl : args = #[v0, v1] := by cases args; simp_all
  obtain ⟨rfl, rfl⟩ := trodVars_none hV
  have h0k := h0
  have h1k := h1
  have hsz2 := sized_two hsz
  obtain ⟨S, hS, hSl⟩ := open_script h1 (okWide_slice Try.underlying25 (hval 1 25 v1 rfl rfl)) hsz2.2
  obtain ⟨a0, rfl, rfl, rfl, w0⟩ := open_int Try.underlying3 (hval 0 3 v0 rfl rfl) h0
  clear hA0 hval0
  simp only [List.append_nil, List.nil_append] at hW'
  have hlt1 : ∀ x ∈ p1, x.block < W.heap.size := fun x hx => hW'.lt x (by simp [hx])
  refine (writes_walk a0 hS hSl).mono fun e W' ⟨he, hk⟩ => ?_
  subst he
  exact ⟨_, rfl, _, _, _, [], _, [], hW', trodAll_mk1 (shut_bool Try.underlying4 _), trodAll_cons_mk (shut_int Try.underlying3 w0) (trodAll_cons_mk (Below.trod laidOut (by kernel_rfl) (of_decide_eq_true (by kernel_rfl)) h1k hk.toBelow hlt1) trodAll_mk0), rfl, hk.toBelow.frame _, fun h => by cases h⟩

theorem writesOver : Rows.codecWritesRow.holds Try.pinned (OpenSpec.ofChange Rows.codecWritesSpec) :=
  OpenClaim.holds_of_wide 4 Try.f4 rfl rfl rfl rfl rfl rfl rfl ⟨rfl, rfl, rfl, rfl, rfl⟩ rfl rfl rfl rfl rfl (by kernel_rfl) Try.func4 (by kernel_rfl)
    (of_decide_eq_true (by kernel_rfl)) (by unfold Func.isWrapper; first | (rw [if_pos (by decide +kernel)]; kernel_rfl) | (rw [if_neg (by decide +kernel)]; exact ⟨rfl, rfl⟩))
    (fun os started H enc _ => writesLifted os started H enc)
end Go.Proofs.Ytgaehpdlljlliaa.Cw
namespace Go.Proofs.Ytgaehpdlljlliaa
theorem codecWrites_holds : Rows.CodecWritesSaid := Cw.writesOver
#print axioms codecWrites_holds
end Go.Proofs.Ytgaehpdlljlliaa
