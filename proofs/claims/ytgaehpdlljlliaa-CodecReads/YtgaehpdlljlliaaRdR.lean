import Derived.Test.YtgaehpdlljlliaaRdQ
import Derived.Test.YtgaehpdlljlliaaCnB
import Derived.Test.YtgaehpdlljlliaaCrK
namespace Go.Proofs.Ytgaehpdlljlliaa.Crd
open Go.ChangeShapes Go.WideShapes Go.ChangeAt Go.RowKit
open Go.Proofs.Ytgaehpdlljlliaa.Cd
set_option linter.unusedVariables false

theorem own : ownKnob Try.prog.godebug = none := by kernel_rfl
theorem laidOut : laidOutB Try.prog = true := by kernel_rfl

/-- bytes that came in -/
theorem open_data {H : Type} {enc : TypeId × Value → H} {W : World} {v0 : Value} {d0 : DataW H} {p0 : List MemPlace} (h : DataW.Trod enc Try.prog W 0 (fun _ => true) true 30 v0 d0 p0) (hone : ∃ a len cap, v0 = .slice a len cap) (hw : ∀ n ∈ d0.weights Try.prog 30, n ≤ 140737488351232) :
    ∃ xs, Dt W v0 xs ∧ Byt xs ∧ xs.length ≤ 140737488351232 := by
  obtain ⟨fuel, hf⟩ := h
  obtain ⟨a0, len0, cap0, rfl⟩ := hone
  have hf' : DataW.trod enc Try.prog W 0 (fun _ => true) true fuel 30 [.slice a0 len0 cap0] = some (d0, p0) := by simpa [Value.cells] using hf
  have hf2 := hf'
  obtain ⟨v, bs, e, hr, hb, hx⟩ := open_bytes hf'
  obtain rfl : Value.slice a0 len0 cap0 = v := by simpa using e
  refine ⟨bs, ⟨hr, ?_⟩, hb, ?_⟩
  · rcases open_ints Try.underlying30 Try.underlying5 cellsOf5 hf2 with ⟨hcs, _⟩ | ⟨a, len, cap, zs, hcs, _, hl, _⟩
    · simp only [List.cons.injEq, and_true] at hcs
      obtain ⟨ad, cp, e2⟩ := hr.slice
      rw [hcs] at e2
      simp only [Value.slice.injEq] at e2
      exact ⟨none, 0, by rw [hcs, ← e2.2.1], by omega⟩
    · simp only [List.cons.injEq, and_true] at hcs
      obtain ⟨ad, cp, e2⟩ := hr.slice
      rw [hcs] at e2
      simp only [Value.slice.injEq] at e2
      exact ⟨some a, cap, by rw [hcs, ← e2.2.1], by omega⟩
  · rcases hx with ⟨_, rfl⟩ | ⟨el, sp, hy, hel⟩
    · simp
    · have hy' : d0 = .slice el sp := hy
      have := hw ((el.length + sp.length) * Try.prog.bytesOf 5) (by rw [hy']; simp [DataW.weights, Try.underlying30])
      rw [bytesOf5] at this
      omega

theorem sized_three {H : Type} {t t2 t3 : TypeId} {d d2 d3 : DataW H} (h : (DataW.weightsEach Try.prog [t, t2, t3] [d, d2, d3]).all (· ≤ reachBytes) = true) : (∀ n ∈ d.weights Try.prog t, n ≤ 140737488351232) ∧ (∀ n ∈ d3.weights Try.prog t3, n ≤ 140737488351232) := by
  refine ⟨fun n hn => ?_, fun n hn => ?_⟩
  · exact of_decide_eq_true (List.all_eq_true.1 h n (DataW.weights_mem_each (j := 0) rfl rfl n hn))
  · exact of_decide_eq_true (List.all_eq_true.1 h n (DataW.weights_mem_each (j := 2) rfl rfl n hn))

theorem reads_walk {w : World} {u v : Value} {xs : List Int} {S : List Stp} (a : Bool) (hd : Rd w u xs) (hB : Byt xs) (hxb : xs.length ≤ 140737488351232) (h : Scr w v S) (hSb : S.length ≤ 140737488351232) : Calls Try.prog 5 #[u, .bool a, v] w fun e w' => e = .returned (.bool true) ∧ Kp Nu w w' := by
  by_cases hl : xs.length ≤ 16777216
  · cases a
    · exact creads_ok hd hB hl h hSb
    · exact creads_absent hd hB hl h hSb
  · cases a
    · exact creads_big hd hB (by omega) hxb h hSb
    · exact creads_none hd hB (by omega) hxb h hSb

set_option maxRecDepth 100000 in
theorem readsLifted (os : Os) (started : os.Started) (H : Type) (enc : TypeId × Value → H) :
    ReturnsInHanded {} Try.checked os 5 .any (Rows.codecReadsSpec.pre6 enc Try.prog Try.f5 Rows.codecReadsRow.domain false) (Rows.codecReadsSpec.post enc Try.prog Try.f5 false true false false) := by
  refine returnsInHanded_of_change_sized (C := Try.checked) own started (by kernel_rfl) Try.func5
    (ChangeSpec.witness6 (enc := enc) (C := Try.checked) false ⟨#[], #[.slice none 0 0, .bool false, .slice none 0 0], []⟩ 8 (by kernel_rfl) (by kernel_rfl) (by kernel_rfl) (by kernel_rfl)) ?_
  intro W base args ds gs before hval0 hW hcnd hsz0 _
  have hval : ∀ (j : Nat) t v, Try.f5.params[j]? = some t → args[j]? = some v → Value.okWide Try.prog W .any base t v := hval0
  have hsz : (DataW.weightsEach Try.prog (Try.f5.params.toList ++ Rows.codecReadsSpec.plain.varTypes Try.prog) (ds ++ gs)).all (· ≤ reachBytes) = true := hsz0
  have hW' := hW
  obtain ⟨p, q, hA0, hV, rfl, hfz, hnd⟩ := hW
  have hA : DataW.TrodAll enc Try.prog W 0 (fun _ => true) true Try.f5.params.toList args.toList ds p := hA0
  rw [Try.params5] at hA hval hsz
  obtain ⟨v0, vs0, d0, ds0, p0, q0, hargs, rfl, rfl, h0, r0⟩ := trodAll_cons hA
  obtain ⟨v1, vs1, d1, ds1, p1, q1, rfl, rfl, rfl, h1, r1⟩ := trodAll_cons r0
  obtain ⟨v2, vs2, d2, ds2, p2, q2, rfl, rfl, rfl, h2, r2⟩ := trodAll_cons r1
  obtain ⟨rfl, rfl, rfl⟩ := trodAll_nil r2
  obtain rfl : args = #[v0, v1, v2] := by cases args; simp_all
  obtain ⟨rfl, rfl⟩ := trodVars_none hV
  have h0k := h0
  have h2k := h2
  have hsz2 := sized_three hsz
  obtain ⟨xs, hD, hB, hxl⟩ := open_data h0 (okWide_slice Try.underlying30 (hval 0 30 v0 rfl rfl)) hsz2.1
  obtain ⟨a1, rfl, rfl, rfl⟩ := open_bool Try.underlying4 (hval 1 4 v1 rfl rfl) h1
  obtain ⟨S, hS, hSl⟩ := open_script h2 (okWide_slice Try.underlying25 (hval 2 25 v2 rfl rfl)) hsz2.2
  clear hA0 hval0
  simp only [List.append_nil, List.nil_append] at hW'
  have hlt0 : ∀ x ∈ p0, x.block < W.heap.size := fun x hx => hW'.lt x (by simp [hx])
  have hlt2 : ∀ x ∈ p2, x.block < W.heap.size := fun x hx => hW'.lt x (by simp [hx])
  refine (reads_walk a1 hD.1 hB hxl hS hSl).mono fun e W' ⟨he, hk⟩ => ?_
  subst he
  exact ⟨_, rfl, _, _, _, [], _, [], hW', trodAll_mk1 (shut_bool Try.underlying4 _), trodAll_cons_mk (Below.trod laidOut (by kernel_rfl) (of_decide_eq_true (by kernel_rfl)) h0k hk.toBelow hlt0) (trodAll_cons_mk (shut_bool Try.underlying4 _) (trodAll_cons_mk (Below.trod laidOut (by kernel_rfl) (of_decide_eq_true (by kernel_rfl)) h2k hk.toBelow hlt2) trodAll_mk0)), rfl, hk.toBelow.frame _, fun h => by cases h⟩

theorem readsOver : Rows.codecReadsRow.holds Try.pinned (OpenSpec.ofChange Rows.codecReadsSpec) :=
  OpenClaim.holds_of_wide 5 Try.f5 rfl rfl rfl rfl rfl rfl rfl ⟨rfl, rfl, rfl, rfl, rfl⟩ rfl rfl rfl rfl rfl (by kernel_rfl) Try.func5 (by kernel_rfl)
    (of_decide_eq_true (by kernel_rfl)) (by unfold Func.isWrapper; first | (rw [if_pos (by decide +kernel)]; kernel_rfl) | (rw [if_neg (by decide +kernel)]; exact ⟨rfl, rfl⟩))
    (fun os started H enc _ => readsLifted os started H enc)
end Go.Proofs.Ytgaehpdlljlliaa.Crd
namespace Go.Proofs.Ytgaehpdlljlliaa
theorem codecReads_holds : Rows.CodecReadsSaid := Crd.readsOver
#print axioms codecReads_holds
end Go.Proofs.Ytgaehpdlljlliaa
