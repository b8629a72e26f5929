import Derived.Test.YthajboipnjjgfaaFrV
import Derived.Test.YthajboipnjjgfaaFrW
import Derived.Test.YthajboipnjjgfaaReK
namespace Go.Proofs.Ythajboipnjjgfaa.Ly
open Go.ChangeShapes Go.WideShapes Go.ChangeAt Go.RowKit Go.Maps
open Go.Deep
set_option linter.unusedVariables false
theorem bytesOf25 : Try.prog.bytesOf 25 = 24 := by kernel_rfl
section
variable {H : Type} {enc : TypeId × Value → H} {W : World}
/-- a list of byte strings that came in -/
theorem open_datas {v0 : Value} {d0 : DataW H} {p0 : List MemPlace} (h : DataW.Trod enc Try.prog W 0 (fun _ => true) true 40 v0 d0 p0) (hone : ∃ a len cap, v0 = .slice a len cap) (hw : ∀ n ∈ d0.weights Try.prog 40, n ≤ 140737488351232) : ∃ S, Dts W v0 S ∧ (S.length : Int) ≤ 5864062014635 ∧ ∀ s ∈ S, s.2.length ≤ 140737488351232 := by
  obtain ⟨fuel, hf⟩ := h
  obtain ⟨a0, len0, cap0, rfl⟩ := hone
  have hf' : DataW.trod enc Try.prog W 0 (fun _ => true) true fuel 40 [.slice a0 len0 cap0] = some (d0, p0) := by simpa [Value.cells] using hf
  rcases open_slice Try.underlying40 hf' with ⟨hcs, hx⟩ | ⟨a, len, cap, m, n, D, Pl, hcs, _, hl, hm, hmm, hx, hel⟩
  · simp only [List.cons.injEq, and_true] at hcs
    rw [hcs]
    exact ⟨[], .inl ⟨⟨_, _, rfl⟩, rfl⟩, by simp, by simp⟩
  · simp only [List.cons.injEq, and_true] at hcs
    rw [hcs]
    simp only [Prod.mk.injEq] at hx
    have hml : m = cap := by rw [hmm]; simp
    have each : ∀ i, i < len → ∃ s : Value × List Int, W.cell? (a.add i) = some s.1 ∧ Rd W s.1 s.2 ∧ s.2.length ≤ 140737488351232 := by
      intro i hi
      obtain ⟨cs', hc, ht⟩ := hel i (by omega)
      rw [cellsOf25] at hc
      obtain ⟨bv, bs, rfl, hd, _, w6⟩ := open_bytes ht
      have hwi : ∀ n ∈ (D i).weights Try.prog 25, n ≤ 140737488351232 := fun n hn => hw n (by
        rw [hx.1]
        simp only [DataW.weights, Try.underlying40, List.mem_cons, List.mem_append]
        refine .inr (.inl (wAll_mem (d := D i) ?_ n hn))
        exact List.mem_map.2 ⟨i, List.mem_range.2 hi, rfl⟩)
      refine ⟨(bv, bs), ?_, hd, ?_⟩
      · obtain ⟨_, _, hcell⟩ := World.cells?_some hc
        have := hcell 0 (by omega)
        rw [Deep.add_add] at this
        simpa using this
      · rcases w6 with ⟨_, rfl⟩ | ⟨el, sp, e, hel⟩
        · simp
        · have := hwi ((el.length + sp.length) * Try.prog.bytesOf 5) (by
            have e' : D i = .slice el sp := e
            rw [e']
            simp [DataW.weights, Try.underlying25])
          rw [bytesOf5] at this
          show bs.length ≤ _
          omega
    haveI : Inhabited (Value × List Int) := ⟨(.slice none 0 0, [])⟩
    obtain ⟨f, hf2⟩ := choose_lt (α := Value × List Int) each
    by_cases h0 : len = 0
    · subst h0
      exact ⟨[], .inl ⟨⟨_, _, rfl⟩, rfl⟩, by simp, by simp⟩
    · have hsp : a.spot = none := by
        have h1 := (hf2 0 (by omega)).1
        have e : a.add 0 = a := by simp [Addr.add]
        rw [e] at h1
        exact spot_none h1
      obtain ⟨ab, ao, sp⟩ := a
      simp only at hsp
      subst hsp
      have hlb : (len : Int) ≤ 5864062014635 := by
        have := hw ((((List.range len).map D).length + ((List.range (m - len)).map fun j => D (len + j)).length) * Try.prog.bytesOf 25) (by rw [hx.1]; simp [DataW.weights, Try.underlying40])
        rw [bytesOf25] at this
        simp only [List.length_map, List.length_range] at this
        omega
      refine ⟨(List.range len).map f, .inr ⟨ab, ao, cap, by simp, fun i s hs => ?_⟩, by simpa using hlb, fun s hs => ?_⟩
      · have hi : i < len := by
          have := (List.getElem?_eq_some_iff.1 hs).1
          simpa using this
        have hs' : f i = s := by simpa [hi] using hs
        subst hs'
        obtain ⟨hc, hfit, _⟩ := hf2 i hi
        rw [Addr.add_lit] at hc
        exact ⟨hc, hfit⟩
      · obtain ⟨i, hi, rfl⟩ := List.mem_map.1 hs
        exact (hf2 i (List.mem_range.1 hi)).2.2
end
end Go.Proofs.Ythajboipnjjgfaa.Ly
namespace Go.Proofs.Ythajboipnjjgfaa.Ly
open Go.ChangeShapes Go.WideShapes Go.ChangeAt Go.RowKit
set_option linter.unusedVariables false

theorem fresh_walk (w : World) (v0 : Value) (S : List (Value × List Int)) (hS : Dts w v0 S) (hlS : (S.length : Int) ≤ 5864062014635) (hbS : ∀ s ∈ S, s.2.length ≤ 140737488351232) :
    Calls Try.prog 4 #[v0] w fun e w' => e = .returned (.bool true) ∧ Kp Nu w w' := by
  by_cases h : (S.length : Int) ≤ 24
  · exact fresh_le w v0 S hS h hlS hbS
  · exact fresh_gt w v0 S hS (by omega) hlS hbS
set_option maxRecDepth 100000 in
theorem lossyFreshLifted (os : Os) (started : os.Started) (H : Type) (enc : TypeId × Value → H) :
    ReturnsInHanded {} Try.checked os 4 .any (Rows.lossyFreshSpec.pre6 enc Try.prog Try.f4 Rows.lossyFreshRow.domain false) (Rows.lossyFreshSpec.post enc Try.prog Try.f4 false true false false) := by
  refine returnsInHanded_of_change_sized (C := Try.checked) ownK started (by kernel_rfl) Try.func4
    (ChangeSpec.witness6 (enc := enc) (C := Try.checked) false ⟨#[], #[.slice none 0 0], []⟩ 8 (by kernel_rfl) (by kernel_rfl) (by kernel_rfl) (by kernel_rfl)) ?_
  intro W base args ds gs before hval0 hW hcnd hsz0 _
  have hval : ∀ (j : Nat) t v, Try.f4.params[j]? = some t → args[j]? = some v → Value.okWide Try.prog W .any base t v := hval0
  have hsz : (DataW.weightsEach Try.prog (Try.f4.params.toList ++ Rows.lossyFreshSpec.plain.varTypes Try.prog) (ds ++ gs)).all (· ≤ reachBytes) = true := hsz0
  have hW' := hW
  obtain ⟨p, q, hA0, hV, rfl, hfz, hnd⟩ := hW
  have hA : DataW.TrodAll enc Try.prog W 0 (fun _ => true) true Try.f4.params.toList args.toList ds p := hA0
  rw [Try.params4] at hA hval hsz
  obtain ⟨v0, vs0, d0, ds0, p0, q0, hargs0, rfl, rfl, h0, r0⟩ := trodAll_cons hA
  obtain ⟨rfl, rfl, rfl⟩ := trodAll_nil r0
  obtain rfl : args = #[v0] := by cases args; simp_all
  obtain ⟨rfl, rfl⟩ := trodVars_none hV
  have h0k := h0
  obtain ⟨S0, hS0, hl0, hB0⟩ := open_datas h0 (okWide_slice Try.underlying40 (hval 0 40 v0 rfl rfl)) (sized_at hsz 0 rfl rfl)
  clear hA0 hval0
  simp only [List.append_nil] at hW'
  have hlt0 : ∀ x ∈ p0, x.block < W.heap.size := fun x hx => hW'.lt x (by simp [hx])
  refine (fresh_walk W v0 S0 hS0 hl0 hB0).mono fun e W' ⟨he, hk⟩ => ?_
  subst he
  exact ⟨_, rfl, _, _, _, [], _, [], hW', trodAll_mk1 (shut_bool Try.underlying4 _), trodAll_cons_mk (Below.trod laidOut (by kernel_rfl) (of_decide_eq_true (by kernel_rfl)) h0k hk.toBelow hlt0) trodAll_mk0, rfl, hk.toBelow.frame _, fun h => by cases h⟩

theorem lossyFreshOver : Rows.lossyFreshRow.holds Try.pinned (OpenSpec.ofChange Rows.lossyFreshSpec) :=
  OpenClaim.holds_of_wide 4 Try.f4 rfl rfl rfl rfl rfl rfl rfl ⟨rfl, rfl, rfl, rfl, rfl⟩ rfl rfl rfl rfl rfl (by kernel_rfl) Try.func4 (by kernel_rfl)
    (of_decide_eq_true (by kernel_rfl)) (by unfold Func.isWrapper; first | (rw [if_pos (by decide +kernel)]; kernel_rfl) | (rw [if_neg (by decide +kernel)]; exact ⟨rfl, rfl⟩))
    (fun os started H enc _ => lossyFreshLifted os started H enc)
end Go.Proofs.Ythajboipnjjgfaa.Ly
namespace Go.Proofs.Ythajboipnjjgfaa
theorem lossyFresh_holds : Rows.LossyFreshSaid := Ly.lossyFreshOver
#print axioms lossyFresh_holds
end Go.Proofs.Ythajboipnjjgfaa
