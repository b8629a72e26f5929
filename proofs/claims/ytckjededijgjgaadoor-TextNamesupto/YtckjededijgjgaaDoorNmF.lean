import Derived.Test.YtckjededijgjgaaDoorCards
import Derived.Test.YtckjededijgjgaaDoorTie
import Derived.Test.YtckjededijgjgaaDoorEncE
import Derived.Test.YtckjededijgjgaaDoorNmE
import Derived.ProofKit
import Derived.OpenShut
import Derived.ShutString
import Derived.Deep.DeepHandedRow
import Derived.Deep.DeepWitnessRowRef
import Derived.Below
namespace Go.Proofs.YtckjededijgjgaaDoor.Nm
open Go.ChangeShapes Go.WideShapes Go.ChangeAt Go.RowKit
open Go.ChangeMaps (open_string shut_string)
set_option linter.unusedVariables false

theorem own : ownKnob Tryd.prog.godebug = none := by kernel_rfl
theorem gTab : Tryd.prog.globalNamed "shard/text.letterSpans" = some 1 := by kernel_rfl
theorem gTabType : (Tryd.prog.globals[1]?).map (·.type) = some 146 := by kernel_rfl
theorem cells148 : Tryd.prog.cellsOf 148 = 3 := by kernel_rfl
theorem cells21 : Tryd.prog.cellsOf 21 = 1 := by kernel_rfl
theorem laid_rows : (Rows.laid_shard_text_letterSpans : DataW Unit) = Tab.rowData .i32 .i32 .i32 lets := by kernel_rfl

/-- what the row's list gives: the table's cells -/
theorem table {W : World} {rest : List (String × DataW Unit)} (h : laidMet Tryd.prog (("shard/text.letterSpans", Rows.laid_shard_text_letterSpans) :: rest) W) : ∃ R off cap, Lets W R off cap := by
  obtain ⟨ps, ⟨g', t', cs, fuel, p, q, hg', ht', hvar, hd, _, _⟩, _⟩ := h
  obtain rfl := Option.some.inj (gTab.symm.trans hg')
  obtain rfl := Option.some.inj (gTabType.symm.trans ht')
  rw [laid_rows] at hd
  obtain ⟨R, off, cap, hcs, hR, hrow⟩ := Tab.rows_of (by rw [lets_len]; omega) Tryd.underlying146 Tryd.underlying148 cells148 rfl rfl rfl cells21 cells21 cells21 Tryd.underlying21 Tryd.underlying21 Tryd.underlying21 hd
  have hc := World.var?_cell gTab hvar 0
  have hc0 : cs[0]? = some (.slice (some ⟨R, off, none⟩) lets.length cap) := by rw [← Array.getElem?_toList, hcs]; rfl
  rw [hc0, lets_len] at hc
  rw [lets_len] at hrow
  exact ⟨R, off, cap, hc, World.block_lt_of_cell? W _ hc, hR, fun k hk => (hrow k hk).1, fun k hk => (hrow k hk).2.1, fun k hk => (hrow k hk).2.2⟩

set_option maxRecDepth 100000 in
theorem contract (H : Type) (enc : TypeId × Value → H) (W : World) (base : Nat) (args : Array Value) (ds gs : List (DataW H)) (before : List MemPlace)
    (hval : ∀ (j : Nat) t v, Tryd.f4.params[j]? = some t → args[j]? = some v → Value.okWide Tryd.prog W .any base t v)
    (hW : DataW.Whole enc Tryd.prog Tryd.f4.params.toList Rows.textFoldsSpec.vars false W args.toList ds gs before) (hL : laidMetH Tryd.prog Rows.textFoldsRow.laid W) :
    Calls Tryd.prog 4 args W fun e W' => ∃ v, e = .returned v ∧ Rows.textFoldsSpec.post enc Tryd.prog Tryd.f4 false true false false W args v W' := by
  have hW' := hW
  obtain ⟨p, q, hA0, hV, rfl, hfz, hnd⟩ := hW
  have hA : DataW.TrodAll enc Tryd.prog W 0 (fun _ => true) true Tryd.f4.params.toList args.toList ds p := hA0
  rw [Tryd.params4] at hA hval
  obtain ⟨v0, vs0, d0, ds0, p0, q0, hargs, rfl, rfl, h0, r0⟩ := trodAll_cons hA
  obtain ⟨rfl, rfl, rfl⟩ := trodAll_nil r0
  obtain rfl : args = #[v0] := by cases args; simp_all
  obtain ⟨rfl, rfl⟩ := trodVars_none hV
  obtain ⟨a0, rfl, rfl, rfl, w0⟩ := open_string Tryd.underlying9 (hval 0 9 v0 rfl rfl) h0
  clear hA0
  simp only [List.append_nil] at hW'
  obtain ⟨R, off, cap, hS⟩ := table (rest := []) hL
  refine (walk a0 w0 W R off cap hS).mono fun e W' ⟨he, bel⟩ => ?_
  subst he
  exact ⟨_, rfl, _, _, _, [], _, [], hW', trodAll_mk1 (shut_bool Tryd.underlying4 _), trodAll_cons_mk (shut_string Tryd.underlying9 w0) trodAll_mk0, rfl, bel.frame _, fun h => by cases h⟩

end Go.Proofs.YtckjededijgjgaaDoor.Nm
