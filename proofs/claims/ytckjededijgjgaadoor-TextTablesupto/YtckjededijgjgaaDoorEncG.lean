import Derived.Test.YtckjededijgjgaaDoorCards
import Derived.Test.YtckjededijgjgaaDoorTie
import Derived.Test.YtckjededijgjgaaDoorEncE
import Derived.Test.YtckjededijgjgaaDoorEncF
import Derived.ProofKit
import Derived.OpenShut
import Derived.Deep.DeepHandedRow
import Derived.Deep.DeepWitnessRowRef
import Derived.Below
namespace Go.Proofs.YtckjededijgjgaaDoor.Enc
open Go.ChangeShapes Go.WideShapes Go.ChangeAt Go.RowKit
set_option linter.unusedVariables false

theorem own : ownKnob Tryd.prog.godebug = none := by kernel_rfl
theorem laidOut : laidOutB Tryd.prog = true := by kernel_rfl
theorem gTab : Tryd.prog.globalNamed "shard/text.kindSpans" = some 0 := by kernel_rfl
theorem gTabType : (Tryd.prog.globals[0]?).map (·.type) = some 125 := by kernel_rfl
theorem cells127 : Tryd.prog.cellsOf 127 = 3 := by kernel_rfl
theorem cells21 : Tryd.prog.cellsOf 21 = 1 := by kernel_rfl
theorem cells76 : Tryd.prog.cellsOf 76 = 1 := by kernel_rfl
theorem laid_rows : (Rows.laid_shard_text_kindSpans : DataW Unit) = Tab.rowData .i32 .i32 .u8 spans := by kernel_rfl

/-- what the row's list gives: the table's cells -/
theorem table {W : World} {rest : List (String × DataW Unit)} (h : laidMet Tryd.prog (("shard/text.kindSpans", Rows.laid_shard_text_kindSpans) :: rest) W) : ∃ R off cap, Spans W R off cap := by
  obtain ⟨ps, ⟨g', t', cs, fuel, p, q, hg', ht', hvar, hd, _, _⟩, _⟩ := h
  obtain rfl := Option.some.inj (gTab.symm.trans hg')
  obtain rfl := Option.some.inj (gTabType.symm.trans ht')
  rw [laid_rows] at hd
  obtain ⟨R, off, cap, hcs, hR, hrow⟩ := Tab.rows_of (by rw [spans_len]; omega) Tryd.underlying125 Tryd.underlying127 cells127 rfl rfl rfl cells21 cells21 cells76 Tryd.underlying21 Tryd.underlying21 Tryd.underlying76 hd
  have hc := World.var?_cell gTab hvar 0
  have hc0 : cs[0]? = some (.slice (some ⟨R, off, none⟩) spans.length cap) := by rw [← Array.getElem?_toList, hcs]; rfl
  rw [hc0, spans_len] at hc
  rw [spans_len] at hrow
  exact ⟨R, off, cap, hc, World.block_lt_of_cell? W _ hc, hR, fun k hk => (hrow k hk).1, fun k hk => (hrow k hk).2.1, fun k hk => (hrow k hk).2.2⟩

set_option maxRecDepth 100000 in
theorem contract (H : Type) (enc : TypeId × Value → H) (W : World) (base : Nat) (args : Array Value) (ds gs : List (DataW H)) (before : List MemPlace)
    (hval : ∀ (j : Nat) t v, Tryd.f3.params[j]? = some t → args[j]? = some v → Value.okWide Tryd.prog W .any base t v)
    (hW : DataW.Whole enc Tryd.prog Tryd.f3.params.toList Rows.textEncodesSpec.vars false W args.toList ds gs before) (hL : laidMetH Tryd.prog Rows.textEncodesRow.laid W) :
    Calls Tryd.prog 3 args W fun e W' => ∃ v, e = .returned v ∧ Rows.textEncodesSpec.post enc Tryd.prog Tryd.f3 false true false false W args v W' := by
  have hW' := hW
  obtain ⟨p, q, hA0, hV, rfl, hfz, hnd⟩ := hW
  have hA : DataW.TrodAll enc Tryd.prog W 0 (fun _ => true) true Tryd.f3.params.toList args.toList ds p := hA0
  rw [Tryd.params3] at hA hval
  obtain ⟨v0, vs0, d0, ds0, p0, q0, hargs, rfl, rfl, h0, r0⟩ := trodAll_cons hA
  obtain ⟨rfl, rfl, rfl⟩ := trodAll_nil r0
  obtain rfl : args = #[v0] := by cases args; simp_all
  obtain ⟨rfl, rfl⟩ := trodVars_none hV
  obtain ⟨a0, rfl, rfl, rfl, w0⟩ := open_int Tryd.underlying21 (hval 0 21 v0 rfl rfl) h0
  clear hA0
  simp only [List.append_nil] at hW'
  have hx : -2147483648 ≤ a0 ∧ a0 ≤ 2147483647 := bounds_i32 w0
  obtain ⟨R, off, cap, hS⟩ := table (rest := []) hL
  refine (walk a0 W R off cap hS hx.1 hx.2).mono fun e W' ⟨he, bel⟩ => ?_
  subst he
  exact ⟨_, rfl, _, _, _, [], _, [], hW', trodAll_mk1 (shut_bool Tryd.underlying4 _), trodAll_cons_mk (shut_int Tryd.underlying21 w0) trodAll_mk0, rfl, bel.frame _, fun h => by cases h⟩

end Go.Proofs.YtckjededijgjgaaDoor.Enc
