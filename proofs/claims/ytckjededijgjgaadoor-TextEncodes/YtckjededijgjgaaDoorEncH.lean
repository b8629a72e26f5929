import Derived.Test.YtckjededijgjgaaDoorEncG
namespace Go.Proofs.YtckjededijgjgaaDoor.Enc
open Go.ChangeShapes Go.WideShapes Go.ChangeAt Go.RowKit
set_option linter.unusedVariables false

/-- a world for the witness: the settled one, a block with the rows more, the variable leading to it -/
noncomputable def laidWorld (os : Os) : World :=
  { World.holding Tryd.prog os ⟨#[.cells #[.int .i32 0, .int .i32 31, .int .u8 1, .int .i32 127, .int .i32 160, .int .u8 1, .int .i32 173, .int .i32 173, .int .u8 1, .int .i32 768, .int .i32 879, .int .u8 2, .int .i32 1155, .int .i32 1161, .int .u8 2, .int .i32 1425, .int .i32 1469, .int .u8 2, .int .i32 1564, .int .i32 1564, .int .u8 1, .int .i32 1611, .int .i32 1631, .int .u8 2, .int .i32 4352, .int .i32 4447, .int .u8 3, .int .i32 5760, .int .i32 5760, .int .u8 1, .int .i32 6158, .int .i32 6158, .int .u8 1, .int .i32 6832, .int .i32 6911, .int .u8 2, .int .i32 7616, .int .i32 7679, .int .u8 2, .int .i32 8192, .int .i32 8207, .int .u8 1, .int .i32 8232, .int .i32 8239, .int .u8 1, .int .i32 8287, .int .i32 8303, .int .u8 1, .int .i32 8400, .int .i32 8447, .int .u8 2, .int .i32 11904, .int .i32 12287, .int .u8 3, .int .i32 12288, .int .i32 12288, .int .u8 1, .int .i32 12289, .int .i32 12350, .int .u8 3, .int .i32 12353, .int .i32 19903, .int .u8 3, .int .i32 19968, .int .i32 42191, .int .u8 3, .int .i32 44032, .int .i32 55203, .int .u8 3, .int .i32 55296, .int .i32 57343, .int .u8 1, .int .i32 57344, .int .i32 63743, .int .u8 1, .int .i32 63744, .int .i32 64255, .int .u8 3, .int .i32 64976, .int .i32 65007, .int .u8 1, .int .i32 65024, .int .i32 65039, .int .u8 2, .int .i32 65056, .int .i32 65071, .int .u8 2, .int .i32 65072, .int .i32 65135, .int .u8 3, .int .i32 65279, .int .i32 65279, .int .u8 1, .int .i32 65281, .int .i32 65376, .int .u8 3, .int .i32 65504, .int .i32 65510, .int .u8 3, .int .i32 65529, .int .i32 65531, .int .u8 1, .int .i32 127744, .int .i32 128591, .int .u8 3, .int .i32 129280, .int .i32 129535, .int .u8 3, .int .i32 131072, .int .i32 262141, .int .u8 3, .int .i32 917504, .int .i32 1114111, .int .u8 1] 127], #[], []⟩ with heap := (World.holding Tryd.prog os ⟨#[.cells #[.int .i32 0, .int .i32 31, .int .u8 1, .int .i32 127, .int .i32 160, .int .u8 1, .int .i32 173, .int .i32 173, .int .u8 1, .int .i32 768, .int .i32 879, .int .u8 2, .int .i32 1155, .int .i32 1161, .int .u8 2, .int .i32 1425, .int .i32 1469, .int .u8 2, .int .i32 1564, .int .i32 1564, .int .u8 1, .int .i32 1611, .int .i32 1631, .int .u8 2, .int .i32 4352, .int .i32 4447, .int .u8 3, .int .i32 5760, .int .i32 5760, .int .u8 1, .int .i32 6158, .int .i32 6158, .int .u8 1, .int .i32 6832, .int .i32 6911, .int .u8 2, .int .i32 7616, .int .i32 7679, .int .u8 2, .int .i32 8192, .int .i32 8207, .int .u8 1, .int .i32 8232, .int .i32 8239, .int .u8 1, .int .i32 8287, .int .i32 8303, .int .u8 1, .int .i32 8400, .int .i32 8447, .int .u8 2, .int .i32 11904, .int .i32 12287, .int .u8 3, .int .i32 12288, .int .i32 12288, .int .u8 1, .int .i32 12289, .int .i32 12350, .int .u8 3, .int .i32 12353, .int .i32 19903, .int .u8 3, .int .i32 19968, .int .i32 42191, .int .u8 3, .int .i32 44032, .int .i32 55203, .int .u8 3, .int .i32 55296, .int .i32 57343, .int .u8 1, .int .i32 57344, .int .i32 63743, .int .u8 1, .int .i32 63744, .int .i32 64255, .int .u8 3, .int .i32 64976, .int .i32 65007, .int .u8 1, .int .i32 65024, .int .i32 65039, .int .u8 2, .int .i32 65056, .int .i32 65071, .int .u8 2, .int .i32 65072, .int .i32 65135, .int .u8 3, .int .i32 65279, .int .i32 65279, .int .u8 1, .int .i32 65281, .int .i32 65376, .int .u8 3, .int .i32 65504, .int .i32 65510, .int .u8 3, .int .i32 65529, .int .i32 65531, .int .u8 1, .int .i32 127744, .int .i32 128591, .int .u8 3, .int .i32 129280, .int .i32 129535, .int .u8 3, .int .i32 131072, .int .i32 262141, .int .u8 3, .int .i32 917504, .int .i32 1114111, .int .u8 1] 127], #[], []⟩).heap.modify 0 fun
      | .cells _ t frozen => .cells #[.slice (some ⟨(World.settled Tryd.prog os).heap.size, 0, none⟩) 38 38] t frozen
      | o => o }
theorem laid_met (os : Os) : laidMet Tryd.prog Rows.textEncodesRow.laid ((laidWorld os).forCall (fun _ _ => 0) ⟨#[], #[.int .i32 0], []⟩).memory :=
  laidMet_of_run' 8 (by kernel_rfl) (by kernel_rfl)
theorem reads (os : Os) {H : Type} (enc : TypeId × Value → H) : ∃ places, DataW.whole enc Tryd.prog ((laidWorld os).forCall (fun _ _ => 0) ⟨#[], #[.int .i32 0], []⟩).memory Tryd.f3.params.toList Rows.textEncodesSpec.vars false #[Value.int .i32 0].toList 8 = some ([.lit (.int .i32 0)], [], places) :=
  ⟨[], by kernel_rfl⟩

set_option maxRecDepth 100000 in
theorem lifted (os : Os) (started : os.Started) (H : Type) (enc : TypeId × Value → H) (F : Stop.Interp) :
    ReturnsInHanded {} Tryd.checked os 3 .any ((OpenSpec.ofChange Rows.textEncodesSpec).preRow enc Tryd.prog Tryd.f3 Rows.textEncodesRow.domain false Rows.textEncodesRow.laid) (((OpenSpec.ofChange Rows.textEncodesSpec).at F).post enc Tryd.prog Tryd.f3 false true false false) := by
  obtain ⟨places, hx⟩ := reads os enc
  refine returnsInHanded_of_row (C := Tryd.checked) (s := OpenSpec.ofChange Rows.textEncodesSpec) own started (by kernel_rfl) Tryd.func3
    (witness_row_atRef (enc := enc) (C := Tryd.checked) false (laidWorld os) #[.int .i32 0] rfl (by kernel_rfl) (by kernel_rfl) (by kernel_rfl)
      (OpenSpec.preRow_of_cond 8 hx (by kernel_rfl) (fun k hk => by cases hk) (by kernel_rfl) (laid_met os))) ?_
  intro W base args ds gs before hval hW _ _ _ hL _ _
  exact contract H enc W base args ds gs before hval hW hL

theorem said : Rows.TextEncodesSaid :=
  OpenClaim.holds_of_cond 3 Tryd.f3 rfl rfl rfl rfl rfl rfl rfl ⟨rfl, rfl, rfl, rfl, rfl⟩ rfl rfl rfl rfl rfl (by kernel_rfl) Tryd.func3 (by kernel_rfl)
    (of_decide_eq_true (by kernel_rfl)) (by unfold Func.isWrapper; first | (rw [if_pos (by decide +kernel)]; kernel_rfl) | (rw [if_neg (by decide +kernel)]; exact ⟨rfl, rfl⟩))
    (fun os started H enc _ F => by rw [OpenClaim.pre_eq_preRow]; exact lifted os started H enc F)

theorem plainCard (f : FuncId) (fn : Func) (hf : Tryd.pinned.checked.prog.funcNamed "shard/shardlaw1.TextEncodes" = some f) (hfn : Tryd.pinned.checked.prog.funcs[f]? = some fn) :
    false = Tryd.pinned.checked.prog.looks [] ∧ ∀ (j : Nat) t, fn.params[j]? = some t → Tryd.pinned.checked.prog.wantsStandIn t = false := by
  obtain rfl : f = 3 := Option.some.inj ((show Tryd.prog.funcNamed "shard/shardlaw1.TextEncodes" = some 3 by kernel_rfl).symm.trans hf) |>.symm
  obtain rfl : fn = Tryd.f3 := (Option.some.inj (Tryd.func3.symm.trans hfn)).symm
  refine ⟨by kernel_rfl, fun j t ht => ?_⟩
  rw [Tryd.params3] at ht
  obtain rfl : t = 21 := by simpa using Array.mem_of_getElem? ht
  exact (show Tryd.prog.wantsStandIn 21 = false by kernel_rfl)

theorem card : Rows.TextEncodesCardSaid :=
  Claim7.holds_tied_plain_at .later [] _ _ _ _ said (fun _ h => by cases h) (by kernel_rfl) (fun _ h => by cases h) textEncodes_row_tie rfl ⟨rfl, rfl⟩ (by kernel_rfl) rfl plainCard (by kernel_rfl)
end Go.Proofs.YtckjededijgjgaaDoor.Enc
namespace Go.Proofs.YtckjededijgjgaaDoor
theorem textEncodes_holds : Rows.TextEncodesCardSaid := Enc.card
#print axioms textEncodes_holds
end Go.Proofs.YtckjededijgjgaaDoor
