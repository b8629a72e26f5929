import Derived.Test.YtckjededijgjgaaDoorNmF
namespace Go.Proofs.YtckjededijgjgaaDoor.Nm
open Go.ChangeShapes Go.WideShapes Go.ChangeAt Go.RowKit
set_option linter.unusedVariables false

/-- a world for the witness: the settled one, a block with the rows more, the variable leading to it -/
noncomputable def laidWorld (os : Os) : World :=
  { World.holding Tryd.prog os ⟨#[.cells #[.int .i32 65, .int .i32 90, .int .i32 32, .int .i32 97, .int .i32 122, .int .i32 0, .int .i32 192, .int .i32 214, .int .i32 32, .int .i32 216, .int .i32 222, .int .i32 32, .int .i32 223, .int .i32 246, .int .i32 0, .int .i32 248, .int .i32 255, .int .i32 0, .int .i32 913, .int .i32 929, .int .i32 32, .int .i32 931, .int .i32 937, .int .i32 32, .int .i32 945, .int .i32 961, .int .i32 0, .int .i32 962, .int .i32 962, .int .i32 1, .int .i32 963, .int .i32 969, .int .i32 0, .int .i32 1040, .int .i32 1071, .int .i32 32, .int .i32 1072, .int .i32 1103, .int .i32 0] 148], #[], []⟩ with
    heap := (World.holding Tryd.prog os ⟨#[.cells #[.int .i32 65, .int .i32 90, .int .i32 32, .int .i32 97, .int .i32 122, .int .i32 0, .int .i32 192, .int .i32 214, .int .i32 32, .int .i32 216, .int .i32 222, .int .i32 32, .int .i32 223, .int .i32 246, .int .i32 0, .int .i32 248, .int .i32 255, .int .i32 0, .int .i32 913, .int .i32 929, .int .i32 32, .int .i32 931, .int .i32 937, .int .i32 32, .int .i32 945, .int .i32 961, .int .i32 0, .int .i32 962, .int .i32 962, .int .i32 1, .int .i32 963, .int .i32 969, .int .i32 0, .int .i32 1040, .int .i32 1071, .int .i32 32, .int .i32 1072, .int .i32 1103, .int .i32 0] 148], #[], []⟩).heap.modify 1 fun
      | .cells _ t frozen => .cells #[.slice (some ⟨(World.settled Tryd.prog os).heap.size, 0, none⟩) 13 13] t frozen
      | o => o }
theorem laid_met (os : Os) : laidMet Tryd.prog Rows.textFoldsRow.laid ((laidWorld os).forCall (fun _ _ => 0) ⟨#[], #[.string ByteArray.empty], []⟩).memory :=
  laidMet_of_run' 8 (by kernel_rfl) (by kernel_rfl)
theorem reads (os : Os) {H : Type} (enc : TypeId × Value → H) : ∃ places, DataW.whole enc Tryd.prog ((laidWorld os).forCall (fun _ _ => 0) ⟨#[], #[.string ByteArray.empty], []⟩).memory Tryd.f4.params.toList Rows.textFoldsSpec.vars false #[Value.string ByteArray.empty].toList 8 = some ([.lit (.string [])], [], places) :=
  ⟨[], by kernel_rfl⟩

set_option maxRecDepth 100000 in
theorem lifted (os : Os) (started : os.Started) (H : Type) (enc : TypeId × Value → H) (F : Stop.Interp) :
    ReturnsInHanded {} Tryd.checked os 4 .any ((OpenSpec.ofChange Rows.textFoldsSpec).preRow enc Tryd.prog Tryd.f4 Rows.textFoldsRow.domain false Rows.textFoldsRow.laid) (((OpenSpec.ofChange Rows.textFoldsSpec).at F).post enc Tryd.prog Tryd.f4 false true false false) := by
  obtain ⟨places, hx⟩ := reads os enc
  refine returnsInHanded_of_row (C := Tryd.checked) (s := OpenSpec.ofChange Rows.textFoldsSpec) own started (by kernel_rfl) Tryd.func4
    (witness_row_atRef (enc := enc) (C := Tryd.checked) false (laidWorld os) #[.string ByteArray.empty] rfl (by kernel_rfl) (by kernel_rfl) (by kernel_rfl)
      (OpenSpec.preRow_of_cond 8 hx (by kernel_rfl) (fun k hk => by cases hk) (by kernel_rfl) (laid_met os))) ?_
  intro W base args ds gs before hval hW _ _ _ hL _ _
  exact contract H enc W base args ds gs before hval hW hL

theorem said : Rows.TextFoldsSaid :=
  OpenClaim.holds_of_cond 4 Tryd.f4 rfl rfl rfl rfl rfl rfl rfl ⟨rfl, rfl, rfl, rfl, rfl⟩ rfl rfl rfl rfl rfl (by kernel_rfl) Tryd.func4 (by kernel_rfl)
    (of_decide_eq_true (by kernel_rfl)) (by unfold Func.isWrapper; first | (rw [if_pos (by decide +kernel)]; kernel_rfl) | (rw [if_neg (by decide +kernel)]; exact ⟨rfl, rfl⟩))
    (fun os started H enc _ F => by rw [OpenClaim.pre_eq_preRow]; exact lifted os started H enc F)

theorem plainCard (f : FuncId) (fn : Func) (hf : Tryd.pinned.checked.prog.funcNamed "shard/shardlaw1.TextFolds" = some f) (hfn : Tryd.pinned.checked.prog.funcs[f]? = some fn) :
    false = Tryd.pinned.checked.prog.looks [] ∧ ∀ (j : Nat) t, fn.params[j]? = some t → Tryd.pinned.checked.prog.wantsStandIn t = false := by
  obtain rfl : f = 4 := Option.some.inj ((show Tryd.prog.funcNamed "shard/shardlaw1.TextFolds" = some 4 by kernel_rfl).symm.trans hf) |>.symm
  obtain rfl : fn = Tryd.f4 := (Option.some.inj (Tryd.func4.symm.trans hfn)).symm
  refine ⟨by kernel_rfl, fun j t ht => ?_⟩
  rw [Tryd.params4] at ht
  obtain rfl : t = 9 := by simpa using Array.mem_of_getElem? ht
  exact (show Tryd.prog.wantsStandIn 9 = false by kernel_rfl)

theorem card : Rows.TextFoldsCardSaid :=
  Claim7.holds_tied_plain_at .later [] _ _ _ _ said (fun _ h => by cases h) (by kernel_rfl) (fun _ h => by cases h) textFolds_row_tie rfl ⟨rfl, rfl⟩ (by kernel_rfl) rfl plainCard (by kernel_rfl)
end Go.Proofs.YtckjededijgjgaaDoor.Nm
namespace Go.Proofs.YtckjededijgjgaaDoor
theorem textFolds_holds : Rows.TextFoldsCardSaid := Nm.card
#print axioms textFolds_holds
end Go.Proofs.YtckjededijgjgaaDoor
