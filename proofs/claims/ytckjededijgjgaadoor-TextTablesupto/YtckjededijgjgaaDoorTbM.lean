import Derived.Test.YtckjededijgjgaaDoorTbL
import Derived.Test.YtckjededijgjgaaDoorWdF
import Derived.Test.YtckjededijgjgaaDoorEncG
import Derived.ShutString
import Derived.JoinedCond
namespace Go.Proofs.YtckjededijgjgaaDoor.Tbl
open Go.ChangeShapes Go.WideShapes Go.ChangeAt Go.RowKit
open Go.ChangeMaps (open_string shut_string)
open Go.Proofs.YtckjededijgjgaaDoor.Enc (table own)
set_option linter.unusedVariables false

theorem laidOut : laidOutB Tryd.prog = true := by kernel_rfl
theorem small_one {H : Type} {d : DataW H} (hk : Rows.uptoSmall H ([d] ++ []) = true) : Rows.uptoBulk d ≤ 1048576 := by
  have h := of_decide_eq_true hk
  simp only [List.append_nil, Rows.uptoBulkAll] at h
  omega

set_option maxRecDepth 100000 in
theorem contract (H : Type) (enc : TypeId × Value → H) (W : World) (base : Nat) (args : Array Value) (ds gs : List (DataW H)) (before : List MemPlace)
    (hval : ∀ (j : Nat) t v, Tryd.f17.params[j]? = some t → args[j]? = some v → Value.okWide Tryd.prog W .any base t v)
    (hW : DataW.Whole enc Tryd.prog Tryd.f17.params.toList Rows.textTablesSpec.vars false W args.toList ds gs before) (hk : Rows.uptoSmall H (ds ++ gs) = true) (hL : laidMetH Tryd.prog Rows.textTablesUptoRow.laid W) :
    Calls Tryd.prog 17 args W fun e W' => ∃ v, e = .returned v ∧ Rows.textTablesSpec.post enc Tryd.prog Tryd.f17 false true false false W args v W' := by
  have hW' := hW
  obtain ⟨p, q, hA0, hV, rfl, hfz, hnd⟩ := hW
  have hA : DataW.TrodAll enc Tryd.prog W 0 (fun _ => true) true Tryd.f17.params.toList args.toList ds p := hA0
  rw [Tryd.params17] at hA hval
  obtain ⟨v0, vs0, d0, ds0, p0, q0, hargs, rfl, rfl, h0, r0⟩ := trodAll_cons hA
  obtain ⟨rfl, rfl, rfl⟩ := trodAll_nil r0
  obtain rfl : args = #[v0] := by cases args; simp_all
  obtain ⟨rfl, rfl⟩ := trodVars_none hV
  have h0k := h0
  obtain ⟨rows, ad, cap0, rfl, hRs, hlen, htot⟩ := Tb.open_rows h0 (okWide_slice Tryd.underlying67 (hval 0 67 v0 rfl rfl))
  have hb1 := small_one hk
  clear hA0
  simp only [List.append_nil] at hW'
  obtain ⟨R, off, cap, hS⟩ := table (rest := []) hL
  have hlt : ∀ x ∈ p0, x.block < W.heap.size := fun x hx => hW'.lt x (by simp [hx])
  refine (Tb.tablesLaw_walk Wd.cols rows (Nat.le_trans hlen hb1) (fun r hr => Nat.le_trans (Tb.tot_len r) (Nat.le_trans (htot r hr) hb1)) (fun r hr c hc => by have h1 := Tb.tot_mem hc; have h2 := htot r hr; omega) W ad cap0 hRs R off cap hS).mono fun e W' ⟨he, bel⟩ => ?_
  subst he
  exact ⟨_, rfl, _, _, _, [], _, [], hW', trodAll_mk1 (shut_bool Tryd.underlying4 _), trodAll_cons_mk (Below.trod laidOut (by kernel_rfl) (of_decide_eq_true (by kernel_rfl)) h0k bel hlt) trodAll_mk0, rfl, bel.frame _, fun h => by cases h⟩

/-- a world for the witness: the settled one, a block with the rows more, the variable leading to it -/
noncomputable def laidWorld (os : Os) : World :=
  { World.holding Tryd.prog os ⟨#[.cells #[.int .i32 0, .int .i32 31, .int .u8 1, .int .i32 127, .int .i32 160, .int .u8 1, .int .i32 173, .int .i32 173, .int .u8 1, .int .i32 768, .int .i32 879, .int .u8 2, .int .i32 1155, .int .i32 1161, .int .u8 2, .int .i32 1425, .int .i32 1469, .int .u8 2, .int .i32 1564, .int .i32 1564, .int .u8 1, .int .i32 1611, .int .i32 1631, .int .u8 2, .int .i32 4352, .int .i32 4447, .int .u8 3, .int .i32 5760, .int .i32 5760, .int .u8 1, .int .i32 6158, .int .i32 6158, .int .u8 1, .int .i32 6832, .int .i32 6911, .int .u8 2, .int .i32 7616, .int .i32 7679, .int .u8 2, .int .i32 8192, .int .i32 8207, .int .u8 1, .int .i32 8232, .int .i32 8239, .int .u8 1, .int .i32 8287, .int .i32 8303, .int .u8 1, .int .i32 8400, .int .i32 8447, .int .u8 2, .int .i32 11904, .int .i32 12287, .int .u8 3, .int .i32 12288, .int .i32 12288, .int .u8 1, .int .i32 12289, .int .i32 12350, .int .u8 3, .int .i32 12353, .int .i32 19903, .int .u8 3, .int .i32 19968, .int .i32 42191, .int .u8 3, .int .i32 44032, .int .i32 55203, .int .u8 3, .int .i32 55296, .int .i32 57343, .int .u8 1, .int .i32 57344, .int .i32 63743, .int .u8 1, .int .i32 63744, .int .i32 64255, .int .u8 3, .int .i32 64976, .int .i32 65007, .int .u8 1, .int .i32 65024, .int .i32 65039, .int .u8 2, .int .i32 65056, .int .i32 65071, .int .u8 2, .int .i32 65072, .int .i32 65135, .int .u8 3, .int .i32 65279, .int .i32 65279, .int .u8 1, .int .i32 65281, .int .i32 65376, .int .u8 3, .int .i32 65504, .int .i32 65510, .int .u8 3, .int .i32 65529, .int .i32 65531, .int .u8 1, .int .i32 127744, .int .i32 128591, .int .u8 3, .int .i32 129280, .int .i32 129535, .int .u8 3, .int .i32 131072, .int .i32 262141, .int .u8 3, .int .i32 917504, .int .i32 1114111, .int .u8 1] 127], #[], []⟩ with heap := (World.holding Tryd.prog os ⟨#[.cells #[.int .i32 0, .int .i32 31, .int .u8 1, .int .i32 127, .int .i32 160, .int .u8 1, .int .i32 173, .int .i32 173, .int .u8 1, .int .i32 768, .int .i32 879, .int .u8 2, .int .i32 1155, .int .i32 1161, .int .u8 2, .int .i32 1425, .int .i32 1469, .int .u8 2, .int .i32 1564, .int .i32 1564, .int .u8 1, .int .i32 1611, .int .i32 1631, .int .u8 2, .int .i32 4352, .int .i32 4447, .int .u8 3, .int .i32 5760, .int .i32 5760, .int .u8 1, .int .i32 6158, .int .i32 6158, .int .u8 1, .int .i32 6832, .int .i32 6911, .int .u8 2, .int .i32 7616, .int .i32 7679, .int .u8 2, .int .i32 8192, .int .i32 8207, .int .u8 1, .int .i32 8232, .int .i32 8239, .int .u8 1, .int .i32 8287, .int .i32 8303, .int .u8 1, .int .i32 8400, .int .i32 8447, .int .u8 2, .int .i32 11904, .int .i32 12287, .int .u8 3, .int .i32 12288, .int .i32 12288, .int .u8 1, .int .i32 12289, .int .i32 12350, .int .u8 3, .int .i32 12353, .int .i32 19903, .int .u8 3, .int .i32 19968, .int .i32 42191, .int .u8 3, .int .i32 44032, .int .i32 55203, .int .u8 3, .int .i32 55296, .int .i32 57343, .int .u8 1, .int .i32 57344, .int .i32 63743, .int .u8 1, .int .i32 63744, .int .i32 64255, .int .u8 3, .int .i32 64976, .int .i32 65007, .int .u8 1, .int .i32 65024, .int .i32 65039, .int .u8 2, .int .i32 65056, .int .i32 65071, .int .u8 2, .int .i32 65072, .int .i32 65135, .int .u8 3, .int .i32 65279, .int .i32 65279, .int .u8 1, .int .i32 65281, .int .i32 65376, .int .u8 3, .int .i32 65504, .int .i32 65510, .int .u8 3, .int .i32 65529, .int .i32 65531, .int .u8 1, .int .i32 127744, .int .i32 128591, .int .u8 3, .int .i32 129280, .int .i32 129535, .int .u8 3, .int .i32 131072, .int .i32 262141, .int .u8 3, .int .i32 917504, .int .i32 1114111, .int .u8 1] 127], #[], []⟩).heap.modify 0 fun
      | .cells _ t frozen => .cells #[.slice (some ⟨(World.settled Tryd.prog os).heap.size, 0, none⟩) 38 38] t frozen
      | o => o }
theorem laid_met (os : Os) : laidMet Tryd.prog Rows.textTablesUptoRow.laid ((laidWorld os).forCall (fun _ _ => 0) ⟨#[], #[.slice none 0 0], []⟩).memory :=
  laidMet_of_run' 8 (by kernel_rfl) (by kernel_rfl)
theorem reads (os : Os) {H : Type} (enc : TypeId × Value → H) : ∃ places, DataW.whole enc Tryd.prog ((laidWorld os).forCall (fun _ _ => 0) ⟨#[], #[.slice none 0 0], []⟩).memory Tryd.f17.params.toList Rows.textTablesSpec.vars false #[Value.slice none 0 0].toList 8 = some ([.nil], [], places) :=
  ⟨[], by kernel_rfl⟩

set_option maxRecDepth 100000 in
theorem lifted (os : Os) (started : os.Started) (H : Type) (enc : TypeId × Value → H) (F : Stop.Interp) :
    ReturnsInHanded {} Tryd.checked os 17 .any ((Rows.OpenSpec.upto Rows.textTablesSpec).preRow enc Tryd.prog Tryd.f17 Rows.textTablesUptoRow.domain false Rows.textTablesUptoRow.laid) (((Rows.OpenSpec.upto Rows.textTablesSpec).at F).post enc Tryd.prog Tryd.f17 false true false false) := by
  obtain ⟨places, hx⟩ := reads os enc
  refine returnsInHanded_of_row (C := Tryd.checked) (s := Rows.OpenSpec.upto Rows.textTablesSpec) own started (by kernel_rfl) Tryd.func17
    (witness_row_atRef (enc := enc) (C := Tryd.checked) false (laidWorld os) #[.slice none 0 0] rfl (by kernel_rfl) (by kernel_rfl) (by kernel_rfl)
      (OpenSpec.preRow_of_cond 8 hx (by kernel_rfl) (fun k hk => by cases hk; rfl) (by kernel_rfl) (laid_met os))) ?_
  intro W base args ds gs before hval hW _ hk _ hL _ _
  exact contract H enc W base args ds gs before hval hW (hk _ rfl) hL

theorem said : Rows.TextTablesUptoSaid :=
  OpenClaim.holds_of_cond 17 Tryd.f17 rfl rfl rfl rfl rfl rfl rfl ⟨rfl, rfl, rfl, rfl, rfl⟩ rfl rfl rfl rfl rfl (by kernel_rfl) Tryd.func17 (by kernel_rfl)
    (of_decide_eq_true (by kernel_rfl)) (by unfold Func.isWrapper; first | (rw [if_pos (by decide +kernel)]; kernel_rfl) | (rw [if_neg (by decide +kernel)]; exact ⟨rfl, rfl⟩))
    (fun os started H enc _ F => by rw [OpenClaim.pre_eq_preRow]; exact lifted os started H enc F)

theorem plainCard (f : FuncId) (fn : Func) (hf : Tryd.pinned.checked.prog.funcNamed "shard/shardlaw1.TextTables" = some f) (hfn : Tryd.pinned.checked.prog.funcs[f]? = some fn) :
    false = Tryd.pinned.checked.prog.looks [] ∧ ∀ (j : Nat) t, fn.params[j]? = some t → Tryd.pinned.checked.prog.wantsStandIn t = false := by
  obtain rfl : f = 17 := Option.some.inj ((show Tryd.prog.funcNamed "shard/shardlaw1.TextTables" = some 17 by kernel_rfl).symm.trans hf) |>.symm
  obtain rfl : fn = Tryd.f17 := (Option.some.inj (Tryd.func17.symm.trans hfn)).symm
  refine ⟨by kernel_rfl, fun j t ht => ?_⟩
  rw [Tryd.params17] at ht
  obtain rfl : t = 67 := by simpa using Array.mem_of_getElem? ht
  exact (show Tryd.prog.wantsStandIn 67 = false by kernel_rfl)

theorem card : Rows.TextTablesUptoCardSaid :=
  Claim7.holds_tied_plain_at .later [] _ _ _ _ said (fun _ h => by cases h) (by kernel_rfl) (fun _ h => by cases h) textTablesUpto_row_tie rfl ⟨rfl, rfl⟩ (by kernel_rfl) rfl plainCard (by kernel_rfl)
end Go.Proofs.YtckjededijgjgaaDoor.Tbl
namespace Go.Proofs.YtckjededijgjgaaDoor
theorem textTables_holds : Rows.TextTablesUptoCardSaid := Tbl.card
#print axioms textTables_holds
end Go.Proofs.YtckjededijgjgaaDoor
