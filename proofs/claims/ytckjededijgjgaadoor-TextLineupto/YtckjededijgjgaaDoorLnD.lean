import Derived.Test.YtckjededijgjgaaDoorLnC
import Derived.Test.YtckjededijgjgaaDoorDgC
import Derived.Test.YtckjededijgjgaaDoorEncG
import Derived.ShutString
import Derived.JoinedCond
namespace Go.Proofs.YtckjededijgjgaaDoor.Lnl
open Go.ChangeShapes Go.WideShapes Go.ChangeAt Go.RowKit
open Go.ChangeMaps (open_string shut_string)
open Go.Proofs.YtckjededijgjgaaDoor.Enc (table own)
open Go.Proofs.YtckjededijgjgaaDoor.Hx (tabs_of bru32 bru64)
set_option linter.unusedVariables false

theorem laidOut : laidOutB Tryd.prog = true := by kernel_rfl
theorem small_three {H : Type} {d : DataW H} {x : Int} {a : ByteArray} (hk : Rows.uptoSmall H ([d, .lit (.int .i64 x), .lit (.string a.data.toList)] ++ []) = true) : Rows.uptoBulk d ≤ 1048576 ∧ a.size ≤ 1048576 := by
  have h := of_decide_eq_true hk
  simp only [List.append_nil, Rows.uptoBulkAll, Rows.uptoBulk, Array.length_toList, ByteArray.size_data] at h
  omega

set_option maxRecDepth 100000 in
theorem contract (H : Type) (enc : TypeId × Value → H) (W : World) (base : Nat) (args : Array Value) (ds gs : List (DataW H)) (before : List MemPlace)
    (hval : ∀ (j : Nat) t v, Tryd.f12.params[j]? = some t → args[j]? = some v → Value.okWide Tryd.prog W .any base t v)
    (hW : DataW.Whole enc Tryd.prog Tryd.f12.params.toList Rows.textLineSpec.vars false W args.toList ds gs before) (hk : Rows.uptoSmall H (ds ++ gs) = true) (hL : laidMetH Tryd.prog Rows.textLineUptoRow.laid W) :
    Calls Tryd.prog 12 args W fun e W' => ∃ v, e = .returned v ∧ Rows.textLineSpec.post enc Tryd.prog Tryd.f12 false true false false W args v W' := by
  have hW' := hW
  obtain ⟨p, q, hA0, hV, rfl, hfz, hnd⟩ := hW
  have hA : DataW.TrodAll enc Tryd.prog W 0 (fun _ => true) true Tryd.f12.params.toList args.toList ds p := hA0
  rw [Tryd.params12] at hA hval
  obtain ⟨v0, vs0, d0, ds0, p0, q0, hargs, rfl, rfl, h0, r0⟩ := trodAll_cons hA
  obtain ⟨v1, vs1, d1, ds1, p1, q1, rfl, rfl, rfl, h1, r1⟩ := trodAll_cons r0
  obtain ⟨v2, vs2, d2, ds2, p2, q2, rfl, rfl, rfl, h2, r2⟩ := trodAll_cons r1
  obtain ⟨rfl, rfl, rfl⟩ := trodAll_nil r2
  obtain rfl : args = #[v0, v1, v2] := by cases args; simp_all
  obtain ⟨rfl, rfl⟩ := trodVars_none hV
  have h0k := h0
  obtain ⟨vs, ad, cap0, rfl, hSv, htot⟩ := Wo.open_texts h0 (okWide_slice Tryd.underlying34 (hval 0 34 v0 rfl rfl))
  obtain ⟨a1, rfl, rfl, rfl, w1⟩ := open_int Tryd.underlying3 (hval 1 3 v1 rfl rfl) h1
  obtain ⟨a2, rfl, rfl, rfl, w2⟩ := open_string Tryd.underlying9 (hval 2 9 v2 rfl rfl) h2
  obtain ⟨hb1, hb2⟩ := small_three hk
  clear hA0
  simp only [List.append_nil] at hW'
  have hL' : laidMet Tryd.prog (("math/bits.deBruijn32tab", Rows.laid_math_bits_deBruijn32tab) :: ("math/bits.deBruijn64tab", Rows.laid_math_bits_deBruijn64tab) :: ("internal/strconv.uint64pow10", Rows.laid_internal_strconv_uint64pow10) :: [("shard/text.kindSpans", Rows.laid_shard_text_kindSpans)]) W := hL
  have hT := tabs_of hL'
  obtain ⟨R, off, cap, hS⟩ := table (rest := []) hL'.tail.tail.tail
  have hlt : ∀ x ∈ p0, x.block < W.heap.size := fun x hx => hW'.lt x (by simp [hx])
  refine (Wo.line_walk vs a1 a2 (Nat.le_trans htot hb1) hb2 W ad cap0 hSv hT R off cap hS).mono fun e W' ⟨he, bel⟩ => ?_
  subst he
  exact ⟨_, rfl, _, _, _, [], _, [], hW', trodAll_mk1 (shut_bool Tryd.underlying4 _), trodAll_cons_mk (Below.trod laidOut (by kernel_rfl) (of_decide_eq_true (by kernel_rfl)) h0k bel hlt) (trodAll_cons_mk (shut_int Tryd.underlying3 w1) (trodAll_cons_mk (shut_string Tryd.underlying9 w2) trodAll_mk0)), rfl, bel.frame _, fun h => by cases h⟩

def putL (k : IntKind) (zs : List Int) : Obj → Obj
  | .cells _ t frozen => .cells (zs.map fun z => Value.int k z).toArray t frozen
  | o => o
def putS (n : Nat) : Obj → Obj
  | .cells _ t frozen => .cells #[.slice (some ⟨n, 0, none⟩) 38 38] t frozen
  | o => o
def rowsV : Array Value := #[.int .i32 0, .int .i32 31, .int .u8 1, .int .i32 127, .int .i32 160, .int .u8 1, .int .i32 173, .int .i32 173, .int .u8 1, .int .i32 768, .int .i32 879, .int .u8 2, .int .i32 1155, .int .i32 1161, .int .u8 2, .int .i32 1425, .int .i32 1469, .int .u8 2, .int .i32 1564, .int .i32 1564, .int .u8 1, .int .i32 1611, .int .i32 1631, .int .u8 2, .int .i32 4352, .int .i32 4447, .int .u8 3, .int .i32 5760, .int .i32 5760, .int .u8 1, .int .i32 6158, .int .i32 6158, .int .u8 1, .int .i32 6832, .int .i32 6911, .int .u8 2, .int .i32 7616, .int .i32 7679, .int .u8 2, .int .i32 8192, .int .i32 8207, .int .u8 1, .int .i32 8232, .int .i32 8239, .int .u8 1, .int .i32 8287, .int .i32 8303, .int .u8 1, .int .i32 8400, .int .i32 8447, .int .u8 2, .int .i32 11904, .int .i32 12287, .int .u8 3, .int .i32 12288, .int .i32 12288, .int .u8 1, .int .i32 12289, .int .i32 12350, .int .u8 3, .int .i32 12353, .int .i32 19903, .int .u8 3, .int .i32 19968, .int .i32 42191, .int .u8 3, .int .i32 44032, .int .i32 55203, .int .u8 3, .int .i32 55296, .int .i32 57343, .int .u8 1, .int .i32 57344, .int .i32 63743, .int .u8 1, .int .i32 63744, .int .i32 64255, .int .u8 3, .int .i32 64976, .int .i32 65007, .int .u8 1, .int .i32 65024, .int .i32 65039, .int .u8 2, .int .i32 65056, .int .i32 65071, .int .u8 2, .int .i32 65072, .int .i32 65135, .int .u8 3, .int .i32 65279, .int .i32 65279, .int .u8 1, .int .i32 65281, .int .i32 65376, .int .u8 3, .int .i32 65504, .int .i32 65510, .int .u8 3, .int .i32 65529, .int .i32 65531, .int .u8 1, .int .i32 127744, .int .i32 128591, .int .u8 3, .int .i32 129280, .int .i32 129535, .int .u8 3, .int .i32 131072, .int .i32 262141, .int .u8 3, .int .i32 917504, .int .i32 1114111, .int .u8 1]
/-- a world for the witness: the settled one, a block with the rows more, the variables holding their tables -/
noncomputable def laidWorld (os : Os) : World :=
  { World.holding Tryd.prog os ⟨#[.cells rowsV 127], #[], []⟩ with heap := ((((World.holding Tryd.prog os ⟨#[.cells rowsV 127], #[], []⟩).heap.modify 0 (putS (World.settled Tryd.prog os).heap.size)).modify 4 (putL .u8 bru32)).modify 5 (putL .u8 bru64)).modify 2 (putL .u64 Lib.pow10Tab) }
theorem laid_met (os : Os) : laidMet Tryd.prog Rows.textLineUptoRow.laid ((laidWorld os).forCall (fun _ _ => 0) ⟨#[], #[.slice none 0 0, .int .i64 0, .string ByteArray.empty], []⟩).memory :=
  laidMet_of_run' 8 (by kernel_rfl) (by kernel_rfl)
theorem reads (os : Os) {H : Type} (enc : TypeId × Value → H) : ∃ places, DataW.whole enc Tryd.prog ((laidWorld os).forCall (fun _ _ => 0) ⟨#[], #[.slice none 0 0, .int .i64 0, .string ByteArray.empty], []⟩).memory Tryd.f12.params.toList Rows.textLineSpec.vars false #[Value.slice none 0 0, Value.int .i64 0, Value.string ByteArray.empty].toList 8 = some ([.nil, .lit (.int .i64 0), .lit (.string [])], [], places) :=
  ⟨[], by kernel_rfl⟩

set_option maxRecDepth 100000 in
theorem lifted (os : Os) (started : os.Started) (H : Type) (enc : TypeId × Value → H) (F : Stop.Interp) :
    ReturnsInHanded {} Tryd.checked os 12 .any ((Rows.OpenSpec.upto Rows.textLineSpec).preRow enc Tryd.prog Tryd.f12 Rows.textLineUptoRow.domain false Rows.textLineUptoRow.laid) (((Rows.OpenSpec.upto Rows.textLineSpec).at F).post enc Tryd.prog Tryd.f12 false true false false) := by
  obtain ⟨places, hx⟩ := reads os enc
  refine returnsInHanded_of_row (C := Tryd.checked) (s := Rows.OpenSpec.upto Rows.textLineSpec) own started (by kernel_rfl) Tryd.func12
    (witness_row_atRef (enc := enc) (C := Tryd.checked) false (laidWorld os) #[.slice none 0 0, .int .i64 0, .string ByteArray.empty] rfl (by kernel_rfl) (by kernel_rfl) (by kernel_rfl)
      (OpenSpec.preRow_of_cond 8 hx (by kernel_rfl) (fun k hk => by cases hk; rfl) (by kernel_rfl) (laid_met os))) ?_
  intro W base args ds gs before hval hW _ hk _ hL _ _
  exact contract H enc W base args ds gs before hval hW (hk _ rfl) hL

theorem said : Rows.TextLineUptoSaid :=
  OpenClaim.holds_of_cond 12 Tryd.f12 rfl rfl rfl rfl rfl rfl rfl ⟨rfl, rfl, rfl, rfl, rfl⟩ rfl rfl rfl rfl rfl (by kernel_rfl) Tryd.func12 (by kernel_rfl)
    (of_decide_eq_true (by kernel_rfl)) (by unfold Func.isWrapper; first | (rw [if_pos (by decide +kernel)]; kernel_rfl) | (rw [if_neg (by decide +kernel)]; exact ⟨rfl, rfl⟩))
    (fun os started H enc _ F => by rw [OpenClaim.pre_eq_preRow]; exact lifted os started H enc F)

theorem plainCard (f : FuncId) (fn : Func) (hf : Tryd.pinned.checked.prog.funcNamed "shard/shardlaw1.TextLine" = some f) (hfn : Tryd.pinned.checked.prog.funcs[f]? = some fn) :
    false = Tryd.pinned.checked.prog.looks [] ∧ ∀ (j : Nat) t, fn.params[j]? = some t → Tryd.pinned.checked.prog.wantsStandIn t = false := by
  obtain rfl : f = 12 := Option.some.inj ((show Tryd.prog.funcNamed "shard/shardlaw1.TextLine" = some 12 by kernel_rfl).symm.trans hf) |>.symm
  obtain rfl : fn = Tryd.f12 := (Option.some.inj (Tryd.func12.symm.trans hfn)).symm
  refine ⟨by kernel_rfl, fun j t ht => ?_⟩
  rw [Tryd.params12] at ht
  have hm : t = 34 ∨ t = 3 ∨ t = 9 := by
    have := Array.mem_of_getElem? ht
    simpa using this
  rcases hm with rfl | rfl | rfl
  · exact (show Tryd.prog.wantsStandIn 34 = false by kernel_rfl)
  · exact (show Tryd.prog.wantsStandIn 3 = false by kernel_rfl)
  · exact (show Tryd.prog.wantsStandIn 9 = false by kernel_rfl)

theorem card : Rows.TextLineUptoCardSaid :=
  Claim7.holds_tied_plain_at .later [] _ _ _ _ said (fun _ h => by cases h) (by kernel_rfl) (fun _ h => by cases h) textLineUpto_row_tie rfl ⟨rfl, rfl⟩ (by kernel_rfl) rfl plainCard (by kernel_rfl)
end Go.Proofs.YtckjededijgjgaaDoor.Lnl
namespace Go.Proofs.YtckjededijgjgaaDoor
theorem textLine_holds : Rows.TextLineUptoCardSaid := Lnl.card
#print axioms textLine_holds
end Go.Proofs.YtckjededijgjgaaDoor
