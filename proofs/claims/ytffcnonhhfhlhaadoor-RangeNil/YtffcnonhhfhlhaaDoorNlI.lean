import Derived.Test.YtffcnonhhfhlhaaDoorNlH
import Derived.Test.YtffcnonhhfhlhaaDoorCards
import Derived.Test.YtffcnonhhfhlhaaDoorTie
import Derived.ProofKit
import Derived.OpenShut
import Derived.Deep.DeepHandedRow
import Derived.Deep.DeepWitnessRowRef
import Derived.Deep.Fields
import Derived.Below
namespace Go.Proofs.YtffcnonhhfhlhaaDoor.Nl
open Go.ChangeShapes Go.WideShapes Go.ChangeAt Go.RowKit
open Go.Deep
open Go.Proofs.YtffcnonhhfhlhaaDoor.Rg
set_option linter.unusedVariables false

theorem own : ownKnob Tryd.prog.godebug = none := by kernel_rfl
theorem laidOut : laidOutB Tryd.prog = true := by kernel_rfl
theorem cellsOf3 : Tryd.prog.cellsOf 3 = 1 := by kernel_rfl
theorem cellsOf23 : Tryd.prog.cellsOf 23 = 1 := by kernel_rfl
theorem cellsOf24 : Tryd.prog.cellsOf 24 = 1 := by kernel_rfl
theorem cellsOf36 : Tryd.prog.cellsOf 36 = 4 := by kernel_rfl
theorem get4 {α : Type} {l : List α} (h : l.length = 4) : ∃ a b c d, l = [a, b, c, d] := by
  match l, h with
  | [a, b, c, d], _ => exact ⟨a, b, c, d, rfl⟩
/-- a step that came in -/
theorem open_step1 {H : Type} {enc : TypeId × Value → H} {W : World} {fuel : Nat} {cs0 : List Value} {x : DataW H × List MemPlace} (h : DataW.trod enc Tryd.prog W 0 (fun _ => true) true fuel 36 cs0 = some x) :
    ∃ k lo hi h : Int, cs0 = [.int .i64 k, .int .u64 lo, .int .u64 hi, .int .u8 h] := by
  obtain ⟨xs, n, rfl, rfl, hl, hxl, hf⟩ := DataW.trod_struct Tryd.underlying36 h
  rw [cellsOf36] at hl
  obtain ⟨y0, y1, y2, y3, rfl⟩ := get4 (show xs.length = 4 from hxl)
  obtain ⟨v0, v1, v2, v3, rfl⟩ := get4 hl
  have f0 : DataW.trod enc Tryd.prog W 0 (fun _ => true) true n 3 [v0] = some y0 := by
    have g : DataW.trod enc Tryd.prog W 0 (fun _ => true) true n 3 (([v0, v1, v2, v3].drop 0).take (Tryd.prog.cellsOf 3)) = [y0, y1, y2, y3][0]? := hf 0 _ rfl
    rw [cellsOf3] at g; exact g
  have f1 : DataW.trod enc Tryd.prog W 0 (fun _ => true) true n 23 [v1] = some y1 := by
    have g : DataW.trod enc Tryd.prog W 0 (fun _ => true) true n 23 (([v0, v1, v2, v3].drop 1).take (Tryd.prog.cellsOf 23)) = [y0, y1, y2, y3][1]? := hf 1 _ rfl
    rw [cellsOf23] at g; exact g
  have f2 : DataW.trod enc Tryd.prog W 0 (fun _ => true) true n 23 [v2] = some y2 := by
    have g : DataW.trod enc Tryd.prog W 0 (fun _ => true) true n 23 (([v0, v1, v2, v3].drop 2).take (Tryd.prog.cellsOf 23)) = [y0, y1, y2, y3][2]? := hf 2 _ rfl
    rw [cellsOf23] at g; exact g
  have f3 : DataW.trod enc Tryd.prog W 0 (fun _ => true) true n 24 [v3] = some y3 := by
    have g : DataW.trod enc Tryd.prog W 0 (fun _ => true) true n 24 (([v0, v1, v2, v3].drop 3).take (Tryd.prog.cellsOf 24)) = [y0, y1, y2, y3][3]? := hf 3 _ rfl
    rw [cellsOf24] at g; exact g
  obtain ⟨k0, e0, _, b0⟩ := DataW.trod_int Tryd.underlying3 f0
  obtain rfl : v0 = .int .i64 k0 := by simpa using e0
  obtain ⟨k1, e1, _, b1⟩ := DataW.trod_int Tryd.underlying23 f1
  obtain rfl : v1 = .int .u64 k1 := by simpa using e1
  obtain ⟨k2, e2, _, b2⟩ := DataW.trod_int Tryd.underlying23 f2
  obtain rfl : v2 = .int .u64 k2 := by simpa using e2
  obtain ⟨k3, e3, _, b3⟩ := DataW.trod_int Tryd.underlying24 f3
  obtain rfl : v3 = .int .u8 k3 := by simpa using e3
  exact ⟨k0, k1, k2, k3, rfl⟩

set_option maxRecDepth 100000 in
theorem contract (H : Type) (enc : TypeId × Value → H) (W : World) (base : Nat) (args : Array Value) (ds gs : List (DataW H)) (before : List MemPlace)
    (hval : ∀ (j : Nat) t v, Tryd.f5.params[j]? = some t → args[j]? = some v → Value.okWide Tryd.prog W .any base t v)
    (hW : DataW.Whole enc Tryd.prog Tryd.f5.params.toList Rows.rangeNilSpec.vars false W args.toList ds gs before) :
    Calls Tryd.prog 5 args W fun e W' => ∃ v, e = .returned v ∧ Rows.rangeNilSpec.post enc Tryd.prog Tryd.f5 false true false false W args v W' := by
  have hW' := hW
  obtain ⟨p, q, hA0, hV, rfl, hfz, hnd⟩ := hW
  have hA : DataW.TrodAll enc Tryd.prog W 0 (fun _ => true) true Tryd.f5.params.toList args.toList ds p := hA0
  rw [Tryd.params5] at hA hval
  obtain ⟨v0, vs0, d0, ds0, p0, q0, hargs, rfl, rfl, h0, r0⟩ := trodAll_cons hA
  obtain ⟨rfl, rfl, rfl⟩ := trodAll_nil r0
  obtain rfl : args = #[v0] := by cases args; simp_all
  obtain ⟨rfl, rfl⟩ := trodVars_none hV
  have h0k := h0
  obtain ⟨cs0, hv0, _⟩ := okWide_struct Tryd.underlying36 (hval 0 36 v0 rfl rfl)
  obtain ⟨fuel0, hf0⟩ := h0
  rw [hv0] at hf0
  obtain ⟨sk, slo, shi, sh, e0⟩ := open_step1 (show DataW.trod enc Tryd.prog W 0 (fun _ => true) true fuel0 36 cs0.toList = _ from hf0)
  obtain rfl : v0 = .agg #[.int .i64 sk, .int .u64 slo, .int .u64 shi, .int .u8 sh] := by
    rw [hv0]; congr 1; cases cs0; simpa using e0
  clear hA0
  simp only [List.append_nil] at hW'
  have hlt0 : ∀ x ∈ p0, x.block < W.heap.size := fun x hx => hW'.lt x (by simp [hx])
  refine (nil_walk W sk slo shi sh).mono fun e W' ⟨he, hk⟩ => ?_
  subst he
  exact ⟨_, rfl, _, _, _, [], _, [], hW', trodAll_mk1 (shut_bool Tryd.underlying4 _), trodAll_cons_mk (Below.trod laidOut (by kernel_rfl) (of_decide_eq_true (by kernel_rfl)) h0k hk.toBelow hlt0) trodAll_mk0, rfl, hk.toBelow.frame _, fun h => by cases h⟩

def bru32 : List Int := [0, 1, 28, 2, 29, 14, 24, 3, 30, 22, 20, 15, 25, 17, 4, 8, 31, 27, 13, 23, 21, 19, 16, 7, 26, 12, 18, 6, 11, 5, 10, 9]
def bru64 : List Int := [0, 1, 56, 2, 57, 49, 28, 3, 61, 58, 42, 50, 38, 29, 17, 4, 62, 47, 59, 36, 45, 43, 51, 22, 53, 39, 33, 30, 24, 18, 12, 5, 63, 55, 48, 27, 60, 41, 37, 16, 46, 35, 44, 21, 52, 32, 23, 11, 54, 26, 40, 15, 34, 20, 31, 10, 25, 14, 19, 9, 13, 8, 7, 6]
def pow10 : List Int := (List.range 20).map fun i => ((10 ^ i : Nat) : Int)
def putL (k : IntKind) (zs : List Int) : Obj → Obj
  | .cells _ t frozen => .cells (zs.map fun z => Value.int k z).toArray t frozen
  | o => o
/-- a world for the witness: the settled one, the variables holding their tables -/
noncomputable def laidWorld (os : Os) : World :=
  { World.holding Tryd.prog os ⟨#[], #[], []⟩ with heap := (((World.holding Tryd.prog os ⟨#[], #[], []⟩).heap.modify 4 (putL .u8 bru32)).modify 5 (putL .u8 bru64)).modify 0 (putL .u64 pow10) }
theorem laid_met (os : Os) : laidMet Tryd.prog Rows.rangeNilRow.laid ((laidWorld os).forCall (fun _ _ => 0) ⟨#[], #[.agg #[.int .i64 0, .int .u64 0, .int .u64 0, .int .u8 0]], []⟩).memory :=
  laidMet_of_run' 8 (by kernel_rfl) (by kernel_rfl)
theorem reads (os : Os) {H : Type} (enc : TypeId × Value → H) : ∃ places, DataW.whole enc Tryd.prog ((laidWorld os).forCall (fun _ _ => 0) ⟨#[], #[.agg #[.int .i64 0, .int .u64 0, .int .u64 0, .int .u8 0]], []⟩).memory Tryd.f5.params.toList Rows.rangeNilSpec.vars false #[Value.agg #[.int .i64 0, .int .u64 0, .int .u64 0, .int .u8 0]].toList 8 = some ([.agg [.lit (.int .i64 0), .lit (.int .u64 0), .lit (.int .u64 0), .lit (.int .u8 0)]], [], places) :=
  ⟨[], by kernel_rfl⟩

set_option maxRecDepth 100000 in
theorem lifted (os : Os) (started : os.Started) (H : Type) (enc : TypeId × Value → H) (F : Stop.Interp) :
    ReturnsInHanded {} Tryd.checked os 5 .any ((OpenSpec.ofChange Rows.rangeNilSpec).preRow enc Tryd.prog Tryd.f5 Rows.rangeNilRow.domain false Rows.rangeNilRow.laid) (((OpenSpec.ofChange Rows.rangeNilSpec).at F).post enc Tryd.prog Tryd.f5 false true false false) := by
  obtain ⟨places, hx⟩ := reads os enc
  refine returnsInHanded_of_row (C := Tryd.checked) (s := OpenSpec.ofChange Rows.rangeNilSpec) own started (by kernel_rfl) Tryd.func5
    (witness_row_atRef (enc := enc) (C := Tryd.checked) false (laidWorld os) #[.agg #[.int .i64 0, .int .u64 0, .int .u64 0, .int .u8 0]] rfl (by kernel_rfl) (by kernel_rfl) (by kernel_rfl)
      (OpenSpec.preRow_of_cond 8 hx (by kernel_rfl) (fun k hk => by cases hk) (by kernel_rfl) (laid_met os))) ?_
  intro W base args ds gs before hval hW _ _ _ hL _ _
  exact contract H enc W base args ds gs before hval hW

theorem said : Rows.RangeNilSaid :=
  OpenClaim.holds_of_cond 5 Tryd.f5 rfl rfl rfl rfl rfl rfl rfl ⟨rfl, rfl, rfl, rfl, rfl⟩ rfl rfl rfl rfl rfl (by kernel_rfl) Tryd.func5 (by kernel_rfl)
    (of_decide_eq_true (by kernel_rfl)) (by unfold Func.isWrapper; first | (rw [if_pos (by decide +kernel)]; kernel_rfl) | (rw [if_neg (by decide +kernel)]; exact ⟨rfl, rfl⟩))
    (fun os started H enc _ F => by rw [OpenClaim.pre_eq_preRow]; exact lifted os started H enc F)

theorem plainCard (f : FuncId) (fn : Func) (hf : Tryd.pinned.checked.prog.funcNamed "shard/shardlaw6.RangeNil" = some f) (hfn : Tryd.pinned.checked.prog.funcs[f]? = some fn) :
    false = Tryd.pinned.checked.prog.looks [] ∧ ∀ (j : Nat) t, fn.params[j]? = some t → Tryd.pinned.checked.prog.wantsStandIn t = false := by
  obtain rfl : f = 5 := Option.some.inj ((show Tryd.prog.funcNamed "shard/shardlaw6.RangeNil" = some 5 by kernel_rfl).symm.trans hf) |>.symm
  obtain rfl : fn = Tryd.f5 := (Option.some.inj (Tryd.func5.symm.trans hfn)).symm
  refine ⟨by kernel_rfl, fun j t ht => ?_⟩
  rw [Tryd.params5] at ht
  have hm : t = 36 := by
    have := Array.mem_of_getElem? ht
    simpa using this
  subst hm
  exact (show Tryd.prog.wantsStandIn 36 = false by kernel_rfl)

theorem card : Rows.RangeNilCardSaid :=
  Claim7.holds_tied_plain_at .later [] _ _ _ _ said (fun _ h => by cases h) (by kernel_rfl) (fun _ h => by cases h) rangeNil_row_tie rfl ⟨rfl, rfl⟩ (by kernel_rfl) rfl plainCard (by kernel_rfl)
end Go.Proofs.YtffcnonhhfhlhaaDoor.Nl
namespace Go.Proofs.YtffcnonhhfhlhaaDoor
theorem rangeNil_holds : Rows.RangeNilCardSaid := Nl.card
#print axioms rangeNil_holds
end Go.Proofs.YtffcnonhhfhlhaaDoor
