import Derived.Test.YtobhepaagpdhmaaDoorCards
import Derived.Test.YtobhepaagpdhmaaDoorTie
import Derived.Test.YtobhepaagpdhmaaDoorD
import Derived.ProofKit
import Derived.OpenShut
import Derived.Deep.DeepHandedRow
import Derived.Deep.DeepWitnessRowRef
import Derived.Deep.Strs
import Derived.LaidLaws
import Derived.ChangeOld
namespace Go.Proofs.YtobhepaagpdhmaaDoor.Wi
open Go.ChangeShapes Go.WideShapes Go.ChangeAt Go.RowKit
set_option linter.unusedVariables false

theorem own : ownKnob Tryd.prog.godebug = none := by kernel_rfl
theorem g0 : Tryd.prog.globalNamed "shard/wire.kindWords" = some 0 := by kernel_rfl
theorem g1 : Tryd.prog.globalNamed "shard/shardref3.words" = some 1 := by kernel_rfl
theorem gt0 : (Tryd.prog.globals[0]?).map (·.type) = some 35 := by kernel_rfl
theorem gt1 : (Tryd.prog.globals[1]?).map (·.type) = some 35 := by kernel_rfl
theorem cells9 : Tryd.prog.cellsOf 9 = 1 := by kernel_rfl
def wdData : DataW Unit := .agg (wd.map fun b => .lit (.string b))
theorem laid0 : (Rows.laid_shard_wire_kindWords : DataW Unit) = wdData := by kernel_rfl
theorem laid1 : (Rows.laid_shard_shardref3_words : DataW Unit) = wdData := by kernel_rfl

theorem words_of {W : World} {fuel : Nat} {cs : Array Value} {p : List MemPlace} {g : Nat} {s : String} (hg : Tryd.prog.globalNamed s = some g) (hvar : W.var? Tryd.prog s = some cs)
    (hd : DataW.trod (fun _ => ()) Tryd.prog W 0 (fun _ => true) false fuel 35 cs.toList = some (wdData, p)) : Words W g := by
  intro k hk
  obtain ⟨xs, m, _, hx, hl, hlen, hf⟩ := DataW.trod_array Tryd.underlying35 hd
  have hk2 := hf k hk
  rw [cells9, Nat.mul_one, List.getElem?_eq_getElem (by omega)] at hk2
  obtain ⟨b, hb, hy, _⟩ := DataW.trod_string Tryd.underlying9 hk2
  simp only [Prod.mk.injEq, wdData, DataW.agg.injEq] at hx
  have h1 := congrArg (fun l => l[k]?) hx.1
  have hwl : wd.length = 13 := by decide
  simp only [List.getElem?_map, List.getElem?_eq_getElem (show k < xs.length by omega), List.getElem?_eq_getElem (show k < wd.length by omega), Option.map_some, Option.some.injEq] at h1
  rw [hy] at h1
  simp only [DataW.lit.injEq, Lit.string.injEq] at h1
  have hbe : b = wordB k := by
    have : wd.getD k [] = wd[k]'(by omega) := by rw [List.getD_eq_getElem?_getD, List.getElem?_eq_getElem (show k < wd.length by omega)]; rfl
    unfold wordB
    rw [this, h1]
  have hc : cs[k]? = some (.string b) := by
    rw [← Array.getElem?_toList]
    have := congrArg (fun l => l[0]?) hb
    simpa using this
  rw [World.var?_cell hg hvar k, hc, hbe]

theorem tables {W : World} (h : laidMet Tryd.prog [("shard/shardref3.words", Rows.laid_shard_shardref3_words), ("shard/wire.kindWords", Rows.laid_shard_wire_kindWords)] W) : Words W 0 ∧ Words W 1 := by
  obtain ⟨ps, ⟨g', t', cs, fuel, p, q, hg', ht', hvar, hd, ⟨g2, t2, cs2, fuel2, p2, q2, hg2, ht2, hvar2, hd2, _, _⟩, _⟩, _⟩ := h
  obtain rfl := Option.some.inj (g1.symm.trans hg')
  obtain rfl := Option.some.inj (gt1.symm.trans ht')
  obtain rfl := Option.some.inj (g0.symm.trans hg2)
  obtain rfl := Option.some.inj (gt0.symm.trans ht2)
  rw [laid1] at hd
  rw [laid0] at hd2
  exact ⟨words_of g0 hvar2 hd2, words_of g1 hvar hd⟩

set_option maxRecDepth 100000 in
theorem contract (H : Type) (enc : TypeId × Value → H) (W : World) (base : Nat) (args : Array Value) (ds gs : List (DataW H)) (before : List MemPlace)
    (hval : ∀ (j : Nat) t v, Tryd.f3.params[j]? = some t → args[j]? = some v → Value.okWide Tryd.prog W .any base t v)
    (hW : DataW.Whole enc Tryd.prog Tryd.f3.params.toList Rows.wireRolesSpec.vars false W args.toList ds gs before) (hL : laidMetH Tryd.prog Rows.wireRolesRow.laid W) :
    Calls Tryd.prog 3 args W fun e W' => ∃ v, e = .returned v ∧ Rows.wireRolesSpec.post enc Tryd.prog Tryd.f3 false true false false W args v W' := by
  have hW' := hW
  obtain ⟨p, q, hA0, hV, rfl, hfz, hnd⟩ := hW
  have hA : DataW.TrodAll enc Tryd.prog W 0 (fun _ => true) true Tryd.f3.params.toList args.toList ds p := hA0
  rw [Tryd.params3] at hA hval
  obtain ⟨v0, vs0, d0, ds0, p0, q0, hargs, rfl, rfl, h0, r0⟩ := trodAll_cons hA
  obtain ⟨v1, vs1, d1, ds1, p1, q1, rfl, rfl, rfl, h1, r1⟩ := trodAll_cons r0
  obtain ⟨v2, vs2, d2, ds2, p2, q2, rfl, rfl, rfl, h2, r2⟩ := trodAll_cons r1
  obtain ⟨rfl, rfl, rfl⟩ := trodAll_nil r2
  obtain rfl : args = #[v0, v1, v2] := by cases args; simp_all
  obtain ⟨rfl, rfl⟩ := trodVars_none hV
  obtain ⟨a0, rfl, rfl, rfl, w0⟩ := open_int Tryd.underlying22 (hval 0 22 v0 rfl rfl) h0
  obtain ⟨a1, rfl, rfl, rfl, w1⟩ := open_int Tryd.underlying22 (hval 1 22 v1 rfl rfl) h1
  obtain ⟨a2, rfl, rfl, rfl, w2⟩ := open_int Tryd.underlying23 (hval 2 23 v2 rfl rfl) h2
  clear hA0
  simp only [List.append_nil] at hW'
  obtain ⟨t0, t1⟩ := tables hL
  refine (walk a0 a1 a2 (bounds_u8 w0) (bounds_u8 w1) (bounds_u8 w2) t0 t1).mono fun e W' ⟨he, bel⟩ => ?_
  subst he
  exact ⟨_, rfl, _, _, _, [], _, [], hW', trodAll_mk1 (shut_bool Tryd.underlying4 _), trodAll_cons_mk (shut_int Tryd.underlying22 w0) (trodAll_cons_mk (shut_int Tryd.underlying22 w1) (trodAll_cons_mk (shut_int Tryd.underlying23 w2) trodAll_mk0)), rfl, bel.frame _, fun h => by cases h⟩
end Go.Proofs.YtobhepaagpdhmaaDoor.Wi
