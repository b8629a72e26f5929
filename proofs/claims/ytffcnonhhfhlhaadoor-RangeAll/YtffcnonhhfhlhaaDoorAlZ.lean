import Derived.Test.YtffcnonhhfhlhaaDoorAlD
import Derived.Test.YtffcnonhhfhlhaaDoorTxJ
namespace Go.Proofs.YtffcnonhhfhlhaaDoor.Rg
open Go.RowKit Go.Shelf Go.Sort
open Go.Proofs.YtffcnonhhfhlhaaDoor.It
set_option linter.unusedVariables false
set_option maxRecDepth 100000 in
set_option maxHeartbeats 2000000 in
theorem all_walk (w : World) (u : Value) (M : List Sg) (hM : Sgs w u M) (hlen : (M.length : Int) ≤ 5864062014634) (lim : Int) (sv : Value) (S : List Sp) (hS : Scr w sv S) (hSl : (S.length : Int) ≤ 4398046510976) (hp : PowB w.heap.size w) :
    Calls Tryd.prog 9 #[u, .int .i64 lim, sv] w fun e w' => e = .returned (.bool true) ∧ Kp Nu w w' := by
  have mixed : Tryd.prog.follows .mixedOrders = true := by kernel_rfl
  have LD := loaded_any w u M hM hlen lim
  obtain ⟨ad, cap, hu⟩ := hM.slice
  obtain ⟨sa, sc, esv⟩ := hS.slice
  have HS := hide (And.intro hS (And.intro hSl hp))
  generalize M.length = NM at hu
  obtain ⟨n, en⟩ : ∃ n, S.length = n := ⟨_, rfl⟩
  rw [en] at esv
  subst hu
  subst esv
  clear hM hlen hS hSl hp en
  go_enter Tryd.func9, Tryd.ntmps9
  go_wp2_with fail
  refine LD.mono ?_; rintro e w1 ⟨p, L0, v, rfl, ⟨va, vn, vc, rfl⟩, hcase, k1⟩
  have k2 : Kp Nu w1 (w1.alloc (.cells #[.int .i64 L0, .slice va vn vc] 29)) := Kp.alloc w1 _ Nu
  have x2 := heap_alloc_new w1 (.cells #[.int .i64 L0, .slice va vn vc] 29)
  obtain ⟨c0, c1⟩ := cell2' x2
  have HK := hide (k1.andNu k2)
  rcases hcase with rfl | ⟨b, vt, B, hB, rfl, hT, hL0, hown, hlt⟩
  · clear LD k1 k2 x2
    go_wp2
    go_ret
    exact ⟨rfl, HK.out⟩
  obtain rfl : lim = L0 := hL0.symm
  have hbw : w.heap.size ≤ b := Nat.le_trans hB hT.low
  have PL := play_any w (w1.alloc (.cells #[.int .i64 lim, .slice va vn vc] 29)) (HK.out.mono (fun _ _ e => e.elim)) b hbw lim B vt (lays [] M) (hT.nu k2) va vn vc ((Rt.of_own hown hT.tab.ne).nu k2) _ S HS.out.1 HS.out.2.1 HS.out.2.2
  have HB := hide hbw
  clear LD k1 k2 x2 hT hown hlt hB hbw
  go_wp2_with fail
  refine PL.mono ?_; rintro e w3 ⟨rfl, k3⟩
  have HF := hide (HK.out.trans k3 (fun i hi e => by have e : i = b := e; have := HB.out; omega))
  clear PL k3
  go_wp2
  go_ret
  exact ⟨rfl, HF.out⟩
end Go.Proofs.YtffcnonhhfhlhaaDoor.Rg
namespace Go.Proofs.YtffcnonhhfhlhaaDoor.Rg
open Go.ChangeShapes Go.WideShapes Go.ChangeAt Go.RowKit
open Go.Deep
set_option linter.unusedVariables false

set_option maxRecDepth 100000 in
theorem rangeAllContract (H : Type) (enc : TypeId × Value → H) (W : World) (base : Nat) (args : Array Value) (ds gs : List (DataW H)) (before : List MemPlace)
    (hval : ∀ (j : Nat) t v, Tryd.f9.params[j]? = some t → args[j]? = some v → Value.okWide Tryd.prog W .any base t v)
    (hW : DataW.Whole enc Tryd.prog Tryd.f9.params.toList Rows.rangeAllSpec.vars false W args.toList ds gs before)
    (hsz0 : (DataW.weightsEach Tryd.prog (Tryd.f9.params.toList ++ (OpenSpec.ofChange Rows.rangeAllSpec).bare.plain.varTypes Tryd.prog) (ds ++ gs)).all (· ≤ reachBytes) = true)
    (hL : laidMetH Tryd.prog Rows.rangeAllRow.laid W) :
    Calls Tryd.prog 9 args W fun e W' => ∃ v, e = .returned v ∧ Rows.rangeAllSpec.post enc Tryd.prog Tryd.f9 false true false false W args v W' := by
  have hsz : (DataW.weightsEach Tryd.prog (Tryd.f9.params.toList ++ Rows.rangeAllSpec.plain.varTypes Tryd.prog) (ds ++ gs)).all (· ≤ reachBytes) = true := hsz0
  have hW' := hW
  obtain ⟨p, q, hA0, hV, rfl, hfz, hnd⟩ := hW
  have hA : DataW.TrodAll enc Tryd.prog W 0 (fun _ => true) true Tryd.f9.params.toList args.toList ds p := hA0
  rw [Tryd.params9] at hA hval hsz
  obtain ⟨v0, vs0, d0, ds0, p0, q0, hargs0, rfl, rfl, h0, r0⟩ := trodAll_cons hA
  obtain ⟨v1, vs1, d1, ds1, p1, q1, hargs1, rfl, rfl, h1, r1⟩ := trodAll_cons r0
  obtain ⟨v2, vs2, d2, ds2, p2, q2, hargs2, rfl, rfl, h2, r2⟩ := trodAll_cons r1
  obtain ⟨rfl, rfl, rfl⟩ := trodAll_nil r2
  obtain rfl : args = #[v0, v1, v2] := by cases args; simp_all
  obtain ⟨rfl, rfl⟩ := trodVars_none hV
  have h0k := h0
  have h1k := h1
  have h2k := h2
  obtain ⟨S0, hS0, hl0⟩ := open_seg h0 (okWide_slice Tryd.underlying22 (hval 0 22 v0 rfl rfl)) (sized_at hsz 0 rfl rfl)
  obtain ⟨n1, rfl, rfl, rfl, w1⟩ := open_int Tryd.underlying3 (hval 1 3 v1 rfl rfl) h1
  obtain ⟨S2, hS2, hl2⟩ := open_step h2 (okWide_slice Tryd.underlying83 (hval 2 83 v2 rfl rfl)) (sized_at hsz 2 rfl rfl)
  clear hA0
  simp only [List.append_nil] at hW'
  have hlt0 : ∀ x ∈ p0, x.block < W.heap.size := fun x hx => hW'.lt x (by simp [hx])
  have hlt1 : ∀ x ∈ ([] : List MemPlace), x.block < W.heap.size := fun x hx => by cases hx
  have hlt2 : ∀ x ∈ p2, x.block < W.heap.size := fun x hx => hW'.lt x (by simp [hx])
  have HP := powB_of (pow_of hL)
  refine (all_walk W v0 S0 hS0 hl0 n1 v2 S2 hS2 hl2 HP).mono fun e W' ⟨he, hk⟩ => ?_
  subst he
  exact ⟨_, rfl, _, _, _, [], _, [], hW', trodAll_mk1 (shut_bool Tryd.underlying4 _), (trodAll_cons_mk (Below.trod laidOut (by kernel_rfl) (of_decide_eq_true (by kernel_rfl)) h0k hk.toBelow hlt0) (trodAll_cons_mk (Below.trod laidOut (by kernel_rfl) (of_decide_eq_true (by kernel_rfl)) h1k hk.toBelow hlt1) (trodAll_cons_mk (Below.trod laidOut (by kernel_rfl) (of_decide_eq_true (by kernel_rfl)) h2k hk.toBelow hlt2) trodAll_mk0))), rfl, hk.toBelow.frame _, fun h => by cases h⟩

theorem rangeAllLaidMet (os : Os) : laidMet Tryd.prog Rows.rangeAllRow.laid ((laidWorld os).forCall (fun _ _ => 0) ⟨#[], #[.slice none 0 0, .int .i64 0, .slice none 0 0], []⟩).memory :=
  laidMet_of_run' 8 (by kernel_rfl) (by kernel_rfl)
theorem rangeAllReads (os : Os) {H : Type} (enc : TypeId × Value → H) : ∃ places, DataW.whole enc Tryd.prog ((laidWorld os).forCall (fun _ _ => 0) ⟨#[], #[.slice none 0 0, .int .i64 0, .slice none 0 0], []⟩).memory Tryd.f9.params.toList Rows.rangeAllSpec.vars false #[.slice none 0 0, .int .i64 0, .slice none 0 0].toList 8 = some ([.nil, .lit (.int .i64 0), .nil], [], places) :=
  ⟨[], by kernel_rfl⟩

set_option maxRecDepth 100000 in
theorem rangeAllLifted (os : Os) (started : os.Started) (H : Type) (enc : TypeId × Value → H) (F : Stop.Interp) :
    ReturnsInHanded {} Tryd.checked os 9 .any ((OpenSpec.ofChange Rows.rangeAllSpec).preRow enc Tryd.prog Tryd.f9 Rows.rangeAllRow.domain false Rows.rangeAllRow.laid) (((OpenSpec.ofChange Rows.rangeAllSpec).at F).post enc Tryd.prog Tryd.f9 false true false false) := by
  obtain ⟨places, hx⟩ := rangeAllReads os enc
  refine returnsInHanded_of_row (C := Tryd.checked) (s := OpenSpec.ofChange Rows.rangeAllSpec) ownK started (by kernel_rfl) Tryd.func9
    (witness_row_atRef (enc := enc) (C := Tryd.checked) false (laidWorld os) #[.slice none 0 0, .int .i64 0, .slice none 0 0] rfl (by kernel_rfl) (by kernel_rfl) (by kernel_rfl)
      (OpenSpec.preRow_of_cond 8 hx (by kernel_rfl) (fun k hk => by cases hk) (by kernel_rfl) (rangeAllLaidMet os))) ?_
  intro W base args ds gs before hval hW _ _ hsz hL _ _
  exact rangeAllContract H enc W base args ds gs before hval hW hsz hL

theorem rangeAllSaid : Rows.RangeAllSaid :=
  OpenClaim.holds_of_cond 9 Tryd.f9 rfl rfl rfl rfl rfl rfl rfl ⟨rfl, rfl, rfl, rfl, rfl⟩ rfl rfl rfl rfl rfl (by kernel_rfl) Tryd.func9 (by kernel_rfl)
    (of_decide_eq_true (by kernel_rfl)) (by unfold Func.isWrapper; first | (rw [if_pos (by decide +kernel)]; kernel_rfl) | (rw [if_neg (by decide +kernel)]; exact ⟨rfl, rfl⟩))
    (fun os started H enc _ F => by rw [OpenClaim.pre_eq_preRow]; exact rangeAllLifted os started H enc F)

theorem rangeAllPlainCard (f : FuncId) (fn : Func) (hf : Tryd.pinned.checked.prog.funcNamed "shard/shardlaw6.RangeAll" = some f) (hfn : Tryd.pinned.checked.prog.funcs[f]? = some fn) :
    false = Tryd.pinned.checked.prog.looks [] ∧ ∀ (j : Nat) t, fn.params[j]? = some t → Tryd.pinned.checked.prog.wantsStandIn t = false := by
  obtain rfl : f = 9 := Option.some.inj ((show Tryd.prog.funcNamed "shard/shardlaw6.RangeAll" = some 9 by kernel_rfl).symm.trans hf) |>.symm
  obtain rfl : fn = Tryd.f9 := (Option.some.inj (Tryd.func9.symm.trans hfn)).symm
  refine ⟨by kernel_rfl, fun j t ht => ?_⟩
  rw [Tryd.params9] at ht
  have hm : t = 22 ∨ t = 3 ∨ t = 83 := by
    have := Array.mem_of_getElem? ht
    simpa using this
  rcases hm with rfl | rfl | rfl
  · exact (show Tryd.prog.wantsStandIn 22 = false by kernel_rfl)
  · exact (show Tryd.prog.wantsStandIn 3 = false by kernel_rfl)
  · exact (show Tryd.prog.wantsStandIn 83 = false by kernel_rfl)

theorem rangeAllCard : Rows.RangeAllCardSaid :=
  Claim7.holds_tied_plain_at .later [] _ _ _ _ rangeAllSaid (fun _ h => by cases h) (by kernel_rfl) (fun _ h => by cases h) rangeAll_row_tie rfl ⟨rfl, rfl⟩ (by kernel_rfl) rfl rangeAllPlainCard (by kernel_rfl)
end Go.Proofs.YtffcnonhhfhlhaaDoor.Rg
namespace Go.Proofs.YtffcnonhhfhlhaaDoor
theorem rangeAll_holds : Rows.RangeAllCardSaid := Rg.rangeAllCard
#print axioms rangeAll_holds
end Go.Proofs.YtffcnonhhfhlhaaDoor
