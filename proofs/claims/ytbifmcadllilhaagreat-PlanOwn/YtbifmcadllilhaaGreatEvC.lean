import Derived.Test.YtbifmcadllilhaaGreatEvA
import Derived.Test.YtbifmcadllilhaaGreatPmK
import Derived.Test.YtbifmcadllilhaaGreatPnC
import Derived.ProofKit
import Derived.OpenShut
import Derived.SizedLaws
import Derived.Carry
import Derived.Deep.Slices
import Derived.Deep.Fields
namespace Go.Proofs.YtbifmcadllilhaaGreat.Rg
open Go.RowKit Go.Shelf Go.Sort
open Go.Proofs.YtbifmcadllilhaaGreat.It
set_option linter.unusedVariables false
/-- the greatest less the least -/
structure Spr (o : List Int) (lo hi : Int) : Prop where
  l : lo ∈ o
  h : hi ∈ o
  all : ∀ x ∈ o, lo ≤ x ∧ x ≤ hi
set_option maxRecDepth 100000 in
set_option maxHeartbeats 1000000 in
theorem spread16 (w : World) (u : Value) (o : List Int) (hu : Pn.Ns w u o) (h0 : 0 < o.length) (h16 : o.length ≤ 16) (hb : ∀ x ∈ o, 0 ≤ x ∧ x ≤ 4096) :
    Calls Tryz.prog 16 #[u] w fun e w' => ∃ lo hi, e = .returned (.int .i64 (hi - lo)) ∧ Spr o lo hi ∧ Kp Nu w w' := by
  have mixed : Tryz.prog.follows .mixedOrders = true := by kernel_rfl
  obtain ⟨a, cap, rfl, hcap, hcell⟩ := id hu
  obtain ⟨N, eN⟩ : ∃ N, o.length = N := ⟨_, rfl⟩
  obtain ⟨x0, hx0⟩ : ∃ x, o[0]? = some x := ⟨_, List.getElem?_eq_getElem h0⟩
  obtain ⟨ba, rfl, c0⟩ := hcell 0 x0 hx0
  rw [eN] at h0 h16 ⊢
  have hc : Hid (∀ (j : Nat) x, o[j]? = some x → w.cell? (ba.add j) = some (.int .i64 x)) := hide (fun j x hx => by
    obtain ⟨b, e, h⟩ := hcell j x hx
    cases e; exact h)
  have e0 : ba.add 0 = ba := by simp [Addr.add]
  rw [e0] at c0
  have HX := hide (And.intro hx0 (And.intro hb eN))
  have n0 : (0 : Int) < (N : Int) := by omega
  have n1 : (N : Int) ≤ 16 := by omega
  clear hu hcell hx0 hb eN
  go_enter Tryz.func16, Tryz.ntmps16
  go_wp2
  go_loopw [3, 4, 5] (fun lv hv iv wr => ∃ (lo hi : Int) (i : Nat), lv = .int .i64 lo ∧ hv = .int .i64 hi ∧ iv = .int .i64 (i : Int) ∧ i ≤ N ∧ Hid (lo ∈ o ∧ hi ∈ o ∧ lo ≤ hi ∧ ∀ (j : Nat) x, j < i → o[j]? = some x → lo ≤ x ∧ x ≤ hi) ∧ wr = w) (fun _ _ iv _ => N - (intOf iv).toNat)
  case atStart => exact ⟨x0, x0, 0, rfl, rfl, rfl, Nat.zero_le _, hide ⟨List.mem_of_getElem? HX.out.1, List.mem_of_getElem? HX.out.1, Int.le_refl _, fun j x hj => by omega⟩, rfl⟩
  case round =>
    obtain ⟨lo, hi, i, rfl, rfl, rfl, hi1, hI, rfl⟩ := hrel
    have hi0 : (0 : Int) ≤ (i : Int) := by omega
    by_cases hlt : i < N
    · have hltI : (i : Int) < (N : Int) := by omega
      have eti : (i : Int).toNat = i := by omega
      obtain ⟨x, hx⟩ : ∃ x, o[i]? = some x := ⟨_, List.getElem?_eq_getElem (by rw [HX.out.2.2]; exact hlt)⟩
      have cx := hc.out i x hx
      have HQ := hide hx
      have hmx := hide (List.mem_of_getElem? hx)
      have nxt : ∀ lo' hi' : Int, lo' ∈ o → hi' ∈ o → lo' ≤ lo → hi ≤ hi' → lo' ≤ x → x ≤ hi' → Hid (lo' ∈ o ∧ hi' ∈ o ∧ lo' ≤ hi' ∧ ∀ (j : Nat) x, j < i + 1 → o[j]? = some x → lo' ≤ x ∧ x ≤ hi') := fun lo' hi' h1 h2 h3 h4 h5 h6 => hide ⟨h1, h2, by omega, fun j y hj hy => by
        by_cases e : j = i
        · subst e; rw [hx] at hy; cases hy; exact ⟨h5, h6⟩
        · have := hI.out.2.2.2 j y (by omega) hy; omega⟩
      have HN := hide nxt
      have hlh := hI.out.2.2.1
      clear hx nxt
      by_cases q1 : x < lo
      · have d1 : decide (x < lo) = true := by simpa using q1
        have q2 : ¬ x > hi := by omega
        have d2 : decide (x > hi) = false := by simpa using q2
        go_wp2
        exact ⟨⟨x, hi, i + 1, rfl, rfl, by go_num, by omega, HN.out x hi hmx.out hI.out.2.1 (by omega) (by omega) (by omega) (by omega), by first | trivial | rfl⟩, by simp [intOf]; omega⟩
      · have d1 : decide (x < lo) = false := by simpa using q1
        by_cases q2 : x > hi
        · have d2 : decide (x > hi) = true := by simpa using q2
          go_wp2
          exact ⟨⟨lo, x, i + 1, rfl, rfl, by go_num, by omega, HN.out lo x hI.out.1 hmx.out (by omega) (by omega) (by omega) (by omega), by first | trivial | rfl⟩, by simp [intOf]; omega⟩
        · have d2 : decide (x > hi) = false := by simpa using q2
          go_wp2
          exact ⟨⟨lo, hi, i + 1, rfl, rfl, by go_num, by omega, HN.out lo hi hI.out.1 hI.out.2.1 (by omega) (by omega) (by omega) (by omega), by first | trivial | rfl⟩, by simp [intOf]; omega⟩
    · have hltI : ¬ (i : Int) < (N : Int) := by omega
      have b1 := HX.out.2.1 lo hI.out.1
      have b2 := HX.out.2.1 hi hI.out.2.1
      have ew : IntKind.i64.wrap (hi - lo) = hi - lo := by rw [IntKind.wrap_i64]; omega
      go_wp2
      go_ret
      refine ⟨lo, hi, rfl, ⟨hI.out.1, hI.out.2.1, fun x hx => ?_⟩, Kp.refl _ _⟩
      obtain ⟨j, hj⟩ := List.getElem?_of_mem hx
      have hjl := (List.getElem?_eq_some_iff.1 hj).1
      exact hI.out.2.2.2 j x (by have := HX.out.2.2; omega) hj
end Go.Proofs.YtbifmcadllilhaaGreat.Rg
namespace Go.Proofs.YtbifmcadllilhaaGreat.Rg
open Go.RowKit Go.Shelf Go.Sort
open Go.Proofs.YtbifmcadllilhaaGreat.It
set_option linter.unusedVariables false
theorem ns_nil (w : World) : Pn.Ns w (.slice none 0 0) [] := ⟨none, 0, rfl, Nat.le_refl _, fun j x hx => by simp at hx⟩
/-- two answers of one question -/
theorem lor_two {w w1 w2 w3 : World} {n : Int} {M : List Sg} {ks : List Int} {v v' : Value} {c c' : Int} (h : LoR w w1 n M ks v c) (h' : LoR w2 w3 n M ks v' c') : c = c' ∧ ∃ o : List Int, o.length ≤ 16 ∧ Pn.Ns w1 v o ∧ Pn.Ns w3 v' o := by
  rcases h with ⟨a1, rfl, rfl⟩ | ⟨a1, a2, rfl, rfl⟩ | ⟨a1, a2, rfl, N, rfl, a3⟩
  · rcases h' with ⟨b1, rfl, rfl⟩ | ⟨b1, _⟩ | ⟨b1, _⟩
    · exact ⟨rfl, [], by simp, ns_nil _, ns_nil _⟩
    · exact absurd b1 a1
    · exact absurd b1 a1
  · rcases h' with ⟨b1, _⟩ | ⟨b1, b2, rfl, rfl⟩ | ⟨b1, b2, _⟩
    · exact absurd a1 b1
    · exact ⟨rfl, [], by simp, ns_nil _, ns_nil _⟩
    · exact absurd b2 a2
  · rcases h' with ⟨b1, _⟩ | ⟨b1, b2, _⟩ | ⟨b1, b2, rfl, N', e, b3⟩
    · exact absurd a1 b1
    · exact absurd a2 b2
    · have e2 : N = N' := by omega
      subst e2
      have hl := Pn.lds_len N (ks.map (ow (lays [] M)))
      generalize Pn.lds N (ks.map (ow (lays [] M))) = o at *
      refine ⟨rfl, o, by omega, ?_, ?_⟩
      · rw [← hl] at a3; exact Pn.Ns.of_own a3
      · rw [← hl] at b3; exact Pn.Ns.of_own b3
end Go.Proofs.YtbifmcadllilhaaGreat.Rg
namespace Go.Proofs.YtbifmcadllilhaaGreat.Pn
open Go.ChangeShapes Go.WideShapes Go.ChangeAt Go.RowKit
open Go.Deep
set_option linter.unusedVariables false
theorem ownK : ownKnob Tryz.prog.godebug = none := by kernel_rfl
theorem laidOut : laidOutB Tryz.prog = true := by kernel_rfl
theorem cellsOf3 : Tryz.prog.cellsOf 3 = 1 := by kernel_rfl
theorem bytesOf3 : Tryz.prog.bytesOf 3 = 8 := by kernel_rfl
section
variable {H : Type} {enc : TypeId × Value → H} {W : World}
theorem sized_at {ts : List TypeId} {ds : List (DataW H)} (h : (DataW.weightsEach Tryz.prog ts ds).all (· ≤ reachBytes) = true) (j : Nat) {t : TypeId} {d : DataW H} (ht : ts[j]? = some t) (hd : ds[j]? = some d) : ∀ n ∈ d.weights Tryz.prog t, n ≤ 140737488351232 := by
  intro n hn
  have := List.all_eq_true.1 h n (DataW.weights_mem_each ht hd n hn)
  exact of_decide_eq_true this
/-- an order that came in -/
theorem open_order {v0 : Value} {d0 : DataW H} {p0 : List MemPlace} (h : DataW.Trod enc Tryz.prog W 0 (fun _ => true) true 45 v0 d0 p0) (hone : ∃ a len cap, v0 = .slice a len cap) (hw : ∀ n ∈ d0.weights Tryz.prog 45, n ≤ 140737488351232) :
    ∃ a c o, v0 = .slice a o.length c ∧ Ns W (.slice a o.length c) o ∧ (a = none → c = 0) ∧ o.length * 8 ≤ 140737488351232 := by
  obtain ⟨fuel, hf⟩ := h
  obtain ⟨a0, len0, cap0, rfl⟩ := hone
  have hf' : DataW.trod enc Tryz.prog W 0 (fun _ => true) true fuel 45 [.slice a0 len0 cap0] = some (d0, p0) := by simpa [Value.cells] using hf
  rcases open_ints Tryz.underlying45 Tryz.underlying3 cellsOf3 hf' with ⟨hcs, _⟩ | ⟨a, len, cap, zs, hcs, _, hl, hm, hz, hx, hcell, hwz⟩
  · simp only [List.cons.injEq, and_true, Value.slice.injEq] at hcs
    obtain ⟨rfl, rfl, rfl⟩ := hcs
    exact ⟨none, 0, [], rfl, ⟨none, 0, rfl, by simp, fun j x hx => by simp at hx⟩, fun _ => rfl, by simp⟩
  · simp only [List.cons.injEq, and_true, Value.slice.injEq] at hcs
    obtain ⟨rfl, rfl, rfl⟩ := hcs
    have hzl : (zs.take len0).length = len0 := by
      rw [List.length_take, hz]
      simp
      omega
    refine ⟨some a, cap0, zs.take len0, by rw [hzl], ⟨some a, cap0, rfl, by rw [hzl]; exact hl, fun j x hj => ⟨a, rfl, ?_⟩⟩, (fun e => by cases e), ?_⟩
    · have hj2 : j < len0 := by
        have := (List.getElem?_eq_some_iff.1 hj).1
        rw [hzl] at this
        exact this
      have hj3 : j < zs.length := by rw [hz]; simp; omega
      have := hcell j hj3
      rw [this]
      rw [List.getElem?_take_of_lt hj2] at hj
      have e : zs.getD j 0 = x := by
        rw [List.getD_eq_getElem?_getD, hj]
        rfl
      rw [e]
    · have hd : d0 = _ := congrArg Prod.fst hx
      have := hw _ (by rw [hd]; simp [DataW.weights, Tryz.underlying45]; exact .inl rfl)
      rw [bytesOf3] at this
      have e1 : (lits IntKind.i64 (List.take len0 zs) : List (DataW H)).length = (List.take len0 zs).length := by simp [lits]
      rw [e1, hzl] at this
      rw [hzl]
      omega
end
end Go.Proofs.YtbifmcadllilhaaGreat.Pn
namespace Go.Proofs.YtbifmcadllilhaaGreat.Rg
open Go.ChangeShapes Go.WideShapes Go.ChangeAt Go.RowKit
open Go.Deep
set_option linter.unusedVariables false
theorem cellsOf56 : Tryz.prog.cellsOf 24 = 1 := by kernel_rfl
theorem bytesOf56 : Tryz.prog.bytesOf 24 = 8 := by kernel_rfl
section
variable {H : Type} {enc : TypeId × Value → H} {W : World}
/-- a nil slice that came in has no room -/
theorem open_nil {t e : TypeId} {v0 : Value} {d0 : DataW H} {p0 : List MemPlace} (ht : Tryz.prog.underlying t = some (.slice e)) (h : DataW.Trod enc Tryz.prog W 0 (fun _ => true) true t v0 d0 p0) : ∀ m c, v0 = .slice none m c → c = 0 := by
  rintro m c rfl
  obtain ⟨fuel, hf⟩ := h
  have hf' : DataW.trod enc Tryz.prog W 0 (fun _ => true) true fuel t [.slice none m c] = some (d0, p0) := by simpa [Value.cells] using hf
  rcases open_slice ht hf' with ⟨hcs, hx⟩ | ⟨a, len, cap, m', n, D, Pl, hcs, _⟩
  · simp only [List.cons.injEq, and_true, Value.slice.injEq] at hcs
    exact hcs.2.2
  · simp only [List.cons.injEq, and_true, Value.slice.injEq] at hcs
    exact absurd hcs.1 (by simp)
/-- keys that came in -/
theorem open_keys {v0 : Value} {d0 : DataW H} {p0 : List MemPlace} (h : DataW.Trod enc Tryz.prog W 0 (fun _ => true) true 23 v0 d0 p0) (hone : ∃ a len cap, v0 = .slice a len cap) (hw : ∀ n ∈ d0.weights Tryz.prog 23, n ≤ 140737488351232) :
    ∃ a c o, v0 = .slice a o.length c ∧ Us W (.slice a o.length c) o ∧ (a = none → c = 0) ∧ o.length * 8 ≤ 140737488351232 ∧ (∀ x ∈ o, 0 ≤ x ∧ x < 18446744073709551616) := by
  obtain ⟨fuel, hf⟩ := h
  obtain ⟨a0, len0, cap0, rfl⟩ := hone
  have hf' : DataW.trod enc Tryz.prog W 0 (fun _ => true) true fuel 23 [.slice a0 len0 cap0] = some (d0, p0) := by simpa [Value.cells] using hf
  rcases open_ints Tryz.underlying23 Tryz.underlying24 cellsOf56 hf' with ⟨hcs, _⟩ | ⟨a, len, cap, zs, hcs, _, hl, hm, hz, hx, hcell, hwz⟩
  · simp only [List.cons.injEq, and_true, Value.slice.injEq] at hcs
    obtain ⟨rfl, rfl, rfl⟩ := hcs
    exact ⟨none, 0, [], rfl, ⟨none, 0, rfl, by simp, fun j x hx => by simp at hx⟩, fun _ => rfl, by simp, fun x hx => by cases hx⟩
  · simp only [List.cons.injEq, and_true, Value.slice.injEq] at hcs
    obtain ⟨rfl, rfl, rfl⟩ := hcs
    have hzl : (zs.take len0).length = len0 := by
      rw [List.length_take, hz]
      simp
      omega
    refine ⟨some a, cap0, zs.take len0, by rw [hzl], ⟨some a, cap0, rfl, by rw [hzl]; exact hl, fun j x hj => ⟨a, rfl, ?_⟩⟩, (fun e => by cases e), ?_, ?_⟩
    · have hj2 : j < len0 := by
        have := (List.getElem?_eq_some_iff.1 hj).1
        rw [hzl] at this
        exact this
      have hj3 : j < zs.length := by rw [hz]; simp; omega
      have := hcell j hj3
      rw [this]
      rw [List.getElem?_take_of_lt hj2] at hj
      have e : zs.getD j 0 = x := by
        rw [List.getD_eq_getElem?_getD, hj]
        rfl
      rw [e]
    · have hd : d0 = _ := congrArg Prod.fst hx
      have := hw _ (by rw [hd]; simp [DataW.weights, Tryz.underlying23]; exact .inl rfl)
      rw [bytesOf56] at this
      have e1 : (lits IntKind.u64 (List.take len0 zs) : List (DataW H)).length = (List.take len0 zs).length := by simp [lits]
      rw [e1, hzl] at this
      rw [hzl]
      omega
    · intro z hz'
      have := hwz z (List.mem_of_mem_take hz')
      simp [Lit.wf, IntKind.min, IntKind.max, IntKind.signed, IntKind.bits] at this
      omega
end
end Go.Proofs.YtbifmcadllilhaaGreat.Rg
namespace Go.Proofs.YtbifmcadllilhaaGreat.Rg
open Go.RowKit Go.Shelf Go.Sort
open Go.Proofs.YtbifmcadllilhaaGreat.It
set_option linter.unusedVariables false
set_option maxRecDepth 100000 in
set_option maxHeartbeats 4000000 in
theorem evens_walk (w : World) (n : Int) (ad : Option Addr) (cap : Nat) (M : List Sg) (a1 : Option Addr) (c1 : Nat) (ks : List Int) (most : Int) (hM : Sgs w (.slice ad M.length cap) M) (hnM : ad = none → cap = 0) (hlen : (M.length : Int) ≤ 5864062014634) (hk : Us w (.slice a1 ks.length c1) ks) (hnk : a1 = none → c1 = 0) (hkl : ks.length * 8 ≤ 140737488351232) (hkr : ∀ x ∈ ks, 0 ≤ x ∧ x < 18446744073709551616) :
    Calls Tryz.prog 5 #[.int .i64 n, .slice ad M.length cap, .slice a1 ks.length c1, .int .i64 most] w fun e w' => e = .returned (.bool true) ∧ Kp Nu w w' := by
  have mixed : Tryz.prog.follows .mixedOrders = true := by kernel_rfl
  have TA := tamed22 w n _ _ M ks hM hlen hk hkl hkr
  have HK := hide hkr
  clear hM hnM hlen hk hnk hkl hkr
  go_enter Tryz.func5, Tryz.ntmps5
  go_wp2_with fail
  refine TA.mono ?_; rintro e w1 ⟨hT, hk1⟩
  rcases hT with ⟨v1, v2, rfl⟩ | ⟨⟨hn, hgood, hml, hkl⟩, N, sv, kv, k', rfl, rfl, hs, hkv, hris, hmem, hk'l⟩
  · have H1 := hide hk1
    clear TA hk1
    go_wp2
    go_ret
    exact ⟨rfl, H1.out⟩
  have H1 := hide hk1
  by_cases q2 : most < 1
  · have d2 : decide (most < 1) = true := by simpa using q2
    clear TA hk1 hn hgood hml hkl hs hkv hris hmem hk'l q2
    go_wp2
    go_ret
    exact ⟨rfl, H1.out⟩
  have d2 : decide (most < 1) = false := by simpa using q2
  by_cases q3 : most > 32
  · have d3 : decide (most > 32) = true := by simpa using q3
    clear TA hk1 hn hgood hml hkl hs hkv hris hmem hk'l q2 q3
    go_wp2
    go_ret
    exact ⟨rfl, H1.out⟩
  have d3 : decide (most > 32) = false := by simpa using q3
  have hN1 : 1 ≤ N := by omega
  have hN16 : N ≤ 16 := by omega
  have hk4 : k'.length ≤ 4096 := by omega
  obtain ⟨hgS, hbS⟩ := good_tmd hgood hN1 hN16
  obtain ⟨S, eS⟩ : ∃ S, M.map (tmd N) = S := ⟨_, rfl⟩
  have hSl : S.length = M.length := by rw [← eS, List.length_map]
  rw [eS] at hgS hbS hs
  have hk'r : ∀ x ∈ k', 0 ≤ x ∧ x < 18446744073709551616 := fun x hx => HK.out x (hmem x hx)
  have hLB : LayB (N : Int) S k' := by rw [← eS]; exact layB_tmd hgood hN1 hN16 hml hris
  have hSgs : Sgs w1 sv S := by
    refine Sgs.of_own (B := w.heap.size) (by rw [hSl]; exact hs) (fun s hs' => ?_)
    have h1 := cov_mem hgS.cov s hs'
    have h2 := hgS.hs s hs'
    exact ⟨by omega, by omega, by omega, by omega, h2.1, by omega⟩
  have hUs : Us w1 kv k' := Us.of_own hkv
  obtain ⟨sa, sc, esv⟩ := own_slice hs
  obtain ⟨ka, kc, ekv⟩ := own_slice hkv
  have hnk : ∀ m c, kv = .slice none m c → c = 0 := fun m c e => by
    rcases hkv.2 with ⟨e2, _⟩ | ⟨g, cp, cur, e2, _⟩
    · rw [e2] at e; cases e; rfl
    · rw [e2] at e; cases e
  have MO := moves24 w1 (N : Int) most _ _ S k' hSgs (by omega) hUs hk4 hk'r hnk
  have HA := hide (And.intro hSgs (And.intro hUs (And.intro hgS (And.intro hbS (And.intro hk'r (And.intro hLB (And.intro hSl (And.intro hris (And.intro hnk hml)))))))))
  obtain ⟨KL, eKL⟩ : ∃ KL, k'.length = KL := ⟨_, rfl⟩
  obtain ⟨SL, eSL⟩ : ∃ SL, M.length = SL := ⟨_, rfl⟩
  rw [eKL] at ekv hk4
  rw [eSL] at esv
  subst esv
  subst ekv
  have HKL := hide (And.intro eKL eSL)
  have hNI1 : (1 : Int) ≤ (N : Int) := by omega
  have hNI : (N : Int) ≤ 16 := by omega
  have hm1 : 1 ≤ most := by omega
  have hm32 : most ≤ 32 := by omega
  have hKI : (KL : Int) ≤ 4096 := by omega
  clear TA hk1 hn hgood hml hkl hs hkv hris hmem hk'l q2 q3 hgS hbS eS hSl hk'r hLB hSgs hUs hnk eKL eSL
  go_wp2_with fail
  refine MO.mono ?_; rintro e w2 ⟨v, c, rfl, hMo, hk2⟩
  obtain ⟨hSgs, hUs, hgS, hbS, hk'r, hLB, hSl, hris, hnk, hml⟩ := HA.out
  have hMo2 : c = 0 ∧ ∃ ms σ, Stps k' most (sg0 N (lays [] S) k') ms σ ∧ Fin σ ∧ Mvs w2 v ms ∧ ms.length ≤ 4096 := by
    rcases hMo with ⟨h, _⟩ | ⟨_, h, _⟩ | ⟨_, _, h0, N', hN', ms, σ, h1, h2, h3, h4⟩
    · exact absurd ⟨⟨hNI1, hNI⟩, hm1, hm32⟩ h
    · exact absurd hLB h
    · have : N' = N := by omega
      subst this
      exact ⟨h0, ms, σ, h1, h2, h3, h4⟩
  obtain ⟨rfl, ms, σ, hst, hfin, hmv, hmsl⟩ := hMo2
  obtain ⟨R, hE⟩ := ev_of hgS hbS hN1 hN16 hris hk'r hm1 hst hfin
  have PL := play15 w2 _ _ S ms (hSgs.nu hk2) (by omega) hmv hmsl
  obtain ⟨va, vc, ev, _⟩ := id hmv
  have HE := hide (And.intro hE (And.intro hk2 (And.intro hmv hmsl)))
  obtain ⟨ML, eML⟩ : ∃ ML, ms.length = ML := ⟨_, rfl⟩
  rw [eML] at ev
  subst ev
  clear MO hMo hSgs hUs hgS hbS hk'r hLB hSl hris hnk hml hst hfin hmv hmsl hE hk2 eML
  go_wp2_with fail
  refine PL.mono ?_; rintro e w3 ⟨v, c, rfl, hP, hk3⟩
  obtain ⟨hE, hk2, hmv, hmsl⟩ := HE.out
  have hP2 : c = 0 ∧ R.length ≤ 16384 ∧ w3.ownsRow w2.heap.size 38 3 v R.length (cells R) := by
    obtain ⟨_, _, _, _, _, hLB, _⟩ := HA.out
    rcases hP with ⟨h, _⟩ | ⟨_, h, _⟩ | ⟨_, h0, R', h1, h2, h3⟩
    · exact absurd hLB.1 h
    · rw [hE.pl] at h; cases h
    · rw [hE.pl] at h1; cases h1; exact ⟨h0, h2, h3⟩
  obtain ⟨rfl, hRl, hRo⟩ := hP2
  have hRne := hE.tab.ne
  obtain ⟨ra, rc, er⟩ := own_slice hRo
  obtain ⟨RL, eRL⟩ : ∃ RL, R.length = RL := ⟨_, rfl⟩
  have HR := hide (And.intro hRo (And.intro hk3 eRL))
  rw [eRL] at er hRl hRne
  subst er
  have hR0 : (0 : Int) < (RL : Int) := by omega
  have hR1 : ((RL : Int) == 0) = false := by simpa using (by omega : ¬ RL = 0)
  have NU := fun W => Pn.num12 W 0
  clear PL hP hE hk2 hmv hmsl hRo hk3 eRL
  go_wp2_with (first | (go_at_call 10; refine (NU _).mono ?_; rintro e w' ⟨rfl, hw'⟩; obtain rfl := hw'.symm))
  obtain ⟨hSgs, hUs, hgS, hbS, hk'r, hLB, hSl, hris, hnk, hml⟩ := HA.out
  obtain ⟨hE, hk2, hmv, hmsl⟩ := HE.out
  obtain ⟨hRo, hk3, eRL⟩ := HR.out
  have hRs : Sgs w3 (.slice ra RL rc) R := Sgs.of_own (B := w2.heap.size) (by rw [eRL]; rw [eRL] at hRo; exact hRo) hE.tab.sgb
  have hU3 := (hUs.nu hk2).nu hk3
  have CO := counted23 w3 N _ _ R k' hRs hE.tab.cov hE.hs (by omega) hU3 hk'r (by have := HKL.out.1; omega) hN16
  have H3 := hide (And.intro hRs hU3)
  obtain ⟨o, eo⟩ : ∃ o, Pn.lds N (k'.map (ow R)) = o := ⟨_, rfl⟩
  have hol : o.length = N := by rw [← eo]; exact Pn.lds_len _ _
  have hob : ∀ x ∈ o, 0 ≤ x ∧ x ≤ 4096 := fun x hx => by
    rw [← eo] at hx
    obtain ⟨q, _, rfl⟩ := List.mem_map.1 hx
    have := Pn.cnt_le (k'.map (ow R)) q
    rw [List.length_map] at this
    have := HKL.out.1
    omega
  have hos : o.sum = (KL : Int) := by rw [← eo, hE.sum, HKL.out.1]
  have hnear : ∀ x ∈ o, ∀ y ∈ o, x - y ≤ 1 := fun x hx y hy => by
    rw [← eo] at hx hy
    obtain ⟨q, hq, rfl⟩ := List.mem_map.1 hx
    obtain ⟨q', hq', rfl⟩ := List.mem_map.1 hy
    rw [hE.ld q (List.mem_range.1 hq), hE.ld q' (List.mem_range.1 hq')]
    exact tgt_near _ _ _
  rw [eo] at CO
  have HO := hide (And.intro eo (And.intro hol (And.intro hob (And.intro hos hnear))))
  clear hSgs hUs hgS hbS hk'r hLB hSl hris hnk hml hE hk2 hmv hmsl hRo hk3 eRL hRs hU3 eo hol hob hos hnear NU
  go_wp2_with fail
  refine CO.mono ?_; rintro e w4 ⟨g, rfl, ho4, hk4'⟩
  have H4 := hide (And.intro ho4 hk4')
  clear CO ho4 hk4'
  go_wp2
  go_loopw [17, 18] (fun nv iv wr => ∃ (i : Nat) (sm : Int), nv = .int .i64 sm ∧ iv = .int .i64 (i : Int) ∧ i ≤ N ∧ (0 ≤ sm ∧ sm ≤ 65536) ∧ Hid (sm = (o.take i).sum ∧ sm ≤ 4096 * i) ∧ wr = w4) (fun _ iv _ => N - (intOf iv).toNat)
  case atStart => exact ⟨0, 0, rfl, rfl, Nat.zero_le _, ⟨by omega, by omega⟩, hide ⟨by simp, by simp⟩, rfl⟩
  case round =>
    obtain ⟨i, sm, rfl, rfl, hi1, ⟨hs0, hs1⟩, hI, rfl⟩ := hrel
    have hi0 : (0 : Int) ≤ (i : Int) := by omega
    obtain ⟨eo, hol, hob, hos, hnear⟩ := HO.out
    by_cases hlt : i < N
    · have hltI : (i : Int) < (N : Int) := by omega
      have eti : (i : Int).toNat = i := by omega
      obtain ⟨x, hx⟩ : ∃ x, o[i]? = some x := ⟨_, List.getElem?_eq_getElem (by omega)⟩
      obtain ⟨cx, _⟩ := num_at H4.out.1 hol hx
      have hxb := hob x (List.mem_of_getElem? hx)
      have ew : IntKind.i64.wrap (sm + x) = sm + x := by rw [IntKind.wrap_i64]; omega
      have HQ : Hid (sm + x = (o.take (i + 1)).sum ∧ sm + x ≤ 4096 * ((i + 1 : Nat) : Int) ∧ 0 ≤ x) := hide ⟨by rw [List.take_add_one, hx, List.sum_append, hI.out.1]; simp, by have := hI.out.2; omega, hxb.1⟩
      have hx0 : 0 ≤ x := hxb.1
      have hx1 : x ≤ 4096 := hxb.2
      clear hx eo hol hob hos hnear hxb
      go_wp2
      exact ⟨⟨i + 1, sm + x, by go_num, by go_num, by omega, ⟨by omega, by have := HQ.out.2.1; omega⟩, hide ⟨HQ.out.1, HQ.out.2.1⟩, by first | trivial | rfl⟩, by simp [intOf]; omega⟩
    · have hltI : ¬ (i : Int) < (N : Int) := by omega
      have esm : sm = (KL : Int) := by
        rw [hI.out.1, List.take_of_length_le (by omega), hos]
      obtain ⟨hRs, hU3⟩ := H3.out
      have SP := spread16 wr _ o (Pn.Ns.of_own (B := w3.heap.size) (by rw [hol]; exact H4.out.1)) (by omega) (by omega) hob
      have LO : ∀ W, Kp Nu wr W → Calls Tryz.prog 17 #[.int .i64 (N : Int), .slice ra RL rc, .slice ka KL kc] W fun e w' => ∃ v c, e = .returned (.tuple #[v, .int .i64 c]) ∧ LoR W w' (N : Int) R k' v c ∧ Kp Nu W w' := fun W k => by
        obtain ⟨_, _, _, _, hk'r, _, _, _, hnk, _⟩ := HA.out
        have k3 := H4.out.2.andNu k
        exact loads19 W (N : Int) _ _ R k' (hRs.nu k3) (by have := HR.out.2.2; omega) (hU3.nu k3) (by have := HKL.out.1; omega) hk'r hnk
      have HS := hide (And.intro esm hI)
      clear eo hol hob hos hnear hRs hU3 esm hI
      go_wp2_with fail
      refine SP.mono ?_; rintro e w5 ⟨lo, hi, rfl, hSp, hk5⟩
      have L5 := LO w5 hk5
      have H5 := hide (And.intro hSp hk5)
      clear SP LO hSp hk5
      go_wp2_with fail
      refine L5.mono ?_; rintro e w6 ⟨v, c, rfl, hL, hk6⟩
      have H6 := hide (And.intro hL hk6)
      obtain ⟨tv, tl, tc, et⟩ : ∃ a l c, v = .slice a l c := by
        rcases hL with ⟨_, e, _⟩ | ⟨_, _, e, _⟩ | ⟨_, _, _, _, _, e⟩
        · exact ⟨_, _, _, e⟩
        · exact ⟨_, _, _, e⟩
        · obtain ⟨a, cp, e⟩ := own_slice e; exact ⟨_, _, _, e⟩
      subst et
      clear L5 hL hk6
      have hd1 : hi - lo ≤ 1 := HO.out.2.2.2.2 hi H5.out.1.h lo H5.out.1.l
      have dd : decide (hi - lo ≤ 1) = true := by simpa using hd1
      have hsm : sm = (KL : Int) := HS.out.1
      subst hsm
      by_cases q : (RL : Int) ≤ 8192
      · have dq : decide ((RL : Int) ≤ 8192) = true := by simpa using q
        obtain ⟨eo, hol, _⟩ := HO.out
        obtain ⟨hE, _⟩ := HE.out
        have hLB := tab_layB hE.tab hE.hs (by have := HR.out.2.2; omega) (k := k') HA.out.2.2.2.2.2.2.2.1
        have hc0 : c = 0 ∧ Pn.Ns w6 (.slice tv tl tc) o := by
          rcases H6.out.1 with ⟨h, _⟩ | ⟨_, h, _⟩ | ⟨_, _, h0, N', hN', h1⟩
          · exact absurd ⟨hNI1, hNI⟩ h
          · exact absurd hLB h
          · have : N' = N := by omega
            subst this
            rw [tab_lays hE.tab, eo] at h1
            exact ⟨h0, Pn.Ns.of_own (B := w5.heap.size) (by rw [hol]; exact h1)⟩
        obtain ⟨rfl, hns⟩ := hc0
        have SM := Pn.same11 w6 _ _ o hns ((Pn.Ns.of_own (B := w3.heap.size) (by rw [hol]; exact H4.out.1)).nu (H5.out.2.andNu H6.out.2).toPn) (by omega)
        have NU := fun W => Pn.num12 W 0
        clear eo hol hE hLB hns q
        go_wp2_with fail
        refine SM.mono ?_; rintro e w7 ⟨rfl, hk7⟩
        have H7 := hide (Kp.ofPn hk7)
        clear SM hk7
        go_wp2_with (first | (go_at_call 10; refine (NU _).mono ?_; rintro e w' ⟨rfl, hw'⟩; obtain rfl := hw'.symm))
        go_ret
        exact ⟨rfl, (((((H1.out.andNu HE.out.2.1).andNu HR.out.2.1).andNu H4.out.2).andNu H5.out.2).andNu H6.out.2).andNu H7.out⟩
      · have dq : decide ((RL : Int) ≤ 8192) = false := by simpa using q
        clear q
        go_wp2
        go_ret
        exact ⟨rfl, ((((H1.out.andNu HE.out.2.1).andNu HR.out.2.1).andNu H4.out.2).andNu H5.out.2).andNu H6.out.2⟩
end Go.Proofs.YtbifmcadllilhaaGreat.Rg
