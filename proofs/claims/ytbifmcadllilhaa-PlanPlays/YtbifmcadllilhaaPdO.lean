import Derived.Test.YtbifmcadllilhaaPdK
import Derived.Test.YtbifmcadllilhaaPnA
import Derived.ProofKit
import Derived.OpenShut
import Derived.SizedLaws
import Derived.Carry
import Derived.Deep.Slices
import Derived.Deep.Fields
namespace Go.Proofs.Ytbifmcadllilhaa.Rg
open Go.RowKit Go.Shelf Go.Sort
open Go.Proofs.Ytbifmcadllilhaa.It
set_option linter.unusedVariables false
theorem ns_nil (w : World) : Pn.Ns w (.slice none 0 0) [] := ⟨none, 0, rfl, Nat.le_refl _, fun j x hx => by simp at hx⟩
/-- two answers of one question -/
theorem lor_two {w w1 w2 w3 : World} {n : Int} {M : List Sg} {ks : List Int} {v v' : Value} {c c' : Int} (h : LoR w w1 n M ks v c) (h' : LoR w2 w3 n M ks v' c') : c = c' ∧ ∃ o : List Int, o.length ≤ 16 ∧ Pn.Ns w1 v o ∧ Pn.Ns w3 v' o := by
  rcases h with ⟨a1, rfl, rfl⟩ | ⟨a1, a2, rfl, rfl⟩ | ⟨a1, a2, rfl, N, rfl, a3⟩
  · rcases h' with ⟨b1, rfl, rfl⟩ | ⟨b1, _⟩ | ⟨b1, _⟩
    · exact ⟨rfl, [], by simp, ns_nil _, ns_nil _⟩
    · exact absurd b1 a1
    · exact absurd b1 a1
  · rcases h' with ⟨b1, _⟩ | ⟨b1, b2, rfl, rfl⟩ | ⟨b1, b2, _⟩
    · exact absurd a1 b1
    · exact ⟨rfl, [], by simp, ns_nil _, ns_nil _⟩
    · exact absurd b2 a2
  · rcases h' with ⟨b1, _⟩ | ⟨b1, b2, _⟩ | ⟨b1, b2, rfl, N', e, b3⟩
    · exact absurd a1 b1
    · exact absurd a2 b2
    · have e2 : N = N' := by omega
      subst e2
      have hl := Pn.lds_len N (ks.map (ow (lays [] M)))
      generalize Pn.lds N (ks.map (ow (lays [] M))) = o at *
      refine ⟨rfl, o, by omega, ?_, ?_⟩
      · rw [← hl] at a3; exact Pn.Ns.of_own a3
      · rw [← hl] at b3; exact Pn.Ns.of_own b3
set_option maxRecDepth 100000 in
set_option maxHeartbeats 2000000 in
theorem loads_walk (w : World) (n : Int) (ad : Option Addr) (cap : Nat) (M : List Sg) (a1 : Option Addr) (c1 : Nat) (ks : List Int) (hM : Sgs w (.slice ad M.length cap) M) (hnM : ad = none → cap = 0) (hlen : (M.length : Int) ≤ 5864062014634) (hk : Us w (.slice a1 ks.length c1) ks) (hnk : a1 = none → c1 = 0) (hkl : ks.length * 8 ≤ 140737488351232) (hkr : ∀ x ∈ ks, 0 ≤ x ∧ x < 18446744073709551616) :
    Calls Try.prog 6 #[.int .i64 n, .slice ad M.length cap, .slice a1 ks.length c1] w fun e w' => e = .returned (.bool true) ∧ Kp Nu w w' := by
  have L1 : ∀ W, Kp Nu w W → Calls Try.prog 19 #[.int .i64 n, .slice ad M.length cap, .slice a1 ks.length c1] W fun e w' => ∃ v c, e = .returned (.tuple #[v, .int .i64 c]) ∧ LoR W w' n M ks v c ∧ Kp Nu W w' := fun W kk => loads19 W n _ _ M ks (hM.nu kk) hlen (hk.nu kk) hkl hkr (fun m c e => by cases e; exact hnk rfl)
  have hMl : M.length ≤ 5864062014634 := by omega
  have HH := hide (And.intro hM (And.intro hk (And.intro hkl (And.intro hkr (And.intro hlen (And.intro hnM (And.intro hnk (And.intro hMl L1))))))))
  clear hM hk hkl hkr hlen hnM hnk hMl L1
  go_enter Try.func6, Try.ntmps6
  go_wp2_with (first
    | (at_builtin; refine append_sg rfl _ _ rfl w.heap.size ad cap M HH.out.2.2.2.2.2.2.2.1 rfl rfl HH.out.1 HH.out.2.2.2.2.2.1 (Nat.le_refl _) ?_; intro oa oc wA hA1 hA2; have HA := hide (And.intro hA1 hA2); clear hA1 hA2)
    | (at_builtin; refine append_us rfl _ _ rfl wA.heap.size a1 c1 ks HH.out.2.2.1 rfl rfl (HH.out.2.1.nu HA.out.2) HH.out.2.2.2.2.2.2.1 (Nat.le_refl _) ?_; intro ob od wB hB1 hB2; have HB := hide (And.intro hB1 hB2); clear hB1 hB2))
  have kB := HA.out.2.andNu HB.out.2
  refine (HH.out.2.2.2.2.2.2.2.2 wB kB).mono ?_
  rintro e w1 ⟨v, c, rfl, hL1, hk1⟩
  have hs := Sgs.of_own HA.out.1 HH.out.1.sgb
  have hs1 := (hs.nu HB.out.2).nu hk1
  have hu1 := (Us.of_own HB.out.1).nu hk1
  have L2 := loads20 w1 n _ _ M ks hs1 HH.out.2.2.2.2.1 hu1 HH.out.2.2.1 HH.out.2.2.2.1
  have H1 := hide (And.intro hL1 (And.intro (kB.andNu hk1) (And.intro hs1 hu1)))
  clear kB hL1 hk1 hs hs1 hu1
  go_wp2_with fail
  refine L2.mono ?_
  rintro e w2 ⟨v', c', rfl, hL2, hk2⟩
  obtain ⟨hc, o, ho, n1, n2⟩ := lor_two H1.out.1 hL2
  subst hc
  have S1 := Pn.same11 w2 v v' o (n1.nu hk2.toPn) n2 (by omega)
  have H2 := hide (And.intro (H1.out.2.1.andNu hk2) hk2)
  clear L2 hL2 hk2 ho n1 n2
  go_wp2_with fail
  refine S1.mono ?_
  rintro e w3 ⟨rfl, hk3⟩
  have k03 := H2.out.1.andNu (Kp.ofPn hk3)
  have k13 := H2.out.2.andNu (Kp.ofPn hk3)
  have S2 := sameSegments17 w3 _ _ M (HH.out.1.nu k03) (H1.out.2.2.1.nu k13) HH.out.2.2.2.2.2.2.2.1
  have H3 := hide (And.intro k03 k13)
  clear S1 hk3 k03 k13
  go_wp2_with fail
  refine S2.mono ?_
  rintro e w4 ⟨rfl, hk4⟩
  have S3 := same21 w4 _ _ ks ((HH.out.2.1.nu H3.out.1).nu hk4) ((H1.out.2.2.2.nu H3.out.2).nu hk4) (by have := HH.out.2.2.1; omega)
  have H4 := hide (H3.out.1.andNu hk4)
  clear S2 hk4
  go_wp2_with fail
  refine S3.mono ?_
  rintro e w5 ⟨rfl, hk5⟩
  have NU := Pn.num12 w5 c
  have H5 := hide (H4.out.andNu hk5)
  have hcc : (c == c) = true := by simp
  clear S3 hk5
  go_wp2_with fail
  refine NU.mono ?_; rintro e w6 ⟨rfl, hw⟩
  obtain rfl := hw
  clear NU
  go_wp2
  go_ret
  exact ⟨rfl, H5.out⟩
end Go.Proofs.Ytbifmcadllilhaa.Rg
namespace Go.Proofs.Ytbifmcadllilhaa.Pn
open Go.ChangeShapes Go.WideShapes Go.ChangeAt Go.RowKit
open Go.Deep
set_option linter.unusedVariables false
theorem ownK : ownKnob Try.prog.godebug = none := by kernel_rfl
theorem laidOut : laidOutB Try.prog = true := by kernel_rfl
theorem cellsOf3 : Try.prog.cellsOf 3 = 1 := by kernel_rfl
theorem bytesOf3 : Try.prog.bytesOf 3 = 8 := by kernel_rfl
section
variable {H : Type} {enc : TypeId × Value → H} {W : World}
theorem sized_at {ts : List TypeId} {ds : List (DataW H)} (h : (DataW.weightsEach Try.prog ts ds).all (· ≤ reachBytes) = true) (j : Nat) {t : TypeId} {d : DataW H} (ht : ts[j]? = some t) (hd : ds[j]? = some d) : ∀ n ∈ d.weights Try.prog t, n ≤ 140737488351232 := by
  intro n hn
  have := List.all_eq_true.1 h n (DataW.weights_mem_each ht hd n hn)
  exact of_decide_eq_true this
/-- an order that came in -/
theorem open_order {v0 : Value} {d0 : DataW H} {p0 : List MemPlace} (h : DataW.Trod enc Try.prog W 0 (fun _ => true) true 22 v0 d0 p0) (hone : ∃ a len cap, v0 = .slice a len cap) (hw : ∀ n ∈ d0.weights Try.prog 22, n ≤ 140737488351232) :
    ∃ a c o, v0 = .slice a o.length c ∧ Ns W (.slice a o.length c) o ∧ (a = none → c = 0) ∧ o.length * 8 ≤ 140737488351232 := by
  obtain ⟨fuel, hf⟩ := h
  obtain ⟨a0, len0, cap0, rfl⟩ := hone
  have hf' : DataW.trod enc Try.prog W 0 (fun _ => true) true fuel 22 [.slice a0 len0 cap0] = some (d0, p0) := by simpa [Value.cells] using hf
  rcases open_ints Try.underlying22 Try.underlying3 cellsOf3 hf' with ⟨hcs, _⟩ | ⟨a, len, cap, zs, hcs, _, hl, hm, hz, hx, hcell, hwz⟩
  · simp only [List.cons.injEq, and_true, Value.slice.injEq] at hcs
    obtain ⟨rfl, rfl, rfl⟩ := hcs
    exact ⟨none, 0, [], rfl, ⟨none, 0, rfl, by simp, fun j x hx => by simp at hx⟩, fun _ => rfl, by simp⟩
  · simp only [List.cons.injEq, and_true, Value.slice.injEq] at hcs
    obtain ⟨rfl, rfl, rfl⟩ := hcs
    have hzl : (zs.take len0).length = len0 := by
      rw [List.length_take, hz]
      simp
      omega
    refine ⟨some a, cap0, zs.take len0, by rw [hzl], ⟨some a, cap0, rfl, by rw [hzl]; exact hl, fun j x hj => ⟨a, rfl, ?_⟩⟩, (fun e => by cases e), ?_⟩
    · have hj2 : j < len0 := by
        have := (List.getElem?_eq_some_iff.1 hj).1
        rw [hzl] at this
        exact this
      have hj3 : j < zs.length := by rw [hz]; simp; omega
      have := hcell j hj3
      rw [this]
      rw [List.getElem?_take_of_lt hj2] at hj
      have e : zs.getD j 0 = x := by
        rw [List.getD_eq_getElem?_getD, hj]
        rfl
      rw [e]
    · have hd : d0 = _ := congrArg Prod.fst hx
      have := hw _ (by rw [hd]; simp [DataW.weights, Try.underlying22]; exact .inl rfl)
      rw [bytesOf3] at this
      have e1 : (lits IntKind.i64 (List.take len0 zs) : List (DataW H)).length = (List.take len0 zs).length := by simp [lits]
      rw [e1, hzl] at this
      rw [hzl]
      omega
end
end Go.Proofs.Ytbifmcadllilhaa.Pn
namespace Go.Proofs.Ytbifmcadllilhaa.Rg
open Go.ChangeShapes Go.WideShapes Go.ChangeAt Go.RowKit
open Go.Deep
set_option linter.unusedVariables false
theorem cellsOf56 : Try.prog.cellsOf 56 = 1 := by kernel_rfl
theorem bytesOf56 : Try.prog.bytesOf 56 = 8 := by kernel_rfl
section
variable {H : Type} {enc : TypeId × Value → H} {W : World}
/-- a nil slice that came in has no room -/
theorem open_nil {t e : TypeId} {v0 : Value} {d0 : DataW H} {p0 : List MemPlace} (ht : Try.prog.underlying t = some (.slice e)) (h : DataW.Trod enc Try.prog W 0 (fun _ => true) true t v0 d0 p0) : ∀ m c, v0 = .slice none m c → c = 0 := by
  rintro m c rfl
  obtain ⟨fuel, hf⟩ := h
  have hf' : DataW.trod enc Try.prog W 0 (fun _ => true) true fuel t [.slice none m c] = some (d0, p0) := by simpa [Value.cells] using hf
  rcases open_slice ht hf' with ⟨hcs, hx⟩ | ⟨a, len, cap, m', n, D, Pl, hcs, _⟩
  · simp only [List.cons.injEq, and_true, Value.slice.injEq] at hcs
    exact hcs.2.2
  · simp only [List.cons.injEq, and_true, Value.slice.injEq] at hcs
    exact absurd hcs.1 (by simp)
/-- keys that came in -/
theorem open_keys {v0 : Value} {d0 : DataW H} {p0 : List MemPlace} (h : DataW.Trod enc Try.prog W 0 (fun _ => true) true 45 v0 d0 p0) (hone : ∃ a len cap, v0 = .slice a len cap) (hw : ∀ n ∈ d0.weights Try.prog 45, n ≤ 140737488351232) :
    ∃ a c o, v0 = .slice a o.length c ∧ Us W (.slice a o.length c) o ∧ (a = none → c = 0) ∧ o.length * 8 ≤ 140737488351232 ∧ (∀ x ∈ o, 0 ≤ x ∧ x < 18446744073709551616) := by
  obtain ⟨fuel, hf⟩ := h
  obtain ⟨a0, len0, cap0, rfl⟩ := hone
  have hf' : DataW.trod enc Try.prog W 0 (fun _ => true) true fuel 45 [.slice a0 len0 cap0] = some (d0, p0) := by simpa [Value.cells] using hf
  rcases open_ints Try.underlying45 Try.underlying56 cellsOf56 hf' with ⟨hcs, _⟩ | ⟨a, len, cap, zs, hcs, _, hl, hm, hz, hx, hcell, hwz⟩
  · simp only [List.cons.injEq, and_true, Value.slice.injEq] at hcs
    obtain ⟨rfl, rfl, rfl⟩ := hcs
    exact ⟨none, 0, [], rfl, ⟨none, 0, rfl, by simp, fun j x hx => by simp at hx⟩, fun _ => rfl, by simp, fun x hx => by cases hx⟩
  · simp only [List.cons.injEq, and_true, Value.slice.injEq] at hcs
    obtain ⟨rfl, rfl, rfl⟩ := hcs
    have hzl : (zs.take len0).length = len0 := by
      rw [List.length_take, hz]
      simp
      omega
    refine ⟨some a, cap0, zs.take len0, by rw [hzl], ⟨some a, cap0, rfl, by rw [hzl]; exact hl, fun j x hj => ⟨a, rfl, ?_⟩⟩, (fun e => by cases e), ?_, ?_⟩
    · have hj2 : j < len0 := by
        have := (List.getElem?_eq_some_iff.1 hj).1
        rw [hzl] at this
        exact this
      have hj3 : j < zs.length := by rw [hz]; simp; omega
      have := hcell j hj3
      rw [this]
      rw [List.getElem?_take_of_lt hj2] at hj
      have e : zs.getD j 0 = x := by
        rw [List.getD_eq_getElem?_getD, hj]
        rfl
      rw [e]
    · have hd : d0 = _ := congrArg Prod.fst hx
      have := hw _ (by rw [hd]; simp [DataW.weights, Try.underlying45]; exact .inl rfl)
      rw [bytesOf56] at this
      have e1 : (lits IntKind.u64 (List.take len0 zs) : List (DataW H)).length = (List.take len0 zs).length := by simp [lits]
      rw [e1, hzl] at this
      rw [hzl]
      omega
    · intro z hz'
      have := hwz z (List.mem_of_mem_take hz')
      simp [Lit.wf, IntKind.min, IntKind.max, IntKind.signed, IntKind.bits] at this
      omega
end
end Go.Proofs.Ytbifmcadllilhaa.Rg
