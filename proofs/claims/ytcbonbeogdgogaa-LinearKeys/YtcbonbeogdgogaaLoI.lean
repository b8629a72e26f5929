import Derived.Test.YtcbonbeogdgogaaLoH
import Derived.Test.YtcbonbeogdgogaaLiO
namespace Go.Proofs.Ytcbonbeogdgogaa.Li
open Go.RowKit Go.Maps
set_option linter.unusedVariables false
theorem alk_get {L D : List Ca} (hl : D.length = L.length) (h : Alk L D L.length) (i : Nat) : (L[i]? = none ∧ D[i]? = none) ∨ ∃ c d, L[i]? = some c ∧ D[i]? = some d ∧ Same c d := by
  by_cases hi : i < L.length
  · exact .inr (h i hi)
  · exact .inl ⟨List.getElem?_eq_none (by omega), List.getElem?_eq_none (by omega)⟩
theorem Alk.symm {L D : List Ca} (hl : D.length = L.length) (h : Alk L D L.length) : Alk D L D.length := fun j hj => by
  obtain ⟨c, d, hc, hd, hs⟩ := h j (by omega)
  exact ⟨d, c, hd, hc, hs.symm⟩
theorem run_alk {L D : List Ca} (hl : D.length = L.length) (h : Alk L D L.length) : ∀ (o : List Int) (f : Int → Option (List Int)), run D o f = run L o f
  | [], f => rfl
  | x :: o, f => by
    simp only [run]
    rcases alk_get hl h x.toNat with ⟨h1, h2⟩ | ⟨c, d, h1, h2, va, oa, ya, vc, oc, yc, rfl⟩
    · rw [h1, h2]
    · rw [h1, h2]
      simp only
      have e : stpc (c.at_ va oa ya vc oc yc) (f (c.at_ va oa ya vc oc yc).key) = stpc c (f c.key) := rfl
      rw [e]
      cases stpc c (f c.key) with
      | none => rfl
      | some r => exact run_alk hl h o _
theorem Obs.alk {L D : List Ca} {o : List Int} (hl : D.length = L.length) (h : Alk L D L.length) (ho : Obs L o) : Obs D o := by
  have get : ∀ {i : Nat} {d : Ca}, D[i]? = some d → ∃ c, L[i]? = some c ∧ Same c d := fun {i d} hd => by
    rcases alk_get hl h i with ⟨_, h2⟩ | ⟨c, d', h1, h2, hs⟩
    · rw [h2] at hd; cases hd
    · rw [h2] at hd; cases hd; exact ⟨c, h1, hs⟩
  refine ⟨fun d hd => ?_, fun j x hj hx => ?_, fun j d hj hd h1 h2 => ?_, fun p q x y c d hp hq hx hy hc hd => ?_, ?_⟩
  · obtain ⟨j, hj⟩ := List.getElem?_of_mem hd
    obtain ⟨c, hc, va, oa, ya, vc, oc, yc, rfl⟩ := get hj
    exact ho.all c (List.mem_of_getElem? hc)
  · obtain ⟨h0, ⟨c, hc, h5⟩, hn⟩ := ho.lst j x hj hx
    rcases alk_get hl h x.toNat with ⟨h1, _⟩ | ⟨c', d', h1, h2, va, oa, ya, vc, oc, yc, rfl⟩
    · rw [h1] at hc; cases hc
    · rw [h1] at hc
      cases hc
      exact ⟨h0, ⟨_, h2, h5⟩, hn⟩
  · obtain ⟨c, hc, va, oa, ya, vc, oc, yc, rfl⟩ := get hd
    exact ho.whl j c (by omega) hc h1 h2
  · obtain ⟨c', hc', va, oa, ya, vc, oc, yc, rfl⟩ := get hc
    obtain ⟨d', hd', va', oa', ya', vc', oc', yc', rfl⟩ := get hd
    exact ho.inT p q x y c' d' hp hq hx hy hc' hd'
  · rw [run_alk hl h]
    exact ho.run
theorem Kys.alk {L D : List Ca} (hl : D.length = L.length) (h : Alk L D L.length) (hk : Kys L) : Kys D := fun d hd => by
  obtain ⟨j, hj⟩ := List.getElem?_of_mem hd
  rcases alk_get hl h j with ⟨_, h2⟩ | ⟨c, d', h1, h2, va, oa, ya, vc, oc, yc, rfl⟩
  · rw [h2] at hj; cases hj
  · rw [h2] at hj
    cases hj
    exact hk c (List.mem_of_getElem? h1)
set_option maxRecDepth 100000 in
set_option maxHeartbeats 4000000 in
theorem obeys17 (w : World) (u v : Value) (L : List Ca) (o : List Int) (hL : Cls w u L) (hO : Ns w v o) (hN : L.length ≤ 400) (hM : o.length ≤ 400) (hK : Kys L) :
    Calls Try.prog 17 #[u, v] w fun e w' => Ans (Obs L o) e ∧ Kp Nu w w' := by
  have AM := allMayBe32 w u L hL (by omega)
  obtain ⟨ua, uc, rfl⟩ := hL.slice
  obtain ⟨va, vc, rfl, _, _⟩ := id hO
  obtain ⟨N, eN⟩ : ∃ N, L.length = N := ⟨_, rfl⟩
  obtain ⟨M, eM⟩ : ∃ M, o.length = M := ⟨_, rfl⟩
  have HL := hide (And.intro hL (And.intro eN (And.intro hO (And.intro eM (And.intro hK (And.intro hN hM))))))
  rw [eN] at AM ⊢
  rw [eM] at ⊢
  clear hL hO eN eM hK hN hM
  have bad : ∀ (P : Prop), (Obs L o → P) → ¬ P → ∀ (e : Ending) (W : World), e = .returned (.bool false) → Kp Nu w W → Ans (Obs L o) e ∧ Kp Nu w W := fun P h1 h2 e W he hk => ⟨⟨false, he, by simp; exact fun h => h2 (h1 h)⟩, hk⟩
  have HBad := hide bad
  clear bad
  go_enter Try.func17, Try.ntmps17
  go_wp2_with fail
  refine AM.mono ?_; rintro e w1 ⟨⟨b1, rfl, hb1⟩, hk1⟩
  have HB1 := hide hb1
  have HK1 := hide hk1
  clear AM hb1 hk1
  cases b1 with
  | false =>
    go_wp2
    go_ret
    exact HBad.out _ (fun h => h.all) (fun h => by have := HB1.out.2 h; simp at this) _ _ rfl HK1.out
  | true =>
  have kA := HK1.out.andAlloc (.cells #[.slice va M vc] 39)
  have ST := stand35 (w1.alloc (.cells #[.slice va M vc] 39)) _ (.slice va M vc) L o (HL.out.1.nu kA) (by have h := HL.out.2.2.1.nu kA; rw [HL.out.2.2.2.1] at h; exact h) HL.out.2.2.2.2.2.1 HL.out.2.2.2.2.2.2 w1.heap.size (cellAt (heap_new w1 _) 0 rfl)
  rw [HL.out.2.1] at ST
  have HKA := hide kA
  clear kA
  go_wp2_with fail
  refine ST.mono ?_; rintro e w2 ⟨⟨b2, rfl, hb2⟩, hk2⟩
  have HB2 := hide hb2
  have HK2 := hide (HKA.out.andNu hk2)
  clear ST hb2 hk2 HK1 HKA
  cases b2 with
  | false =>
    go_wp2
    go_ret
    exact HBad.out _ (fun h => (⟨h.lst, by have := h.whl; rw [HL.out.2.1] at this; exact this⟩ : Lst L o o.length ∧ Whl L o N)) (fun h => by have := HB2.out.2 h; simp at this) _ _ rfl HK2.out
  | true =>
  have hLW := HB2.out.1 (by simp)
  have IT := inTime36 w2 _ _ L o (HL.out.1.nu HK2.out) (HL.out.2.2.1.nu HK2.out) HL.out.2.2.2.2.2.1 HL.out.2.2.2.2.2.2 (HB1.out.1 (by simp)) hLW.1
  rw [HL.out.2.1, HL.out.2.2.2.1] at IT
  have HLW := hide hLW
  clear hLW
  go_wp2_with fail
  refine IT.mono ?_; rintro e w3 ⟨⟨b3, rfl, hb3⟩, hk3⟩
  have HB3 := hide hb3
  have HK3 := hide (HK2.out.andNu hk3)
  clear IT hb3 hk3
  cases b3 with
  | false =>
    go_wp2
    go_ret
    exact HBad.out _ (fun h => (by have := h.inT; rw [HL.out.2.2.2.1] at this; exact this : InT L o M)) (fun h => by have := HB3.out.2 h; simp at this) _ _ rfl HK3.out
  | true =>
  have PL := play37 w3 _ _ L o (HL.out.1.nu HK3.out) (HL.out.2.2.1.nu HK3.out) HL.out.2.2.2.2.2.1 HL.out.2.2.2.2.2.2 HL.out.2.2.2.2.1 HLW.out.1
  rw [HL.out.2.1, HL.out.2.2.2.1] at PL
  go_wp2_with fail
  refine PL.mono ?_; rintro e w4 ⟨⟨b4, rfl, hb4⟩, hk4⟩
  have HB4 := hide hb4
  have HK4 := hide (HK3.out.andNu hk4)
  clear PL hb4 hk4
  go_wp2
  go_ret
  refine ⟨⟨b4, rfl, HB4.out.trans ⟨fun h => ⟨HB1.out.1 (by simp), HLW.out.1, by rw [HL.out.2.1]; exact HLW.out.2, by rw [HL.out.2.2.2.1]; exact HB3.out.1 (by simp), h⟩, fun h => h.run⟩⟩, HK4.out⟩
/-- numbers as cells -/
def ics (o : List Int) : List Value := o.map (Value.int .i64)
theorem ics_len (o : List Int) : (ics o).length = o.length := by simp [ics]
theorem info3z : (Try.prog.info? 3).map (fun i => (i.zero, i.size, i.bytes)) = some (some (.int .i64 0), 1, 8) := by kernel_rfl
theorem Ns.of_own {w : World} {B : Nat} {v : Value} {o : List Int} (h : w.ownsRow B 3 1 v o.length (ics o)) : Ns w v o := by
  rcases h.2 with ⟨rfl, h0⟩ | ⟨g, cap, cur, rfl, hb', hg, h1, h2, h3, h4⟩
  · obtain rfl : o = [] := List.eq_nil_of_length_eq_zero h0
    exact ⟨none, 0, rfl, by simp, fun j x hx => by simp at hx⟩
  · refine ⟨some ⟨g, 0, none⟩, cap, rfl, by omega, fun j x hx => ⟨_, rfl, ?_⟩⟩
    have hj : (ics o)[j]? = some (.int .i64 x) := by simp [ics, hx]
    rw [← h4] at hj
    have hj2 : j < o.length * 1 := by
      have := (List.getElem?_eq_some_iff.1 hj).1
      rw [List.length_take] at this
      omega
    rw [List.getElem?_take_of_lt hj2] at hj
    rw [Addr.add_lit]
    simpa [World.cell?, hg] using hj
end Go.Proofs.Ytcbonbeogdgogaa.Li
