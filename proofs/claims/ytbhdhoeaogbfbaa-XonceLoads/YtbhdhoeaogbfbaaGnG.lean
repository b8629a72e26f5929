import Derived.Test.YtbhdhoeaogbfbaaGnF
namespace Go.Proofs.Ytbhdhoeaogbfbaa.Xo
open Go.RowKit
set_option linter.unusedVariables false
theorem own_nil' {w : World} {B e size : Nat} : w.ownsRow B e size (.slice none 0 0) 0 [] := ⟨by simp, .inl ⟨rfl, rfl⟩⟩
theorem lt_mi {k h : Nat} {x : Int} (hx : x = ((k + 1 : Nat) : Int)) (hm : k < h) : h - (intOf (.int .i64 x)).toNat < h - (intOf (.int .i64 (k : Int))).toNat := by
  subst hx
  show h - (k + 1) < h - k
  omega
theorem own_ge' {w : World} {B e size n : Nat} {v : Value} {xs : List Value} (h : w.ownsRow B e size v n xs) {g : Nat} (hg : v.ownBlock = some g) : B ≤ g := by
  rcases h.2 with ⟨rfl, h0⟩ | ⟨g', cap, cur, rfl, hb', _⟩
  · cases hg
  · simp [Value.ownBlock] at hg; subst hg; exact hb'
set_option maxRecDepth 100000 in
set_option maxHeartbeats 1000000 in
theorem twin_any (w : World) (u : Value) (ys : List Int) (hu : Rd w u ys) (hN : ys.length ≤ 140737488351232) : Calls Try.prog 76 #[u] w fun e w' => ∃ d, e = .returned d ∧ w'.ownsRow w.heap.size 5 1 d ys.length (cs ys) ∧ Kp Nu w w' := by
  obtain ⟨i0, hi, hz0, hz1, hz2⟩ := info_parts info5
  obtain ⟨ad, cap, hue⟩ := hu.slice
  have HU := hide hu
  have HN := hide hN
  subst hue
  generalize hL : ys.length = N at *
  have HL := hide hL
  clear hu hN hL
  go_enter Try.func76, Try.ntmps76
  go_wp2
  go_loopw [3, 4] (fun out i wr => ∃ k : Nat, k ≤ N ∧ i = .int .i64 (k : Int) ∧ (∃ a c, out = .slice a k c) ∧ Hid (wr.ownsRow w.heap.size 5 1 out k (cs (ys.take k)) ∧ Kp Nu w wr)) (fun _ i _ => N - (intOf i).toNat)
  case atStart => exact ⟨0, by omega, rfl, ⟨_, _, rfl⟩, by simpa [cs] using own_nil', Kp.refl _ _⟩
  case round =>
    obtain ⟨k, hkn, rfl, ⟨ao, co, rfl⟩, HI⟩ := hrel
    by_cases hlt : k < N
    · have hky : k < ys.length := by rw [HL.out]; exact hlt
      have hrd := HU.out.nu HI.out.2
      obtain ⟨a, c, e, hc⟩ : ∃ a c, (Value.slice ad N cap) = .slice (some a) ys.length c ∧ ∀ j x, (cs ys)[j]? = some x → wr.cell? (a.add j) = some x := by
        rcases hrd with ⟨e1, e2⟩ | ⟨a, c, e1, hc⟩
        · rw [e2] at hky; simp at hky
        · exact ⟨a, c, e1, hc⟩
      have hx := hc k (.int .u8 ys[k]) (by simp [cs, hky])
      have hltI : (k : Int) < (N : Int) := by omega
      have hk0 : (0 : Int) ≤ (k : Int) := by omega
      have hwk : Hid (wrap64 ((k : Int) + 1) = ((k + 1 : Nat) : Int)) := by
        have := HN.out
        show wrap64 _ = _
        unfold wrap64
        omega
      obtain rfl : ad = some a := by cases e; rfl
      have htk : cs (ys.take k) ++ [.int .u8 ys[k]] = cs (ys.take (k + 1)) := by
        rw [List.take_add_one, List.getElem?_eq_getElem hky]
        unfold cs
        rw [List.map_append]
        rfl
      have HT := hide htk
      generalize ys[k] = z at *
      clear hrd hc e hky htk
      go_wp2_with (at_builtin; refine wpList_append_own _ rfl _ _ 45 rfl w.heap.size 5 i0 _ 1 1 Try.underlying45 hi hz0 hz1 hz2 rfl (by decide) _ k _ rfl (own_keep HI.out.1 (fun g hg => Below.heap_alloc _ _ _ (own_lt HI.out.1 hg))) ⟨wr.heap.size, 0, none⟩ 1 1 [.int .u8 z] rfl ?qc1 ?qc2 ?qc3 ?qc4 ?qc5 ?qc6 ?_)
      case qc1 => rfl
      case qc2 =>
        intro j x hj
        rw [Addr.add_lit, Nat.zero_add]
        exact cellAt (heap_alloc_new wr _) j (by simpa using hj)
      case qc3 => intro x hx; simp at hx; rw [hx]; rfl
      case qc4 => have := HN.out; unfold maxLen; omega
      case qc5 => have := HN.out; omega
      case qc6 => have := HI.out.2.size; simp; omega
      intro v' w3 hown hgrow hnil
      have hI := HI.out
      obtain ⟨av, cv, ev⟩ := own_slice hown
      have kg := Kp.of_grown hgrow
      have k3 : Kp Nu w w3 := (hI.2.andAlloc _).trans kg (fun i hi e => by
        have := own_ge' hI.1 e.symm
        omega)
      rw [HT.out] at hown
      have HD := hide (And.intro hown k3)
      clear hown hgrow hnil kg k3 hI HI
      subst ev
      go_wp2
      exact ⟨⟨k + 1, hlt, by rw [hwk.out], ⟨_, _, rfl⟩, HD⟩, lt_mi hwk.out hlt⟩
    · obtain rfl : k = N := by omega
      have hnl : ¬ (k : Int) < (k : Int) := by omega
      clear hlt
      go_wp2
      go_ret
      refine ⟨_, rfl, ?_, HI.out.2⟩
      have := HI.out.1
      rwa [List.take_of_length_le (by rw [HL.out]; exact Nat.le_refl _)] at this
end Go.Proofs.Ytbhdhoeaogbfbaa.Xo
