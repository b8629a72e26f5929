import Derived.Test.YtchealdgncgjoaaRtB
import Derived.Test.YtchealdgncgjoaaRsJ
namespace Go.Proofs.Ytchealdgncgjoaa.StU
open Go.RowKit Go.Proofs.Ytchealdgncgjoaa.St Go.Shelf
set_option linter.unusedVariables false
set_option linter.unusedSimpArgs false
theorem Sb.snoc {xs zs : List (Int × Sv)} {p : Int × Sv} (h : Sb xs zs) (hp : p ∈ xs) : Sb xs (zs ++ [p]) := fun q hq => by
  rcases List.mem_append.1 hq with hq | hq
  · exact h q hq
  · rw [List.mem_singleton.1 hq]; exact hp
/-- where a row lies: in new memory -/
def Lw (B : Nat) (v : Sv) : Prop := ∀ g, (sl v).ownBlock = some g → B ≤ g
set_option maxRecDepth 100000 in
set_option maxHeartbeats 4000000 in
theorem cut186v {w : World} {rb : Nat} {most : Int} {v : Sv} {L : List (Int × Sv)} {M : List KV} (h : Rs w rb most v L M) (lo hi : Int) (hle : lo ≤ hi) : Calls Try.prog 186 #[.pointer (some ⟨rb, 0, none⟩), .int .u64 lo, .int .u64 hi] w fun e w' => ∃ ua uc, e = .returned (.tuple #[.slice ua (rg lo hi M).length uc, .int .i64 0]) ∧ (∃ L1, Cr w' w.heap.size ⟨ua, (rg lo hi M).length, uc⟩ L1 (rg lo hi M)) ∧ (∃ v' L', Rs w' rb most v' L' (cutM lo hi M) ∧ Sb L L' ∧ Lw w.heap.size v') ∧ Kp (fun i => i = rb) w w' := by
  have IN := in_k h lo hi
  obtain ⟨K, eK⟩ : ∃ K, (rg lo hi M).length = K := ⟨_, rfl⟩
  rw [eK] at IN ⊢
  have hn := h.n
  obtain ⟨N, eN⟩ : ∃ N, M.length = N := ⟨_, rfl⟩
  have hN : N ≤ 32768 := by have := h.lm; have := h.mo; omega
  rw [eN] at hn
  obtain ⟨va, vn, vc⟩ := v
  simp only at hn
  subst hn
  have HH := hide (And.intro h (And.intro eN (And.intro hN eK)))
  have HC : Hid (∀ W, Kp Nu w W → W.cell? ⟨rb, 1, none⟩ = some (.slice va vn vc) ∧ W.frozen? ⟨rb, 1, none⟩ = false) := hide (fun W k => ⟨(cell2 (h.nu k).box).2, free3 (h.nu k).box 1⟩)
  clear h eN hN eK
  obtain ⟨i1, hi0, hz0, hz1, hz2⟩ := info_parts info196
  go_enter Try.func186, Try.ntmps186
  go_wp2_with (go_at_call 149; refine IN.mono ?_; rintro e w1 ⟨ua, uc, rfl, H1⟩; obtain ⟨c, fz⟩ := HC.out _ H1.out.2)
  go_loopw [9, 10] (fun lv it wr => ∃ (i : Nat) (u : Sv), it = .int .i64 (i : Int) ∧ lv = .slice u.a u.n u.c ∧ i ≤ vn ∧ Hid (∃ L', Cw wr w1.heap.size u L' (cutM lo hi (M.take i)) ∧ Kp Nu w1 wr ∧ Sb L L')) (fun _ it _ => vn - (intOf it).toNat)
  case atStart => exact ⟨0, ⟨none, 0, 0⟩, rfl, rfl, Nat.zero_le _, [], ⟨own_nil', trivial, rfl⟩, Kp.refl _ _, fun p hp => by cases hp⟩
  case round =>
    obtain ⟨i, ⟨xa, xn, xc⟩, rfl, rfl, hiv, HI⟩ := hrel
    obtain ⟨L', hcw, kw1, hsb⟩ := HI.out
    have kw := H1.out.2.andNu kw1
    clear c fz
    obtain ⟨c, fz⟩ := HC.out _ kw
    by_cases hlt : i < vn
    · obtain ⟨m, hm⟩ : ∃ m, M[i]? = some m := ⟨_, List.getElem?_eq_getElem (by rw [HH.out.2.1]; exact hlt)⟩
      obtain ⟨p, r, hp, hf, er, d0, d1⟩ := (HH.out.1.nu kw).at_ hm
      simp only at er
      subst er
      have hltI : (i : Int) < (vn : Int) := by omega
      have hi00 : (0 : Int) ≤ (i : Int) := by omega
      have hwi : wrap64 ((i : Int) + 1) = ((i + 1 : Nat) : Int) := by have := HH.out.2.2.1; unfold wrap64; omega
      have hcm := cut_more lo hi M i m hm
      by_cases hin : lo ≤ m.1 ∧ m.1 ≤ hi
      · have hg1 : ¬ m.1 < lo := by omega
        have hg2 : ¬ hi < m.1 := by omega
        have HF : Hid (∃ L', Cw wr w1.heap.size ⟨xa, xn, xc⟩ L' (cutM lo hi (M.take (i + 1))) ∧ Kp Nu w1 wr ∧ Sb L L') := by
          refine ⟨L', ?_, kw1, hsb⟩
          have e : cutM lo hi [m] = [] := List.filter_eq_nil_iff.2 (fun q hq => by
            rw [List.mem_singleton.1 hq]
            unfold inR
            simp
            omega)
          rw [hcm, e, List.append_nil]
          exact hcw
        have HW := hide (And.intro hlt hwi)
        generalize m.1 = mk at *
        clear hm hp hf hin hcm hcw hwi hlt hiv HI d1 hsb
        go_wp2
        exact ⟨⟨i + 1, ⟨xa, xn, xc⟩, by rw [HW.out.2], rfl, HW.out.1, HF⟩, lt_mi HW.out.2 HW.out.1⟩
      · have e : cutM lo hi [m] = [m] := List.filter_eq_self.2 (fun q hq => by
          rw [List.mem_singleton.1 hq]
          unfold inR
          simp
          omega)
        rw [e] at hcm
        have hb : m.1 < lo ∨ (decide (m.1 < lo) = false ∧ hi < m.1) := by
          by_cases h1 : m.1 < lo
          · exact .inl h1
          · exact .inr ⟨decide_eq_false h1, by omega⟩
        have HXN : Hid (xn ≤ 32768) := by
          have h1 : (cutM lo hi (M.take i)).length ≤ (M.take i).length := List.length_filter_le _ _
          have h2 := hcw.f.length
          have h3 : xn = L'.length := hcw.n
          have h4 := HH.out.2.2.1
          show xn ≤ 32768
          rw [List.length_take] at h1
          omega
        have HO : Hid (∀ W, Kp Nu wr W → W.ownsRow w1.heap.size 196 2 (.slice xa xn xc) xn (pc L')) := hide (fun W k => (hcw.nu k).own)
        have HSB := hide (And.intro hsb (List.mem_of_getElem? hp))
        have HW := hide (And.intro hlt (And.intro hwi (And.intro hcm (And.intro hcw (And.intro kw1 hf)))))
        obtain ⟨mk, my⟩ := m
        simp only at d0 hb
        obtain ⟨pk, ⟨pa, pn, pcc⟩⟩ := p
        simp only at d1
        clear hm hp hf hin hcm hcw hwi hlt hiv HI e hsb
        rcases hb with hb | ⟨hb, hb2⟩
        · go_wp2_with (at_builtin; refine wpList_append_own _ rfl _ _ 123 rfl w1.heap.size 196 i1 _ 2 32 Try.underlying123 hi0 hz0 hz1 hz2 rfl (by decide) _ xn _ rfl (HO.out _ (Kp.alloc _ _ _)) ⟨wr.heap.size, 0, none⟩ 1 1 [.int .u64 mk, .slice pa pn pcc] rfl ?qc1a ?qc2a ?qc3a ?qc4a ?qc5a ?qc6a ?_)
          case qc1a => rfl
          case qc2a => exact cells_two_new _ _ _ _
          case qc3a => intro x hx; simp at hx; rcases hx with rfl | rfl <;> rfl
          case qc4a => have := HXN.out; unfold maxLen; omega
          case qc5a => have := HXN.out; omega
          case qc6a => have := HW.out.2.2.2.2.1.size; simp; omega
          intro v' w6 hown hgrow hnil
          obtain ⟨av, cv, ev⟩ := own_slice hown
          subst ev
          have HF : Hid (∃ L', Cw w6 w1.heap.size ⟨av, xn + 1, cv⟩ L' (cutM lo hi (M.take (i + 1))) ∧ Kp Nu w1 w6 ∧ Sb L L') := by
            obtain ⟨_, _, hcm, hcw, kw1, hf⟩ := HW.out
            have e : pk = mk := hf.1
            subst e
            have h1 := Cw.app (u' := ⟨av, xn + 1, cv⟩) hcw hf kw1 hown hgrow
            rw [hcm]
            exact ⟨_, h1.1, h1.2, HSB.out.1.snoc HSB.out.2⟩
          clear hown hgrow hnil HO d0 d1 c fz
          go_wp2
          exact ⟨⟨i + 1, ⟨av, xn + 1, cv⟩, by rw [HW.out.2.1], rfl, HW.out.1, HF⟩, lt_mi HW.out.2.1 HW.out.1⟩
        · go_wp2_with (at_builtin; refine wpList_append_own _ rfl _ _ 123 rfl w1.heap.size 196 i1 _ 2 32 Try.underlying123 hi0 hz0 hz1 hz2 rfl (by decide) _ xn _ rfl (HO.out _ (Kp.alloc _ _ _)) ⟨wr.heap.size, 0, none⟩ 1 1 [.int .u64 mk, .slice pa pn pcc] rfl ?qc1b ?qc2b ?qc3b ?qc4b ?qc5b ?qc6b ?_)
          case qc1b => rfl
          case qc2b => exact cells_two_new _ _ _ _
          case qc3b => intro x hx; simp at hx; rcases hx with rfl | rfl <;> rfl
          case qc4b => have := HXN.out; unfold maxLen; omega
          case qc5b => have := HXN.out; omega
          case qc6b => have := HW.out.2.2.2.2.1.size; simp; omega
          intro v' w6 hown hgrow hnil
          obtain ⟨av, cv, ev⟩ := own_slice hown
          subst ev
          have HF : Hid (∃ L', Cw w6 w1.heap.size ⟨av, xn + 1, cv⟩ L' (cutM lo hi (M.take (i + 1))) ∧ Kp Nu w1 w6 ∧ Sb L L') := by
            obtain ⟨_, _, hcm, hcw, kw1, hf⟩ := HW.out
            have e : pk = mk := hf.1
            subst e
            have h1 := Cw.app (u' := ⟨av, xn + 1, cv⟩) hcw hf kw1 hown hgrow
            rw [hcm]
            exact ⟨_, h1.1, h1.2, HSB.out.1.snoc HSB.out.2⟩
          clear hown hgrow hnil HO d0 d1 c fz
          go_wp2
          exact ⟨⟨i + 1, ⟨av, xn + 1, cv⟩, by rw [HW.out.2.1], rfl, HW.out.1, HF⟩, lt_mi HW.out.2.1 HW.out.1⟩
    · obtain rfl : i = vn := by omega
      rw [List.take_of_length_le (by rw [HH.out.2.1]; exact Nat.le_refl _)] at hcw
      have hnl : ¬ (i : Int) < (i : Int) := by omega
      have HZ : Hid ((∃ L1, Cr (wr.setCell ⟨rb, 1, none⟩ (.slice xa xn xc)) w.heap.size ⟨ua, K, uc⟩ L1 (rg lo hi M)) ∧ (∃ v' L', Rs (wr.setCell ⟨rb, 1, none⟩ (.slice xa xn xc)) rb most v' L' (cutM lo hi M) ∧ Sb L L' ∧ Lw w.heap.size v') ∧ Kp (fun i => i = rb) w (wr.setCell ⟨rb, 1, none⟩ (.slice xa xn xc))) := by
        have hs := HH.out.1.nu kw
        obtain ⟨L1, hc1⟩ := H1.out.1
        have hl : (cutM lo hi M).length ≤ M.length := List.length_filter_le _ _
        refine ⟨⟨L1, (hc1.nu kw1).set hs.box⟩, ⟨_, _, hs.set hcw (ris_filter hs.ris _) (by have := hs.lm; omega), hsb, fun g hg => Nat.le_trans H1.out.2.size (row196_low hcw.own hg)⟩, (kw.mono (fun _ _ e => e.elim)).trans (Kp.setCell _ _ _) (fun _ _ e => e)⟩
      clear hcw kw kw1 HI hlt hiv hsb
      go_wp2
      go_ret2
      exact ⟨ua, uc, rfl, HZ.out⟩
section
variable {w : World} {rb : Nat} {most : Int} {v : Sv} {L : List (Int × Sv)} {M : List KV}
set_option maxHeartbeats 1000000 in
theorem rdel141v (h : Rs w rb most v L M) (k : Int) : Calls Try.prog 141 #[.pointer (some ⟨rb, 0, none⟩), .int .u64 k] w fun e w' => e = .returned (.bool (hs k M)) ∧ (∃ v' L', Rs w' rb most v' L' (cutM k k M) ∧ Sb L L' ∧ (v' = v ∨ Lw w.heap.size v')) ∧ Kp (fun i => i = rb) w w' := by
  cases hk : hs k M with
  | false =>
    have FA := find183 h k (-1) (by rw [hk]; rfl)
    have e : cutM k k M = M := List.filter_eq_self.2 (fun m hm => by
      unfold StU.hs at hk
      have := List.any_eq_false.1 hk m hm
      unfold inR
      simp at this ⊢
      omega)
    rw [e]
    have HH := hide h
    clear h hk e
    go_enter Try.func141, Try.ntmps141
    go_wp2_with (go_at_call 183; refine FA.mono ?_; rintro e w1 ⟨rfl, hw⟩; obtain rfl := hw.symm)
    go_ret
    exact ⟨rfl, ⟨v, L, HH.out, fun p hp => hp, .inl rfl⟩, Kp.refl _ _⟩
  | true =>
    obtain ⟨m, hm, em, gm⟩ := h.ris.at_key hk
    obtain ⟨i, hi⟩ := List.mem_iff_getElem?.1 hm
    have hpl := h.ris.pl hi
    rw [em] at hpl
    have FA := find183 h k (i : Int) (by rw [hk, hpl]; rfl)
    have CA : Calls Try.prog 186 #[.pointer (some ⟨rb, 0, none⟩), .int .u64 k, .int .u64 k] w fun e w' => ∃ ua un uc, e = .returned (.tuple #[.slice ua un uc, .int .i64 0]) ∧ Hid ((∃ v' L', Rs w' rb most v' L' (cutM k k M) ∧ Sb L L' ∧ (v' = v ∨ Lw w.heap.size v')) ∧ Kp (fun i => i = rb) w w') := by
      refine (cut186v h k k (Int.le_refl _)).mono ?_
      rintro e w' ⟨ua, uc, e1, _, ⟨v', L', e2, e4, e5⟩, e3⟩
      exact ⟨ua, _, uc, e1, ⟨v', L', e2, e4, .inr e5⟩, e3⟩
    have hi0 : (0 : Int) ≤ (i : Int) := by omega
    have h0 : ¬ (i : Int) < 0 := by omega
    clear h hk hm em gm hi hpl
    go_enter Try.func141, Try.ntmps141
    go_wp2_with (first
      | (go_at_call 183; refine FA.mono ?_; rintro e w1 ⟨rfl, hw⟩; obtain rfl := hw.symm)
      | (go_at_call 186; refine CA.mono ?_; rintro e w2 ⟨ua, un, uc, rfl, H2⟩))
    go_ret
    exact ⟨rfl, H2.out.1, H2.out.2⟩
end
end Go.Proofs.Ytchealdgncgjoaa.StU
