import Derived.Test.YtbifmcadllilhaaGreatQsE
namespace Go.Proofs.YtbifmcadllilhaaGreat.Rg
open Go.RowKit Go.Shelf Go.Sort
set_option linter.unusedVariables false
/-- a heap from its place lo on -/
def Hp (lo hi f : Nat) (l : List Int) : Prop := ∀ q, 0 < q → q < hi → lo ≤ (q - 1) / 2 → gt l (f + q) ≤ gt l (f + (q - 1) / 2)
/-- a heap but for the root r -/
structure Hr (lo hi f r : Nat) (l : List Int) : Prop where
  a : ∀ q, 0 < q → q < hi → lo ≤ (q - 1) / 2 → (q - 1) / 2 ≠ r → gt l (f + q) ≤ gt l (f + (q - 1) / 2)
  b : lo < r → lo ≤ (r - 1) / 2 ∧ ∀ q, 0 < q → q < hi → (q - 1) / 2 = r → gt l (f + q) ≤ gt l (f + (r - 1) / 2)
theorem Hr.start {lo hi f : Nat} {l : List Int} (h : Hp (lo + 1) hi f l) : Hr lo hi f lo l := ⟨fun q q0 q1 q2 q3 => h q q0 q1 (by omega), fun h => by omega⟩
theorem Hr.leaf {lo hi f r : Nat} {l : List Int} (h : Hr lo hi f r l) (hr : hi ≤ 2 * r + 1) : Hp lo hi f l := fun q q0 q1 q2 => by
  by_cases e : (q - 1) / 2 = r
  · omega
  · exact h.a q q0 q1 q2 e
/-- the greater child -/
structure Gc (hi f r ch : Nat) (l : List Int) : Prop where
  p : ch = 2 * r + 1 ∨ ch = 2 * r + 2
  h : ch < hi
  g : ∀ q, q = 2 * r + 1 ∨ q = 2 * r + 2 → q < hi → gt l (f + q) ≤ gt l (f + ch)
theorem Hr.stop {lo hi f r ch : Nat} {l : List Int} (h : Hr lo hi f r l) (hc : Gc hi f r ch l) (hs : gt l (f + ch) ≤ gt l (f + r)) : Hp lo hi f l := fun q q0 q1 q2 => by
  by_cases e : (q - 1) / 2 = r
  · have := hc.g q (by omega) q1
    rw [e]
    omega
  · exact h.a q q0 q1 q2 e
theorem Hr.step {lo hi f r ch : Nat} {l : List Int} (h : Hr lo hi f r l) (hl : f + hi ≤ l.length) (hlo : lo ≤ r) (hc : Gc hi f r ch l) (hs : gt l (f + r) < gt l (f + ch)) : Hr lo hi f ch (sw l (f + r) (f + ch)) := by
  have hp := hc.p
  have hh := hc.h
  have g : ∀ k, gt (sw l (f + r) (f + ch)) k = if k = f + ch then gt l (f + r) else if k = f + r then gt l (f + ch) else gt l k := fun k => sw_get l (by omega) (by omega)
  have gr : gt (sw l (f + r) (f + ch)) (f + r) = gt l (f + ch) := by rw [g, if_neg (by omega), if_pos rfl]
  have gc : gt (sw l (f + r) (f + ch)) (f + ch) = gt l (f + r) := by rw [g, if_pos rfl]
  have go : ∀ k, k ≠ r → k ≠ ch → gt (sw l (f + r) (f + ch)) (f + k) = gt l (f + k) := fun k k1 k2 => by rw [g, if_neg (by omega), if_neg (by omega)]
  refine ⟨fun q q0 q1 q2 q3 => ?_, fun _ => ⟨by omega, fun q q0 q1 q2 => ?_⟩⟩
  · by_cases e : (q - 1) / 2 = r
    · rw [e, gr]
      by_cases e2 : q = ch
      · rw [e2, gc]; omega
      · rw [go q (by omega) e2]
        exact hc.g q (by omega) q1
    · rw [go ((q - 1) / 2) e q3]
      by_cases e2 : q = r
      · rw [e2, gr]
        have hb := h.b (by omega)
        have := hb.2 ch (by omega) hh (by omega)
        exact this
      · rw [go q e2 (by omega)]
        exact h.a q q0 q1 q2 e
  · have e3 : (ch - 1) / 2 = r := by omega
    rw [e3, gr, go q (by omega) (by omega)]
    have := h.a q q0 q1 (by omega) (by omega)
    rw [q2] at this
    exact this
set_option maxRecDepth 100000 in
set_option maxHeartbeats 4000000 in
theorem sift136 (w : World) (B g n c : Nat) (l : List Int) (lo hi f : Nat) (hD : Dr w B g n c l) (hlh : lo ≤ hi) (hb : f + hi ≤ n) (hn : n ≤ 1000000) (hH : Hp (lo + 1) hi f l) :
    Calls Tryz.prog 117 #[.slice (some ⟨g, 0, none⟩) n c, .int .i64 (lo : Int), .int .i64 (hi : Int), .int .i64 (f : Int)] w fun e w' => e = .returned (.tuple #[]) ∧ ∃ l', Dr w' B g n c l' ∧ Pm f (f + hi) l l' ∧ Hp lo hi f l' ∧ Kp (fun k => k = g) w w' := by
  have mixed : Tryz.prog.follows .mixedOrders = true := by kernel_rfl
  have hnI : (n : Int) ≤ 1000000 := by omega
  have hf0 : (0 : Int) ≤ (f : Int) := by omega
  have hhn : (f : Int) + (hi : Int) ≤ (n : Int) := by omega
  have H0 := hide (And.intro hD (Hr.start hH))
  clear hD hH
  go_enter Tryz.func117, Tryz.ntmps117
  go_wp2
  go_loopw [8] (fun rv wr => ∃ r : Nat, rv = .int .i64 (r : Int) ∧ lo ≤ r ∧ r ≤ n ∧ Hid (∃ l', Dr wr B g n c l' ∧ Pm f (f + hi) l l' ∧ Hr lo hi f r l' ∧ Kp (fun k => k = g) w wr)) (fun rv _ => n - (intOf rv).toNat)
  case atStart => exact ⟨lo, rfl, Nat.le_refl _, by omega, hide ⟨l, H0.out.1, Pm.refl _ _ _, H0.out.2, Kp.refl _ _⟩⟩
  case round =>
    obtain ⟨r, rfl, hlr, hrn, hI⟩ := hrel
    have hr0 : (0 : Int) ≤ (r : Int) := by omega
    obtain ⟨l', h1, h2, h3, h5⟩ := hI.out
    have hl' : l'.length = n := h1.len
    obtain ⟨K, hK⟩ : ∃ K : Nat, K = 2 * r + 1 := ⟨_, rfl⟩
    have v1 : IntKind.i64.wrap (2 * (r : Int)) = 2 * (r : Int) := by rw [IntKind.wrap_i64]; omega
    have v2 : IntKind.i64.wrap (2 * (r : Int) + 1) = (K : Int) := by rw [IntKind.wrap_i64]; omega
    have v3 : 2 * (r : Int) + 1 = (K : Int) := by omega
    have hK0 : (0 : Int) ≤ (K : Int) := by omega
    by_cases hc : hi ≤ K
    · have d1 : decide ((K : Int) ≥ (hi : Int)) = true := by simp; omega
      have HJ := hide (And.intro h1 (And.intro h2 (And.intro (h3.leaf (by omega)) h5)))
      clear h1 h2 h3 h5 hI hK
      go_wp2
      go_end0
      obtain ⟨h1, h2, h3, h5⟩ := HJ.out
      exact ⟨rfl, l', h1, h2, h3, h5⟩
    · have d1 : decide ((K : Int) ≥ (hi : Int)) = false := by simp; omega
      have d1I : ¬ (K : Int) ≥ (hi : Int) := by omega
      have hKh : K < hi := by omega
      have v4 : IntKind.i64.wrap ((K : Int) + 1) = (K : Int) + 1 := by rw [IntKind.wrap_i64]; omega
      have HK := hide hK
      have hrK : r < K := by omega
      have HJ := hide (And.intro h1 (And.intro h2 (And.intro h3 h5)))
      by_cases hc2 : K + 1 < hi
      · have d2 : decide ((K : Int) + 1 < (hi : Int)) = true := by simp; omega
        have d2I : (K : Int) + 1 < (hi : Int) := by omega
        have a1 : (0 : Int) ≤ (f : Int) + (K : Int) := by omega
        have a2 : (f : Int) + (K : Int) < (n : Int) := by omega
        have a3 : ((f : Int) + (K : Int)).toNat = f + K := by omega
        have a4 : IntKind.i64.wrap ((f : Int) + (K : Int)) = (f : Int) + (K : Int) := by rw [IntKind.wrap_i64]; omega
        have a5 : (0 : Int) ≤ (f : Int) + (K : Int) + 1 := by omega
        have a6 : (f : Int) + (K : Int) + 1 < (n : Int) := by omega
        have a7 : ((f : Int) + (K : Int) + 1).toNat = f + K + 1 := by omega
        have a8 : IntKind.i64.wrap ((f : Int) + (K : Int) + 1) = (f : Int) + (K : Int) + 1 := by rw [IntKind.wrap_i64]; omega
        obtain ⟨y1, _⟩ := h1.at_ (k := f + K) (by omega)
        obtain ⟨y2, _⟩ := h1.at_ (k := f + K + 1) (by omega)
        by_cases hl2 : gt l' (f + K) < gt l' (f + K + 1)
        · have d3 : decide (gt l' (f + K) < gt l' (f + K + 1)) = true := by simpa using hl2
          obtain ⟨ch, hch⟩ : ∃ ch : Nat, ch = K + 1 := ⟨_, rfl⟩
          have HC : Hid (Gc hi f r ch l') := hide ⟨by omega, by omega, fun q hq hqh => by
            rcases hq with e | e
            · rw [e, ← hK, hch]; have h : f + (K + 1) = f + K + 1 := by omega
              rw [h]; omega
            · rw [show q = ch by omega]; exact Int.le_refl _⟩
          have v5 : (K : Int) + 1 = (ch : Int) := by omega
          have v6 : IntKind.i64.wrap ((K : Int) + 1) = (ch : Int) := by rw [IntKind.wrap_i64]; omega
          have hchh : ch < hi := by omega
          have hrch : r < ch := by omega
          have hch0 : (0 : Int) ≤ (ch : Int) := by omega
          have HCH := hide hch
          clear h1 h2 h3 h5 hI hK hl2 v4 v5 hch
          go_wp2_with fail
          go_quiet (first | (go_at_call 104; exact Calls.quiet_of_same (less127 _ _ _)))
          have v5 : (K : Int) + 1 = (ch : Int) := by have := HCH.out; omega
          have e1 : (0 : Int) ≤ (f : Int) + (r : Int) := by omega
          have e2 : (f : Int) + (r : Int) < (n : Int) := by omega
          have e3 : ((f : Int) + (r : Int)).toNat = f + r := by omega
          have e4 : IntKind.i64.wrap ((f : Int) + (r : Int)) = (f : Int) + (r : Int) := by rw [IntKind.wrap_i64]; omega
          have e5 : (0 : Int) ≤ (f : Int) + (ch : Int) := by omega
          have e6 : (f : Int) + (ch : Int) < (n : Int) := by omega
          have e7 : ((f : Int) + (ch : Int)).toNat = f + ch := by omega
          have e8 : IntKind.i64.wrap ((f : Int) + (ch : Int)) = (f : Int) + (ch : Int) := by rw [IntKind.wrap_i64]; omega
          obtain ⟨h1, h2, h3, h5⟩ := HJ.out
          have hW1 := h1.dn nq
          have kW := h5.andNu (kp_dn wr nq)
          obtain ⟨W, hW⟩ : ∃ W, wr.drewN nq = W := ⟨_, rfl⟩
          rw [hW] at hW1 kW ⊢
          obtain ⟨s1, _⟩ := hW1.at_ (k := f + r) (by omega)
          obtain ⟨s2, _⟩ := hW1.at_ (k := f + ch) (by omega)
          have HG := hide (And.intro hW1 (And.intro h2 (And.intro h3 kW)))
          clear h1 h2 h3 h5 hW1 kW hW HJ
          by_cases hls : gt l' (f + r) < gt l' (f + ch)
          · have dl : decide (gt l' (f + r) < gt l' (f + ch)) = true := by simpa using hls
            have HS := hide hls
            clear hls
            go_wp2_with fail
            go_quiet (first | (go_at_call 104; exact Calls.quiet_of_same (less127 _ _ _)))
            obtain ⟨h1, h2, h3, h5⟩ := HG.out
            have hW1 := h1.dn nq
            have kW := h5.andNu (kp_dn W nq)
            obtain ⟨X, hX⟩ : ∃ X, W.drewN nq = X := ⟨_, rfl⟩
            rw [hX] at hW1 kW ⊢
            obtain ⟨s1, t1, s2, t2, t3, t4, hsw⟩ := hW1.swf (i := f + r) (j := f + ch) (by omega) (by omega)
            have HN : Hid (Pm f (f + hi) l (sw l' (f + r) (f + ch)) ∧ Hr lo hi f ch (sw l' (f + r) (f + ch))) := hide ⟨h2.trans (Pm.sw l' (by omega) (by omega) (by omega) (by omega) (by omega) (by omega)), h3.step (by omega) hlr HC.out HS.out⟩
            have H4 := hide (And.intro hsw kW)
            clear h1 h2 h3 h5 hW1 kW hsw hX
            go_wp2_with fail
            go_region
            go_wp2
            obtain ⟨hsw, k4⟩ := H4.out
            exact ⟨⟨ch, rfl, by omega, by omega, hide ⟨_, hsw.drew, HN.out.1, HN.out.2, ((k4.andSet _ _ (.inr rfl)).andSet _ _ (.inr rfl)).drew⟩⟩, by simp [intOf]; omega⟩
          · have dl : decide (gt l' (f + r) < gt l' (f + ch)) = false := by simpa using hls
            have HS : Hid (gt l' (f + ch) ≤ gt l' (f + r)) := hide (by omega)
            clear hls
            go_wp2_with fail
            go_quiet (first | (go_at_call 104; exact Calls.quiet_of_same (less127 _ _ _)))
            go_wp2
            (try simp only [Exit.inBlock, Exit.then])
            refine bodyPost_ret (results_none rfl _ _ _) rfl ?_
            obtain ⟨h1, h2, h3, h5⟩ := HG.out
            exact ⟨rfl, l', h1.dn _, h2, h3.stop HC.out HS.out, h5.andNu (kp_dn W _)⟩
        · have d3 : decide (gt l' (f + K) < gt l' (f + K + 1)) = false := by simpa using hl2
          have HC : Hid (Gc hi f r K l') := hide ⟨by omega, by omega, fun q hq hqh => by
            rcases hq with e | e
            · rw [show q = K by omega]; exact Int.le_refl _
            · rw [show f + q = f + K + 1 by omega]; omega⟩
          clear h1 h2 h3 h5 hI hK hl2
          go_wp2_with fail
          go_quiet (first | (go_at_call 104; exact Calls.quiet_of_same (less127 _ _ _)))
          have e1 : (0 : Int) ≤ (f : Int) + (r : Int) := by omega
          have e2 : (f : Int) + (r : Int) < (n : Int) := by omega
          have e3 : ((f : Int) + (r : Int)).toNat = f + r := by omega
          have e4 : IntKind.i64.wrap ((f : Int) + (r : Int)) = (f : Int) + (r : Int) := by rw [IntKind.wrap_i64]; omega
          have e5 : (0 : Int) ≤ (f : Int) + (K : Int) := by omega
          have e6 : (f : Int) + (K : Int) < (n : Int) := by omega
          have e7 : ((f : Int) + (K : Int)).toNat = f + K := by omega
          have e8 : IntKind.i64.wrap ((f : Int) + (K : Int)) = (f : Int) + (K : Int) := by rw [IntKind.wrap_i64]; omega
          obtain ⟨h1, h2, h3, h5⟩ := HJ.out
          have hW1 := h1.dn nq
          have kW := h5.andNu (kp_dn wr nq)
          obtain ⟨W, hW⟩ : ∃ W, wr.drewN nq = W := ⟨_, rfl⟩
          rw [hW] at hW1 kW ⊢
          obtain ⟨s1, _⟩ := hW1.at_ (k := f + r) (by omega)
          obtain ⟨s2, _⟩ := hW1.at_ (k := f + K) (by omega)
          have HG := hide (And.intro hW1 (And.intro h2 (And.intro h3 kW)))
          clear h1 h2 h3 h5 hW1 kW hW HJ
          by_cases hls : gt l' (f + r) < gt l' (f + K)
          · have dl : decide (gt l' (f + r) < gt l' (f + K)) = true := by simpa using hls
            have HS := hide hls
            clear hls
            go_wp2_with fail
            go_quiet (first | (go_at_call 104; exact Calls.quiet_of_same (less127 _ _ _)))
            obtain ⟨h1, h2, h3, h5⟩ := HG.out
            have hW1 := h1.dn nq
            have kW := h5.andNu (kp_dn W nq)
            obtain ⟨X, hX⟩ : ∃ X, W.drewN nq = X := ⟨_, rfl⟩
            rw [hX] at hW1 kW ⊢
            obtain ⟨s1, t1, s2, t2, t3, t4, hsw⟩ := hW1.swf (i := f + r) (j := f + K) (by omega) (by omega)
            have HN : Hid (Pm f (f + hi) l (sw l' (f + r) (f + K)) ∧ Hr lo hi f K (sw l' (f + r) (f + K))) := hide ⟨h2.trans (Pm.sw l' (by omega) (by omega) (by omega) (by omega) (by omega) (by omega)), h3.step (by omega) hlr HC.out HS.out⟩
            have H4 := hide (And.intro hsw kW)
            clear h1 h2 h3 h5 hW1 kW hsw hX
            go_wp2_with fail
            go_region
            go_wp2
            obtain ⟨hsw, k4⟩ := H4.out
            exact ⟨⟨K, rfl, by omega, by omega, hide ⟨_, hsw.drew, HN.out.1, HN.out.2, ((k4.andSet _ _ (.inr rfl)).andSet _ _ (.inr rfl)).drew⟩⟩, by simp [intOf]; omega⟩
          · have dl : decide (gt l' (f + r) < gt l' (f + K)) = false := by simpa using hls
            have HS : Hid (gt l' (f + K) ≤ gt l' (f + r)) := hide (by omega)
            clear hls
            go_wp2_with fail
            go_quiet (first | (go_at_call 104; exact Calls.quiet_of_same (less127 _ _ _)))
            go_wp2
            (try simp only [Exit.inBlock, Exit.then])
            refine bodyPost_ret (results_none rfl _ _ _) rfl ?_
            obtain ⟨h1, h2, h3, h5⟩ := HG.out
            exact ⟨rfl, l', h1.dn _, h2, h3.stop HC.out HS.out, h5.andNu (kp_dn W _)⟩
      · have d2 : decide ((K : Int) + 1 < (hi : Int)) = false := by simp; omega
        have HC : Hid (Gc hi f r K l') := hide ⟨by omega, by omega, fun q hq hqh => by
          rw [show q = K by omega]; exact Int.le_refl _⟩
        clear h1 h2 h3 h5 hI hK
        go_wp2_with fail
        go_quiet (fail)
        have e1 : (0 : Int) ≤ (f : Int) + (r : Int) := by omega
        have e2 : (f : Int) + (r : Int) < (n : Int) := by omega
        have e3 : ((f : Int) + (r : Int)).toNat = f + r := by omega
        have e4 : IntKind.i64.wrap ((f : Int) + (r : Int)) = (f : Int) + (r : Int) := by rw [IntKind.wrap_i64]; omega
        have e5 : (0 : Int) ≤ (f : Int) + (K : Int) := by omega
        have e6 : (f : Int) + (K : Int) < (n : Int) := by omega
        have e7 : ((f : Int) + (K : Int)).toNat = f + K := by omega
        have e8 : IntKind.i64.wrap ((f : Int) + (K : Int)) = (f : Int) + (K : Int) := by rw [IntKind.wrap_i64]; omega
        obtain ⟨h1, h2, h3, h5⟩ := HJ.out
        have hW1 := h1.dn nq
        have kW := h5.andNu (kp_dn wr nq)
        obtain ⟨W, hW⟩ : ∃ W, wr.drewN nq = W := ⟨_, rfl⟩
        rw [hW] at hW1 kW ⊢
        obtain ⟨s1, _⟩ := hW1.at_ (k := f + r) (by omega)
        obtain ⟨s2, _⟩ := hW1.at_ (k := f + K) (by omega)
        have HG := hide (And.intro hW1 (And.intro h2 (And.intro h3 kW)))
        clear h1 h2 h3 h5 hW1 kW hW HJ
        by_cases hls : gt l' (f + r) < gt l' (f + K)
        · have dl : decide (gt l' (f + r) < gt l' (f + K)) = true := by simpa using hls
          have HS := hide hls
          clear hls
          go_wp2_with fail
          go_quiet (first | (go_at_call 104; exact Calls.quiet_of_same (less127 _ _ _)))
          obtain ⟨h1, h2, h3, h5⟩ := HG.out
          have hW1 := h1.dn nq
          have kW := h5.andNu (kp_dn W nq)
          obtain ⟨X, hX⟩ : ∃ X, W.drewN nq = X := ⟨_, rfl⟩
          rw [hX] at hW1 kW ⊢
          obtain ⟨s1, t1, s2, t2, t3, t4, hsw⟩ := hW1.swf (i := f + r) (j := f + K) (by omega) (by omega)
          have HN : Hid (Pm f (f + hi) l (sw l' (f + r) (f + K)) ∧ Hr lo hi f K (sw l' (f + r) (f + K))) := hide ⟨h2.trans (Pm.sw l' (by omega) (by omega) (by omega) (by omega) (by omega) (by omega)), h3.step (by omega) hlr HC.out HS.out⟩
          have H4 := hide (And.intro hsw kW)
          clear h1 h2 h3 h5 hW1 kW hsw hX
          go_wp2_with fail
          go_region
          go_wp2
          obtain ⟨hsw, k4⟩ := H4.out
          exact ⟨⟨K, rfl, by omega, by omega, hide ⟨_, hsw.drew, HN.out.1, HN.out.2, ((k4.andSet _ _ (.inr rfl)).andSet _ _ (.inr rfl)).drew⟩⟩, by simp [intOf]; omega⟩
        · have dl : decide (gt l' (f + r) < gt l' (f + K)) = false := by simpa using hls
          have HS : Hid (gt l' (f + K) ≤ gt l' (f + r)) := hide (by omega)
          clear hls
          go_wp2_with fail
          go_quiet (first | (go_at_call 104; exact Calls.quiet_of_same (less127 _ _ _)))
          go_wp2
          (try simp only [Exit.inBlock, Exit.then])
          refine bodyPost_ret (results_none rfl _ _ _) rfl ?_
          obtain ⟨h1, h2, h3, h5⟩ := HG.out
          exact ⟨rfl, l', h1.dn _, h2, h3.stop HC.out HS.out, h5.andNu (kp_dn W _)⟩
end Go.Proofs.YtbifmcadllilhaaGreat.Rg
namespace Go.Proofs.YtbifmcadllilhaaGreat.Rg
open Go.RowKit Go.Shelf Go.Sort
set_option linter.unusedVariables false
theorem Hp.root {hi f : Nat} {l : List Int} (h : Hp 0 hi f l) : ∀ k, k < hi → gt l (f + k) ≤ gt l f := by
  intro k
  induction k using Nat.strongRecOn with
  | ind k ih =>
    intro hk
    by_cases e : k = 0
    · rw [e]; exact Int.le_refl _
    · have h1 := h k (by omega) hk (by omega)
      have h2 := ih ((k - 1) / 2) (by omega) (by omega)
      omega
theorem hp_start (hi f : Nat) (l : List Int) : Hp ((hi - 1) / 2 + 1) hi f l := fun q q0 q1 q2 => by omega
/-- the second half of heapSort: a heap of m, behind it what is sorted -/
structure Hs (m hi f : Nat) (l : List Int) : Prop where
  hp : Hp 0 m f l
  tl : ∀ q q', m ≤ q → q ≤ q' → q' < hi → gt l (f + q) ≤ gt l (f + q')
  le : ∀ k q, k < m → m ≤ q → q < hi → gt l (f + k) ≤ gt l (f + q)
theorem Hs.start {hi f : Nat} {l : List Int} (h : Hp 0 hi f l) : Hs hi hi f l := ⟨h, fun q q' h1 h2 h3 => by omega, fun k q h1 h2 h3 => by omega⟩
theorem Hs.fin {hi f : Nat} {l : List Int} (h : Hs 0 hi f l) : Srd f (f + hi) l := fun i j i1 i2 i3 => by
  have := h.tl (i - f) (j - f) (by omega) (by omega) (by omega)
  rw [show f + (i - f) = i by omega, show f + (j - f) = j by omega] at this
  exact this
theorem Hs.pre {m hi f : Nat} {l : List Int} (h : Hs (m + 1) hi f l) (hl : f + hi ≤ l.length) (hm : m < hi) : Hp (0 + 1) m f (sw l f (f + m)) := fun q q0 q1 q2 => by
  have g : ∀ k, gt (sw l f (f + m)) k = if k = f + m then gt l f else if k = f then gt l (f + m) else gt l k := fun k => sw_get l (by omega) (by omega)
  rw [g, g, if_neg (by omega), if_neg (by omega), if_neg (by omega), if_neg (by omega)]
  exact h.hp q q0 (by omega) (by omega)
theorem Hs.step {m hi f : Nat} {l l2 : List Int} (h : Hs (m + 1) hi f l) (hl : f + hi ≤ l.length) (hm : m < hi) (hp : Pm f (f + m) (sw l f (f + m)) l2) (h2 : Hp 0 m f l2) : Hs m hi f l2 := by
  have g : ∀ k, gt (sw l f (f + m)) k = if k = f + m then gt l f else if k = f then gt l (f + m) else gt l k := fun k => sw_get l (by omega) (by omega)
  have gm : gt l2 (f + m) = gt l f := by rw [hp.out _ (.inr (by omega)), g, if_pos rfl]
  have gq : ∀ q, m < q → gt l2 (f + q) = gt l (f + q) := fun q hq => by rw [hp.out _ (.inr (by omega)), g, if_neg (by omega), if_neg (by omega)]
  have gk : ∀ k, k < m → ∃ i, i < m + 1 ∧ gt l2 (f + k) = gt l (f + i) := fun k hk => by
    obtain ⟨i, i1, i2, e⟩ := hp.src (by omega) (by rw [sw_len]; omega) (k := f + k) (by omega) (by omega)
    rw [g, if_neg (by omega)] at e
    by_cases e2 : i = f
    · rw [if_pos e2] at e; exact ⟨m, by omega, e⟩
    · rw [if_neg e2] at e; exact ⟨i - f, by omega, by rw [e]; congr 1; omega⟩
  have r0 := h.hp.root
  refine ⟨h2, fun q q' q1 q2 q3 => ?_, fun k q k1 q1 q2 => ?_⟩
  · by_cases e : q = m
    · by_cases e2 : q' = m
      · rw [e, e2]; exact Int.le_refl _
      · rw [e, gm, gq q' (by omega)]
        exact h.le 0 q' (by omega) (by omega) q3
    · rw [gq q (by omega), gq q' (by omega)]
      exact h.tl q q' (by omega) q2 q3
  · obtain ⟨i, i1, e⟩ := gk k k1
    rw [e]
    by_cases e2 : q = m
    · rw [e2, gm]; exact r0 i i1
    · rw [gq q (by omega)]; exact h.le i q i1 (by omega) q2
set_option maxRecDepth 100000 in
set_option maxHeartbeats 4000000 in
theorem heap122 (w : World) (B g n c : Nat) (l : List Int) (a b : Nat) (hD : Dr w B g n c l) (hab : a < b) (hb : b ≤ n) (hn : n ≤ 1000000) :
    Calls Tryz.prog 99 #[.slice (some ⟨g, 0, none⟩) n c, .int .i64 (a : Int), .int .i64 (b : Int)] w fun e w' => e = .returned (.tuple #[]) ∧ ∃ l', Dr w' B g n c l' ∧ Pm a b l l' ∧ Srd a b l' ∧ Kp (fun k => k = g) w w' := by
  have mixed : Tryz.prog.follows .mixedOrders = true := by kernel_rfl
  have HD := hide hD
  obtain ⟨h, hh⟩ : ∃ h : Nat, a + h = b := ⟨b - a, by omega⟩
  have hh0 : 0 < h := by omega
  have ebI : (b : Int) - (a : Int) = (h : Int) := by omega
  have ebW : IntKind.i64.wrap ((b : Int) - (a : Int)) = (h : Int) := by rw [IntKind.wrap_i64]; omega
  have hnI : (n : Int) ≤ 1000000 := by omega
  have ha0 : (0 : Int) ≤ (a : Int) := by omega
  have eh1 : (h : Int) - 1 = ((h - 1 : Nat) : Int) := by omega
  have eq1 : Int.tdiv ((h - 1 : Nat) : Int) 2 = (((h - 1) / 2 : Nat) : Int) := by rw [Int.tdiv_eq_ediv_of_nonneg (by omega)]; omega
  clear hD
  go_enter Tryz.func99, Tryz.ntmps99
  go_wp2
  go_loopw [9] (fun iv wr => ∃ m : Nat, iv = .int .i64 ((m : Int) - 1) ∧ m ≤ h ∧ Hid (∃ l', Dr wr B g n c l' ∧ Pm a b l l' ∧ Hp m h a l' ∧ Kp (fun k => k = g) w wr)) (fun iv _ => (intOf iv + 1).toNat)
  case atStart => exact ⟨(h - 1) / 2 + 1, by go_num, by omega, hide ⟨l, HD.out, Pm.refl _ _ _, hp_start _ _ _, Kp.refl _ _⟩⟩
  case round =>
    obtain ⟨m, rfl, hmh, hI⟩ := hrel
    by_cases hm : m = 0
    · subst hm
      have d1 : decide (((0 : Nat) : Int) - 1 ≥ 0) = false := by simp
      have d1I : ¬ ((0 : Nat) : Int) - 1 ≥ 0 := by omega
      obtain ⟨W0, eW0⟩ : ∃ W0, wr = W0 := ⟨_, rfl⟩
      subst eW0
      have eh2 : IntKind.i64.wrap ((h : Int) - 1) = (h : Int) - 1 := by rw [IntKind.wrap_i64]; omega
      go_wp2
      go_loopw [10] (fun iv wr => ∃ m : Nat, iv = .int .i64 ((m : Int) - 1) ∧ m ≤ h ∧ Hid (∃ l', Dr wr B g n c l' ∧ Pm a b l l' ∧ Hs m h a l' ∧ Kp (fun k => k = g) w wr)) (fun iv _ => (intOf iv + 1).toNat)
      case atStart =>
        obtain ⟨l', h1, h2, h3, h4⟩ := hI.out
        exact ⟨h, by rw [eh1], Nat.le_refl _, hide ⟨l', h1, h2, Hs.start h3, h4⟩⟩
      case round =>
        obtain ⟨m, rfl, hmh, hJ⟩ := hrel
        by_cases hm : m = 0
        · subst hm
          go_wp2
          go_end0
          obtain ⟨l', h1, h2, h3, h4⟩ := hJ.out
          refine ⟨rfl, l', h1, h2, ?_, h4⟩
          rw [← hh]
          exact h3.fin
        · obtain ⟨k, rfl⟩ : ∃ k, m = k + 1 := ⟨m - 1, by omega⟩
          have ek : ((k + 1 : Nat) : Int) - 1 = (k : Int) := by omega
          obtain ⟨l', h1, h2, h3, h4⟩ := hJ.out
          have hl' := h1.len
          rw [ek]
          have hk0 : (k : Int) ≥ 0 := by omega
          have e0 : (a : Int).toNat = a := by omega
          have e1 : (a : Int) < (n : Int) := by omega
          have e2 : (0 : Int) ≤ (a : Int) + (k : Int) := by omega
          have e3 : (a : Int) + (k : Int) < (n : Int) := by omega
          have e4 : ((a : Int) + (k : Int)).toNat = a + k := by omega
          have e5 : IntKind.i64.wrap ((a : Int) + (k : Int)) = (a : Int) + (k : Int) := by rw [IntKind.wrap_i64]; omega
          obtain ⟨y1, f1, y2, f2, z1, g1, hsw⟩ := h1.swf (i := a) (j := a + k) (by omega) (by omega)
          have HN := hide (And.intro hsw (And.intro h2 (And.intro h3 h4)))
          have HP : Hid (Hp (0 + 1) k a (sw l' a (a + k))) := hide (h3.pre (by omega) (by omega))
          clear h1 h2 h3 h4 hsw hJ
          go_wp2_with fail
          go_region
          obtain ⟨hsw, h2, h3, h4⟩ := HN.out
          have S := sift136 _ B g n c _ 0 k a hsw.drew (by omega) (by omega) hn HP.out
          have HJ := hide (And.intro h2 (And.intro h3 ((h4.andSet ⟨g, a, none⟩ (.int .u64 (gt l' (a + k))) (.inr rfl)).andSet ⟨g, a + k, none⟩ (.int .u64 (gt l' a)) (.inr rfl)).drew))
          clear hsw h2 h3 h4 y1 f1 y2 f2 z1 g1
          go_wp2_with fail
          refine S.mono ?_; rintro e w1 ⟨rfl, l2, q1, q2, q3, q4⟩
          go_wp2
          obtain ⟨h2, h3, h4⟩ := HJ.out
          exact ⟨⟨k, by go_num, by omega, hide ⟨l2, q1, (h2.trans (Pm.sw l' (by omega) (by omega) (by omega) (by omega) (by omega) (by omega))).trans (q2.mono (Nat.le_refl _) (by omega)), h3.step (by omega) (by omega) q2 q3, h4.trans q4 (fun _ _ e => e)⟩⟩, by simp [intOf]⟩
    · obtain ⟨k, rfl⟩ : ∃ k, m = k + 1 := ⟨m - 1, by omega⟩
      have ek : ((k + 1 : Nat) : Int) - 1 = (k : Int) := by omega
      rw [ek]
      have ek0 : (k : Int) ≥ 0 := by omega
      obtain ⟨l', h1, h2, h3, h4⟩ := hI.out
      have hl' := h1.len
      have S := sift136 wr B g n c l' k h a h1 (by omega) (by omega) hn h3
      have HJ := hide (And.intro h2 h4)
      clear h1 h2 h3 h4 hI
      go_wp2_with fail
      refine S.mono ?_; rintro e w1 ⟨rfl, l2, q1, q2, q3, q4⟩
      go_wp2
      obtain ⟨h2, h4⟩ := HJ.out
      exact ⟨⟨k, by go_num, by omega, hide ⟨l2, q1, h2.trans (q2.mono (Nat.le_refl _) (by omega)), q3, h4.trans q4 (fun _ _ e => e)⟩⟩, by simp [intOf]⟩
end Go.Proofs.YtbifmcadllilhaaGreat.Rg
namespace Go.Proofs.YtbifmcadllilhaaGreat.Rg
open Go.RowKit Go.Shelf Go.Sort
set_option linter.unusedVariables false
/-- the row and the box that counts -/
structure Dx (w : World) (B g n c : Nat) (l : List Int) (sb s : Nat) : Prop where
  dr : Dr w B g n c l
  ne : g ≠ sb
  cell : w.cell? ⟨sb, 0, none⟩ = some (.int .i64 (s : Int))
  fz : w.frozen? ⟨sb, 0, none⟩ = false
theorem Dr.keep {w w' : World} {B g n c : Nat} {l : List Int} (h : Dr w B g n c l) {S : Nat → Prop} (k : Kp S w w') (hn : ¬ S g) : Dr w' B g n c l := ⟨own_keep h.own (fun g' e => k.block g' (own_lt h.own e) (fun h' => hn (by cases e; exact h'))), h.len⟩
theorem Dx.set {w : World} {B g n c : Nat} {l : List Int} {sb s : Nat} (h : Dx w B g n c l sb s) (s' : Nat) : Dx (w.setCell ⟨sb, 0, none⟩ (.int .i64 (s' : Int))) B g n c l sb s' :=
  ⟨h.dr.keep (Kp.setCell w ⟨sb, 0, none⟩ _) h.ne, h.ne, World.cell?_setCell_same _ _ _ h.cell, by rw [World.frozen?_setCell]; exact h.fz⟩
theorem Dx.drew {w : World} {B g n c : Nat} {l : List Int} {sb s : Nat} (h : Dx w B g n c l sb s) : Dx w.drew B g n c l sb s := ⟨h.dr.drew, h.ne, h.cell, h.fz⟩
theorem Dx.dn {w : World} {B g n c : Nat} {l : List Int} {sb s : Nat} (h : Dx w B g n c l sb s) (q : Nat) : Dx (w.drewN q) B g n c l sb s := ⟨h.dr.dn q, h.ne, by have := h.cell; simpa using this, by have := h.fz; simpa using this⟩
set_option maxRecDepth 100000 in
set_option maxHeartbeats 2000000 in
theorem order141 (w : World) (B g n c : Nat) (l : List Int) (sb s a b : Nat) (hD : Dx w B g n c l sb s) (ha : a < n) (hb : b < n) (hn : n ≤ 1000000) (hs : s ≤ 100) :
    Calls Tryz.prog 126 #[.slice (some ⟨g, 0, none⟩) n c, .int .i64 (a : Int), .int .i64 (b : Int), .pointer (some ⟨sb, 0, none⟩)] w fun e w' => ∃ x y s' : Nat, e = .returned (.tuple #[.int .i64 (x : Int), .int .i64 (y : Int)]) ∧ (x = a ∧ y = b ∨ x = b ∧ y = a) ∧ s' ≤ s + 1 ∧ Dx w' B g n c l sb s' ∧ Kp (fun k => k = sb) w w' := by
  have mixed : Tryz.prog.follows .mixedOrders = true := by kernel_rfl
  have a0 : (0 : Int) ≤ (a : Int) := by omega
  have b0 : (0 : Int) ≤ (b : Int) := by omega
  have aI : (a : Int) < (n : Int) := by omega
  have bI : (b : Int) < (n : Int) := by omega
  have ea : (a : Int).toNat = a := by omega
  have eb : (b : Int).toNat = b := by omega
  have ew : IntKind.i64.wrap ((s : Int) + 1) = (s : Int) + 1 := by rw [IntKind.wrap_i64]; omega
  obtain ⟨y1, f1⟩ := hD.dr.at_ (k := a) ha
  obtain ⟨y2, f2⟩ := hD.dr.at_ (k := b) hb
  have HD := hide hD
  clear hD
  by_cases hl : gt l b < gt l a
  · have d1 : decide (gt l b < gt l a) = true := by simpa using hl
    go_enter Tryz.func126, Tryz.ntmps126
    go_wp2_with fail
    go_quiet (first | (go_at_call 104; exact Calls.quiet_of_same (less127 _ _ _)))
    have h1 := HD.out.dn nq
    have k1 : Kp (fun k => k = sb) w (w.drewN nq) := (Kp.refl _ w).andNu (kp_dn w nq)
    obtain ⟨W, hW⟩ : ∃ W, w.drewN nq = W := ⟨_, rfl⟩
    rw [hW] at h1 k1 ⊢
    have hc := h1.cell
    have hf := h1.fz
    have H1 := hide (And.intro h1 k1)
    clear h1 k1 hW y1 f1 y2 f2
    go_wp2
    go_ret2
    obtain ⟨h1, k1⟩ := H1.out
    have h2 := h1.set (s + 1)
    have k2 := k1.andSet ⟨sb, 0, none⟩ (.int .i64 ((s + 1 : Nat) : Int)) (.inr rfl)
    rw [show ((s + 1 : Nat) : Int) = (s : Int) + 1 by omega] at h2 k2
    exact ⟨b, a, s + 1, rfl, .inr ⟨rfl, rfl⟩, Nat.le_refl _, h2, k2⟩
  · have d1 : decide (gt l b < gt l a) = false := by simpa using hl
    go_enter Tryz.func126, Tryz.ntmps126
    go_wp2_with fail
    go_quiet (first | (go_at_call 104; exact Calls.quiet_of_same (less127 _ _ _)))
    have h1 := HD.out.dn nq
    have k1 : Kp (fun k => k = sb) w (w.drewN nq) := (Kp.refl _ w).andNu (kp_dn w nq)
    have H1 := hide (And.intro h1 k1)
    clear h1 k1 y1 f1 y2 f2
    go_wp2
    go_ret2
    obtain ⟨h1, k1⟩ := H1.out
    exact ⟨a, b, s, rfl, .inl ⟨rfl, rfl⟩, by omega, h1, k1⟩
set_option maxRecDepth 100000 in
set_option maxHeartbeats 2000000 in
theorem median138 (w : World) (B g n c : Nat) (l : List Int) (sb s i j k : Nat) (hD : Dx w B g n c l sb s) (hi : i < n) (hj : j < n) (hk : k < n) (hn : n ≤ 1000000) (hs : s ≤ 90) :
    Calls Tryz.prog 121 #[.slice (some ⟨g, 0, none⟩) n c, .int .i64 (i : Int), .int .i64 (j : Int), .int .i64 (k : Int), .pointer (some ⟨sb, 0, none⟩)] w fun e w' => ∃ x s' : Nat, e = .returned (.int .i64 (x : Int)) ∧ (x = i ∨ x = j ∨ x = k) ∧ s' ≤ s + 3 ∧ Dx w' B g n c l sb s' ∧ Kp (fun k => k = sb) w w' := by
  have mixed : Tryz.prog.follows .mixedOrders = true := by kernel_rfl
  have O1 := order141 w B g n c l sb s i j hD hi hj hn (by omega)
  clear hD
  go_enter Tryz.func121, Tryz.ntmps121
  go_wp2_with fail
  refine O1.mono ?_; rintro e w1 ⟨x1, y1, s1, rfl, h1, hs1, hD1, k1⟩
  have O2 := order141 w1 B g n c l sb s1 y1 k hD1 (by omega) hk hn (by omega)
  clear hD1 O1
  go_wp2_with fail
  refine O2.mono ?_; rintro e w2 ⟨x2, y2, s2, rfl, h2, hs2, hD2, k2⟩
  have O3 := order141 w2 B g n c l sb s2 x1 x2 hD2 (by omega) (by omega) hn (by omega)
  clear hD2 O2
  go_wp2_with fail
  refine O3.mono ?_; rintro e w3 ⟨x3, y3, s3, rfl, h3, hs3, hD3, k3⟩
  clear O3
  go_wp2
  go_ret
  exact ⟨y3, s3, rfl, by omega, by omega, hD3, (k1.trans k2 (fun _ _ e => e)).trans k3 (fun _ _ e => e)⟩
set_option maxRecDepth 100000 in
set_option maxHeartbeats 2000000 in
theorem medAdj137 (w : World) (B g n c : Nat) (l : List Int) (sb s i : Nat) (hD : Dx w B g n c l sb s) (hi0 : 0 < i) (hi : i + 1 < n) (hn : n ≤ 1000000) (hs : s ≤ 90) :
    Calls Tryz.prog 120 #[.slice (some ⟨g, 0, none⟩) n c, .int .i64 (i : Int), .pointer (some ⟨sb, 0, none⟩)] w fun e w' => ∃ x s' : Nat, e = .returned (.int .i64 (x : Int)) ∧ i ≤ x + 1 ∧ x ≤ i + 1 ∧ s' ≤ s + 3 ∧ Dx w' B g n c l sb s' ∧ Kp (fun k => k = sb) w w' := by
  have mixed : Tryz.prog.follows .mixedOrders = true := by kernel_rfl
  have M := median138 w B g n c l sb s (i - 1) i (i + 1) hD (by omega) (by omega) (by omega) hn hs
  have e1 : ((i - 1 : Nat) : Int) = (i : Int) - 1 := by omega
  have e2 : ((i + 1 : Nat) : Int) = (i : Int) + 1 := by omega
  rw [e1, e2] at M
  clear hD e1 e2
  have v1 : IntKind.i64.wrap ((i : Int) - 1) = (i : Int) - 1 := by rw [IntKind.wrap_i64]; omega
  have v2 : IntKind.i64.wrap ((i : Int) + 1) = (i : Int) + 1 := by rw [IntKind.wrap_i64]; omega
  go_enter Tryz.func120, Tryz.ntmps120
  go_wp2_with fail
  refine M.mono ?_; rintro e w1 ⟨x, s', rfl, h1, hs1, hD1, k1⟩
  go_wp2
  go_ret
  exact ⟨x, s', rfl, by omega, by omega, hs1, hD1, k1⟩
end Go.Proofs.YtbifmcadllilhaaGreat.Rg
