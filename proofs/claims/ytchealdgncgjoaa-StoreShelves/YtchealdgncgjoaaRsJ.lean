import Derived.Test.YtchealdgncgjoaaRsE
import Derived.Deep.RegionHeld3
namespace Go.Proofs.Ytchealdgncgjoaa.StU
open Go.RowKit Go.Proofs.Ytchealdgncgjoaa.St Go.Shelf
set_option linter.unusedVariables false
/-- a row of pairs that shares its values -/
structure Cw (V : World) (B : Nat) (u : Sv) (L : List (Int × Sv)) (A : List KV) : Prop where
  own : V.ownsRow B 196 2 (.slice u.a u.n u.c) u.n (pc L)
  f : F2 (FV V) L A
  n : u.n = L.length
theorem Cw.nu {V W : World} {B : Nat} {u : Sv} {L : List (Int × Sv)} {A : List KV} (h : Cw V B u L A) (k : Kp Nu V W) : Cw W B u L A :=
  ⟨own_keep h.own (fun g e => k.block g (own_lt h.own e) (fun e => e)), h.f.imp (fun p m hf => hf.keep k (fun _ _ hs => hs.elim)), h.n⟩
theorem Cw.app {w W w6 : World} {u u' : Sv} {L : List (Int × Sv)} {A : List KV} {p : Int × Sv} {m : KV} {o : Obj} (h : Cw W w.heap.size u L A) (hp : FV W p m) (kw : Kp Nu w W)
    (hown : w6.ownsRow w.heap.size 196 2 (.slice u'.a u'.n u'.c) (u.n + 1) (pc L ++ [.int .u64 p.1, sl p.2])) (g : (W.alloc o).grownBy w6 (Value.slice u.a u.n u.c).ownBlock) : Cw w6 w.heap.size u' (L ++ [p]) (A ++ [m]) ∧ Kp Nu w w6 := by
  have ka := Kp.alloc W o Nu
  have h1 := h.nu ka
  have hp1 := hp.keep ka (fun _ _ hs => hs.elim)
  have kg := Kp.of_grown g
  have hS : ∀ i c, some i = (Value.slice u.a u.n u.c).ownBlock → (W.alloc o).heap[i]? ≠ some (.cells c 5 (0, 0)) := fun i c e hc => by
    obtain ⟨cur, h2⟩ := own_obj h1.own e.symm
    rw [h2] at hc; cases hc
  have hn : u'.n = u.n + 1 := by
    obtain ⟨ad, cap, e⟩ := own_slice hown
    exact (Value.slice.inj e).2.1
  refine ⟨⟨?_, F2.snoc (h1.f.imp (fun p m hf => hf.keep kg hS)) (hp1.keep kg hS), ?_⟩, (kw.andNu ka).trans kg (fun i hi e => by have := row196_low h.own e.symm; omega)⟩
  · rw [pc_snoc, hn]
    rw [hn] at hown
    exact hown
  · rw [hn, h.n, List.length_append]; rfl
/-- the list is set anew -/
theorem Rs.set {w W : World} {rb : Nat} {most : Int} {v v' : Sv} {L L' : List (Int × Sv)} {M M' : List KV} (h : Rs W rb most v L M) (hc : Cw W w.heap.size v' L' M') (hr : StU.Ris M') (hl : (M'.length : Int) ≤ most) : Rs (W.setCell ⟨rb, 1, none⟩ (.slice v'.a v'.n v'.c)) rb most v' L' M' := by
  have ks := Kp.setCell W ⟨rb, 1, none⟩ (.slice v'.a v'.n v'.c)
  refine ⟨set3 h.box 1 _, own_keep (w := W) (n := L'.length) ?_ ?_, hc.f.imp (fun p m hf => hf.keep ks (fun i c e hb => ?_)), hr, hl, h.mo⟩
  · exact Eq.mp (congrArg (fun n => W.ownsRow 0 196 2 (.slice v'.a v'.n v'.c) n (pc L')) hc.n) (own_base hc.own (Nat.zero_le _))
  · intro g hg
    refine ks.block g (own_lt hc.own hg) (fun e => ?_)
    obtain ⟨cur, h2⟩ := own_obj hc.own hg
    have e : g = rb := e
    rw [e, h.box] at h2; cases h2
  · have e : i = rb := e
    rw [e, h.box] at hb; cases hb
theorem Cr.set {V : World} {B rb : Nat} {u : Sv} {L : List (Int × Sv)} {A : List KV} {c : Array Value} {x : Value} (h : Cr V B u L A) (hb : V.heap[rb]? = some (.cells c 190 (0, 0))) : Cr (V.setCell ⟨rb, 1, none⟩ x) B u L A := by
  have ks := Kp.setCell V ⟨rb, 1, none⟩ x
  refine ⟨own_keep h.own (fun g hg => ks.block g (own_lt h.own hg) (fun e => ?_)), h.f.imp (fun p m hf => hf.keep ks (fun i c e hc => ?_)), h.lo⟩
  · obtain ⟨cur, h2⟩ := own_obj h.own hg
    have e : g = rb := e
    rw [e, hb] at h2; cases h2
  · have e : i = rb := e
    rw [e, hb] at hc; cases hc
theorem cut_more (lo hi : Int) (M : List KV) (i : Nat) (m : KV) (h : M[i]? = some m) : cutM lo hi (M.take (i + 1)) = cutM lo hi (M.take i) ++ cutM lo hi [m] := by
  rw [List.take_add_one, h]; exact List.filter_append _ _
set_option maxRecDepth 100000 in
set_option maxHeartbeats 4000000 in
theorem cut186 {w : World} {rb : Nat} {most : Int} {v : Sv} {L : List (Int × Sv)} {M : List KV} (h : Rs w rb most v L M) (lo hi : Int) (hle : lo ≤ hi) : Calls Try.prog 186 #[.pointer (some ⟨rb, 0, none⟩), .int .u64 lo, .int .u64 hi] w fun e w' => ∃ ua uc, e = .returned (.tuple #[.slice ua (rg lo hi M).length uc, .int .i64 0]) ∧ (∃ L1, Cr w' w.heap.size ⟨ua, (rg lo hi M).length, uc⟩ L1 (rg lo hi M)) ∧ (∃ v' L', Rs w' rb most v' L' (cutM lo hi M)) ∧ Kp (fun i => i = rb) w w' := by
  have IN := in_k h lo hi
  obtain ⟨K, eK⟩ : ∃ K, (rg lo hi M).length = K := ⟨_, rfl⟩
  rw [eK] at IN ⊢
  have hn := h.n
  obtain ⟨N, eN⟩ : ∃ N, M.length = N := ⟨_, rfl⟩
  have hN : N ≤ 32768 := by have := h.lm; have := h.mo; omega
  rw [eN] at hn
  obtain ⟨va, vn, vc⟩ := v
  simp only at hn
  subst hn
  have HH := hide (And.intro h (And.intro eN (And.intro hN eK)))
  have HC : Hid (∀ W, Kp Nu w W → W.cell? ⟨rb, 1, none⟩ = some (.slice va vn vc) ∧ W.frozen? ⟨rb, 1, none⟩ = false) := hide (fun W k => ⟨(cell2 (h.nu k).box).2, free3 (h.nu k).box 1⟩)
  clear h eN hN eK
  obtain ⟨i1, hi0, hz0, hz1, hz2⟩ := info_parts info196
  go_enter Try.func186, Try.ntmps186
  go_wp2_with (go_at_call 149; refine IN.mono ?_; rintro e w1 ⟨ua, uc, rfl, H1⟩; obtain ⟨c, fz⟩ := HC.out _ H1.out.2)
  go_loopw [9, 10] (fun lv it wr => ∃ (i : Nat) (u : Sv), it = .int .i64 (i : Int) ∧ lv = .slice u.a u.n u.c ∧ i ≤ vn ∧ Hid (∃ L', Cw wr w1.heap.size u L' (cutM lo hi (M.take i)) ∧ Kp Nu w1 wr)) (fun _ it _ => vn - (intOf it).toNat)
  case atStart => exact ⟨0, ⟨none, 0, 0⟩, rfl, rfl, Nat.zero_le _, [], ⟨own_nil', trivial, rfl⟩, Kp.refl _ _⟩
  case round =>
    obtain ⟨i, ⟨xa, xn, xc⟩, rfl, rfl, hiv, HI⟩ := hrel
    obtain ⟨L', hcw, kw1⟩ := HI.out
    have kw := H1.out.2.andNu kw1
    clear c fz
    obtain ⟨c, fz⟩ := HC.out _ kw
    by_cases hlt : i < vn
    · obtain ⟨m, hm⟩ : ∃ m, M[i]? = some m := ⟨_, List.getElem?_eq_getElem (by rw [HH.out.2.1]; exact hlt)⟩
      obtain ⟨p, r, hp, hf, er, d0, d1⟩ := (HH.out.1.nu kw).at_ hm
      simp only at er
      subst er
      have hltI : (i : Int) < (vn : Int) := by omega
      have hi00 : (0 : Int) ≤ (i : Int) := by omega
      have hwi : wrap64 ((i : Int) + 1) = ((i + 1 : Nat) : Int) := by have := HH.out.2.2.1; unfold wrap64; omega
      have hcm := cut_more lo hi M i m hm
      by_cases hin : lo ≤ m.1 ∧ m.1 ≤ hi
      · have hg1 : ¬ m.1 < lo := by omega
        have hg2 : ¬ hi < m.1 := by omega
        have HF : Hid (∃ L', Cw wr w1.heap.size ⟨xa, xn, xc⟩ L' (cutM lo hi (M.take (i + 1))) ∧ Kp Nu w1 wr) := by
          refine ⟨L', ?_, kw1⟩
          have e : cutM lo hi [m] = [] := List.filter_eq_nil_iff.2 (fun q hq => by
            rw [List.mem_singleton.1 hq]
            unfold inR
            simp
            omega)
          rw [hcm, e, List.append_nil]
          exact hcw
        have HW := hide (And.intro hlt hwi)
        generalize m.1 = mk at *
        clear hm hp hf hin hcm hcw hwi hlt hiv HI d1
        go_wp2
        exact ⟨⟨i + 1, ⟨xa, xn, xc⟩, by rw [HW.out.2], rfl, HW.out.1, HF⟩, lt_mi HW.out.2 HW.out.1⟩
      · have e : cutM lo hi [m] = [m] := List.filter_eq_self.2 (fun q hq => by
          rw [List.mem_singleton.1 hq]
          unfold inR
          simp
          omega)
        rw [e] at hcm
        have hb : m.1 < lo ∨ (decide (m.1 < lo) = false ∧ hi < m.1) := by
          by_cases h1 : m.1 < lo
          · exact .inl h1
          · exact .inr ⟨decide_eq_false h1, by omega⟩
        have HXN : Hid (xn ≤ 32768) := by
          have h1 : (cutM lo hi (M.take i)).length ≤ (M.take i).length := List.length_filter_le _ _
          have h2 := hcw.f.length
          have h3 : xn = L'.length := hcw.n
          have h4 := HH.out.2.2.1
          show xn ≤ 32768
          rw [List.length_take] at h1
          omega
        have HO : Hid (∀ W, Kp Nu wr W → W.ownsRow w1.heap.size 196 2 (.slice xa xn xc) xn (pc L')) := hide (fun W k => (hcw.nu k).own)
        have HW := hide (And.intro hlt (And.intro hwi (And.intro hcm (And.intro hcw (And.intro kw1 hf)))))
        obtain ⟨mk, my⟩ := m
        simp only at d0 hb
        obtain ⟨pk, ⟨pa, pn, pcc⟩⟩ := p
        simp only at d1
        clear hm hp hf hin hcm hcw hwi hlt hiv HI e
        rcases hb with hb | ⟨hb, hb2⟩
        · go_wp2_with (at_builtin; refine wpList_append_own _ rfl _ _ 123 rfl w1.heap.size 196 i1 _ 2 32 Try.underlying123 hi0 hz0 hz1 hz2 rfl (by decide) _ xn _ rfl (HO.out _ (Kp.alloc _ _ _)) ⟨wr.heap.size, 0, none⟩ 1 1 [.int .u64 mk, .slice pa pn pcc] rfl ?qc1a ?qc2a ?qc3a ?qc4a ?qc5a ?qc6a ?_)
          case qc1a => rfl
          case qc2a => exact cells_two_new _ _ _ _
          case qc3a => intro x hx; simp at hx; rcases hx with rfl | rfl <;> rfl
          case qc4a => have := HXN.out; unfold maxLen; omega
          case qc5a => have := HXN.out; omega
          case qc6a => have := HW.out.2.2.2.2.1.size; simp; omega
          intro v' w6 hown hgrow hnil
          obtain ⟨av, cv, ev⟩ := own_slice hown
          subst ev
          have HF : Hid (∃ L', Cw w6 w1.heap.size ⟨av, xn + 1, cv⟩ L' (cutM lo hi (M.take (i + 1))) ∧ Kp Nu w1 w6) := by
            obtain ⟨_, _, hcm, hcw, kw1, hf⟩ := HW.out
            have e : pk = mk := hf.1
            subst e
            have h1 := Cw.app (u' := ⟨av, xn + 1, cv⟩) hcw hf kw1 hown hgrow
            rw [hcm]
            exact ⟨_, h1.1, h1.2⟩
          clear hown hgrow hnil HO d0 d1 c fz
          go_wp2
          exact ⟨⟨i + 1, ⟨av, xn + 1, cv⟩, by rw [HW.out.2.1], rfl, HW.out.1, HF⟩, lt_mi HW.out.2.1 HW.out.1⟩
        · go_wp2_with (at_builtin; refine wpList_append_own _ rfl _ _ 123 rfl w1.heap.size 196 i1 _ 2 32 Try.underlying123 hi0 hz0 hz1 hz2 rfl (by decide) _ xn _ rfl (HO.out _ (Kp.alloc _ _ _)) ⟨wr.heap.size, 0, none⟩ 1 1 [.int .u64 mk, .slice pa pn pcc] rfl ?qc1b ?qc2b ?qc3b ?qc4b ?qc5b ?qc6b ?_)
          case qc1b => rfl
          case qc2b => exact cells_two_new _ _ _ _
          case qc3b => intro x hx; simp at hx; rcases hx with rfl | rfl <;> rfl
          case qc4b => have := HXN.out; unfold maxLen; omega
          case qc5b => have := HXN.out; omega
          case qc6b => have := HW.out.2.2.2.2.1.size; simp; omega
          intro v' w6 hown hgrow hnil
          obtain ⟨av, cv, ev⟩ := own_slice hown
          subst ev
          have HF : Hid (∃ L', Cw w6 w1.heap.size ⟨av, xn + 1, cv⟩ L' (cutM lo hi (M.take (i + 1))) ∧ Kp Nu w1 w6) := by
            obtain ⟨_, _, hcm, hcw, kw1, hf⟩ := HW.out
            have e : pk = mk := hf.1
            subst e
            have h1 := Cw.app (u' := ⟨av, xn + 1, cv⟩) hcw hf kw1 hown hgrow
            rw [hcm]
            exact ⟨_, h1.1, h1.2⟩
          clear hown hgrow hnil HO d0 d1 c fz
          go_wp2
          exact ⟨⟨i + 1, ⟨av, xn + 1, cv⟩, by rw [HW.out.2.1], rfl, HW.out.1, HF⟩, lt_mi HW.out.2.1 HW.out.1⟩
    · obtain rfl : i = vn := by omega
      rw [List.take_of_length_le (by rw [HH.out.2.1]; exact Nat.le_refl _)] at hcw
      have hnl : ¬ (i : Int) < (i : Int) := by omega
      have HZ : Hid ((∃ L1, Cr (wr.setCell ⟨rb, 1, none⟩ (.slice xa xn xc)) w.heap.size ⟨ua, K, uc⟩ L1 (rg lo hi M)) ∧ (∃ v' L', Rs (wr.setCell ⟨rb, 1, none⟩ (.slice xa xn xc)) rb most v' L' (cutM lo hi M)) ∧ Kp (fun i => i = rb) w (wr.setCell ⟨rb, 1, none⟩ (.slice xa xn xc))) := by
        have hs := HH.out.1.nu kw
        obtain ⟨L1, hc1⟩ := H1.out.1
        have hl : (cutM lo hi M).length ≤ M.length := List.length_filter_le _ _
        refine ⟨⟨L1, (hc1.nu kw1).set hs.box⟩, ⟨_, _, hs.set hcw (ris_filter hs.ris _) (by have := hs.lm; omega)⟩, (kw.mono (fun _ _ e => e.elim)).trans (Kp.setCell _ _ _) (fun _ _ e => e)⟩
      clear hcw kw kw1 HI hlt hiv
      go_wp2
      go_ret2
      exact ⟨ua, uc, rfl, HZ.out⟩
end Go.Proofs.Ytchealdgncgjoaa.StU
namespace Go.Proofs.Ytchealdgncgjoaa.StU
open Go.RowKit Go.Proofs.Ytchealdgncgjoaa.St Go.Shelf
set_option linter.unusedVariables false
section
variable {w : World} {rb : Nat} {most : Int} {v : Sv} {L : List (Int × Sv)} {M : List KV}
set_option maxHeartbeats 400000 in
theorem cut_no186 (w : World) (rb : Nat) (lo hi : Int) (hle : hi < lo) : Calls Try.prog 186 #[.pointer (some ⟨rb, 0, none⟩), .int .u64 lo, .int .u64 hi] w fun e w' => e = .returned (.tuple #[.slice none 0 0, .int .i64 74]) ∧ w' = w := by
  go_enter Try.func186, Try.ntmps186
  go_wp2
  go_ret2
  exact ⟨rfl, rfl⟩
set_option maxHeartbeats 400000 in
theorem cut_nil186 (w : World) (lo hi : Int) : Calls Try.prog 186 #[.pointer none, .int .u64 lo, .int .u64 hi] w fun e w' => e = .returned (.tuple #[.slice none 0 0, .int .i64 1]) ∧ w' = w := by
  go_enter Try.func186, Try.ntmps186
  go_wp2
  go_ret2
  exact ⟨rfl, rfl⟩
set_option maxHeartbeats 400000 in
theorem in_nil149 (w : World) (lo hi : Int) : Calls Try.prog 149 #[.pointer none, .int .u64 lo, .int .u64 hi] w fun e w' => e = .returned (.slice none 0 0) ∧ w' = w := by
  go_enter Try.func149, Try.ntmps149
  go_wp2
  go_ret
  exact ⟨rfl, rfl⟩
set_option maxHeartbeats 400000 in
theorem count_nil144 (w : World) (lo hi : Int) : Calls Try.prog 144 #[.pointer none, .int .u64 lo, .int .u64 hi] w fun e w' => e = .returned (.int .i64 0) ∧ w' = w := by
  have IN := in_nil149 w lo hi
  go_enter Try.func144, Try.ntmps144
  go_wp2_with (go_at_call 149; refine IN.mono ?_; rintro e w1 ⟨rfl, hw⟩; obtain rfl := hw.symm)
  go_ret
  exact ⟨rfl, rfl⟩
set_option maxHeartbeats 400000 in
theorem bytes_nil143 (w : World) : Calls Try.prog 143 #[.pointer none] w fun e w' => e = .returned (.int .i64 0) ∧ w' = w := by
  go_enter Try.func143, Try.ntmps143
  go_wp2
  go_ret
  exact ⟨rfl, rfl⟩
set_option maxHeartbeats 400000 in
theorem get_nil140 (w : World) (k : Int) : Calls Try.prog 140 #[.pointer none, .int .u64 k] w fun e w' => e = .returned (.tuple #[.slice none 0 0, .bool false]) ∧ w' = w := by
  go_enter Try.func140, Try.ntmps140
  go_wp2
  go_ret2
  exact ⟨rfl, rfl⟩
set_option maxHeartbeats 400000 in
theorem del_nil141 (w : World) (k : Int) : Calls Try.prog 141 #[.pointer none, .int .u64 k] w fun e w' => e = .returned (.bool false) ∧ w' = w := by
  go_enter Try.func141, Try.ntmps141
  go_wp2
  go_ret
  exact ⟨rfl, rfl⟩
set_option maxHeartbeats 1000000 in
theorem rdel141 (h : Rs w rb most v L M) (k : Int) : Calls Try.prog 141 #[.pointer (some ⟨rb, 0, none⟩), .int .u64 k] w fun e w' => e = .returned (.bool (hs k M)) ∧ (∃ v' L', Rs w' rb most v' L' (cutM k k M)) ∧ Kp (fun i => i = rb) w w' := by
  cases hk : hs k M with
  | false =>
    have FA := find183 h k (-1) (by rw [hk]; rfl)
    have e : cutM k k M = M := List.filter_eq_self.2 (fun m hm => by
      unfold StU.hs at hk
      have := List.any_eq_false.1 hk m hm
      unfold inR
      simp at this ⊢
      omega)
    rw [e]
    have HH := hide h
    clear h hk e
    go_enter Try.func141, Try.ntmps141
    go_wp2_with (go_at_call 183; refine FA.mono ?_; rintro e w1 ⟨rfl, hw⟩; obtain rfl := hw.symm)
    go_ret
    exact ⟨rfl, ⟨v, L, HH.out⟩, Kp.refl _ _⟩
  | true =>
    obtain ⟨m, hm, em, gm⟩ := h.ris.at_key hk
    obtain ⟨i, hi⟩ := List.mem_iff_getElem?.1 hm
    have hpl := h.ris.pl hi
    rw [em] at hpl
    have FA := find183 h k (i : Int) (by rw [hk, hpl]; rfl)
    have CA : Calls Try.prog 186 #[.pointer (some ⟨rb, 0, none⟩), .int .u64 k, .int .u64 k] w fun e w' => ∃ ua un uc, e = .returned (.tuple #[.slice ua un uc, .int .i64 0]) ∧ Hid ((∃ v' L', Rs w' rb most v' L' (cutM k k M)) ∧ Kp (fun i => i = rb) w w') := by
      refine (cut186 h k k (Int.le_refl _)).mono ?_
      rintro e w' ⟨ua, uc, e1, _, e2, e3⟩
      exact ⟨ua, _, uc, e1, e2, e3⟩
    have hi0 : (0 : Int) ≤ (i : Int) := by omega
    have h0 : ¬ (i : Int) < 0 := by omega
    clear h hk hm em gm hi hpl
    go_enter Try.func141, Try.ntmps141
    go_wp2_with (first
      | (go_at_call 183; refine FA.mono ?_; rintro e w1 ⟨rfl, hw⟩; obtain rfl := hw.symm)
      | (go_at_call 186; refine CA.mono ?_; rintro e w2 ⟨ua, un, uc, rfl, H2⟩))
    go_ret
    exact ⟨rfl, H2.out.1, H2.out.2⟩
end
end Go.Proofs.Ytchealdgncgjoaa.StU
namespace Go.Proofs.Ytchealdgncgjoaa.StU
open Go.RowKit Go.Proofs.Ytchealdgncgjoaa.St Go.Shelf
set_option linter.unusedVariables false
theorem Cr.wp {V : World} {B : Nat} {u : Sv} {L : List (Int × Sv)} {A : List KV} (h : Cr V B u L A) (n : Nat) (hn : n ≤ A.length) : Wp V (.slice u.a n u.c) ((pgs L A).take n) := by
  have hl : (pgs L A).length = A.length := by
    rw [← congrArg List.length (pgs_map h.f), List.length_map]
  refine ⟨u.a, u.c, by rw [List.length_take, hl, Nat.min_eq_left hn], fun i s hs => ?_⟩
  have hi : i < n := by
    have := (List.getElem?_eq_some_iff.1 hs).1
    rw [List.length_take] at this
    omega
  rw [List.getElem?_take_of_lt hi] at hs
  obtain ⟨p, m, h1, h2, rfl⟩ := pgs_at L A i s hs
  obtain ⟨p', r, h1', hf, er, d0, d1⟩ := h.at_ h2
  rw [h1] at h1'; cases h1'
  exact ⟨r, 0, er, by rw [Nat.zero_add]; exact d0, by rw [Nat.zero_add]; exact d1, hf.rd, hf.2.2.2.2.2, hf.2.2.2.1, hf.2.2.2.2.1, by have := hf.2.2.1; dsimp only; omega⟩
theorem Cr.cap {V : World} {B : Nat} {u : Sv} {L : List (Int × Sv)} {A : List KV} (h : Cr V B u L A) : u.n ≤ u.c ∧ (u.n = 0 ∨ ∃ r, u.a = some ⟨r, 0, none⟩) := by
  have hn : u.n = L.length := by rw [h.n, h.f.length]
  obtain ⟨ua, un, uc⟩ := u
  rcases h.own.2 with ⟨e, h0⟩ | ⟨r, cap, cur, e, hB, hg, h1, h2, h3, h4⟩
  · simp only at e hn ⊢
    cases e
    exact ⟨by omega, .inl rfl⟩
  · simp only at e hn ⊢
    cases e
    exact ⟨h1, .inr ⟨r, rfl⟩⟩
section
variable {w : World} {rb : Nat} {most : Int} {v : Sv} {L : List (Int × Sv)} {M : List KV}
set_option maxHeartbeats 2000000 in
theorem rscan74 (h : Rs w rb most v L M) (lo hi lim : Int) (K : Nat) (hK : K = min (rg lo hi M).length lim.toNat) : Calls Try.prog 74 #[.pointer (some ⟨rb, 0, none⟩), .int .u64 lo, .int .u64 hi, .int .i64 lim] w fun e w' => ∃ ua uc, e = .returned (.tuple #[.slice ua K uc, .bool (decide (K < (rg lo hi M).length))]) ∧ Hid ((∃ L', Wp w' (.slice ua K uc) ((pgs L' (rg lo hi M)).take K) ∧ Cr w' w.heap.size ⟨ua, (rg lo hi M).length, uc⟩ L' (rg lo hi M)) ∧ Kp Nu w w') := by
  obtain ⟨R, eR⟩ : ∃ R, (rg lo hi M).length = R := ⟨_, rfl⟩
  have IN : Calls Try.prog 149 #[.pointer (some ⟨rb, 0, none⟩), .int .u64 lo, .int .u64 hi] w fun e w' => ∃ ua uc, e = .returned (.slice ua R uc) ∧ ((K : Int) ≤ (uc : Int)) ∧ (R = 0 ∨ ∃ r, ua = some ⟨r, 0, none⟩) ∧ Hid ((∃ L', Wp w' (.slice ua K uc) ((pgs L' (rg lo hi M)).take K) ∧ Cr w' w.heap.size ⟨ua, R, uc⟩ L' (rg lo hi M)) ∧ Kp Nu w w') := by
    have := in_k h lo hi
    rw [eR] at this
    refine this.mono ?_
    rintro e w' ⟨ua, uc, e1, e2⟩
    obtain ⟨⟨L', hc⟩, k⟩ := e2.out
    obtain ⟨c1, c2⟩ := hc.cap
    simp only at c1 c2
    exact ⟨ua, uc, e1, by have : K ≤ R := by rw [hK, eR]; exact Nat.min_le_left _ _
                          omega, c2, ⟨L', hc.wp K (by rw [hK, eR]; exact Nat.min_le_left _ _), hc⟩, k⟩
  rw [eR] at hK ⊢
  clear h eR
  by_cases hneg : lim < 0
  · obtain rfl : K = 0 := by omega
    by_cases hR : R = 0
    · subst hR
      clear hK
      go_enter Try.func74, Try.ntmps74
      go_wp2_with (go_at_call 149; refine IN.mono ?_; rintro e w1 ⟨ua, uc, rfl, hcap, hua, H1⟩; clear hua)
      go_ret2
      exact ⟨ua, uc, rfl, H1.out⟩
    · have hR0 : (0 : Int) < (R : Int) := by omega
      have hd : decide (0 < R) = true := by simp; omega
      rw [hd]
      clear hK hd
      have IN2 := IN
      clear IN
      go_enter Try.func74, Try.ntmps74
      go_wp2_with (go_at_call 149; refine IN2.mono ?_; rintro e w1 ⟨ua, uc, rfl, hcap, hua, H1⟩; obtain ⟨r, rfl⟩ := hua.resolve_left hR; clear hua)
      go_ret2
      exact ⟨_, uc, rfl, H1.out⟩
  · by_cases hlt : lim < (R : Int)
    · have hKl : (K : Int) = lim := by omega
      subst hKl
      have hd : decide (K < R) = true := by simp; omega
      rw [hd]
      have hR : R ≠ 0 := by omega
      have hK0 : (0 : Int) ≤ (K : Int) := by omega
      clear hK hd
      go_enter Try.func74, Try.ntmps74
      go_wp2_with (go_at_call 149; refine IN.mono ?_; rintro e w1 ⟨ua, uc, rfl, hcap, hua, H1⟩; obtain ⟨r, rfl⟩ := hua.resolve_left hR; clear hua)
      go_ret2
      exact ⟨_, uc, rfl, H1.out⟩
    · obtain rfl : K = R := by omega
      have hd : decide (K < K) = false := by simp
      rw [hd]
      clear hK hd
      go_enter Try.func74, Try.ntmps74
      go_wp2_with (go_at_call 149; refine IN.mono ?_; rintro e w1 ⟨ua, uc, rfl, hcap, hua, H1⟩; clear hua)
      go_ret2
      exact ⟨ua, uc, rfl, H1.out⟩
end
end Go.Proofs.Ytchealdgncgjoaa.StU
namespace Go.Proofs.Ytchealdgncgjoaa.StU
open Go.RowKit Go.Proofs.Ytchealdgncgjoaa.St Go.Shelf
set_option linter.unusedVariables false
section
variable {w : World} {rb : Nat} {most : Int} {v : Sv} {L : List (Int × Sv)} {M : List KV}
set_option maxHeartbeats 400000 in
theorem set_nil137 (w : World) (k : Int) (u : Value) : Calls Try.prog 137 #[.pointer none, .int .u64 k, u] w fun e w' => e = .returned (.tuple #[.bool false, .int .i64 1]) ∧ w' = w := by
  go_enter Try.func137, Try.ntmps137
  go_wp2
  go_ret2
  exact ⟨rfl, rfl⟩
set_option maxHeartbeats 400000 in
theorem set_long137 (w : World) (rb : Nat) (k : Int) (ad : Option Addr) (n c : Nat) (hn : 64 < n) : Calls Try.prog 137 #[.pointer (some ⟨rb, 0, none⟩), .int .u64 k, .slice ad n c] w fun e w' => e = .returned (.tuple #[.bool false, .int .i64 70]) ∧ w' = w := by
  have hI : (64 : Int) < (n : Int) := by omega
  clear hn
  go_enter Try.func137, Try.ntmps137
  go_wp2
  go_ret2
  exact ⟨rfl, rfl⟩
set_option maxHeartbeats 1000000 in
theorem set_full137 (h : Rs w rb most v L M) (k : Int) (ad : Option Addr) (n c : Nat) (hn : n ≤ 64) (hk : hs k M = false) (hf : most ≤ (M.length : Int)) : Calls Try.prog 137 #[.pointer (some ⟨rb, 0, none⟩), .int .u64 k, .slice ad n c] w fun e w' => e = .returned (.tuple #[.bool false, .int .i64 71]) ∧ Kp Nu w w' := by
  have mixed : Try.prog.follows .mixedOrders = true := by kernel_rfl
  have FA := find183 h k (-1) (by rw [hk]; rfl)
  have c0 := (cell2 h.box).1
  have c1 := (cell2 h.box).2
  have hvn := h.n
  obtain ⟨va, vn, vc⟩ := v
  simp only at hvn c1
  have hI : ¬ (64 : Int) < (n : Int) := by omega
  have hI2 : most ≤ (vn : Int) := by omega
  clear h hk hn hf hvn
  go_enter Try.func137, Try.ntmps137
  go_wp2_with (go_at_call 183; refine FA.mono ?_; rintro e w1 ⟨rfl, hw⟩; obtain rfl := hw.symm)
  go_quiet (fail)
  clear mixed c0 c1
  go_wp2
  go_ret2
  exact ⟨rfl, kpN (Kp.refl _ _) nq⟩
end
end Go.Proofs.Ytchealdgncgjoaa.StU
namespace Go.Proofs.Ytchealdgncgjoaa.StU
open Go.RowKit Go.Proofs.Ytchealdgncgjoaa.St Go.Shelf
set_option linter.unusedVariables false
theorem modify_set {α : Type} (f : α → α) : ∀ (M : List α) (i : Nat) (m : α), M[i]? = some m → M.modify i f = M.set i (f m)
  | [], i, m, h => by simp at h
  | a :: M, 0, m, h => by simp at h; subst h; rfl
  | a :: M, i + 1, m, h => by
    have := modify_set f M i m (by simpa using h)
    rw [List.modify_succ_cons, List.set_cons_succ, this]
theorem pc_set : ∀ (L : List (Int × Sv)) (j : Nat) (p : Int × Sv) (q : Sv), L[j]? = some p → (pc L).set (j * 2 + 1) (sl q) = pc (L.set j (p.1, q))
  | [], j, p, q, h => by simp at h
  | a :: L, 0, p, q, h => by simp at h; subst h; rfl
  | a :: L, j + 1, p, q, h => by
    have := pc_set L j p q (by simpa using h)
    rw [show (j + 1) * 2 + 1 = j * 2 + 1 + 1 + 1 by omega]
    show (Value.int .u64 a.1 :: sl a.2 :: pc L).set (j * 2 + 1 + 1 + 1) (sl q) = Value.int .u64 a.1 :: sl a.2 :: pc (L.set j (p.1, q))
    rw [List.set_cons_succ, List.set_cons_succ, this]
theorem F2.set {α β : Type} {R : α → β → Prop} : ∀ {xs : List α} {zs : List β} {j : Nat} {a : α} {b : β}, F2 R xs zs → R a b → F2 R (xs.set j a) (zs.set j b)
  | [], [], _, _, _, _, _ => trivial
  | x :: xs, z :: zs, 0, a, b, h, h1 => ⟨h1, h.2⟩
  | x :: xs, z :: zs, j + 1, a, b, h, h1 => ⟨h.1, F2.set h.2 h1⟩
  | [], z :: zs, _, a, b, h, _ => h.elim
  | x :: xs, [], _, a, b, h, _ => h.elim
theorem row2_set {w : World} {B n i : Nat} {r cap : Nat} {l : List Value} (h : w.ownsRow B 196 2 (.slice (some ⟨r, 0, none⟩) n cap) n l) (u : Value) : (w.setCell ⟨r, i, none⟩ u).ownsRow B 196 2 (.slice (some ⟨r, 0, none⟩) n cap) n (l.set i u) := by
  refine ⟨by simpa using h.1, ?_⟩
  rcases h.2 with ⟨e, h0⟩ | ⟨g, cap', cur, e, hb, hg, h1, h2, h3, h4⟩
  · cases e
  · cases e
    refine .inr ⟨r, cap, cur.setIfInBounds i u, rfl, hb, set3 hg i u, h1, h2, by simpa using h3, ?_⟩
    rw [Array.toList_setIfInBounds, ← h4, List.take_set]
/-- a value is set in place -/
theorem Rs.put {W : World} {rb r cap : Nat} {most : Int} {L : List (Int × Sv)} {M : List KV} {n i : Nat} {k : Int} {q : Sv} {ys : List Int} {m : KV} (h : Rs W rb most ⟨some ⟨r, 0, none⟩, n, cap⟩ L M) (hi : M[i]? = some m) (em : m.1 = k) (hq : FV W (k, q) (k, ys)) :
    Rs (W.setCell ⟨r, i * 2 + 1, none⟩ (.slice q.a q.n q.c)) rb most ⟨some ⟨r, 0, none⟩, n, cap⟩ (L.set i (k, q)) (putM k ys M) := by
  obtain ⟨p, r', hp, hf, er, d0, d1⟩ := h.at_ hi
  have hm := List.mem_of_getElem? hi
  obtain ⟨hs1, _⟩ := h.ris.get hm
  have hpl := h.ris.pl hi
  rw [em] at hs1 hpl
  have e : putM k ys M = M.set i (k, ys) := by
    unfold putM
    rw [if_pos hs1, hpl, modify_set _ _ _ _ hi, em]
  obtain ⟨cur, hcur⟩ := own_obj h.own (show (Value.slice (some ⟨r, 0, none⟩) n cap).ownBlock = some r from rfl)
  have hne : rb ≠ r := fun e => by have := h.box; rw [e, hcur] at this; cases this
  have ks := Kp.setCell W ⟨r, i * 2 + 1, none⟩ (.slice q.a q.n q.c)
  have hS : ∀ j c, j = r → W.heap[j]? ≠ some (.cells c 5 (0, 0)) := fun j c e hc => by rw [e, hcur] at hc; cases hc
  have hnl : n = L.length := by have := h.n; rw [h.len]; exact this
  refine ⟨(ks.block rb (blk_lt h.box) hne).trans h.box, ?_, ?_, ris_put h.ris k ys, ?_, h.mo⟩
  · have hpk : p.1 = k := by rw [hf.1, em]
    have h1 := h.own
    rw [List.length_set]
    simp only at h1 ⊢
    rw [← hnl] at h1 ⊢
    have h2 := row2_set (i := i * 2 + 1) h1 (.slice q.a q.n q.c)
    rw [show (pc L).set (i * 2 + 1) (.slice q.a q.n q.c) = pc (L.set i (k, q)) by rw [← hpk]; exact pc_set L i p q hp] at h2
    exact h2
  · rw [e]
    exact F2.set (h.f.imp (fun p m hf => hf.keep ks hS)) (hq.keep ks hS)
  · rw [e, List.length_set]; exact h.lm
end Go.Proofs.Ytchealdgncgjoaa.StU
