import Derived.Test.YtchealdgncgjoaaRtA
namespace Go.Proofs.Ytchealdgncgjoaa.StU
open Go.RowKit Go.Proofs.Ytchealdgncgjoaa.St Go.Shelf
set_option linter.unusedVariables false
set_option linter.unusedSimpArgs false
/-- values that are new, or stood there before -/
def Vn (B : Nat) (xs zs : List (Int × Sv)) : Prop := ∀ p ∈ zs, p ∈ xs ∨ ∀ g, (sl p.2).ownBlock = some g → B ≤ g
theorem Vn.refl (B : Nat) (xs : List (Int × Sv)) : Vn B xs xs := fun p hp => .inl hp
theorem Vn.trans {B : Nat} {xs zs us : List (Int × Sv)} (h : Vn B xs zs) (k : Vn B zs us) : Vn B xs us := fun p hp => by
  rcases k p hp with h1 | h1
  · exact h p h1
  · exact .inr h1
theorem Vn.mono {B B' : Nat} {xs zs : List (Int × Sv)} (h : Vn B xs zs) (hb : B' ≤ B) : Vn B' xs zs := fun p hp => by
  rcases h p hp with h1 | h1
  · exact .inl h1
  · exact .inr (fun g hg => Nat.le_trans hb (h1 g hg))
def Sb (xs zs : List (Int × Sv)) : Prop := ∀ p ∈ zs, p ∈ xs
theorem Vn.sub {B : Nat} {xs zs : List (Int × Sv)} (h : Sb xs zs) : Vn B xs zs := fun p hp => .inl (h p hp)
theorem mem_modify {α : Type} (f : α → α) : ∀ {l : List α} {i : Nat} {p : α}, p ∈ l.modify i f → p ∈ l ∨ ∃ q ∈ l, p = f q
  | [], i, p, h => by simp at h
  | a :: l, 0, p, h => by
    simp at h
    rcases h with rfl | h
    · exact .inr ⟨a, by simp, rfl⟩
    · exact .inl (by simp [h])
  | a :: l, i + 1, p, h => by
    simp at h
    rcases h with rfl | h
    · exact .inl (by simp)
    · rcases mem_modify f h with h1 | ⟨q, h1, h2⟩
      · exact .inl (by simp [h1])
      · exact .inr ⟨q, by simp [h1], h2⟩
theorem vn_put {B : Nat} {k : Int} {v : Sv} {t : T (Int × Sv)} (hv : ∀ g, (sl v).ownBlock = some g → B ≤ g) : Vn B t.xs (putT k v t).xs := fun p hp => by
  rw [put_xs] at hp
  split at hp
  · rcases mem_modify _ hp with h | ⟨q, _, rfl⟩
    · exact .inl h
    · exact .inr hv
  · rcases List.mem_append.1 hp with h | h
    · exact .inl (List.mem_of_mem_take h)
    · rcases List.mem_cons.1 h with rfl | h
      · exact .inr hv
      · exact .inl (List.mem_of_mem_drop h)
theorem del_mem {k : Int} {t : T (Int × Sv)} : Sb t.xs (delT k t).xs := fun p hp => by
  rw [del_xs] at hp
  split at hp
  · exact List.mem_of_mem_eraseIdx hp
  · exact hp
section
variable {w : World} {sb mb : Nat} {most : Int} {t : T (Int × Sv)} {M : List KV}
set_option maxRecDepth 100000 in
set_option maxHeartbeats 2000000 in
theorem del130v (h : Sh w sb mb most t M) (k : Int) :
    Calls Try.prog 130 #[.pointer (some ⟨sb, 0, none⟩), .int .u64 k] w fun e w' => e = .returned (.bool (hs k M)) ∧ (∃ t', Sh w' sb mb most t' (delM k M) ∧ Sb t.xs t'.xs) ∧ Kp (Sm sb mb) w w' := by
  have HA := held_any h
  have DA := StU.del_any h.m k (by have := h.small; omega)
  rw [h.hs] at DA
  have HX : ∀ W', Kp (fun i => i = mb) w W' → W'.heap[sb]? = some (.cells #[.int .i64 most, .int .i64 (sumB M : Int), .pointer (some ⟨mb, 0, none⟩)] 172 (0, 0)) := fun W' p => (p.block _ (blk_lt h.box) h.ne).trans h.box
  have HO : ∃ a0 n0 k0, ov (getT k t) = .slice a0 n0 k0 ∧ n0 = (gtM k M).length := by
    cases hk : StU.hs k M with
    | true =>
      obtain ⟨p, m, eg, _, hm, hf, _⟩ := h.yes hk
      exact ⟨p.2.a, p.2.n, p.2.c, by rw [eg]; rfl, by rw [gtM_yes hk hm]; exact hf.n⟩
    | false => exact ⟨none, 0, 0, by rw [h.no hk]; rfl, by rw [gtM_no hk]; rfl⟩
  obtain ⟨a0, n0, k0, ec, en⟩ := HO
  rw [ec] at DA
  have hsum := delM_sum (k := k) h
  have hle := h.sum
  rw [← en] at hsum
  have hS5 : ∀ i c, Sm sb mb i → w.heap[i]? ≠ some (.cells c 5 (0, 0)) := fun i c hs hc => by
    obtain ⟨am0, hm01, _⟩ := h.m.ex
    rcases hs with rfl | rfl
    · rw [h.box] at hc; cases hc
    · rw [hm01] at hc; cases hc
  have FIN : Hid (∀ (W' : World) (x : Int), Kp (fun i => i = mb) w W' → Mp W' mb (delT k t) → x = (sumB (delM k M) : Int) → Sh (W'.setCell ⟨sb, 1, none⟩ (.int .i64 x)) sb mb most (delT k t) (delM k M) ∧ Kp (Sm sb mb) w (W'.setCell ⟨sb, 1, none⟩ (.int .i64 x))) := fun W' x p hm ex => by
    have hb := HX W' p
    have hne := h.ne
    have k1 : Kp (Sm sb mb) w (W'.setCell ⟨sb, 1, none⟩ (.int .i64 x)) := (p.mono (fun _ _ e => .inr e)).trans (Kp.setCell _ _ _) (fun _ _ e => .inl e)
    obtain ⟨am, hm1, hm2⟩ := hm.ex
    have ks := Kp.setCell W' ⟨sb, 1, none⟩ (.int .i64 x)
    refine ⟨⟨box_set hb ex, ⟨⟨am, (ks.block _ (blk_lt hm1) (fun e => hne e.symm)).trans hm1, hm2.keep (Kn.of ks (fun b c hbb e => by have e : b = sb := e; rw [e, hb] at hbb; cases hbb))⟩, hm.bal, hm.srt⟩,
      del_F2 h (h.vs.imp (fun p m hf => hf.keep k1 hS5)), ?_, h.mo⟩, k1⟩
    rw [delM_length]
    have := h.lm
    split <;> omega
  have FIN0 : Hid (StU.hs k M = false → ∀ (W' : World), Kp (fun i => i = mb) w W' → Mp W' mb (delT k t) → Sh W' sb mb most (delT k t) (delM k M) ∧ Kp (Sm sb mb) w W') := fun hk W' p hm => by
    have hb := HX W' p
    have k1 : Kp (Sm sb mb) w W' := p.mono (fun _ _ e => .inr e)
    have e : delM k M = M := by unfold delM; rw [hk]; rfl
    refine ⟨⟨by rw [e]; exact hb, hm, del_F2 h (h.vs.imp (fun p m hf => hf.keep k1 hS5)), by rw [e]; exact h.lm, h.mo⟩, k1⟩
  obtain ⟨S0, eS⟩ : ∃ S0 : Int, (sumB M : Int) = S0 := ⟨_, rfl⟩
  rw [eS] at HX
  obtain ⟨S1, eS1⟩ : ∃ S1 : Int, (sumB (delM k M) : Int) = S1 := ⟨_, rfl⟩
  rw [eS1] at FIN
  have HE : Hid (S1 = S0 - (n0 : Int) ∧ 0 ≤ S1 ∧ S0 ≤ 2097152) := by refine ⟨?_, ?_, ?_⟩ <;> omega
  cases hb : StU.hs k M with
  | true =>
    rw [hb] at DA
    clear h hsum hle hS5 ec en eS eS1 hb FIN0
    go_enter Try.func130, Try.ntmps130
    go_wp2_with (first
      | (go_at_call 114; refine HA.mono ?_; rintro e w' ⟨rfl, hw⟩; obtain rfl := hw.symm)
      | (go_at_call 179; refine DA.mono ?_; rintro e w3 ⟨rfl, m3, k3⟩; have x3 := HX _ k3; obtain ⟨y0, y1, y2⟩ := cell3 x3; have f3 := free3 x3 1))
    go_ret
    have hF := fun x hx => FIN.out w3 x k3 m3 hx
    refine ⟨rfl, ⟨_, (hF _ ?_).1, del_mem⟩, (hF _ ?_).2⟩
    all_goals (have h1 := HE.out; first | omega | (unfold wrap64; omega))
  | false =>
    rw [hb] at DA
    have HB := hide hb
    clear h hsum hle hS5 ec en eS eS1 hb FIN
    go_enter Try.func130, Try.ntmps130
    go_wp2_with (first
      | (go_at_call 114; refine HA.mono ?_; rintro e w' ⟨rfl, hw⟩; obtain rfl := hw.symm)
      | (go_at_call 179; refine DA.mono ?_; rintro e w3 ⟨rfl, m3, k3⟩))
    go_ret
    obtain ⟨f1, f2⟩ := FIN0.out HB.out w3 k3 m3
    exact ⟨rfl, ⟨_, f1, del_mem⟩, f2⟩
set_option maxRecDepth 100000 in
set_option maxHeartbeats 2000000 in
theorem cut_okv (h : Sh w sb mb most t M) (lo hi : Int) (hlh : lo ≤ hi) : Calls Try.prog 63 #[.pointer (some ⟨sb, 0, none⟩), .int .u64 lo, .int .u64 hi] w fun e w' => ∃ gk L K, e = .returned (.tuple #[.slice (some ⟨gk, 0, none⟩) K K, .int .i64 0]) ∧ K = (rg lo hi M).length ∧ Cd w' w.heap.size gk K L (rg lo hi M) ∧ (∃ t', Sh w' sb mb most t' (cutM lo hi M) ∧ Sb t.xs t'.xs) ∧ Kp (Sm sb mb) w w' := by
  have MA := made117 h
  have CA := count_any54 h lo hi
  obtain ⟨R, eR⟩ : ∃ R, rg lo hi M = R := ⟨_, rfl⟩
  obtain ⟨K, eK⟩ : ∃ K, R.length = K := ⟨_, rfl⟩
  have CP : ∀ W, Kp Nu w W → Calls Try.prog 121 #[.pointer (some ⟨sb, 0, none⟩), .int .u64 lo, .int .u64 hi, .int .i64 (K : Int)] W fun e w' => ∃ gk L, e = .returned (.slice (some ⟨gk, 0, none⟩) K K) ∧ Hid (Cd w' w.heap.size gk K L R ∧ Kp Nu w w') := fun W q => by
    refine (copies_any (h.nu q) lo hi K (by rw [eR, eK]; exact Nat.le_refl _)).mono ?_
    rintro e w' ⟨gk, L, e1, e2, e3⟩
    rw [eR, ← eK, List.take_length, eK] at e2
    exact ⟨gk, L, e1, ⟨own_base e2.own q.size, e2.f, fun p hp g hg => Nat.le_trans q.size (e2.lo p hp g hg), e2.ap⟩, q.andNu e3⟩
  rw [eR, eK] at CA
  have hKb : K ≤ 32768 := by
    have h1 : (rg lo hi M).length ≤ M.length := List.length_filter_le _ _
    have := h.small; have := h.sz
    rw [eR, eK] at h1; omega
  have HH := hide (And.intro h (And.intro eR (And.intro eK hKb)))
  rw [eR]
  clear h eR eK hKb
  go_enter Try.func63, Try.ntmps63
  go_wp2_with (first
    | (go_at_call 117; refine MA.mono ?_; rintro e w' ⟨rfl, hw⟩; obtain rfl := hw.symm)
    | (go_at_call 54; refine CA.mono ?_; rintro e w1 ⟨rfl, k1⟩)
    | (go_at_call 121; refine (CP _ k1).mono ?_; rintro e w2 ⟨gk, L, rfl, h2⟩))
  go_loopw [27] (fun it wr => ∃ i : Nat, it = .int .i64 (i : Int) ∧ i ≤ K ∧ Hid (∃ t', (Sh wr sb mb most t' (delAll (R.take i) M) ∧ Sb t.xs t'.xs) ∧ Kp (Sm sb mb) w2 wr)) (fun it _ => K - (intOf it).toNat)
  case atStart => exact ⟨0, rfl, Nat.zero_le _, t, ⟨HH.out.1.nu h2.out.2, fun p hp => hp⟩, Kp.refl _ _⟩
  case round =>
    obtain ⟨i, rfl, hiK, HI⟩ := hrel
    obtain ⟨t', ⟨hsh, hmm⟩, kwr⟩ := HI.out
    have hcd := h2.out.1.keep kwr (fun j c ty hs hc => by rcases (HH.out.1.nu h2.out.2).sm j c ty _ hs hc with rfl | rfl <;> decide)
    by_cases hlt : i < K
    · obtain ⟨m, hm⟩ : ∃ m, R[i]? = some m := ⟨_, List.getElem?_eq_getElem (by rw [HH.out.2.2.1]; exact hlt)⟩
      obtain ⟨p, hp, hfv, d0, d1⟩ := hcd.at_ hm
      have ka := Kp.alloc wr (.cells #[.int .u64 m.1, .slice p.2.a p.2.n p.2.c] 78) Nu
      have DA := del130v (hsh.nu ka) m.1
      have x0 := (cell2 (heap_alloc_new wr (.cells #[.int .u64 m.1, .slice p.2.a p.2.n p.2.c] 78))).1
      have e : delAll (R.take (i + 1)) M = delM m.1 (delAll (R.take i) M) := by
        rw [List.take_add_one, hm]
        exact delAll_snoc _ _ _
      rw [← e] at DA
      have hltI : (i : Int) < (K : Int) := by omega
      have hi00 : (0 : Int) ≤ (i : Int) := by omega
      have hwi : wrap64 ((i : Int) + 1) = ((i + 1 : Nat) : Int) := by have := HH.out.2.2.2; unfold wrap64; omega
      have HMM := hide hmm
      have HW := hide (And.intro hlt (And.intro hwi (kwr.andNu ka)))
      generalize StU.hs m.1 (delAll (R.take i) M) = bb at *
      generalize m.1 = mk at *
      obtain ⟨pk, ⟨pa, pn, pcc⟩⟩ := p
      clear hm hp hfv hcd hsh hmm kwr ka e HI hlt hiK hwi
      go_wp2_with (go_at_call 130; refine DA.mono ?_; rintro e w3 ⟨rfl, h3, k3⟩)
      have HF : Hid (∃ t', (Sh w3 sb mb most t' (delAll (R.take (i + 1)) M) ∧ Sb t.xs t'.xs) ∧ Kp (Sm sb mb) w2 w3) := by
        obtain ⟨t'', e1, e2⟩ := h3
        exact ⟨t'', ⟨e1, fun p hp => HMM.out p (e2 p hp)⟩, HW.out.2.2.trans k3 (fun _ _ e => e)⟩
      clear h3 k3 DA
      go_wp2
      exact ⟨⟨i + 1, by rw [HW.out.2.1], HW.out.1, HF⟩, lt_mi HW.out.2.1 HW.out.1⟩
    · obtain rfl : i = K := by omega
      rw [List.take_of_length_le (by rw [HH.out.2.2.1]; exact Nat.le_refl _), ← HH.out.2.1, delAll_rg HH.out.1.ris] at hsh
      have hnl : ¬ (i : Int) < (i : Int) := by omega
      have HZ := hide (And.intro hcd (And.intro (And.intro hsh hmm) ((h2.out.2.mono (fun _ _ e => e.elim)).trans kwr (fun _ _ e => e))))
      clear hcd hsh hmm kwr HI hlt hiK
      go_wp2
      go_ret2
      exact ⟨gk, L, i, rfl, HH.out.2.2.1.symm, HZ.out.1, ⟨t', HZ.out.2.1.1, HZ.out.2.1.2⟩, HZ.out.2.2⟩
set_option maxRecDepth 100000 in
set_option maxHeartbeats 2000000 in
theorem lay_anyv (h : Sh w sb mb most t M) (v : Value) (S : List Pg) (hS : Wp w v S) (hsl : S.length ≤ 4398046511104) : Calls Try.prog 64 #[.pointer (some ⟨sb, 0, none⟩), v] w fun e w' => ∃ c, e = .returned (.int .i64 c) ∧ BarR S M most c ∧ (∃ t', Sh w' sb mb most t' (if c = 0 then layM S M else M) ∧ Vn w.heap.size t.xs t'.xs) ∧ Kp (Sm sb mb) w w' := by
  have BA := bars_any h v S hS hsl
  have HW := hS
  obtain ⟨ad, cap, rfl, hc⟩ := hS
  obtain ⟨N, eN⟩ : ∃ N, S.length = N := ⟨_, rfl⟩
  rw [eN] at hsl
  have HH := hide (And.intro h (And.intro eN (And.intro hsl HW)))
  rw [eN] at BA ⊢
  clear h hc hsl HW
  by_cases hz : ∃ c, BarR S M most c ∧ c ≠ 0
  · obtain ⟨c0, hc0, hcn⟩ := hz
    have BA2 : Calls Try.prog 131 #[.pointer (some ⟨sb, 0, none⟩), .slice ad N cap] w fun e w' => e = .returned (.int .i64 c0) ∧ Kp Nu w w' := by
      refine BA.mono ?_
      rintro e w' ⟨c, e1, e2, e3⟩
      have : c = c0 := by
        rcases e2 with ⟨a1, rfl⟩ | ⟨a1, ⟨s, hs1, hs2⟩, rfl⟩ | ⟨a1, a2, ⟨s, hs1, hs2⟩, rfl⟩ | ⟨a1, a2, a3, a4, rfl⟩ | ⟨a1, a2, a3, a4, rfl⟩ <;>
          rcases hc0 with ⟨b1, rfl⟩ | ⟨b1, ⟨q, hq1, hq2⟩, rfl⟩ | ⟨b1, b2, ⟨q, hq1, hq2⟩, rfl⟩ | ⟨b1, b2, b3, b4, rfl⟩ | ⟨b1, b2, b3, b4, rfl⟩ <;>
          first
            | rfl
            | exact absurd b1 a1
            | exact absurd a1 b1
            | exact absurd rfl hcn
            | (have := a2 _ hq1; omega)
            | (have := b2 _ hs1; omega)
            | (have := a3 _ hq1; rw [hq2] at this; cases this)
            | (have := b3 _ hs1; rw [hs2] at this; cases this)
            | omega
      exact ⟨by rw [e1, this], e3⟩
    have hnz : (c0 != 0) = true := by simpa using hcn
    have HC := hide (And.intro hc0 hcn)
    clear BA hc0 hcn
    go_enter Try.func64, Try.ntmps64
    go_wp2_with (go_at_call 131; refine BA2.mono ?_; rintro e w1 ⟨rfl, k1⟩)
    go_ret
    exact ⟨_, rfl, HC.out.1, ⟨t, by rw [if_neg HC.out.2]; exact HH.out.1.nu k1, Vn.refl _ _⟩, k1.mono (fun _ _ e => e.elim)⟩
  · have BA2 : Calls Try.prog 131 #[.pointer (some ⟨sb, 0, none⟩), .slice ad N cap] w fun e w' => e = .returned (.int .i64 0) ∧ Hid (BarR S M most 0 ∧ Kp Nu w w') := by
      refine BA.mono ?_
      rintro e w' ⟨c, e1, e2, e3⟩
      have : c = 0 := by
        rcases Decidable.em (c = 0) with h | h
        · exact h
        · exact absurd ⟨c, e2, h⟩ hz
      rw [this] at e1 e2
      exact ⟨e1, e2, e3⟩
    clear BA hz
    go_enter Try.func64, Try.ntmps64
    go_wp2_with (go_at_call 131; refine BA2.mono ?_; rintro e w1 ⟨rfl, H1⟩)
    go_loopw [16] (fun it wr => ∃ i : Nat, it = .int .i64 (i : Int) ∧ i ≤ N ∧ Hid (∃ t', (Sh wr sb mb most t' (layM (S.take i) M) ∧ Vn w.heap.size t.xs t'.xs) ∧ Kp (Sm sb mb) w wr)) (fun it _ => N - (intOf it).toNat)
    case atStart => exact ⟨0, rfl, Nat.zero_le _, t, ⟨HH.out.1.nu H1.out.2, Vn.refl _ _⟩, H1.out.2.mono (fun _ _ e => e.elim)⟩
    case round =>
      obtain ⟨i, rfl, hi, HI⟩ := hrel
      obtain ⟨t', ⟨hsh, hvn⟩, kwr⟩ := HI.out
      by_cases hlt : i < N
      · obtain ⟨s, hsi⟩ : ∃ s, S[i]? = some s := ⟨_, List.getElem?_eq_getElem (by rw [HH.out.2.1]; exact hlt)⟩
        obtain ⟨ad', cap', e', hcell⟩ := HH.out.1.wpk kwr HH.out.2.2.2
        cases e'
        obtain ⟨b, off, ead, c0, c1, hrd, hby, hk0, hk1, hyl⟩ := hcell i s hsi
        have hmem := List.mem_of_getElem? hsi
        obtain ⟨sk, ⟨sa, sn, sc⟩, sy⟩ := s
        have hbar : sy.length ≤ 64 ∧ (M.length : Int) + (N : Int) ≤ most := by
          rcases H1.out.1 with ⟨_, h⟩ | ⟨_, _, h⟩ | ⟨_, _, _, h⟩ | ⟨_, _, _, _, h⟩ | ⟨_, h2, _, h4, _⟩
          · cases h
          · cases h
          · cases h
          · cases h
          · rw [HH.out.2.1] at h4; exact ⟨h2 _ hmem, h4⟩
        have ka := Kp.alloc wr (.cells #[.int .u64 sk, .slice sa sn sc] 78) Nu
        obtain ⟨x0, x1⟩ := cell2 (heap_alloc_new wr (.cells #[.int .u64 sk, .slice sa sn sc] 78))
        have e : layM (S.take (i + 1)) M = putM sk sy (layM (S.take i) M) := by
          rw [List.take_add_one, hsi]
          exact layM_snoc _ _ _
        have hll := layM_le (S.take i) M
        have hlti : (S.take i).length ≤ i := by rw [List.length_take]; omega
        have SA := set_ok (hsh.nu ka) sk hk0 hk1 _ sy (hrd.nu ka) hbar.1 hby (.inr (by have := hbar.2; omega))
        rw [← e] at SA
        have hltI : (i : Int) < (N : Int) := by omega
        have hi00 : (0 : Int) ≤ (i : Int) := by omega
        have hwi : wrap64 ((i : Int) + 1) = ((i + 1 : Nat) : Int) := by have := HH.out.2.2.1; unfold wrap64; omega
        have HVN := hide hvn
        have HW := hide (And.intro hlt (And.intro hwi (kwr.andNu ka)))
        subst ead
        generalize (!StU.hs sk (layM (S.take i) M)) = bb at *
        clear hsi hcell hrd hby hk0 hk1 hyl hmem hbar hsh hvn kwr ka e hll hlti HI hlt hi hwi
        go_wp2_with (go_at_call 47; refine SA.mono ?_; rintro e w3 ⟨rfl, h3, k3⟩)
        have HF : Hid (∃ t', (Sh w3 sb mb most t' (layM (S.take (i + 1)) M) ∧ Vn w.heap.size t.xs t'.xs) ∧ Kp (Sm sb mb) w w3) := by
          obtain ⟨v', e0, e1⟩ := h3
          exact ⟨_, ⟨e1, HVN.out.trans (vn_put (fun g hg => Nat.le_trans HW.out.2.2.size (e0 g hg)))⟩, HW.out.2.2.trans k3 (fun _ _ e => e)⟩
        clear h3 k3 SA
        go_wp2
        exact ⟨⟨i + 1, by rw [HW.out.2.1], HW.out.1, HF⟩, lt_mi HW.out.2.1 HW.out.1⟩
      · obtain rfl : i = N := by omega
        rw [List.take_of_length_le (by rw [HH.out.2.1]; exact Nat.le_refl _)] at hsh
        have hnl : ¬ (i : Int) < (i : Int) := by omega
        have HZ := hide (And.intro (And.intro hsh hvn) kwr)
        clear hsh hvn kwr HI hlt hi
        go_wp2
        go_ret
        exact ⟨0, rfl, H1.out.1, ⟨t', by rw [if_pos rfl]; exact HZ.out.1.1, HZ.out.1.2⟩, HZ.out.2⟩
end
end Go.Proofs.Ytchealdgncgjoaa.StU
