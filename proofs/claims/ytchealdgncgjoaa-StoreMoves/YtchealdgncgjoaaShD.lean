import Derived.Test.YtchealdgncgjoaaShC
namespace Go.Proofs.Ytchealdgncgjoaa.StU
open Go.RowKit Go.Proofs.Ytchealdgncgjoaa.St
set_option linter.unusedVariables false
theorem box_set {w : World} {b : Nat} {x z : Value} {y s s' : Int} {t : TypeId} (h : w.heap[b]? = some (.cells #[x, .int .i64 y, z] t (0, 0))) (e : s = s') : (w.setCell ⟨b, 1, none⟩ (.int .i64 s)).heap[b]? = some (.cells #[x, .int .i64 s', z] t (0, 0)) := by
  subst e; rw [set3 h]; rfl
/-- what a call on a shelf turns -/
abbrev Sm (sb mb : Nat) (i : Nat) : Prop := i = sb ∨ i = mb
section
variable {w : World} {sb mb : Nat} {most : Int} {t : T (Int × Sv)} {M : List KV}
set_option maxRecDepth 100000 in
set_option maxHeartbeats 400000 in
theorem new_ok (w : World) (most : Int) (h0 : 0 ≤ most) (h1 : most ≤ 32768) : Calls Try.prog 45 #[.int .i64 most] w fun e w' => ∃ sb mb, e = .returned (.tuple #[.pointer (some ⟨sb, 0, none⟩), .int .i64 0]) ∧ w.heap.size ≤ sb ∧ w.heap.size ≤ mb ∧ Sh w' sb mb most .nil [] ∧ Kp Nu w w' := by
  have NA := new_any w
  have hl0 : ¬ most < 0 := by omega
  have hl1 : ¬ 32768 < most := by omega
  have HH := hide (And.intro h0 h1)
  clear h0 h1
  go_enter Try.func45, Try.ntmps45
  go_wp2_with (go_at_call 113; refine NA.mono ?_; rintro e w1 ⟨rfl, m1, k1⟩)
  go_ret2
  have ka := Kp.alloc w1 (.cells #[.int .i64 most, .int .i64 0, .pointer (some ⟨w.heap.size, 0, none⟩)] 172) Nu
  refine ⟨w1.heap.size, w.heap.size, rfl, k1.size, Nat.le_refl _, ⟨heap_alloc_new w1 _, m1.nu ka, trivial, by simpa using HH.out.1, HH.out.2⟩, k1.andNu ka⟩
set_option maxRecDepth 100000 in
set_option maxHeartbeats 400000 in
theorem set_long (h : Sh w sb mb most t M) (k : Int) (ad : Option Addr) (n c : Nat) (hn : 64 < n) : Calls Try.prog 47 #[.pointer (some ⟨sb, 0, none⟩), .int .u64 k, .slice ad n c] w fun e w' => e = .returned (.tuple #[.bool false, .int .i64 70]) ∧ w' = w := by
  have MA := made117 h
  have MY := may_any w ad n c
  have hd : decide ((n : Int) ≤ 64) = false := by rw [decide_eq_false_iff_not]; omega
  rw [hd] at MY
  clear h hn hd
  go_enter Try.func47, Try.ntmps47
  go_wp2_with (first
    | (go_at_call 117; refine MA.mono ?_; rintro e w' ⟨rfl, hw⟩; obtain rfl := hw.symm)
    | (go_at_call 118; refine MY.mono ?_; rintro e w' ⟨rfl, hw⟩; obtain rfl := hw.symm))
  go_ret2
  exact ⟨rfl, rfl⟩
theorem kp_drews {S : Nat → Prop} {a w : World} (h : Kp S a w) : Kp S a w.drew := h.drew
set_option maxRecDepth 100000 in
set_option maxHeartbeats 2000000 in
theorem set_ok (h : Sh w sb mb most t M) (k : Int) (hk0 : 0 ≤ k) (hk1 : k ≤ 18446744073709551615) (u : Value) (ys : List Int) (hu : Rd w u ys) (hy : ys.length ≤ 64) (hby : Byt ys) (hr : hs k M = true ∨ (M.length : Int) < most) :
    Calls Try.prog 47 #[.pointer (some ⟨sb, 0, none⟩), .int .u64 k, u] w fun e w' => e = .returned (.tuple #[.bool (!hs k M), .int .i64 0]) ∧
      (∃ v : Sv, (∀ g, (Value.slice v.a v.n v.c).ownBlock = some g → w.heap.size ≤ g) ∧ Sh w' sb mb most (putT k v t) (putM k ys M)) ∧ Kp (Sm sb mb) w w' := by
  have mixed : Try.prog.follows .mixedOrders = true := by kernel_rfl
  obtain ⟨ad, cap, rfl⟩ := hu.slice
  have MA := made117 h
  have MY := may_any w ad ys.length cap
  have hd : decide ((ys.length : Int) ≤ 64) = true := by rw [decide_eq_true_iff]; omega
  rw [hd] at MY
  have GA := get_any h.m k (by have := h.small; omega)
  have hsm := h.small
  have hhs := h.hs k
  rw [hhs] at GA
  have RA : ∀ W, Kp Nu w W → Calls Try.prog 119 #[.pointer (some ⟨sb, 0, none⟩)] W fun e w' => e = .returned (.int .i64 (most - (M.length : Int))) ∧ Kp Nu w w' := fun W q => (room_any (h.nu q)).mono fun e w' ⟨e1, n, e2⟩ => ⟨e1, by rw [e2]; exact kpN q n⟩
  have CA : ∀ W, Kp Nu w W → Calls Try.prog 116 #[.slice ad ys.length cap] W fun e w' => ∃ v : Sv, e = .returned (.slice v.a v.n v.c) ∧ w'.ownsRow w.heap.size 5 1 (.slice v.a v.n v.c) ys.length (cs ys) ∧ Kp Nu w w' := fun W q => by
    refine (clone_any W _ ys (hu.nu q) (by omega)).mono ?_
    rintro e w' ⟨v, e1, e2, e3⟩
    exact ⟨v, e1, own_base e2 q.size, q.andNu e3⟩
  have PA : ∀ W (v : Sv), Kp Nu w W → Calls Try.prog 120 #[.pointer (some ⟨mb, 0, none⟩), .int .u64 k, .slice v.a v.n v.c] W fun e w' => e = .returned (.tuple #[ov (getT k t), .bool (hs k M)]) ∧ Mp w' mb (putT k v t) ∧ Kp (fun i => i = mb) W w' := fun W v q => by
    rw [← hhs]; exact put_any (h.m.nu q) k v (by omega)
  have c2 := (cell3 h.box).2.2
  have HB : ∀ W, Kp Nu w W → W.cell? ⟨sb, 2, none⟩ = some (.pointer (some ⟨mb, 0, none⟩)) := fun W q => (cell3 (h.nu q).box).2.2
  have HX : ∀ W W', Kp Nu w W → Kp (fun i => i = mb) W W' → W'.heap[sb]? = some (.cells #[.int .i64 most, .int .i64 (sumB M : Int), .pointer (some ⟨mb, 0, none⟩)] 172 (0, 0)) := fun W W' q p => (p.block _ (blk_lt (h.nu q).box) h.ne).trans (h.nu q).box
  have HO : ∃ a0 n0 k0, ov (getT k t) = .slice a0 n0 k0 ∧ n0 = (gtM k M).length := by
    cases hk : hs k M with
    | true =>
      obtain ⟨p, m, eg, _, hm, hf, _⟩ := h.yes hk
      exact ⟨p.2.a, p.2.n, p.2.c, by rw [eg]; rfl, by rw [gtM_yes hk hm]; exact hf.n⟩
    | false => exact ⟨none, 0, 0, by rw [h.no hk]; rfl, by rw [gtM_no hk]; rfl⟩
  obtain ⟨a0, n0, k0, ec, en⟩ := HO
  rw [ec] at GA PA
  have hsum := putM_sum (k := k) (ys := ys) h
  have hle := h.sum
  rw [← en] at hsum
  have hn0 : n0 ≤ 2097216 := by
    rw [en]
    have := putM_sum (k := k) (ys := ys) h
    omega
  have HE : Hid ((sumB (putM k ys M) : Int) = (sumB M : Int) + ((ys.length : Int) - (n0 : Int)) ∧ (sumB M : Int) ≤ 2097152 ∧ (n0 : Int) ≤ 2097216 ∧ (ys.length : Int) ≤ 64) := by
    refine ⟨?_, ?_, ?_, ?_⟩ <;> omega
  have FIN : Hid (∀ (v : Sv) (W W' : World) (x : Int), Kp Nu w W → W.ownsRow w.heap.size 5 1 (.slice v.a v.n v.c) ys.length (cs ys) → Kp (fun i => i = mb) W W' → Mp W' mb (putT k v t) → x = (sumB (putM k ys M) : Int) →
      Sh (W'.setCell ⟨sb, 1, none⟩ (.int .i64 x)) sb mb most (putT k v t) (putM k ys M) ∧ Kp (Sm sb mb) w (W'.setCell ⟨sb, 1, none⟩ (.int .i64 x)) ∧ (∀ g, (Value.slice v.a v.n v.c).ownBlock = some g → w.heap.size ≤ g)) := fun v W W' x q ho p hm ex => by
    have hb := HX W W' q p
    have hne := h.ne
    have k1 : Kp (Sm sb mb) W (W'.setCell ⟨sb, 1, none⟩ (.int .i64 x)) := (p.mono (fun _ _ e => .inr e)).trans (Kp.setCell _ _ _) (fun _ _ e => .inl e)
    obtain ⟨am, hm1, hm2⟩ := hm.ex
    obtain ⟨am0, hm01, _⟩ := (h.nu q).m.ex
    have hS5 : ∀ i c, Sm sb mb i → W.heap[i]? ≠ some (.cells c 5 (0, 0)) := fun i c hs hc => by
      rcases hs with rfl | rfl
      · rw [(h.nu q).box] at hc; cases hc
      · rw [hm01] at hc; cases hc
    have ks := Kp.setCell W' ⟨sb, 1, none⟩ (.int .i64 x)
    refine ⟨⟨box_set hb ex, ⟨⟨am, (ks.block _ (blk_lt hm1) (fun e => hne e.symm)).trans hm1, hm2.keep (Kn.of ks (fun b c hbb e => by have e : b = sb := e; rw [e, hb] at hbb; cases hbb))⟩, hm.bal, hm.srt⟩,
      put_F2 h ((h.nu q).vs.imp (fun p m hf => hf.keep k1 hS5)) (own_base (own_keep ho (fun g hg => by
        obtain ⟨cur, hc⟩ := own_obj ho hg
        exact k1.block g (blk_lt hc) (fun hs => hS5 g cur hs hc))) (Nat.zero_le _)) hy hk0 hk1 hby, ?_, h.mo⟩, (q.mono (fun _ _ e => e.elim)).trans k1 (fun _ _ e => e), fun g hg => (ho.lt g hg).1⟩
    rw [putM_length]
    have := h.lm
    split
    · exact this
    · rename_i hk
      rcases hr with hr | hr
      · exact (hk hr).elim
      · omega
  have hrr := hr
  have hlm := h.lm
  have hmo := h.mo
  obtain ⟨N, eN⟩ : ∃ N : Int, (M.length : Int) = N := ⟨_, rfl⟩
  rw [eN] at RA hr
  obtain ⟨S0, eS⟩ : ∃ S0 : Int, (sumB M : Int) = S0 := ⟨_, rfl⟩
  rw [eS] at HX HE
  obtain ⟨S1, eS1⟩ : ∃ S1 : Int, (sumB (putM k ys M) : Int) = S1 := ⟨_, rfl⟩
  rw [eS1] at HE FIN
  have hq : Hid ((0 : Int) ≤ S0 ∧ 0 ≤ (n0 : Int) ∧ (0 : Int) ≤ (ys.length : Int)) := by refine ⟨?_, ?_, ?_⟩ <;> omega
  clear hsum hle hn0 en hk0 hk1 hy hby hd hsm hhs ec hrr hlm hmo eN eS eS1
  have kw := Kp.refl Nu w
  cases hb : hs k M with
  | true =>
    rw [hb] at GA PA
    clear h hu hr hb RA
    go_enter Try.func47, Try.ntmps47
    go_wp2_with (first
      | (go_at_call 117; refine MA.mono ?_; rintro e w' ⟨rfl, hw⟩; obtain rfl := hw.symm)
      | (go_at_call 118; refine MY.mono ?_; rintro e w' ⟨rfl, hw⟩; obtain rfl := hw.symm)
      | (go_at_call 115; refine GA.mono ?_; rintro e w1 ⟨rfl, k1⟩; have d2 := HB _ k1; have k1d := k1.drew; have d2d := HB _ k1d))
    go_region_with (first
      | (go_at_call 116; refine (CA _ (by first | exact k1d | exact k1d.drew)).mono ?_; rintro e w2 ⟨v, rfl, o2, k2⟩; have e2 := HB _ k2; have k2d := k2.drew; have e2d := HB _ k2d)
      | (go_at_call 120; refine (PA _ v (by first | exact k2 | exact k2d)).mono ?_; rintro e w3 ⟨rfl, m3, k3⟩; have x3 := HX _ _ k2 k3; obtain ⟨y0, y1, y2⟩ := cell3 x3; have f3 := free3 x3 1))
    all_goals go_wp2
    all_goals go_ret2
    all_goals have hF := fun x hx => FIN.out v w2 w3 x k2 o2 k3 m3 hx
    all_goals refine ⟨rfl, ⟨v, fun g hg => (o2.lt g hg).1, (hF _ ?_).1⟩, (hF _ ?_).2.1⟩
    all_goals (have h1 := HE.out; have h2 := hq.out; first | omega | (unfold wrap64; omega))
  | false =>
    rw [hb] at GA PA
    have hr' : N < most := by rcases hr with hr | hr; · rw [hb] at hr; cases hr
                              · exact hr
    have hz : ((most - N) == 0) = false := by simpa using (by omega : ¬ most - N = 0)
    clear h hu hr hb hr'
    go_enter Try.func47, Try.ntmps47
    go_wp2_with (first
      | (go_at_call 117; refine MA.mono ?_; rintro e w' ⟨rfl, hw⟩; obtain rfl := hw.symm)
      | (go_at_call 118; refine MY.mono ?_; rintro e w' ⟨rfl, hw⟩; obtain rfl := hw.symm)
      | (go_at_call 115; refine GA.mono ?_; rintro e w0 ⟨rfl, k0⟩)
      | (go_at_call 119; refine (RA _ k0).mono ?_; rintro e w1 ⟨rfl, k1⟩; have d2 := HB _ k1; have k1d := k1.drew; have d2d := HB _ k1d))
    go_region_with (first
      | (go_at_call 116; refine (CA _ (by first | exact k1d | exact k1d.drew)).mono ?_; rintro e w2 ⟨v, rfl, o2, k2⟩; have e2 := HB _ k2; have k2d := k2.drew; have e2d := HB _ k2d)
      | (go_at_call 120; refine (PA _ v (by first | exact k2 | exact k2d)).mono ?_; rintro e w3 ⟨rfl, m3, k3⟩; have x3 := HX _ _ k2 k3; obtain ⟨y0, y1, y2⟩ := cell3 x3; have f3 := free3 x3 1))
    all_goals go_wp2
    all_goals go_ret2
    all_goals have hF := fun x hx => FIN.out v w2 w3 x k2 o2 k3 m3 hx
    all_goals refine ⟨rfl, ⟨v, fun g hg => (o2.lt g hg).1, (hF _ ?_).1⟩, (hF _ ?_).2.1⟩
    all_goals (have h1 := HE.out; have h2 := hq.out; first | omega | (unfold wrap64; omega))
set_option maxRecDepth 100000 in
set_option maxHeartbeats 400000 in
theorem set_full (h : Sh w sb mb most t M) (k : Int) (ad : Option Addr) (n c : Nat) (hn : n ≤ 64) (hk : hs k M = false) (hf : (M.length : Int) = most) : Calls Try.prog 47 #[.pointer (some ⟨sb, 0, none⟩), .int .u64 k, .slice ad n c] w fun e w' => e = .returned (.tuple #[.bool false, .int .i64 71]) ∧ Kp Nu w w' := by
  have MA := made117 h
  have MY := may_any w ad n c
  have hd : decide ((n : Int) ≤ 64) = true := by rw [decide_eq_true_iff]; omega
  rw [hd] at MY
  have GA := get_any h.m k (by have := h.small; omega)
  rw [h.hs, hk, h.no hk] at GA
  have RA : ∀ W, Kp Nu w W → Calls Try.prog 119 #[.pointer (some ⟨sb, 0, none⟩)] W fun e w' => e = .returned (.int .i64 0) ∧ Kp Nu w w' := fun W q => (room_any (h.nu q)).mono fun e w' ⟨e1, n, e2⟩ => ⟨by rw [e1, hf]; simp, by rw [e2]; exact kpN q n⟩
  have hz : ((0 : Int) == 0) = true := by simp
  have c2 := (cell3 h.box).2.2
  clear h hn hd hk hf
  go_enter Try.func47, Try.ntmps47
  go_wp2_with (first
    | (go_at_call 117; refine MA.mono ?_; rintro e w' ⟨rfl, hw⟩; obtain rfl := hw.symm)
    | (go_at_call 118; refine MY.mono ?_; rintro e w' ⟨rfl, hw⟩; obtain rfl := hw.symm)
    | (go_at_call 115; refine GA.mono ?_; rintro e w0 ⟨rfl, k0⟩)
    | (go_at_call 119; refine (RA _ k0).mono ?_; rintro e w1 ⟨rfl, k1⟩))
  go_ret2
  exact ⟨rfl, k1⟩
/-- the pairs of a range -/
abbrev rg (lo hi : Int) (M : List KV) : List KV := M.filter (inR lo hi)
theorem rg_length (h : Sh w sb mb most t M) (lo hi : Int) : (t.xs.filter (inR lo hi)).length = (rg lo hi M).length := (h.vs.filter (inR lo hi) (inR lo hi) (fun a b hf => by unfold inR; rw [hf.1])).length
set_option maxRecDepth 100000 in
set_option maxHeartbeats 400000 in
theorem count_any54 (h : Sh w sb mb most t M) (lo hi : Int) : Calls Try.prog 54 #[.pointer (some ⟨sb, 0, none⟩), .int .u64 lo, .int .u64 hi] w fun e w' => e = .returned (.int .i64 ((rg lo hi M).length : Int)) ∧ Kp Nu w w' := by
  have HA := held_any h
  obtain ⟨a, h1, h2⟩ := h.m.ex
  have TA := tree_any h1
  have SA := span_any h1 h2 lo hi (by have := h.small; omega)
  have hsm := h.small
  have hhi := highT_le (t := t) hi
  by_cases hg : hi < lo
  · have e0 : rg lo hi M = [] := List.filter_eq_nil_iff.2 (fun m _ => by unfold inR; simp; omega)
    rw [e0]
    clear h h1 h2 HA TA SA hsm hhi e0
    go_enter Try.func54, Try.ntmps54
    go_wp2
    go_ret
    exact ⟨rfl, Kp.refl _ _⟩
  · have ec := cnt_filter h.m.srt lo hi (by omega)
    rw [rg_length h] at ec
    generalize lowT lo t = i at *
    generalize highT hi t = j at *
    generalize (rg lo hi M).length = c at *
    have q1 : wrap64 ((j : Int) - (i : Int)) = (c : Int) := by unfold wrap64; omega
    have q2 : (j : Int) - (i : Int) = (c : Int) := by omega
    have HQ := hide (And.intro q1 q2)
    clear h h1 h2 hsm hhi ec q1 q2
    go_enter Try.func54, Try.ntmps54
    go_wp2_with (first
      | (go_at_call 114; refine HA.mono ?_; rintro e w' ⟨rfl, hw⟩; obtain rfl := hw.symm)
      | (go_at_call 129; refine TA.mono ?_; rintro e w' ⟨rfl, hw⟩; obtain rfl := hw.symm)
      | (go_at_call 128; refine SA.mono ?_; rintro e w1 ⟨rfl, k1⟩))
    go_ret
    exact ⟨by first | rfl | (rw [HQ.out.1]; rfl) | (rw [HQ.out.2]; rfl), k1⟩
theorem seg_at (h : Sh w sb mb most t M) (lo hi : Int) {i : Nat} {m : KV} (hm : (rg lo hi M)[i]? = some m) : ∃ p, t.xs[lowT lo t + i]? = some p ∧ FV w p m := by
  have hf := h.vs.filter (inR lo hi) (inR lo hi) (fun a b hf => by unfold inR; rw [hf.1])
  have hl : i < (t.xs.filter (inR lo hi)).length := by rw [rg_length h]; exact (List.getElem?_eq_some_iff.1 hm).1
  obtain ⟨p, hp⟩ : ∃ p, (t.xs.filter (inR lo hi))[i]? = some p := ⟨_, List.getElem?_eq_getElem hl⟩
  obtain ⟨m', hm', hv⟩ := hf.at hp
  rw [show (M.filter (inR lo hi))[i]? = some m from hm] at hm'
  cases hm'
  refine ⟨p, ?_, hv⟩
  have hs := seg_filter h.m.srt lo hi
  rw [seg_xs, Int.toNat_natCast, Int.toNat_natCast] at hs
  rw [← hs, List.getElem?_drop] at hp
  have hlt : lowT lo t + i < highT hi t := by
    have := (List.getElem?_eq_some_iff.1 hp).1
    rw [List.length_take] at this
    omega
  rw [List.getElem?_take_of_lt hlt] at hp
  rw [hp]
set_option maxRecDepth 100000 in
set_option maxHeartbeats 400000 in
theorem nth_no (h : Sh w sb mb most t M) (lo hi : Int) (i : Nat) (hi63 : (rg lo hi M).length ≤ i) : Calls Try.prog 53 #[.pointer (some ⟨sb, 0, none⟩), .int .u64 lo, .int .u64 hi, .int .i64 (i : Int)] w fun e w' => e = .returned (.tuple #[.int .u64 0, .bool false]) ∧ Kp Nu w w' := by
  have CA := count_any54 h lo hi
  generalize (rg lo hi M).length = c at *
  have h1 : ¬ (i : Int) < 0 := by omega
  have h2 : (c : Int) ≤ (i : Int) := by omega
  clear h hi63
  go_enter Try.func53, Try.ntmps53
  go_wp2_with (go_at_call 54; refine CA.mono ?_; rintro e w1 ⟨rfl, k1⟩)
  go_ret2
  exact ⟨rfl, k1⟩
set_option maxRecDepth 100000 in
set_option maxHeartbeats 400000 in
theorem nth_yes (h : Sh w sb mb most t M) (lo hi : Int) (i : Nat) (m : KV) (hm : (rg lo hi M)[i]? = some m) : Calls Try.prog 53 #[.pointer (some ⟨sb, 0, none⟩), .int .u64 lo, .int .u64 hi, .int .i64 (i : Int)] w fun e w' => e = .returned (.tuple #[.int .u64 m.1, .bool true]) ∧ Kp Nu w w' := by
  have CA := count_any54 h lo hi
  obtain ⟨p, hp, hv⟩ := seg_at h lo hi hm
  have hic : i < (rg lo hi M).length := (List.getElem?_eq_some_iff.1 hm).1
  have hcl : (rg lo hi M).length ≤ M.length := List.length_filter_le _ _
  have hsm := h.small
  have hsz := h.sz
  have hlx : lowT lo t + i < t.sz := by rw [← T.xs_length]; exact (List.getElem?_eq_some_iff.1 hp).1
  have HA : ∀ W, Kp Nu w W → Calls Try.prog 114 #[.pointer (some ⟨sb, 0, none⟩)] W fun e w' => e = .returned (.pointer (some ⟨mb, 0, none⟩)) ∧ w' = W := fun W q => held_any (h.nu q)
  have RA : ∀ W, Kp Nu w W → Calls Try.prog 127 #[.pointer (some ⟨mb, 0, none⟩), .int .u64 lo] W fun e w' => e = .returned (.int .i64 (lowT lo t : Int)) ∧ Kp Nu w w' := fun W q => (rank_any (h.m.nu q) lo (by omega)).mono fun e w' ⟨e1, e2⟩ => ⟨e1, q.andNu e2⟩
  have AA : ∀ W, Kp Nu w W → Calls Try.prog 126 #[.pointer (some ⟨mb, 0, none⟩), .int .i64 ((lowT lo t : Int) + (i : Int))] W fun e w' => ∃ x, e = .returned (.tuple #[.int .u64 m.1, x, .bool true]) ∧ Kp Nu w w' := fun W q => by
    refine (At_any (h.m.nu q) ((lowT lo t : Int) + (i : Int)) (by omega) (by omega)).mono ?_
    rintro e w' ⟨e1, e2⟩
    rw [show (lowT lo t : Int) + (i : Int) = ((lowT lo t + i : Nat) : Int) by omega, atT_xs, hp] at e1
    exact ⟨_, by rw [e1]; show _ = Ending.returned (.tuple #[.int .u64 m.1, _, _]); rw [← hv.1]; rfl, q.andNu e2⟩
  generalize (rg lo hi M).length = c at *
  generalize lowT lo t = lw at *
  have h1 : ¬ (i : Int) < 0 := by omega
  have h2 : ¬ (c : Int) ≤ (i : Int) := by omega
  have q1 : wrap64 ((lw : Int) + (i : Int)) = (lw : Int) + (i : Int) := by unfold wrap64; omega
  generalize m.1 = mk at *
  clear h hm hp hv hic hcl hsm hsz hlx
  go_enter Try.func53, Try.ntmps53
  go_wp2_with (first
    | (go_at_call 54; refine CA.mono ?_; rintro e w1 ⟨rfl, k1⟩)
    | (go_at_call 114; refine (HA _ k1).mono ?_; rintro e w' ⟨rfl, hw⟩; obtain rfl := hw.symm)
    | (go_at_call 127; refine (RA _ k1).mono ?_; rintro e w2 ⟨rfl, k2⟩)
    | (go_at_call 126; refine (AA _ k2).mono ?_; rintro e w3 ⟨x3, rfl, k3⟩))
  go_ret2
  exact ⟨rfl, k3⟩
end
end Go.Proofs.Ytchealdgncgjoaa.StU
