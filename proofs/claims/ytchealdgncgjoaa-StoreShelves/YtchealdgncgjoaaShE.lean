import Derived.Test.YtchealdgncgjoaaShC
import Derived.Test.YtchealdgncgjoaaOrd
import Derived.Test.YtchealdgncgjoaaItC
import Derived.Laws.MakeOwn
import Derived.OwnWalkIn
namespace Go.Proofs.Ytchealdgncgjoaa.StU
open Go.RowKit Go.Proofs.Ytchealdgncgjoaa.St
set_option linter.unusedVariables false
theorem box_set {w : World} {b : Nat} {x z : Value} {y s s' : Int} {t : TypeId} (h : w.heap[b]? = some (.cells #[x, .int .i64 y, z] t (0, 0))) (e : s = s') : (w.setCell ⟨b, 1, none⟩ (.int .i64 s)).heap[b]? = some (.cells #[x, .int .i64 s', z] t (0, 0)) := by
  subst e; rw [set3 h]; rfl
/-- what a call on a shelf turns -/
abbrev Sm (sb mb : Nat) (i : Nat) : Prop := i = sb ∨ i = mb
section
variable {w : World} {sb mb : Nat} {most : Int} {t : T (Int × Sv)} {M : List KV}
set_option maxRecDepth 100000 in
set_option maxHeartbeats 400000 in
theorem new_ok (w : World) (most : Int) (h0 : 0 ≤ most) (h1 : most ≤ 32768) : Calls Try.prog 45 #[.int .i64 most] w fun e w' => ∃ sb mb, e = .returned (.tuple #[.pointer (some ⟨sb, 0, none⟩), .int .i64 0]) ∧ w.heap.size ≤ sb ∧ w.heap.size ≤ mb ∧ Sh w' sb mb most .nil [] ∧ Kp Nu w w' := by
  have NA := new_any w
  have hl0 : ¬ most < 0 := by omega
  have hl1 : ¬ 32768 < most := by omega
  have HH := hide (And.intro h0 h1)
  clear h0 h1
  go_enter Try.func45, Try.ntmps45
  go_wp2_with (go_at_call 113; refine NA.mono ?_; rintro e w1 ⟨rfl, m1, k1⟩)
  go_ret2
  have ka := Kp.alloc w1 (.cells #[.int .i64 most, .int .i64 0, .pointer (some ⟨w.heap.size, 0, none⟩)] 172) Nu
  refine ⟨w1.heap.size, w.heap.size, rfl, k1.size, Nat.le_refl _, ⟨heap_alloc_new w1 _, m1.nu ka, trivial, by simpa using HH.out.1, HH.out.2⟩, k1.andNu ka⟩
set_option maxRecDepth 100000 in
set_option maxHeartbeats 400000 in
theorem set_long (h : Sh w sb mb most t M) (k : Int) (ad : Option Addr) (n c : Nat) (hn : 64 < n) : Calls Try.prog 47 #[.pointer (some ⟨sb, 0, none⟩), .int .u64 k, .slice ad n c] w fun e w' => e = .returned (.tuple #[.bool false, .int .i64 70]) ∧ w' = w := by
  have MA := made117 h
  have MY := may_any w ad n c
  have hd : decide ((n : Int) ≤ 64) = false := by rw [decide_eq_false_iff_not]; omega
  rw [hd] at MY
  clear h hn hd
  go_enter Try.func47, Try.ntmps47
  go_wp2_with (first
    | (go_at_call 117; refine MA.mono ?_; rintro e w' ⟨rfl, hw⟩; obtain rfl := hw.symm)
    | (go_at_call 118; refine MY.mono ?_; rintro e w' ⟨rfl, hw⟩; obtain rfl := hw.symm))
  go_ret2
  exact ⟨rfl, rfl⟩
theorem kp_drews {S : Nat → Prop} {a w : World} (h : Kp S a w) : Kp S a w.drew := h.drew
set_option maxRecDepth 100000 in
set_option maxHeartbeats 2000000 in
theorem set_ok (h : Sh w sb mb most t M) (k : Int) (hk0 : 0 ≤ k) (hk1 : k ≤ 18446744073709551615) (u : Value) (ys : List Int) (hu : Rd w u ys) (hy : ys.length ≤ 64) (hby : Byt ys) (hr : hs k M = true ∨ (M.length : Int) < most) :
    Calls Try.prog 47 #[.pointer (some ⟨sb, 0, none⟩), .int .u64 k, u] w fun e w' => e = .returned (.tuple #[.bool (!hs k M), .int .i64 0]) ∧
      (∃ v : Sv, (∀ g, (Value.slice v.a v.n v.c).ownBlock = some g → w.heap.size ≤ g) ∧ Sh w' sb mb most (putT k v t) (putM k ys M)) ∧ Kp (Sm sb mb) w w' := by
  have mixed : Try.prog.follows .mixedOrders = true := by kernel_rfl
  obtain ⟨ad, cap, rfl⟩ := hu.slice
  have MA := made117 h
  have MY := may_any w ad ys.length cap
  have hd : decide ((ys.length : Int) ≤ 64) = true := by rw [decide_eq_true_iff]; omega
  rw [hd] at MY
  have GA := get_any h.m k (by have := h.small; omega)
  have hsm := h.small
  have hhs := h.hs k
  rw [hhs] at GA
  have RA : ∀ W, Kp Nu w W → Calls Try.prog 119 #[.pointer (some ⟨sb, 0, none⟩)] W fun e w' => e = .returned (.int .i64 (most - (M.length : Int))) ∧ Kp Nu w w' := fun W q => (room_any (h.nu q)).mono fun e w' ⟨e1, n, e2⟩ => ⟨e1, by rw [e2]; exact kpN q n⟩
  have CA : ∀ W, Kp Nu w W → Calls Try.prog 116 #[.slice ad ys.length cap] W fun e w' => ∃ v : Sv, e = .returned (.slice v.a v.n v.c) ∧ w'.ownsRow w.heap.size 5 1 (.slice v.a v.n v.c) ys.length (cs ys) ∧ Kp Nu w w' := fun W q => by
    refine (clone_any W _ ys (hu.nu q) (by omega)).mono ?_
    rintro e w' ⟨v, e1, e2, e3⟩
    exact ⟨v, e1, own_base e2 q.size, q.andNu e3⟩
  have PA : ∀ W (v : Sv), Kp Nu w W → Calls Try.prog 120 #[.pointer (some ⟨mb, 0, none⟩), .int .u64 k, .slice v.a v.n v.c] W fun e w' => e = .returned (.tuple #[ov (getT k t), .bool (hs k M)]) ∧ Mp w' mb (putT k v t) ∧ Kp (fun i => i = mb) W w' := fun W v q => by
    rw [← hhs]; exact put_any (h.m.nu q) k v (by omega)
  have c2 := (cell3 h.box).2.2
  have HB : ∀ W, Kp Nu w W → W.cell? ⟨sb, 2, none⟩ = some (.pointer (some ⟨mb, 0, none⟩)) := fun W q => (cell3 (h.nu q).box).2.2
  have HX : ∀ W W', Kp Nu w W → Kp (fun i => i = mb) W W' → W'.heap[sb]? = some (.cells #[.int .i64 most, .int .i64 (sumB M : Int), .pointer (some ⟨mb, 0, none⟩)] 172 (0, 0)) := fun W W' q p => (p.block _ (blk_lt (h.nu q).box) h.ne).trans (h.nu q).box
  have HO : ∃ a0 n0 k0, ov (getT k t) = .slice a0 n0 k0 ∧ n0 = (gtM k M).length := by
    cases hk : hs k M with
    | true =>
      obtain ⟨p, m, eg, _, hm, hf, _⟩ := h.yes hk
      exact ⟨p.2.a, p.2.n, p.2.c, by rw [eg]; rfl, by rw [gtM_yes hk hm]; exact hf.n⟩
    | false => exact ⟨none, 0, 0, by rw [h.no hk]; rfl, by rw [gtM_no hk]; rfl⟩
  obtain ⟨a0, n0, k0, ec, en⟩ := HO
  rw [ec] at GA PA
  have hsum := putM_sum (k := k) (ys := ys) h
  have hle := h.sum
  rw [← en] at hsum
  have hn0 : n0 ≤ 2097216 := by
    rw [en]
    have := putM_sum (k := k) (ys := ys) h
    omega
  have HE : Hid ((sumB (putM k ys M) : Int) = (sumB M : Int) + ((ys.length : Int) - (n0 : Int)) ∧ (sumB M : Int) ≤ 2097152 ∧ (n0 : Int) ≤ 2097216 ∧ (ys.length : Int) ≤ 64) := by
    refine ⟨?_, ?_, ?_, ?_⟩ <;> omega
  have FIN : Hid (∀ (v : Sv) (W W' : World) (x : Int), Kp Nu w W → W.ownsRow w.heap.size 5 1 (.slice v.a v.n v.c) ys.length (cs ys) → Kp (fun i => i = mb) W W' → Mp W' mb (putT k v t) → x = (sumB (putM k ys M) : Int) →
      Sh (W'.setCell ⟨sb, 1, none⟩ (.int .i64 x)) sb mb most (putT k v t) (putM k ys M) ∧ Kp (Sm sb mb) w (W'.setCell ⟨sb, 1, none⟩ (.int .i64 x)) ∧ (∀ g, (Value.slice v.a v.n v.c).ownBlock = some g → w.heap.size ≤ g)) := fun v W W' x q ho p hm ex => by
    have hb := HX W W' q p
    have hne := h.ne
    have k1 : Kp (Sm sb mb) W (W'.setCell ⟨sb, 1, none⟩ (.int .i64 x)) := (p.mono (fun _ _ e => .inr e)).trans (Kp.setCell _ _ _) (fun _ _ e => .inl e)
    obtain ⟨am, hm1, hm2⟩ := hm.ex
    obtain ⟨am0, hm01, _⟩ := (h.nu q).m.ex
    have hS5 : ∀ i c, Sm sb mb i → W.heap[i]? ≠ some (.cells c 5 (0, 0)) := fun i c hs hc => by
      rcases hs with rfl | rfl
      · rw [(h.nu q).box] at hc; cases hc
      · rw [hm01] at hc; cases hc
    have ks := Kp.setCell W' ⟨sb, 1, none⟩ (.int .i64 x)
    refine ⟨⟨box_set hb ex, ⟨⟨am, (ks.block _ (blk_lt hm1) (fun e => hne e.symm)).trans hm1, hm2.keep (Kn.of ks (fun b c hbb e => by have e : b = sb := e; rw [e, hb] at hbb; cases hbb))⟩, hm.bal, hm.srt⟩,
      put_F2 h ((h.nu q).vs.imp (fun p m hf => hf.keep k1 hS5)) (own_base (own_keep ho (fun g hg => by
        obtain ⟨cur, hc⟩ := own_obj ho hg
        exact k1.block g (blk_lt hc) (fun hs => hS5 g cur hs hc))) (Nat.zero_le _)) hy hk0 hk1 hby, ?_, h.mo⟩, (q.mono (fun _ _ e => e.elim)).trans k1 (fun _ _ e => e), fun g hg => (ho.lt g hg).1⟩
    rw [putM_length]
    have := h.lm
    split
    · exact this
    · rename_i hk
      rcases hr with hr | hr
      · exact (hk hr).elim
      · omega
  have hrr := hr
  have hlm := h.lm
  have hmo := h.mo
  obtain ⟨N, eN⟩ : ∃ N : Int, (M.length : Int) = N := ⟨_, rfl⟩
  rw [eN] at RA hr
  obtain ⟨S0, eS⟩ : ∃ S0 : Int, (sumB M : Int) = S0 := ⟨_, rfl⟩
  rw [eS] at HX HE
  obtain ⟨S1, eS1⟩ : ∃ S1 : Int, (sumB (putM k ys M) : Int) = S1 := ⟨_, rfl⟩
  rw [eS1] at HE FIN
  have hq : Hid ((0 : Int) ≤ S0 ∧ 0 ≤ (n0 : Int) ∧ (0 : Int) ≤ (ys.length : Int)) := by refine ⟨?_, ?_, ?_⟩ <;> omega
  clear hsum hle hn0 en hk0 hk1 hy hby hd hsm hhs ec hrr hlm hmo eN eS eS1
  have kw := Kp.refl Nu w
  cases hb : hs k M with
  | true =>
    rw [hb] at GA PA
    clear h hu hr hb RA
    go_enter Try.func47, Try.ntmps47
    go_wp2_with (first
      | (go_at_call 117; refine MA.mono ?_; rintro e w' ⟨rfl, hw⟩; obtain rfl := hw.symm)
      | (go_at_call 118; refine MY.mono ?_; rintro e w' ⟨rfl, hw⟩; obtain rfl := hw.symm)
      | (go_at_call 115; refine GA.mono ?_; rintro e w1 ⟨rfl, k1⟩; have d2 := HB _ k1; have k1d := k1.drew; have d2d := HB _ k1d))
    go_region_with (first
      | (go_at_call 116; refine (CA _ (by first | exact k1d | exact k1d.drew)).mono ?_; rintro e w2 ⟨v, rfl, o2, k2⟩; have e2 := HB _ k2; have k2d := k2.drew; have e2d := HB _ k2d)
      | (go_at_call 120; refine (PA _ v (by first | exact k2 | exact k2d)).mono ?_; rintro e w3 ⟨rfl, m3, k3⟩; have x3 := HX _ _ k2 k3; obtain ⟨y0, y1, y2⟩ := cell3 x3; have f3 := free3 x3 1))
    all_goals go_wp2
    all_goals go_ret2
    all_goals have hF := fun x hx => FIN.out v w2 w3 x k2 o2 k3 m3 hx
    all_goals refine ⟨rfl, ⟨v, fun g hg => (o2.lt g hg).1, (hF _ ?_).1⟩, (hF _ ?_).2.1⟩
    all_goals (have h1 := HE.out; have h2 := hq.out; first | omega | (unfold wrap64; omega))
  | false =>
    rw [hb] at GA PA
    have hr' : N < most := by rcases hr with hr | hr; · rw [hb] at hr; cases hr
                              · exact hr
    have hz : ((most - N) == 0) = false := by simpa using (by omega : ¬ most - N = 0)
    clear h hu hr hb hr'
    go_enter Try.func47, Try.ntmps47
    go_wp2_with (first
      | (go_at_call 117; refine MA.mono ?_; rintro e w' ⟨rfl, hw⟩; obtain rfl := hw.symm)
      | (go_at_call 118; refine MY.mono ?_; rintro e w' ⟨rfl, hw⟩; obtain rfl := hw.symm)
      | (go_at_call 115; refine GA.mono ?_; rintro e w0 ⟨rfl, k0⟩)
      | (go_at_call 119; refine (RA _ k0).mono ?_; rintro e w1 ⟨rfl, k1⟩; have d2 := HB _ k1; have k1d := k1.drew; have d2d := HB _ k1d))
    go_region_with (first
      | (go_at_call 116; refine (CA _ (by first | exact k1d | exact k1d.drew)).mono ?_; rintro e w2 ⟨v, rfl, o2, k2⟩; have e2 := HB _ k2; have k2d := k2.drew; have e2d := HB _ k2d)
      | (go_at_call 120; refine (PA _ v (by first | exact k2 | exact k2d)).mono ?_; rintro e w3 ⟨rfl, m3, k3⟩; have x3 := HX _ _ k2 k3; obtain ⟨y0, y1, y2⟩ := cell3 x3; have f3 := free3 x3 1))
    all_goals go_wp2
    all_goals go_ret2
    all_goals have hF := fun x hx => FIN.out v w2 w3 x k2 o2 k3 m3 hx
    all_goals refine ⟨rfl, ⟨v, fun g hg => (o2.lt g hg).1, (hF _ ?_).1⟩, (hF _ ?_).2.1⟩
    all_goals (have h1 := HE.out; have h2 := hq.out; first | omega | (unfold wrap64; omega))
set_option maxRecDepth 100000 in
set_option maxHeartbeats 400000 in
theorem set_full (h : Sh w sb mb most t M) (k : Int) (ad : Option Addr) (n c : Nat) (hn : n ≤ 64) (hk : hs k M = false) (hf : (M.length : Int) = most) : Calls Try.prog 47 #[.pointer (some ⟨sb, 0, none⟩), .int .u64 k, .slice ad n c] w fun e w' => e = .returned (.tuple #[.bool false, .int .i64 71]) ∧ Kp Nu w w' := by
  have MA := made117 h
  have MY := may_any w ad n c
  have hd : decide ((n : Int) ≤ 64) = true := by rw [decide_eq_true_iff]; omega
  rw [hd] at MY
  have GA := get_any h.m k (by have := h.small; omega)
  rw [h.hs, hk, h.no hk] at GA
  have RA : ∀ W, Kp Nu w W → Calls Try.prog 119 #[.pointer (some ⟨sb, 0, none⟩)] W fun e w' => e = .returned (.int .i64 0) ∧ Kp Nu w w' := fun W q => (room_any (h.nu q)).mono fun e w' ⟨e1, n, e2⟩ => ⟨by rw [e1, hf]; simp, by rw [e2]; exact kpN q n⟩
  have hz : ((0 : Int) == 0) = true := by simp
  have c2 := (cell3 h.box).2.2
  clear h hn hd hk hf
  go_enter Try.func47, Try.ntmps47
  go_wp2_with (first
    | (go_at_call 117; refine MA.mono ?_; rintro e w' ⟨rfl, hw⟩; obtain rfl := hw.symm)
    | (go_at_call 118; refine MY.mono ?_; rintro e w' ⟨rfl, hw⟩; obtain rfl := hw.symm)
    | (go_at_call 115; refine GA.mono ?_; rintro e w0 ⟨rfl, k0⟩)
    | (go_at_call 119; refine (RA _ k0).mono ?_; rintro e w1 ⟨rfl, k1⟩))
  go_ret2
  exact ⟨rfl, k1⟩
/-- the pairs of a range -/
abbrev rg (lo hi : Int) (M : List KV) : List KV := M.filter (inR lo hi)
theorem rg_length (h : Sh w sb mb most t M) (lo hi : Int) : (t.xs.filter (inR lo hi)).length = (rg lo hi M).length := (h.vs.filter (inR lo hi) (inR lo hi) (fun a b hf => by unfold inR; rw [hf.1])).length
set_option maxRecDepth 100000 in
set_option maxHeartbeats 400000 in
theorem count_any54 (h : Sh w sb mb most t M) (lo hi : Int) : Calls Try.prog 54 #[.pointer (some ⟨sb, 0, none⟩), .int .u64 lo, .int .u64 hi] w fun e w' => e = .returned (.int .i64 ((rg lo hi M).length : Int)) ∧ Kp Nu w w' := by
  have HA := held_any h
  obtain ⟨a, h1, h2⟩ := h.m.ex
  have TA := tree_any h1
  have SA := span_any h1 h2 lo hi (by have := h.small; omega)
  have hsm := h.small
  have hhi := highT_le (t := t) hi
  by_cases hg : hi < lo
  · have e0 : rg lo hi M = [] := List.filter_eq_nil_iff.2 (fun m _ => by unfold inR; simp; omega)
    rw [e0]
    clear h h1 h2 HA TA SA hsm hhi e0
    go_enter Try.func54, Try.ntmps54
    go_wp2
    go_ret
    exact ⟨rfl, Kp.refl _ _⟩
  · have ec := cnt_filter h.m.srt lo hi (by omega)
    rw [rg_length h] at ec
    generalize lowT lo t = i at *
    generalize highT hi t = j at *
    generalize (rg lo hi M).length = c at *
    have q1 : wrap64 ((j : Int) - (i : Int)) = (c : Int) := by unfold wrap64; omega
    have q2 : (j : Int) - (i : Int) = (c : Int) := by omega
    have HQ := hide (And.intro q1 q2)
    clear h h1 h2 hsm hhi ec q1 q2
    go_enter Try.func54, Try.ntmps54
    go_wp2_with (first
      | (go_at_call 114; refine HA.mono ?_; rintro e w' ⟨rfl, hw⟩; obtain rfl := hw.symm)
      | (go_at_call 129; refine TA.mono ?_; rintro e w' ⟨rfl, hw⟩; obtain rfl := hw.symm)
      | (go_at_call 128; refine SA.mono ?_; rintro e w1 ⟨rfl, k1⟩))
    go_ret
    exact ⟨by first | rfl | (rw [HQ.out.1]; rfl) | (rw [HQ.out.2]; rfl), k1⟩
theorem seg_at (h : Sh w sb mb most t M) (lo hi : Int) {i : Nat} {m : KV} (hm : (rg lo hi M)[i]? = some m) : ∃ p, t.xs[lowT lo t + i]? = some p ∧ FV w p m := by
  have hf := h.vs.filter (inR lo hi) (inR lo hi) (fun a b hf => by unfold inR; rw [hf.1])
  have hl : i < (t.xs.filter (inR lo hi)).length := by rw [rg_length h]; exact (List.getElem?_eq_some_iff.1 hm).1
  obtain ⟨p, hp⟩ : ∃ p, (t.xs.filter (inR lo hi))[i]? = some p := ⟨_, List.getElem?_eq_getElem hl⟩
  obtain ⟨m', hm', hv⟩ := hf.at hp
  rw [show (M.filter (inR lo hi))[i]? = some m from hm] at hm'
  cases hm'
  refine ⟨p, ?_, hv⟩
  have hs := seg_filter h.m.srt lo hi
  rw [seg_xs, Int.toNat_natCast, Int.toNat_natCast] at hs
  rw [← hs, List.getElem?_drop] at hp
  have hlt : lowT lo t + i < highT hi t := by
    have := (List.getElem?_eq_some_iff.1 hp).1
    rw [List.length_take] at this
    omega
  rw [List.getElem?_take_of_lt hlt] at hp
  rw [hp]
set_option maxRecDepth 100000 in
set_option maxHeartbeats 400000 in
theorem nth_no (h : Sh w sb mb most t M) (lo hi : Int) (i : Nat) (hi63 : (rg lo hi M).length ≤ i) : Calls Try.prog 53 #[.pointer (some ⟨sb, 0, none⟩), .int .u64 lo, .int .u64 hi, .int .i64 (i : Int)] w fun e w' => e = .returned (.tuple #[.int .u64 0, .bool false]) ∧ Kp Nu w w' := by
  have CA := count_any54 h lo hi
  generalize (rg lo hi M).length = c at *
  have h1 : ¬ (i : Int) < 0 := by omega
  have h2 : (c : Int) ≤ (i : Int) := by omega
  clear h hi63
  go_enter Try.func53, Try.ntmps53
  go_wp2_with (go_at_call 54; refine CA.mono ?_; rintro e w1 ⟨rfl, k1⟩)
  go_ret2
  exact ⟨rfl, k1⟩
set_option maxRecDepth 100000 in
set_option maxHeartbeats 400000 in
theorem nth_yes (h : Sh w sb mb most t M) (lo hi : Int) (i : Nat) (m : KV) (hm : (rg lo hi M)[i]? = some m) : Calls Try.prog 53 #[.pointer (some ⟨sb, 0, none⟩), .int .u64 lo, .int .u64 hi, .int .i64 (i : Int)] w fun e w' => e = .returned (.tuple #[.int .u64 m.1, .bool true]) ∧ Kp Nu w w' := by
  have CA := count_any54 h lo hi
  obtain ⟨p, hp, hv⟩ := seg_at h lo hi hm
  have hic : i < (rg lo hi M).length := (List.getElem?_eq_some_iff.1 hm).1
  have hcl : (rg lo hi M).length ≤ M.length := List.length_filter_le _ _
  have hsm := h.small
  have hsz := h.sz
  have hlx : lowT lo t + i < t.sz := by rw [← T.xs_length]; exact (List.getElem?_eq_some_iff.1 hp).1
  have HA : ∀ W, Kp Nu w W → Calls Try.prog 114 #[.pointer (some ⟨sb, 0, none⟩)] W fun e w' => e = .returned (.pointer (some ⟨mb, 0, none⟩)) ∧ w' = W := fun W q => held_any (h.nu q)
  have RA : ∀ W, Kp Nu w W → Calls Try.prog 127 #[.pointer (some ⟨mb, 0, none⟩), .int .u64 lo] W fun e w' => e = .returned (.int .i64 (lowT lo t : Int)) ∧ Kp Nu w w' := fun W q => (rank_any (h.m.nu q) lo (by omega)).mono fun e w' ⟨e1, e2⟩ => ⟨e1, q.andNu e2⟩
  have AA : ∀ W, Kp Nu w W → Calls Try.prog 126 #[.pointer (some ⟨mb, 0, none⟩), .int .i64 ((lowT lo t : Int) + (i : Int))] W fun e w' => ∃ x, e = .returned (.tuple #[.int .u64 m.1, x, .bool true]) ∧ Kp Nu w w' := fun W q => by
    refine (At_any (h.m.nu q) ((lowT lo t : Int) + (i : Int)) (by omega) (by omega)).mono ?_
    rintro e w' ⟨e1, e2⟩
    rw [show (lowT lo t : Int) + (i : Int) = ((lowT lo t + i : Nat) : Int) by omega, atT_xs, hp] at e1
    exact ⟨_, by rw [e1]; show _ = Ending.returned (.tuple #[.int .u64 m.1, _, _]); rw [← hv.1]; rfl, q.andNu e2⟩
  generalize (rg lo hi M).length = c at *
  generalize lowT lo t = lw at *
  have h1 : ¬ (i : Int) < 0 := by omega
  have h2 : ¬ (c : Int) ≤ (i : Int) := by omega
  have q1 : wrap64 ((lw : Int) + (i : Int)) = (lw : Int) + (i : Int) := by unfold wrap64; omega
  generalize m.1 = mk at *
  clear h hm hp hv hic hcl hsm hsz hlx
  go_enter Try.func53, Try.ntmps53
  go_wp2_with (first
    | (go_at_call 54; refine CA.mono ?_; rintro e w1 ⟨rfl, k1⟩)
    | (go_at_call 114; refine (HA _ k1).mono ?_; rintro e w' ⟨rfl, hw⟩; obtain rfl := hw.symm)
    | (go_at_call 127; refine (RA _ k1).mono ?_; rintro e w2 ⟨rfl, k2⟩)
    | (go_at_call 126; refine (AA _ k2).mono ?_; rintro e w3 ⟨x3, rfl, k3⟩))
  go_ret2
  exact ⟨rfl, k3⟩
end
end Go.Proofs.Ytchealdgncgjoaa.StU
namespace Go.Proofs.Ytchealdgncgjoaa.StU
open Go.RowKit Go.Proofs.Ytchealdgncgjoaa.St Go.Shelf Go.Sort Go.Proofs.Ytchealdgncgjoaa.It
attribute [local go_sem] Oper.semAt_some
set_option linter.unusedVariables false
theorem info78 : (Try.prog.info? 78).map (fun i => (i.zero, i.size, i.bytes)) = some (some (.agg #[.int .u64 0, .slice none 0 0]), 2, 32) := by kernel_rfl
/-- the cells are as they were -/
def Cc (X Z : World) : Prop := ∀ (k : Nat) (c : Array Value) (t : TypeId) (m : Nat × Nat), X.heap[k]? = some (.cells c t m) → Z.heap[k]? = some (.cells c t m)
theorem Cc.grown {B : Nat} {X Z : World} {row : Option Nat} (hg : X.grownBy Z row) (hr : ∀ r, row = some r → B ≤ r ∧ ∃ o, X.heap[r]? = some o ∧ o.isCells = false) : Cc X Z := fun k c t m h =>
  (hg.block k (blk_lt h) (fun e => by obtain ⟨_, o, ho, hc⟩ := hr k e.symm; rw [h] at ho; cases ho; cases hc)).trans h
theorem Cc.nu {X Z : World} (k : Kp Nu X Z) : Cc X Z := fun b c t m e => (k.block b (blk_lt e) (fun h => h)).trans e
theorem Cc.trans {X Y Z : World} (h : Cc X Y) (k : Cc Y Z) : Cc X Z := fun b c t m e => k b c t m (h b c t m e)
theorem Cc.mp {X Z : World} (h : Cc X Z) {mb : Nat} {t : T (Int × Sv)} (hm : Mp X mb t) : Mp Z mb t := by
  obtain ⟨a, h1, h2⟩ := hm.ex
  exact ⟨⟨a, h _ _ _ _ h1, h2.keep (fun b c e => h _ _ _ _ e)⟩, hm.bal, hm.srt⟩
theorem Cc.own {X Z : World} (h : Cc X Z) {B e size n : Nat} {v : Value} {l : List Value} (ho : X.ownsRow B e size v n l) : Z.ownsRow B e size v n l :=
  own_keep ho (fun g hg => by obtain ⟨cur, hc⟩ := own_obj ho hg; rw [hc]; exact h _ _ _ _ hc)
theorem Cc.sh {X Z : World} (h : Cc X Z) {sb mb : Nat} {most : Int} {t : T (Int × Sv)} {M : List KV} (s : Sh X sb mb most t M) : Sh Z sb mb most t M :=
  ⟨h _ _ _ _ s.box, h.mp s.m, s.vs.imp (fun p m hf => ⟨hf.1, h.own hf.2.1, hf.2.2⟩), s.lm, s.mo⟩
/-- at the end the marks are taken; cells and the blocks below stay -/
theorem leaves_all {F : Fence} {n : Nat} {fn : Func} {tmps : Array Value} {R : Ending → World → Prop} {B : Nat} : ∀ (Ls : List Nat) (V : World), Ls.Nodup → (∀ D ∈ Ls, B ≤ D ∧ V.heap[D]? = some (.deferred (some []))) →
    (∀ Z, Cc V Z → Kp (fun k => B ≤ k) V Z → LeavesIn F n Try.prog fn tmps R [] .returning Z) → LeavesInM F n Try.prog fn tmps R (Ls.map (fun D => { target := .collected D, args := #[] })) .returning V
  | [], V, _, _, h => h V (fun _ _ _ _ e => e) (Kp.refl _ _)
  | D :: Ls, V, hn, hd, h => by
    obtain ⟨h1, h2⟩ := hd D (by simp)
    rw [List.nodup_cons] at hn
    refine ⟨by simp, .inl ⟨D, V.putObj D (.deferred none), rfl, run_takeDeferred h2, ?_⟩⟩
    refine leaves_all Ls _ hn.2 (fun D' hD' => ⟨(hd D' (by simp [hD'])).1, (World.putObj_heap_other (fun e => by subst e; exact hn.1 hD')).trans (hd D' (by simp [hD'])).2⟩) (fun Z hc hk => h Z ?_ ?_)
    · intro k c t m e
      exact hc k c t m ((World.putObj_heap_other (fun e2 => by subst e2; rw [h2] at e; cases e)).trans e)
    · have k0 : Kp (fun k => B ≤ k) V (V.putObj D (.deferred none)) := ⟨rfl, rfl, rfl, by simp, fun k hk hs => World.putObj_heap_other (fun e => by subst e; exact hs h1)⟩
      exact k0.trans hk (fun _ _ h => h)
theorem region_tight {F : Fence} {n : Nat} {P : Program} {c : Code} {K : Act → World → Prop} {Q : Exit → Act → World → Prop} {a : Act} {w : World} (h : c.wpIn F n P (Exit.then K (fun _ _ _ => False)) a w) : c.wpIn F n P (Exit.then K Q) a w :=
  Code.wpIn_mono (fun e a w h => by cases e <;> first | exact h | exact h.elim) h
theorem unhidS {p : Prop} (h : Hid p) : p := h
abbrev sl (v : Sv) : Value := .slice v.a v.n v.c
/-- pairs as cells -/
def pc (L : List (Int × Sv)) : List Value := L.flatMap (fun p => [.int .u64 p.1, sl p.2])
theorem pc_snoc (L : List (Int × Sv)) (p : Int × Sv) : pc (L ++ [p]) = pc L ++ [.int .u64 p.1, sl p.2] := by simp [pc]
theorem pc_length (L : List (Int × Sv)) : (pc L).length = L.length * 2 := by
  induction L with
  | nil => rfl
  | cons p L ih => rw [show pc (p :: L) = [.int .u64 p.1, sl p.2] ++ pc L from rfl, List.length_append, ih, List.length_cons]; simp; omega
theorem cells_two_new (w : World) (x y : Value) (t : TypeId) : ∀ j u, [x, y][j]? = some u → (w.alloc (.cells #[x, y] t)).cell? ((⟨w.heap.size, 0, none⟩ : Addr).add j) = some u := fun j u hj => by
  have hb := heap_alloc_new w (.cells #[x, y] t)
  match j, hj with
  | 0, hj => simp at hj; subst hj; exact (cell2 hb).1
  | 1, hj => simp at hj; subst hj; exact (cell2 hb).2
  | j + 2, hj => simp at hj
theorem lt_cases8 {i : Nat} (h : i < 8) : i = 0 ∨ i = 1 ∨ i = 2 ∨ i = 3 ∨ i = 4 ∨ i = 5 ∨ i = 6 ∨ i = 7 := by omega
/-- an append, as one step of a region that draws -/
theorem wpOpIn_append {F : Fence} {n : Nat} {P : Program} {ops : Array Oper} {Q : Exit → Act → World → Prop} {i : Nat} {K : Act → World → Prop} {a : Act} {w w' : World} {o : Oper} (ho : ops[i]? = some o) (hg : o.guard = none) (s x : Operand) (t : TypeId)
    (hop : o.op = Op.call { callee := Callee.builtin Builtin.append, args := #[s, x], argTypes := #[t, t] }) (v u v' : Value) (hs : a.eval s = v) (hx : a.eval x = u) (hrun : (Builtin.append_ #[t, t] o.type #[v, u]).run P w = .ok v' w') (h : K (a.put o.dst v') w') :
    wpOpIn F n P ops Q i K a w := by
  refine wpOpIn_step ho (fun K' hK' => ?_)
  rw [if_pos (by simp [Region.wanted, hg])]
  unfold Oper.wpIn
  refine ⟨?_, ?_⟩
  · simp [Oper.about, hop, resolve, Target.leads, Sem.run_pure]
  · rw [Oper.semAt_plain F _ _ (by rw [hop]; intro c hc'; cases hc')]
    simp [execOp, hop, resolve, invoke, builtin, hs, hx, hrun, Result.andThen]
    exact hK' _ _ h
/-- where copies stands -/
structure Cp (V : World) (B N b7 b9 gk : Nat) (L : List (Int × Sv)) (A : List KV) : Prop where
  lim : V.heap[b7]? = some (.cells #[.int .i64 (N : Int)] 3 (0, 0))
  bx : V.heap[b9]? = some (.cells #[.slice (some ⟨gk, 0, none⟩) L.length N] 68 (0, 0))
  own : V.ownsRow B 78 2 (.slice (some ⟨gk, 0, none⟩) L.length N) L.length (pc L)
  f : F2 (FV V) L A
  lo : ∀ p ∈ L, ∀ g, (sl p.2).ownBlock = some g → B ≤ g
  ap : L.Pairwise (fun p q => ∀ g, (sl p.2).ownBlock = some g → (sl q.2).ownBlock ≠ some g)
  l9 : B ≤ b9
section
variable {V W : World} {B N b7 b9 gk : Nat} {L : List (Int × Sv)} {A : List KV}
def Sp2 (b9 gk : Nat) (j : Nat) : Prop := j = b9 ∨ j = gk
theorem Cp.rowb (h : Cp V B N b7 b9 gk L A) : ∃ c, V.heap[gk]? = some (.cells c 78 (0, 0)) := own_obj h.own rfl
theorem Cp.ty (h : Cp V B N b7 b9 gk L A) {i : Nat} {c : Array Value} {ty : TypeId} {m : Nat × Nat} (hs : Sp2 b9 gk i) (hc : V.heap[i]? = some (.cells c ty m)) : ty = 68 ∨ ty = 78 := by
  rcases hs with rfl | rfl
  · rw [h.bx] at hc; cases hc; exact .inl rfl
  · obtain ⟨c', hc'⟩ := h.rowb
    rw [hc'] at hc; cases hc; exact .inr rfl
theorem Cp.nu (h : Cp V B N b7 b9 gk L A) (k : Kp Nu V W) : Cp W B N b7 b9 gk L A :=
  ⟨(k.block _ (blk_lt h.lim) (fun h => h)).trans h.lim, (k.block _ (blk_lt h.bx) (fun h => h)).trans h.bx, own_keep h.own (fun g e => k.block g (own_lt h.own e) (fun h => h)),
    h.f.imp (fun p m hf => hf.keep k (fun _ _ hs => hs.elim)), h.lo, h.ap, h.l9⟩
/-- the value has been copied -/
def CL (V : World) (ys : List Int) (v : Sv) (W : World) : Prop := W.ownsRow V.heap.size 5 1 (sl v) ys.length (cs ys) ∧ Kp Nu V W
def P2 (V : World) (ys : List Int) (k : Int) (v : Sv) (Bs : Nat) (W : World) : Prop := ∃ W1, CL V ys v W1 ∧ W = W1.alloc (.cells #[.int .u64 k, sl v] 78) ∧ Bs = W1.heap.size
def P3 (V : World) (B N gk : Nat) (L : List (Int × Sv)) (ys : List Int) (k : Int) (v : Sv) (W : World) : Prop := ∃ Bs W2, P2 V ys k v Bs W2 ∧ W.ownsRow B 78 2 (.slice (some ⟨gk, 0, none⟩) (L.length + 1) N) (L.length + 1) (pc L ++ [.int .u64 k, sl v]) ∧ W2.grownBy W (some gk)
def P4 (V : World) (B N b9 gk : Nat) (L : List (Int × Sv)) (ys : List Int) (k : Int) (v : Sv) (W : World) : Prop := ∃ W3, P3 V B N gk L ys k v W3 ∧ W = W3.setCell ⟨b9, 0, none⟩ (.slice (some ⟨gk, 0, none⟩) (L.length + 1) N)
variable {ys : List Int} {k : Int} {v : Sv} {Bs : Nat}
theorem P2.kp (h : P2 V ys k v Bs W) : Kp Nu V W := by
  obtain ⟨W1, h1, rfl, _⟩ := h
  exact h1.2.andAlloc _
theorem P2.cell (h : P2 V ys k v Bs W) : ∀ j u, [.int .u64 k, sl v][j]? = some u → W.cell? ((⟨Bs, 0, none⟩ : Addr).add j) = some u := by
  obtain ⟨W1, h1, rfl, rfl⟩ := h
  exact cells_two_new W1 _ _ _
theorem P3.kp (h : P3 V B N gk L ys k v W) : Kp (fun j => j = gk) V W := by
  obtain ⟨Bs, W2, h2, _, hg⟩ := h
  exact (h2.kp.mono (fun _ _ e => e.elim)).trans (Kp.of_grown hg) (fun _ _ e => Option.some.inj e)
theorem P3.box (h : P3 V B N gk L ys k v W) (hc : Cp V B N b7 b9 gk L A) : W.heap[b9]? = some (.cells #[.slice (some ⟨gk, 0, none⟩) L.length N] 68 (0, 0)) :=
  (h.kp.block _ (blk_lt hc.bx) (fun e => by obtain ⟨c, hg⟩ := hc.rowb; have e : b9 = gk := e; rw [← e, hc.bx] at hg; cases hg)).trans hc.bx
theorem P4.kp (h : P4 V B N b9 gk L ys k v W) : Kp (Sp2 b9 gk) V W := by
  obtain ⟨W3, h3, rfl⟩ := h
  exact (h3.kp.mono (fun _ _ e => .inr e)).trans (Kp.setCell _ _ _) (fun _ _ e => .inl e)
/-- one pair more -/
theorem P4.cp {x : Int × Sv} {m : KV} (h : P4 V B N b9 gk L m.2 m.1 v W) (hc : Cp V B N b7 b9 gk L A) (hx : FV V x m) (hB : B ≤ V.heap.size) : Cp W B N b7 b9 gk (L ++ [(m.1, v)]) (A ++ [m]) := by
  have kp := h.kp
  obtain ⟨W3, h3, rfl⟩ := h
  have hb9 := h3.box hc
  obtain ⟨Bs, W2, ⟨W1, ⟨ho1, k1⟩, rfl, rfl⟩, ho, hg⟩ := id h3
  have hne : b9 ≠ gk := fun e => by obtain ⟨c, hg⟩ := hc.rowb; rw [← e, hc.bx] at hg; cases hg
  have hl : (L ++ [(m.1, v)]).length = L.length + 1 := by simp
  -- the copy's own block is new
  have hn : ∀ g, (sl v).ownBlock = some g → V.heap.size ≤ g := fun g hg => (ho1.lt g hg).1
  have hgk : gk < V.heap.size := own_lt hc.own rfl
  have hov : (W3.setCell ⟨b9, 0, none⟩ (.slice (some ⟨gk, 0, none⟩) (L.length + 1) N)).ownsRow 0 5 1 (sl v) m.2.length (cs m.2) := by
    refine own_base (own_keep ho1 (fun g e => ?_)) (Nat.zero_le _)
    have hlt := own_lt ho1 e
    have hge := hn g e
    have e1 := Below.heap_alloc W1 (.cells #[.int .u64 m.1, sl v] 78) g hlt
    have e2 := (Kp.of_grown hg).block g (by simp; omega) (fun e => by have : g = gk := (Option.some.inj e); omega)
    have e3 := Below.heap_setCell W3 ⟨b9, 0, none⟩ (.slice (some ⟨gk, 0, none⟩) (L.length + 1) N) g (fun e => by have e : g = b9 := e; have := blk_lt hc.bx; omega)
    exact e3.trans (e2.trans e1)
  refine ⟨(kp.block _ (blk_lt hc.lim) (fun e => by rcases hc.ty e hc.lim with e | e <;> cases e)).trans hc.lim, by rw [hl, set3 hb9]; rfl, ?_, ?_, ?_, ?_, hc.l9⟩
  · rw [hl, pc_snoc]
    exact own_keep ho (fun g e => Below.heap_setCell W3 ⟨b9, 0, none⟩ _ g (fun e2 => by have e2 : g = b9 := e2; have : gk = g := Option.some.inj e; omega))
  · refine (hc.f.imp (fun p q hf => hf.keep kp (fun i c hs hc' => by rcases hc.ty hs hc' with e | e <;> cases e))).app ⟨⟨rfl, hov, hx.2.2⟩, trivial⟩
  · intro p hp g hg'
    rcases List.mem_append.1 hp with hp | hp
    · exact hc.lo p hp g hg'
    · obtain rfl : p = (m.1, v) := by simpa using hp
      have := hn g hg'; omega
  · rw [List.pairwise_append]
    refine ⟨hc.ap, List.pairwise_singleton _ _, ?_⟩
    intro p hp q hq g hg1 hg2
    obtain rfl : q = (m.1, v) := by simpa using hq
    have h2 := hn g hg2
    obtain ⟨q, _, hf⟩ : ∃ b ∈ A, FV V p b := by
      have : ∀ {L : List (Int × Sv)} {A : List KV}, F2 (FV V) L A → ∀ p ∈ L, ∃ b ∈ A, FV V p b := by
        intro L
        induction L with
        | nil => intro A _ p hp; cases hp
        | cons a L ih => intro A h p hp
                         cases A with
                         | nil => exact h.elim
                         | cons b A =>
                           rcases List.mem_cons.1 hp with rfl | hp
                           · exact ⟨b, by simp, h.1⟩
                           · obtain ⟨c, hc, hf⟩ := ih h.2 p hp
                             exact ⟨c, by simp [hc], hf⟩
      exact this hc.f p hp
    have h1 := own_lt hf.2.1 hg1
    omega
theorem kp_of {l3 l5 l6 : Bool} (hw0 : l3 = false → W = V.drew) (hw1 : l3 = true → l5 = false → Hid (CL V ys v W)) (hw2 : l5 = true → l6 = false → Hid (P2 V ys k v Bs W)) (h6 : l6 = false) : Kp Nu V W := by
  cases h3 : l3 with
  | false => rw [hw0 h3]; exact (Kp.refl _ _).drew
  | true =>
    cases h5 : l5 with
    | false => exact (hw1 h3 h5).out.2
    | true => exact (hw2 h5 h6).out.kp
theorem Cp.cc (h : Cp V B N b7 b9 gk L A) (c : Cc V W) : Cp W B N b7 b9 gk L A :=
  ⟨c _ _ _ _ h.lim, c _ _ _ _ h.bx, c.own h.own, h.f.imp (fun p m hf => ⟨hf.1, c.own hf.2.1, hf.2.2⟩), h.lo, h.ap, h.l9⟩
/-- what stands ahead of a pair; what stands where it is stopped -/
def CI (w : World) (N b7 b9 gk sb mb : Nat) (most : Int) (t : T (Int × Sv)) (M FM : List KV) (pre : List (Int × Sv)) (V : World) : Prop :=
  ∃ L, L.length = pre.length ∧ Cp V w.heap.size N b7 b9 gk L (FM.take pre.length) ∧ Sh V sb mb most t M ∧ Below w.heap.size w V
def CE (w : World) (N b7 b9 gk sb mb : Nat) (most : Int) (t : T (Int × Sv)) (M FM : List KV) (c : Code) (pre : List (Int × Sv)) (V : World) : Prop :=
  c = .exit 0 ∧ ∃ L, L.length = N ∧ Cp V w.heap.size N b7 b9 gk L (FM.take N) ∧ Sh V sb mb most t M ∧ Below w.heap.size w V
theorem pre_at {α : Type} {pre L : List α} {x : α} (h : pre ++ [x] <+: L) : L[pre.length]? = some x ∧ pre.length < L.length := by
  obtain ⟨s, rfl⟩ := h
  simp
theorem Cp.post {w : World} {sb mb : Nat} {most : Int} {t : T (Int × Sv)} {M : List KV} (h : Cp V w.heap.size N b7 b9 gk L A) (k : Kp (Sp2 b9 gk) V W) (hs : Sh V sb mb most t M) (hb : Below w.heap.size w V) (C : Nat) : KeepsFrom C V W ∧ Kc (KM mb) V W ∧ Below w.heap.size w W ∧ Sh W sb mb most t M := by
  refine ⟨kf_cells k (fun j hj => ?_), kc_cells k (fun j c ty m hj hc hK => ?_), ((Kp.of_below hb).trans k (fun j hj e => ?_)).toBelow, hs.keep k (fun i c ty hi hc => by rcases h.ty hi hc with rfl | rfl <;> decide)⟩
  · rcases hj with rfl | rfl
    · exact ⟨_, _, _, h.bx⟩
    · obtain ⟨c, hc⟩ := h.rowb
      exact ⟨_, _, _, hc⟩
  · have e := h.ty hj hc
    rcases hK with h | h | h | h | h
    · rcases e with e | e <;> rw [h] at e <;> cases e
    · rcases e with e | e <;> rw [h] at e <;> cases e
    · rcases e with e | e <;> rw [h] at e <;> cases e
    · rcases e with e | e <;> rw [h] at e <;> cases e
    · obtain ⟨a, h1, _⟩ := hs.m.ex
      rw [h, h1] at hc; cases hc
      rcases e with e | e <;> cases e
  · have l9 := h.l9
    have lg := (h.own.lt gk rfl).1
    rcases e with e | e
    · have e : j = b9 := e; omega
    · have e : j = gk := e; omega
end
end Go.Proofs.Ytchealdgncgjoaa.StU
