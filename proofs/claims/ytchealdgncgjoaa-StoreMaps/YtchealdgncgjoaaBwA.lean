import Derived.Test.YtchealdgncgjoaaRmH
import Derived.Test.YtchealdgncgjoaaPqN
import Derived.Test.YtchealdgncgjoaaLtA
namespace Go.Proofs.Ytchealdgncgjoaa.StI
open Go.RowKit Go.Proofs.Ytchealdgncgjoaa.St Go.Shelf
set_option linter.unusedVariables false
theorem cell_nuI {w w' : World} {a : Addr} {u : Value} (h : w.cell? a = some u) (k : Kp Nu w w') : w'.cell? a = some u := by
  have hl := World.block_lt_of_cell? w _ h
  have := k.block a.block hl (fun h => h)
  unfold World.cell? at h ⊢
  rw [this]; exact h
theorem kp_newI {w w' w'' : World} {mb : Nat} (hB : w.heap.size ≤ mb) (k : Kp Nu w w') (q : Kp (fun i => i = mb) w' w'') : Kp Nu w w'' :=
  k.trans q (fun i hi e => by have e : i = mb := e; omega)
/-- numbers in memory -/
def Wi (W : World) (v : Value) (S : List Int) : Prop := ∃ ad cap, v = .slice ad S.length cap ∧ ∀ i s, S[i]? = some s → ∃ b off, ad = some ⟨b, off, none⟩ ∧ W.cell? ⟨b, off + i, none⟩ = some (.int .i64 s)
/-- both maps, and what has been kept -/
def Both (w : World) (mb rb : Nat) (n : Nat) (wr : World) (t : T (Int × Int)) : Prop := Mp wr mb t ∧ (∃ vk vv, Rm w.heap.size wr rb 0 vk vv t.xs) ∧ t.sz ≤ n ∧ Kp Nu w wr
section
variable {w wl : World} {mb rb n : Nat} {t : T (Int × Int)}
theorem Both.put {w2 w3 : World} {vk vv : Value} {k v : Int} (h1 : w.heap.size ≤ mb) (h2 : w.heap.size ≤ rb) (hsz : t.sz ≤ n) (hk : Kp Nu w wl) (hm2 : Mp w2 mb (putT k v t)) (k2 : Kp (fun i => i = mb) wl w2) (r2 : Rm w.heap.size w2 rb 0 vk vv t.xs) (r3 : ∃ vk' vv', Rm w.heap.size w3 rb 0 vk' vv' (putT k v t).xs) (k3 : Kp (fun i => i = rb ∨ vv.ownBlock = some i) w2 w3) : Both w mb rb (n + 1) w3 (putT k v t) := by
  refine ⟨hm2.keepR r2 k3, r3, ?_, (hk.trans k2 (fun i hi e => by have e : i = mb := e; omega)).trans k3 (fun i hi e => ?_)⟩
  · rw [put_sz]; split <;> omega
  · rcases e with e | e
    · omega
    · have := own_low r2.ov e; omega
theorem Both.del {w2 w3 : World} {vk vv : Value} {k : Int} (h1 : w.heap.size ≤ mb) (h2 : w.heap.size ≤ rb) (hsz : t.sz ≤ n) (hk : Kp Nu w wl) (hm2 : Mp w2 mb (delT k t)) (k2 : Kp (fun i => i = mb) wl w2) (r2 : Rm w.heap.size w2 rb 0 vk vv t.xs) (r3 : ∃ vk' vv', Rm w.heap.size w3 rb 0 vk' vv' (delT k t).xs) (k3 : Kp (fun i => i = rb ∨ vv.ownBlock = some i) w2 w3) : Both w mb rb n w3 (delT k t) := by
  refine ⟨hm2.keepR r2 k3, r3, ?_, (hk.trans k2 (fun i hi e => by have e : i = mb := e; omega)).trans k3 (fun i hi e => ?_)⟩
  · rw [del_sz]; split <;> omega
  · rcases e with e | e
    · omega
    · have := own_low r2.ov e; omega
end
set_option maxRecDepth 100000 in
set_option maxHeartbeats 4000000 in
theorem filled_any (w : World) (v0 v1 : Value) (S O : List Int) (hS : Wi w v0 S) (hO : Wi w v1 O) (hl0 : S.length ≤ 17592186043904) (hl1 : O.length ≤ 17592186043904) :
    Calls Try.prog 35 #[v0, v1] w fun e w' => ∃ (mb rb : Nat) (t : T (Int × Int)), e = .returned (.tuple #[.pointer (some ⟨mb, 0, none⟩), .pointer (some ⟨rb, 0, none⟩)]) ∧ w.heap.size ≤ mb ∧ w.heap.size ≤ rb ∧ Both w mb rb S.length w' t := by
  obtain ⟨ad0, cap0, rfl, hw0⟩ := hS
  obtain ⟨ad1, cap1, rfl, hw1⟩ := hO
  have HW0 : Hid (∀ W, Kp Nu w W → ∀ i s, S[i]? = some s → ∃ b off, ad0 = some ⟨b, off, none⟩ ∧ W.cell? ⟨b, off + i, none⟩ = some (.int .i64 s)) := fun W k i s h => by
    obtain ⟨b, off, e, hc⟩ := hw0 i s h
    exact ⟨b, off, e, cell_nuI hc k⟩
  have HW1 : Hid (∀ W, Kp Nu w W → ∀ i s, O[i]? = some s → ∃ b off, ad1 = some ⟨b, off, none⟩ ∧ W.cell? ⟨b, off + i, none⟩ = some (.int .i64 s)) := fun W k i s h => by
    obtain ⟨b, off, e, hc⟩ := hw1 i s h
    exact ⟨b, off, e, cell_nuI hc k⟩
  obtain ⟨N, hN⟩ : ∃ N, S.length = N := ⟨_, rfl⟩
  obtain ⟨M, hM⟩ : ∃ M, O.length = M := ⟨_, rfl⟩
  have HN := hide hN
  have HM := hide hM
  rw [hN] at hl0
  rw [hM] at hl1
  rw [hN, hM]
  have HL := hide (And.intro hl0 hl1)
  have NA := new_any w
  clear hw0 hw1 hN hM hl0 hl1
  go_enter Try.func35, Try.ntmps35
  go_wp2_with (go_at_call 16; refine NA.mono ?_; rintro e w1 ⟨rfl, hm1, k1⟩)
  obtain ⟨mb, hmb⟩ : ∃ mb, w.heap.size = mb := ⟨_, rfl⟩
  have HMB : Hid (w.heap.size ≤ mb) := by show w.heap.size ≤ mb; omega
  rw [hmb] at hm1 ⊢
  obtain ⟨rb, hrb⟩ : ∃ rb, w1.heap.size = rb := ⟨_, rfl⟩
  have HRB : Hid (w.heap.size ≤ rb) := by show w.heap.size ≤ rb; have := k1.size; omega
  have HM1 : Hid (Both w mb rb 0 (w1.alloc (.cells #[.int .i64 0, .slice none 0 0, .slice none 0 0] 52)) .nil) := ⟨hm1.nu (Kp.alloc _ _ _), ⟨.slice none 0 0, .slice none 0 0, by rw [← hrb]; exact heap_alloc_new w1 _, ⟨rfl, .inl ⟨rfl, rfl⟩⟩, ⟨rfl, .inl ⟨rfl, rfl⟩⟩, fun g h => by cases h⟩, Nat.le_refl _, k1.andAlloc _⟩
  rw [hrb]
  clear NA hmb hm1 k1 hrb
  go_loopw [8] (fun i wr => ∃ (n : Nat) (t : T (Int × Int)), i = .int .i64 (n : Int) ∧ n ≤ N ∧ Hid (Both w mb rb n wr t)) (fun i _ => N - (intOf i).toNat)
  case atStart => exact ⟨0, .nil, rfl, Nat.zero_le _, HM1.out⟩
  case round =>
    generalize wr = wl at *
    obtain ⟨i, t, rfl, hi, hh⟩ := hrel
    by_cases hlt : i < N
    · obtain ⟨hm, ⟨vk, vv, hr⟩, hsz, kw⟩ := hh.out
      obtain ⟨s, hs⟩ : ∃ s, S[i]? = some s := ⟨_, List.getElem?_eq_getElem (by rw [HN.out]; exact hlt)⟩
      have PU := put_any hm s (i : Int) (by have := HL.out.1; omega)
      have HR : Hid (∀ w2, Mp w2 mb (putT s (i : Int) t) → Kp (fun i => i = mb) wl w2 → Rm w.heap.size w2 rb 0 vk vv t.xs ∧ Calls Try.prog 36 #[.pointer (some ⟨rb, 0, none⟩), .int .i64 s, .int .i64 (i : Int)] w2 fun e w' => e = .returned (.tuple #[ov (getT s t), .bool (T.fd (sd s) t).2]) ∧ (∃ vk' vv', Rm w.heap.size w' rb 0 vk' vv' (putT s (i : Int) t).xs) ∧ Kp (fun i => i = rb ∨ vv.ownBlock = some i) w2 w') := fun w2 hm2 k2 => by
        have r2 := hr.keepM hm k2
        exact ⟨r2, rput_T r2 hm.srt (Nat.le_trans kw.size k2.size) s (i : Int) (by rw [T.xs_length]; have := HL.out.1; omega)⟩
      obtain ⟨b0, off0, ead, hc⟩ := HW0.out wl kw i s hs
      subst ead
      have HCI : Hid (∀ V, Kp Nu w V → V.cell? ⟨b0, off0 + i, none⟩ = some (.int .i64 s)) := fun V k => by
        obtain ⟨b, off, e, h⟩ := HW0.out V k i s hs
        cases e; exact h
      have hltI : (i : Int) < (N : Int) := by omega
      have hi0 : (0 : Int) ≤ (i : Int) := by omega
      have HI : Hid (i < N ∧ Kp Nu w wl ∧ t.sz ≤ i) := ⟨hlt, kw, hsz⟩
      have HAI : Hid ((i : Int) + 1 = ((i + 1 : Nat) : Int) ∧ wrap64 ((i : Int) + 1) = ((i + 1 : Nat) : Int)) := ⟨by omega, by have := HL.out.1; unfold wrap64; omega⟩
      clear hh hm hr hsz kw hs hi hlt HM1
      go_wp2_with (first
        | (go_at_call 17; refine PU.mono ?_; rintro e w2 ⟨rfl, hm2, k2⟩; obtain ⟨r2, RP⟩ := HR.out w2 hm2 k2; have c2 := HCI.out w2 (kp_newI HMB.out HI.out.2.1 k2); have H2 := hide (And.intro hm2 (And.intro k2 r2)); clear hm2 k2 r2)
        | (go_at_call 36; refine RP.mono ?_; rintro e w3 ⟨rfl, r3, k3⟩; have H3 := hide (Both.put HMB.out HRB.out HI.out.2.2 HI.out.2.1 H2.out.1 H2.out.2.1 H2.out.2.2 r3 k3); clear r3 k3))
      go_roundw
      case rel => exact ⟨i + 1, _, by first | exact congrArg (Value.int .i64) HAI.out.1 | exact congrArg (Value.int .i64) HAI.out.2, HI.out.1, H3.out⟩
      case measure => first | exact lt_mI _ HAI.out.1 HI.out.1 | exact lt_mI _ HAI.out.2 HI.out.1
    · obtain rfl : i = N := by omega
      have HT0 := hide hh.out
      have hge : ¬ (i : Int) < (i : Int) := by omega
      clear hh hi hlt HM1
      go_wp2_with fail
      clear hge
      go_loopw [9] (fun k wr2 => ∃ (j : Nat) (t2 : T (Int × Int)), k = .int .i64 (j : Int) ∧ j ≤ M ∧ Hid (Both w mb rb i wr2 t2)) (fun k _ => M - (intOf k).toNat)
      case atStart => exact ⟨0, t, rfl, Nat.zero_le _, HT0.out⟩
      case round =>
        clear HT0
        generalize wr = wq at *
        obtain ⟨j, t2, rfl, hj, hh2⟩ := hrel
        by_cases hlt : j < M
        · obtain ⟨hm, ⟨vk, vv, hr⟩, hsz, kw⟩ := hh2.out
          obtain ⟨o, ho⟩ : ∃ o, O[j]? = some o := ⟨_, List.getElem?_eq_getElem (by rw [HM.out]; exact hlt)⟩
          have DE := del_any hm o (by have := HL.out.1; omega)
          have HR : Hid (∀ w2, Mp w2 mb (delT o t2) → Kp (fun i => i = mb) wq w2 → Rm w.heap.size w2 rb 0 vk vv t2.xs ∧ Calls Try.prog 42 #[.pointer (some ⟨rb, 0, none⟩), .int .i64 o] w2 fun e w' => e = .returned (.tuple #[ov (getT o t2), .bool (T.fd (sd o) t2).2]) ∧ (∃ vk' vv', Rm w.heap.size w' rb 0 vk' vv' (delT o t2).xs) ∧ Kp (fun i => i = rb ∨ vv.ownBlock = some i) w2 w') := fun w2 hm2 k2 => by
            have r2 := hr.keepM hm k2
            exact ⟨r2, rdel_T r2 hm.srt (Nat.le_trans kw.size k2.size) o (by rw [T.xs_length]; have := HL.out.1; omega)⟩
          obtain ⟨b1, off1, ead, hc⟩ := HW1.out wq kw j o ho
          subst ead
          have HCO : Hid (∀ V, Kp Nu w V → V.cell? ⟨b1, off1 + j, none⟩ = some (.int .i64 o)) := fun V k => by
            obtain ⟨b, off, e, h⟩ := HW1.out V k j o ho
            cases e; exact h
          have hltI : (j : Int) < (M : Int) := by omega
          have hj0 : (0 : Int) ≤ (j : Int) := by omega
          have HJ : Hid (j < M ∧ Kp Nu w wq ∧ t2.sz ≤ i) := ⟨hlt, kw, hsz⟩
          have HAJ : Hid ((j : Int) + 1 = ((j + 1 : Nat) : Int) ∧ wrap64 ((j : Int) + 1) = ((j + 1 : Nat) : Int)) := ⟨by omega, by have := HL.out.2; unfold wrap64; omega⟩
          clear hh2 hm hr hsz kw ho hj hlt
          go_wp2_with (first
            | (go_at_call 24; refine DE.mono ?_; rintro e w2 ⟨rfl, hm2, k2⟩; obtain ⟨r2, RP⟩ := HR.out w2 hm2 k2; have c2 := HCO.out w2 (kp_newI HMB.out HJ.out.2.1 k2); have H2 := hide (And.intro hm2 (And.intro k2 r2)); clear hm2 k2 r2)
            | (go_at_call 42; refine RP.mono ?_; rintro e w3 ⟨rfl, r3, k3⟩; have H3 := hide (Both.del HMB.out HRB.out HJ.out.2.2 HJ.out.2.1 H2.out.1 H2.out.2.1 H2.out.2.2 r3 k3); clear r3 k3))
          go_roundw
          case rel => exact ⟨j + 1, _, by first | exact congrArg (Value.int .i64) HAJ.out.1 | exact congrArg (Value.int .i64) HAJ.out.2, HJ.out.1, H3.out⟩
          case measure => first | exact lt_mI _ HAJ.out.1 HJ.out.1 | exact lt_mI _ HAJ.out.2 HJ.out.1
        · obtain rfl : j = M := by omega
          have hge : ¬ (j : Int) < (j : Int) := by omega
          have HT := hide hh2.out
          clear hh2 hj hlt
          go_wp2_with fail
          go_ret2
          exact ⟨mb, rb, rfl, HMB.out, HRB.out, t2, HT.out⟩
end Go.Proofs.Ytchealdgncgjoaa.StI
namespace Go.Proofs.Ytchealdgncgjoaa.StI
open Go.RowKit Go.Proofs.Ytchealdgncgjoaa.St Go.Shelf
set_option linter.unusedVariables false
set_option linter.unusedSimpArgs false
theorem mid_filter {α : Type} (a b : α → Bool) : ∀ xs : List α, xs.Pairwise (fun x y => (a y = true → a x = true) ∧ (b y = true → b x = true)) →
    (xs.drop (xs.countP a)).take (xs.countP b - xs.countP a) = xs.filter (fun x => !a x && b x)
  | [], _ => by simp
  | x :: xs, h => by
    obtain ⟨h1, h2⟩ := List.pairwise_cons.1 h
    have ih := mid_filter a b xs h2
    have nb : b x = false → ∀ y ∈ xs, b y = false := fun hb y hy => by
      cases hc : b y
      · rfl
      · have := (h1 y hy).2 hc; rw [hb] at this; cases this
    have na : a x = false → ∀ y ∈ xs, a y = false := fun hb y hy => by
      cases hc : a y
      · rfl
      · have := (h1 y hy).1 hc; rw [hb] at this; cases this
    have zb : b x = false → xs.countP b = 0 := fun hb => List.countP_eq_zero.2 (fun y hy => by rw [nb hb y hy]; simp)
    have za : a x = false → xs.countP a = 0 := fun hb => List.countP_eq_zero.2 (fun y hy => by rw [na hb y hy]; simp)
    have fb : b x = false → xs.filter (fun x => !a x && b x) = [] := fun hb => List.filter_eq_nil_iff.2 (fun y hy => by rw [nb hb y hy]; simp)
    cases ha : a x with
    | true =>
      cases hb : b x with
      | true =>
        simp only [List.countP_cons, ha, hb, if_true, List.filter_cons]
        simp only [List.drop_succ_cons, Nat.add_sub_add_right, Bool.not_true, Bool.false_and]
        simpa using ih
      | false =>
        simp only [List.countP_cons, ha, hb, zb hb, List.filter_cons]
        simpa using fb hb
    | false =>
      cases hb : b x with
      | true =>
        rw [za ha] at ih
        simp only [List.countP_cons, ha, hb, za ha, List.filter_cons]
        simpa using ih
      | false =>
        simp only [List.countP_cons, ha, hb, zb hb, za ha, List.filter_cons]
        simpa using fb hb
theorem upto_count {α : Type} (c : α → Int) : ∀ xs : List α, xs.Pairwise (fun x y => 0 ≤ c y → 0 < c x) →
    xs.countP (fun x => decide (0 ≤ c x)) = xs.countP (fun x => decide (0 < c x)) + (if xs.any (fun x => decide (c x = 0)) then 1 else 0)
  | [], _ => by simp
  | x :: xs, h => by
    obtain ⟨h1, h2⟩ := List.pairwise_cons.1 h
    have ih := upto_count c xs h2
    by_cases hp : 0 < c x
    · have : 0 ≤ c x := by omega
      have hn : ¬ c x = 0 := by omega
      simp only [List.countP_cons, List.any_cons, hp, this, hn, decide_true, decide_false, if_true, Bool.false_or]
      rw [ih]; omega
    · have hall : ∀ y ∈ xs, c y < 0 := fun y hy => by
        have := h1 y hy; omega
      have z1 : xs.countP (fun x => decide (0 ≤ c x)) = 0 := List.countP_eq_zero.2 (fun y hy => by have := hall y hy; simp; omega)
      have z2 : xs.countP (fun x => decide (0 < c x)) = 0 := List.countP_eq_zero.2 (fun y hy => by have := hall y hy; simp; omega)
      have z3 : xs.any (fun x => decide (c x = 0)) = false := List.any_eq_false.2 (fun y hy => by have := hall y hy; simp; omega)
      by_cases h0 : c x = 0
      · simp [List.countP_cons, z1, z2, h0]
      · have : ¬ 0 ≤ c x := by omega
        simp [List.countP_cons, z1, z2, z3, h0, this, hp]
theorem seg_filter {t : T (Int × Int)} (hs : Srt cmpI t.xs) (lo hi : Int) : seg t (lowT lo t) (highT hi t) = t.xs.filter (inB cmpI lo hi) := by
  have hl : lowT lo t = t.xs.countP (fun a => decide (0 < sd lo a)) := by unfold lowT; rw [T.fd_eq (sd lo) t (hs.c cmpI_ord lo)]
  have hh : highT hi t = t.xs.countP (fun a => decide (0 ≤ sd hi a)) := by
    unfold highT; rw [T.fd_eq (sd hi) t (hs.c cmpI_ord hi), upto_count (sd hi) t.xs (hs.c cmpI_ord hi)]
  have hp : t.xs.Pairwise (fun x y => (decide (0 < sd lo y) = true → decide (0 < sd lo x) = true) ∧ (decide (0 ≤ sd hi y) = true → decide (0 ≤ sd hi x) = true)) := by
    have p1 := hs.c cmpI_ord lo
    have p2 := hs.c cmpI_ord hi
    refine List.Pairwise.imp ?_ (List.Pairwise.and p1 p2)
    rintro x y ⟨q1, q2⟩
    simp only [decide_eq_true_eq]
    have q1 : 0 ≤ sd lo y → 0 < sd lo x := q1
    have q2 : 0 ≤ sd hi y → 0 < sd hi x := q2
    omega
  rw [seg_xs, hl, hh, Int.toNat_natCast, Int.toNat_natCast, List.drop_take, mid_filter _ _ _ hp]
  refine List.filter_congr (fun p _ => ?_)
  have a1 := cmpI_ord.anti p.1 lo
  have a2 := cmpI_ord.anti hi p.1
  have e1 : sd lo p = cmpI lo p.1 := rfl
  have e2 : sd hi p = cmpI hi p.1 := rfl
  unfold inB
  rw [e1, e2, Bool.eq_iff_iff]
  simp only [Bool.and_eq_true, Bool.not_eq_true', decide_eq_true_eq, decide_eq_false_iff_not]
  omega
end Go.Proofs.Ytchealdgncgjoaa.StI
namespace Go.Proofs.Ytchealdgncgjoaa.StI
open Go.RowKit Go.Proofs.Ytchealdgncgjoaa.St Go.Shelf Go.Sort Go.Proofs.Ytchealdgncgjoaa.It
set_option linter.unusedVariables false
theorem Wi.nu {w w' : World} {v : Value} {S : List Int} (h : Wi w v S) (k : Kp Nu w w') : Wi w' v S := by
  obtain ⟨ad, cap, e, hc⟩ := h
  exact ⟨ad, cap, e, fun i s hi => by obtain ⟨b, off, e2, c⟩ := hc i s hi; exact ⟨b, off, e2, cell_nuI c k⟩⟩
theorem Cc.nu {X Z : World} (k : Kp Nu X Z) : Cc X Z := fun b c t m e => (k.block b (blk_lt e) (fun h => h)).trans e
theorem Cc.trans {X Y Z : World} (h : Cc X Y) (k : Cc Y Z) : Cc X Z := fun b c t m e => k b c t m (h b c t m e)
theorem Cc.own {X Z : World} (h : Cc X Z) {B n : Nat} {v : Value} {l : List Value} (ho : X.ownsRow B 3 1 v n l) : Z.ownsRow B 3 1 v n l :=
  own_keep ho (fun g hg => by obtain ⟨cur, hc⟩ := own_obj ho hg; rw [hc]; exact h _ _ _ _ hc)
theorem Cc.rm {X Z : World} (h : Cc X Z) {B rb : Nat} {wh : Int} {vk vv : Value} {xs : List (Int × Int)} (r : Rm B X rb wh vk vv xs) : Rm B Z rb wh vk vv xs :=
  ⟨h _ _ _ _ r.blk, h.own r.ok, h.own r.ov, r.apart⟩
theorem Cc.set {X V : World} (h : Cc X V) {b : Nat} (hb : X.heap.size ≤ b) (u : Value) : Cc X (V.setCell ⟨b, 0, none⟩ u) := fun k c t m e =>
  (Below.heap_setCell V ⟨b, 0, none⟩ u k (fun e2 => by have e2 : k = b := e2; have := blk_lt e; omega)).trans (h k c t m e)
theorem own_lower {w : World} {B B' n : Nat} (hB : B ≤ B') {v : Value} {l : List Value} (h : w.ownsRow B' 3 1 v n l) : w.ownsRow B 3 1 v n l := by
  refine ⟨h.1, ?_⟩
  rcases h.2 with ⟨rfl, h0⟩ | ⟨g, cap, cur, rfl, hb', hg, h1, h2, h3, h4⟩
  · exact .inl ⟨rfl, h0⟩
  · exact .inr ⟨g, cap, cur, rfl, Nat.le_trans hB hb', hg, h1, h2, h3, h4⟩
/-- what stands while StoreBetween goes through the range -/
structure Bw (X : World) (bs br bk bv mb rb B : Nat) (stop : Int) (t : T (Int × Int)) (vk vv vk0 vv0 : Value) (L : List (Int × Int)) : Prop where
  s : X.heap[bs]? = some (.cells #[.int .i64 stop] 3 (0, 0))
  r : X.heap[br]? = some (.cells #[.bool false] 4 (0, 0))
  k : X.heap[bk]? = some (.cells #[vk] 47 (0, 0))
  v : X.heap[bv]? = some (.cells #[vv] 47 (0, 0))
  m : Mp X mb t
  d : Rm B X rb 0 vk0 vv0 t.xs
  ok : X.ownsRow B 3 1 vk L.length (kv L)
  ov : X.ownsRow B 3 1 vv L.length (vvs L)
theorem Bw.cc {X Z : World} {bs br bk bv mb rb B : Nat} {stop : Int} {t : T (Int × Int)} {vk vv vk0 vv0 : Value} {L : List (Int × Int)} (h : Bw X bs br bk bv mb rb B stop t vk vv vk0 vv0 L) (c : Cc X Z) : Bw Z bs br bk bv mb rb B stop t vk vv vk0 vv0 L :=
  ⟨c _ _ _ _ h.s, c _ _ _ _ h.r, c _ _ _ _ h.k, c _ _ _ _ h.v, c.mp h.m, c.rm h.d, c.own h.ok, c.own h.ov⟩
theorem pre_at {pre L : List (Int × Int)} {x : Int × Int} (h : pre ++ [x] <+: L) : L[pre.length]? = some x ∧ pre.length < L.length := by
  obtain ⟨s, rfl⟩ := h
  simp
end Go.Proofs.Ytchealdgncgjoaa.StI
