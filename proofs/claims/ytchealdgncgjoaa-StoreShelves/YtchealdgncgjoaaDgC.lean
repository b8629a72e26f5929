import Derived.Test.YtchealdgncgjoaaDgB
import Derived.Test.YtchealdgncgjoaaShI
namespace Go.Proofs.Ytchealdgncgjoaa.StU
open Go.RowKit Go.Proofs.Ytchealdgncgjoaa.St Go.Shelf Go.Sort Go.Proofs.Ytchealdgncgjoaa.It
attribute [local go_sem] Oper.semAt_some
set_option linter.unusedVariables false
theorem toKp {S : Nat → Prop} {w w' : World} (k : Cd.Kp S w w') : Kp S w w' := ⟨k.os, k.tape, k.output, k.size, k.block⟩
theorem ofKp {S : Nat → Prop} {w w' : World} (k : Kp S w w') : Cd.Kp S w w' := ⟨k.os, k.tape, k.output, k.size, k.block⟩
theorem ofRd {w : World} {u : Value} {ys : List Int} (h : Rd w u ys) : Cd.Rd w u ys := h
theorem toRd {w : World} {u : Value} {ys : List Int} (h : Cd.Rd w u ys) : Rd w u ys := h
/-- the bytes of pairs -/
def pbs (A : List KV) : List Int := A.flatMap (fun m => Cd.pb m.1 m.2)
theorem pbs_snoc (A : List KV) (m : KV) : pbs (A ++ [m]) = pbs A ++ Cd.pb m.1 m.2 := by simp [pbs]
abbrev f0 : Int := 14695981039346656037
theorem lt_cases6 {i : Nat} (h : i < 6) : i = 0 ∨ i = 1 ∨ i = 2 ∨ i = 3 ∨ i = 4 ∨ i = 5 := by omega
/-- where Digest stands -/
structure Dj (V : World) (B b7 : Nat) (A : List KV) : Prop where
  bx : V.heap[b7]? = some (.cells #[.int .u64 (Cd.fv f0 (pbs A))] 69 (0, 0))
  l7 : B ≤ b7
theorem Dj.cc {V W : World} {B b7 : Nat} {A : List KV} (h : Dj V B b7 A) (c : Cc V W) : Dj W B b7 A := ⟨c _ _ _ _ h.bx, h.l7⟩
def DI (w : World) (b7 sb mb : Nat) (most : Int) (t : T (Int × Sv)) (M FM : List KV) (pre : List (Int × Sv)) (V : World) : Prop :=
  Dj V w.heap.size b7 (FM.take pre.length) ∧ Sh V sb mb most t M ∧ Below w.heap.size w V
set_option maxRecDepth 100000 in
set_option maxHeartbeats 4000000 in
theorem digest_any {w : World} {sb mb : Nat} {most : Int} {t : T (Int × Sv)} {M : List KV} (h : Sh w sb mb most t M) (lo hi : Int) :
    Calls Try.prog 51 #[.pointer (some ⟨sb, 0, none⟩), .int .u64 lo, .int .u64 hi] w fun e w' => e = .returned (.int .u64 (Cd.fv f0 (pbs (rg lo hi M)))) ∧ Kp Nu w w' := by
  have mixed : Try.prog.follows .mixedOrders = true := by kernel_rfl
  obtain ⟨h0, eh0⟩ : ∃ h0, Cd.fv f0 [] = h0 := ⟨_, rfl⟩
  have FN := Cd.fnv50 w (.slice none 0 0) [] (.inl ⟨rfl, rfl⟩) (by simp)
  rw [eh0] at FN
  have k0 := Kp.alloc w (.cells #[.int .u64 h0] 69) Nu
  have x0 := heap_alloc_new w (.cells #[.int .u64 h0] 69)
  obtain ⟨W0, eW0⟩ : ∃ W0, w.alloc (.cells #[.int .u64 h0] 69) = W0 := ⟨_, rfl⟩
  rw [eW0] at k0 x0
  have HA := held_any (h.nu k0)
  have AA := between_any W0 (some ⟨mb, 0, none⟩) lo hi
  have HC0 : Hid (Dj W0 w.heap.size w.heap.size [] ∧ Kp Nu w W0 ∧ Sh W0 sb mb most t M) := ⟨⟨by rw [← eh0] at x0; exact x0, Nat.le_refl _⟩, k0, h.nu k0⟩
  have hsm := h.small
  have hrl := rg_length h lo hi
  obtain ⟨FM, eFM⟩ : ∃ FM, rg lo hi M = FM := ⟨_, rfl⟩
  rw [eFM] at hrl ⊢
  have HE := hide (And.intro hsm hrl)
  obtain ⟨b7, e7⟩ : ∃ b, w.heap.size = b := ⟨_, rfl⟩
  have e7' : Hid (w.heap.size = b7) := e7
  clear k0 x0 h hsm hrl
  refine (callsIn_wide (n := 4)).1 ?_
  refine callsIn_of_wp_marks Try.func51 rfl trivial ?_ rfl
  simp only [Try.ntmps51, List.size_toArray, List.length_cons, List.length_nil, Nat.reduceAdd, Nat.reduceSub, Array.replicate_succ, Array.replicate_zero, List.push_toArray, List.append_toArray, List.nil_append, List.cons_append]
  gi_wp2_with fail
  refine ⟨trivial, (callsIn_wide.2 FN).mono ?_⟩; rintro e w' ⟨rfl, hw⟩; obtain rfl := hw.symm
  gi_wp2_with fail
  refine ⟨trivial, (callsIn_wide.2 HA).mono ?_⟩; rintro e w' ⟨rfl, hw⟩; obtain rfl := hw.symm
  gi_wp2_with fail
  refine ⟨trivial, (callsIn_wide.2 AA).mono ?_⟩
  rintro e w5 ⟨B1, B2, rfl, hb5, hb51, hb52, hB1, hB2, k5⟩
  have SQ := between_q (HC0.out.2.2.m.nu k5) hb5 hb51 hb52 (by have := HE.out.1; omega)
  rw [seg_filter HC0.out.2.2.m.srt] at SQ
  have K5 : Kp Nu w w5 := HC0.out.2.1.andNu k5
  have HJ0 : Hid (DI w w.heap.size sb mb most t M FM [] w5) := hide ⟨HC0.out.1.cc (Cc.nu k5), HC0.out.2.2.nu k5, K5.toBelow⟩
  have HS5 : Hid (w.heap.size ≤ w5.heap.size) := hide K5.size
  obtain ⟨bW, ebW⟩ : ∃ b, W0.heap.size = b := ⟨_, rfl⟩
  rw [ebW] at SQ ⊢
  rw [show DI w w.heap.size sb mb most t M FM = DI w b7 sb mb most t M FM by rw [e7'.out]] at HJ0
  obtain ⟨FS, eFS⟩ : ∃ FS, t.xs.filter (inR lo hi) = FS := ⟨_, rfl⟩
  rw [eFS] at SQ
  have HEQ : Hid (t.xs.filter (inR lo hi) = FS ∧ M.filter (inR lo hi) = FM) := ⟨eFS, eFM⟩
  have HFL : Hid (FS.length = FM.length) := by have := HE.out.2; rw [eFS] at this; exact this
  clear HC0 HA AA eW0 hb5 hb51 hb52 hB1 hB2 k5 K5 ebW eFS eFM e7 FN eh0
  gi_wp2_with fail
  refine range_q (gf := 170) rfl (enters_of Try.func170 (by kernel_rfl) rfl) SQ (Below.refl _ _) (fun _ => rfl)
    (DI w b7 sb mb most t M FM) (fun _ _ _ => False)
    (fun pre X Z row hs hg hr => ?ow1) (fun _ _ _ _ _ hs _ _ => hs) HJ0.out
    (fun x a' V' => a' = { tmps := #[.pointer (some ⟨sb, 0, none⟩), .int .u64 lo, .int .u64 hi, undef, undef, undef, .int .u64 0, .pointer (some ⟨b7, 0, none⟩), .int .u64 x.1, .slice x.2.a x.2.n x.2.c, .int .u64 h0, .pointer (some ⟨sb, 0, none⟩), .pointer (some ⟨mb, 0, none⟩), .int .u64 lo, .int .u64 hi, .func (.func 170) #[] #[.pointer (some ⟨bW, 0, none⟩), .pointer (some ⟨B1, 0, none⟩), .pointer (some ⟨B2, 0, none⟩)], .int .u64 x.1, .slice x.2.a x.2.n x.2.c, undef, undef, undef, undef, undef, undef], defers := [] }) (fun _ _ _ _ _ _ hs _ _ => hs)
    ?as0 ?bo ?dn (fun _ _ _ _ _ _ h _ => h.elim)
  case ow1 =>
    obtain ⟨h2, h3, h4⟩ := hs
    exact ⟨h2.cc (Cc.grown hg hr), (Cc.grown hg hr).sh h3, ownFrom_below (β := Unit) (Nat.le_refl _) HS5.out () X Z row h4 hg hr⟩
  case as0 =>
    rintro l' pre x V' R hI hR
    have HI := hide hI
    clear hI SQ
    gi_wp2
    exact hR _ _ (kf_nu _ (Kp.refl _ _)) (kc_nu (Kp.refl _ _)) HI.out rfl
  case bo =>
    rintro l' pre x a' V' hl' hq ⟨hC, hS, hB⟩ rfl hp
    obtain ⟨hx, hln⟩ := pre_at hp
    obtain ⟨xk, xv⟩ := x
    have hFF : F2 (FV V') FS FM := by
      have := hS.vs.filter (inR lo hi) (inR lo hi) (fun a b hf => by unfold inR; rw [hf.1])
      rw [HEQ.out.1, HEQ.out.2] at this; exact this
    obtain ⟨m, hm, hfv⟩ := hFF.at hx
    obtain ⟨mk, ys⟩ := m
    obtain rfl : xk = mk := hfv.1
    obtain ⟨s, es⟩ : ∃ s, Cd.fv f0 (pbs (FM.take pre.length)) = s := ⟨_, rfl⟩
    obtain ⟨s1, es1⟩ : ∃ s1, Cd.fv s (Cd.pb xk ys) = s1 := ⟨_, rfl⟩
    have hbx := hC.bx
    rw [es] at hbx
    have HCB : ∀ W, Kp Nu V' W → W.cell? ⟨b7, 0, none⟩ = some (.int .u64 s) := fun W q => cell1 ((q.block _ (blk_lt hbx) (fun h => h)).trans hbx)
    have HCF : ∀ W, Kp Nu V' W → W.frozen? ⟨b7, 0, none⟩ = false := fun W q => free3 ((q.block _ (blk_lt hbx) (fun h => h)).trans hbx) 0
    have hyl : ys.length ≤ 64 := hfv.2.2.1
    have CT : Calls Try.prog 124 #[.int .u64 xk, .slice xv.a xv.n xv.c] V'.drew fun e W => ∃ bv, e = .returned bv ∧ Hid (Rd W bv (Cd.pb xk ys) ∧ Kp Nu V' W) := by
      refine (Cd.bytesOf124 V'.drew xk _ ys (hfv.rd.nu (Kp.refl Nu V').drew) hyl hfv.2.2.2.1 (by have h9 : xk ≤ 18446744073709551615 := hfv.2.2.2.2.1; omega)).mono ?_
      rintro e W ⟨v, e1, e2, e3⟩
      exact ⟨v, e1, e2, ((Kp.refl Nu V').drew).andNu (toKp e3)⟩
    have FT : ∀ W bv, Rd W bv (Cd.pb xk ys) → Calls Try.prog 122 #[.int .u64 s, bv] W fun e w' => e = .returned (.int .u64 s1) ∧ w' = W := fun W bv hr => by
      have := Cd.fnvMore122 W s bv (Cd.pb xk ys) hr (by unfold Cd.pb; rw [List.length_append, Cd.hd_length]; omega)
      rw [es1] at this
      exact this
    have HM : Hid (Cd.fv f0 (pbs (FM.take (pre ++ [(xk, xv)]).length)) = s1) := by
      show _ = _
      rw [List.length_append, List.length_singleton, List.take_add_one, hm]
      show Cd.fv f0 (pbs (FM.take pre.length ++ [(xk, ys)])) = s1
      rw [pbs_snoc, Cd.fv_append, es, es1]
    have HJ := hide (And.intro hC (And.intro hS hB))
    have HBX := hide hbx
    clear hC hS hB hp hx hln hq SQ HJ0 hm hFF hfv hyl hbx es es1
    gi_wp2_with fail
    refine wpIn_region_any (by assumption) ?_
    change wpAnyIn _ _ _ _ _ _ _ _ _ (World.drew _)
    refine Ord.wpAnyIn_inv (Inv := fun listed a w' => ∃ (l0 l1 l2 l3 l4 l5 : Bool) (bv : Value), listed = #[l0, l1, l2, l3, l4, l5] ∧ a = { tmps := #[.pointer (some ⟨sb, 0, none⟩), .int .u64 lo, .int .u64 hi, undef, undef, undef, .int .u64 0, .pointer (some ⟨b7, 0, none⟩), .int .u64 xk, .slice xv.a xv.n xv.c, .int .u64 h0, .pointer (some ⟨sb, 0, none⟩), .pointer (some ⟨mb, 0, none⟩), .int .u64 lo, .int .u64 hi, .func (.func 170) #[] #[.pointer (some ⟨bW, 0, none⟩), .pointer (some ⟨B1, 0, none⟩), .pointer (some ⟨B2, 0, none⟩)], .int .u64 xk, .slice xv.a xv.n xv.c, Ord.sel l0 (.int .u64 s), Ord.sel l1 (.int .u64 xk), Ord.sel l2 (.slice xv.a xv.n xv.c), Ord.sel l3 (bv), Ord.sel l4 (.int .u64 s1), undef], defers := [] } ∧ (l3 = true → l1 = true ∧ l2 = true) ∧ (l4 = true → l0 = true ∧ l3 = true) ∧ (l5 = true → l4 = true) ∧ (l3 = false → w' = V'.drew) ∧ (l3 = true → l5 = false → Hid (Rd w' bv (Cd.pb xk ys) ∧ Kp Nu V' w')) ∧ (l5 = true → Hid (∃ W, Kp Nu V' W ∧ w' = W.setCell ⟨b7, 0, none⟩ (.int .u64 s1)))) ?step ?fin _ _ _ _ ?start ?count
    case start => exact ⟨false, false, false, false, false, false, undef, rfl, rfl, (fun h => by cases h), (fun h => by cases h), (fun h => by cases h), fun _ => rfl, (fun h => by cases h), (fun h => by cases h)⟩
    case count => decide
    case step =>
      rintro listed a w' i ⟨l0, l1, l2, l3, l4, l5, bv, rfl, rfl, c3, c4, c5, hw0, hw1, hw2⟩ hi'
      obtain ⟨hlt', hb⟩ := Ord.mem_ready hi'
      have hk : l5 = false → Kp Nu V' w' := fun h5 => by
        cases h3 : l3 with
        | false => rw [hw0 h3]; exact (Kp.refl _ _).drew
        | true => exact (hw1 h3 h5).out.2
      rcases lt_cases6 hlt' with rfl | rfl | rfl | rfl | rfl | rfl
      all_goals simp [Region.binds] at hb
      · have q0 : l0 = false := by clear hw0 hw1 hw2 hk; first | exact hb | exact hb.1 | (cases l0 <;> simp_all)
        have f4 : l4 = false := by clear hw0 hw1 hw2 hk; (cases l4 <;> simp_all)
        have f5 : l5 = false := by clear hw0 hw1 hw2 hk; (cases l5 <;> simp_all)
        clear hb hi' hlt'
        have cc := HCB _ (hk f5)
        have H0 := hide hw0; have H1 := hide hw1; have H2 := hide hw2
        clear hw0 hw1 hw2 hk
        subst q0 f4 f5
        have H3c := hide c3; clear c3
        clear c4
        clear c5
        refine wpOpIn_step rfl (fun K hK => ?_)
        simp only [Ord.sel_f]
        go_simp
        refine hK _ _ ?_
        exact ⟨true, _, _, _, false, false, bv, rfl, rfl, (H3c.out), ((fun h => by cases h)), ((fun h => by cases h)), H0.out, H1.out, H2.out⟩
      · have q1 : l1 = false := by clear hw0 hw1 hw2 hk; first | exact hb | exact hb.1 | (cases l1 <;> simp_all)
        have f3 : l3 = false := by clear hw0 hw1 hw2 hk; (cases l3 <;> simp_all)
        have f4 : l4 = false := by clear hw0 hw1 hw2 hk; (cases l4 <;> simp_all)
        have f5 : l5 = false := by clear hw0 hw1 hw2 hk; (cases l5 <;> simp_all)
        clear hb hi' hlt'
        have H0 := hide hw0; have H1 := hide hw1; have H2 := hide hw2
        clear hw0 hw1 hw2 hk
        subst q1 f3 f4 f5
        clear c3
        clear c4
        clear c5
        refine wpOpIn_step rfl (fun K hK => ?_)
        simp only [Ord.sel_f]
        go_simp
        refine hK _ _ ?_
        exact ⟨_, true, _, false, false, false, bv, rfl, rfl, ((fun h => by cases h)), ((fun h => by cases h)), ((fun h => by cases h)), H0.out, H1.out, H2.out⟩
      · have q2 : l2 = false := by clear hw0 hw1 hw2 hk; first | exact hb | exact hb.1 | (cases l2 <;> simp_all)
        have f3 : l3 = false := by clear hw0 hw1 hw2 hk; (cases l3 <;> simp_all)
        have f4 : l4 = false := by clear hw0 hw1 hw2 hk; (cases l4 <;> simp_all)
        have f5 : l5 = false := by clear hw0 hw1 hw2 hk; (cases l5 <;> simp_all)
        clear hb hi' hlt'
        have H0 := hide hw0; have H1 := hide hw1; have H2 := hide hw2
        clear hw0 hw1 hw2 hk
        subst q2 f3 f4 f5
        clear c3
        clear c4
        clear c5
        refine wpOpIn_step rfl (fun K hK => ?_)
        simp only [Ord.sel_f]
        go_simp
        refine hK _ _ ?_
        exact ⟨_, _, true, false, false, false, bv, rfl, rfl, ((fun h => by cases h)), ((fun h => by cases h)), ((fun h => by cases h)), H0.out, H1.out, H2.out⟩
      · have q3 : l3 = false := by clear hw0 hw1 hw2 hk; first | exact hb | exact hb.1 | (cases l3 <;> simp_all)
        have e1 : l1 = true := by clear hw0 hw1 hw2 hk; (cases l1 <;> simp_all)
        have e2 : l2 = true := by clear hw0 hw1 hw2 hk; (cases l2 <;> simp_all)
        have f4 : l4 = false := by clear hw0 hw1 hw2 hk; (cases l4 <;> simp_all)
        have f5 : l5 = false := by clear hw0 hw1 hw2 hk; (cases l5 <;> simp_all)
        clear hb hi' hlt'
        obtain rfl := hw0 q3
        clear hw0 hw1 hw2 hk
        subst q3 e1 e2 f4 f5
        clear c3
        clear c4
        clear c5
        refine wpOpIn_step rfl (fun K hK => ?_)
        simp only [Ord.sel_t, Ord.sel_f]
        go_simp
        refine ⟨trivial, (CallsIn.inRound _ (callsIn_wide.2 CT)).mono ?_⟩
        rintro e W1 ⟨bv1, rfl, S2⟩
        refine hK _ _ ?_
        exact ⟨_, true, true, true, false, false, bv1, rfl, rfl, (fun _ => ⟨rfl, rfl⟩), ((fun h => by cases h)), ((fun h => by cases h)), (fun h => by cases h), (fun _ _ => S2), (fun h => by cases h)⟩
      · have q4 : l4 = false := by clear hw0 hw1 hw2 hk; first | exact hb | exact hb.1 | (cases l4 <;> simp_all)
        have e0 : l0 = true := by clear hw0 hw1 hw2 hk; (cases l0 <;> simp_all)
        have e1 : l1 = true := by clear hw0 hw1 hw2 hk; (cases l1 <;> simp_all)
        have e2 : l2 = true := by clear hw0 hw1 hw2 hk; (cases l2 <;> simp_all)
        have e3 : l3 = true := by clear hw0 hw1 hw2 hk; (cases l3 <;> simp_all)
        have f5 : l5 = false := by clear hw0 hw1 hw2 hk; (cases l5 <;> simp_all)
        clear hb hi' hlt'
        have hC := hw1 e3 f5
        clear hw0 hw1 hw2 hk
        subst q4 e0 e1 e2 e3 f5
        clear c3
        clear c4
        clear c5
        refine wpOpIn_step rfl (fun K hK => ?_)
        simp only [Ord.sel_t, Ord.sel_f]
        go_simp
        refine ⟨trivial, (CallsIn.inRound _ (callsIn_wide.2 (FT _ _ hC.out.1))).mono ?_⟩
        rintro e W1 ⟨rfl, hw⟩; obtain rfl := hw.symm
        refine hK _ _ ?_
        exact ⟨true, true, true, true, true, false, bv, rfl, rfl, (fun _ => ⟨rfl, rfl⟩), (fun _ => ⟨rfl, rfl⟩), ((fun h => by cases h)), (fun h => by cases h), (fun _ _ => hC), (fun h => by cases h)⟩
      · have q5 : l5 = false := by clear hw0 hw1 hw2 hk; first | exact hb | exact hb.1 | (cases l5 <;> simp_all)
        have e0 : l0 = true := by clear hw0 hw1 hw2 hk; (cases l0 <;> simp_all)
        have e1 : l1 = true := by clear hw0 hw1 hw2 hk; (cases l1 <;> simp_all)
        have e2 : l2 = true := by clear hw0 hw1 hw2 hk; (cases l2 <;> simp_all)
        have e3 : l3 = true := by clear hw0 hw1 hw2 hk; (cases l3 <;> simp_all)
        have e4 : l4 = true := by clear hw0 hw1 hw2 hk; (cases l4 <;> simp_all)
        clear hb hi' hlt'
        have hC := hw1 e3 q5
        have cc := HCB _ hC.out.2
        have ff := HCF _ hC.out.2
        clear hw0 hw1 hw2 hk
        subst q5 e0 e1 e2 e3 e4
        clear c3
        clear c4
        clear c5
        refine wpOpIn_step rfl (fun K hK => ?_)
        simp only [Ord.sel_t]
        go_simp
        refine hK _ _ ?_
        exact ⟨true, true, true, true, true, true, bv, rfl, rfl, (fun _ => ⟨rfl, rfl⟩), (fun _ => ⟨rfl, rfl⟩), (fun _ => rfl), (fun h => by cases h), (fun _ h => by cases h), (fun _ => hide ⟨_, hC.out.2, rfl⟩)⟩
    case fin =>
      rintro listed a w' ⟨l0, l1, l2, l3, l4, l5, bv, rfl, rfl, c3, c4, c5, hw0, hw1, hw2⟩ hi'
      have hx := fun i => Ord.not_ready hi' (i := i)
      have g0 : l0 = true := by have g := hx 0 (by simp); simp [Region.binds] at g; clear hw0 hw1 hw2 hx; (cases l0 <;> simp_all)
      have g1 : l1 = true := by have g := hx 1 (by simp); simp [Region.binds] at g; clear hw0 hw1 hw2 hx; (cases l1 <;> simp_all)
      have g2 : l2 = true := by have g := hx 2 (by simp); simp [Region.binds] at g; clear hw0 hw1 hw2 hx; (cases l2 <;> simp_all)
      have g3 : l3 = true := by have g := hx 3 (by simp); simp [Region.binds] at g; clear hw0 hw1 hw2 hx; (cases l3 <;> simp_all)
      have g4 : l4 = true := by have g := hx 4 (by simp); simp [Region.binds] at g; clear hw0 hw1 hw2 hx; (cases l4 <;> simp_all)
      have g5 : l5 = true := by have g := hx 5 (by simp); simp [Region.binds] at g; clear hw0 hw1 hw2 hx; (cases l5 <;> simp_all)
      have hO := hw2 g5
      clear c3 c4 c5 hi' hx hw0 hw1 hw2
      subst g0 g1 g2 g3 g4 g5
      simp only [Ord.sel_t]
      obtain ⟨hC, hS, hB⟩ := HJ.out
      obtain ⟨W, kW, rfl⟩ := hO.out
      have hbx := HBX.out
      have kk : Kp (fun j => j = b7) V' (W.setCell ⟨b7, 0, none⟩ (.int .u64 s1)) := (kW.mono (fun _ _ e => e.elim)).trans (Kp.setCell _ _ _) (fun _ _ e => e)
      refine ⟨kf_cells kk (fun j hj => ⟨#[.int .u64 s], 69, (0, 0), by have hj : j = b7 := hj; rw [hj]; exact hbx⟩), kc_cells kk (fun j c ty m hj hc hK => ?_), ⟨?_, hC.l7⟩, hS.keep kk (fun i c ty hi hc => ?_), ((Kp.of_below hB).trans kk (fun j hj e => ?_)).toBelow⟩
      · have hj : j = b7 := hj
        rw [hj, hbx] at hc; cases hc
        rcases hK with h | h | h | h | h
        · cases h
        · cases h
        · cases h
        · cases h
        · obtain ⟨a, h1, _⟩ := hS.m.ex
          rw [← h, hj, hbx] at h1; cases h1
      · rw [set3 ((kW.block _ (blk_lt hbx) (fun h => h)).trans hbx), HM.out]; rfl
      · have hi : i = b7 := hi
        rw [hi, hbx] at hc; cases hc
        decide
      · have e : j = b7 := e
        have := hC.l7; omega
  case dn =>
    rintro D ys V' hD hys ⟨hC, hS, hB⟩ hK'
    subst hys
    have hbx := hC.bx
    rw [List.take_of_length_le (by rw [← HFL.out]; exact Nat.le_refl _)] at hbx
    obtain ⟨s, es⟩ : ∃ s, Cd.fv f0 (pbs FM) = s := ⟨_, rfl⟩
    rw [es] at hbx
    have c7 := cell1 hbx
    have HL6 : Hid (∀ D' ∈ [D], w.heap.size ≤ D' ∧ V'.heap[D']? = some (.deferred (some []))) := hide (fun D' hD' => by
      obtain rfl : D' = D := by simpa using hD'
      exact ⟨Nat.le_trans HS5.out hD, hK'⟩)
    have HR : Hid (∀ Z, Kp (fun k => w.heap.size ≤ k) V' Z → Kp Nu w Z) := hide (fun Z hk => (Kp.of_below hB).trans hk (fun i hi e => by have e : w.heap.size ≤ i := e; omega))
    have HES := hide es
    clear hC hS hB hK' SQ HJ0 hbx es
    gi_wp2_with fail
    refine leaves_all [D] _ (by simp) HL6.out (fun Z hc hk => ?_)
    have z2 := HR.out Z ⟨hk.os, hk.tape, hk.output, hk.size, hk.block⟩
    refine ⟨.int .u64 s, ?_, by rw [HES.out], z2⟩
    simp [results, Try.results51, go_sem]
end Go.Proofs.Ytchealdgncgjoaa.StU
