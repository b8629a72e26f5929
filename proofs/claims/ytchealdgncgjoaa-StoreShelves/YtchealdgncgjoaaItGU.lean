import Derived.Test.YtchealdgncgjoaaItDU
import Derived.Test.YtchealdgncgjoaaItB
namespace Go.Proofs.Ytchealdgncgjoaa.StU
open Go.RowKit Go.Proofs.Ytchealdgncgjoaa.St Go.Shelf Go.Sort Go.Proofs.Ytchealdgncgjoaa.It
attribute [local go_sem] Oper.semAt_some
set_option linter.unusedVariables false
section
variable {J Jx : List (Int × Sv) → World → Prop} {M : List (Int × Sv)} {mb bm bt by_ l r0 : Nat} {t0 : T (Int × Sv)}
theorem pre_of {α : Type} {a b M : List α} (h : a ++ b <+: M) : a <+: M := (List.prefix_append a b).trans h

set_option maxRecDepth 100000 in
set_option maxHeartbeats 2000000 in
theorem walk_in (hY : Rnd J Jx M mb l) (hD : Drw J) : ∀ (t : T (Int × Sv)) (n : Nat) (pre : List (Int × Sv)) (a : Option Addr) (i j : Int) (W : World), Tr W t a → Ev W mb bm bt by_ l t0 r0 → J pre W → pre ++ seg t i j <+: M → t.sz < 2 ^ 62 → (t.sz : Int) - 2 ^ 62 ≤ i → i < 2 ^ 62 → (t.sz : Int) - 2 ^ 62 ≤ j → j < 2 ^ 62 →
    CallsIn Fence.wide n Try.prog 198 #[.pointer a, .int .i64 i, .int .i64 j, .func (.func 199) #[] #[.pointer (some ⟨bm, 0, none⟩), .pointer (some ⟨bt, 0, none⟩), .pointer (some ⟨by_, 0, none⟩)]] W fun e W' =>
      (e = .returned (.bool true) ∧ J (pre ++ seg t i j) W' ∧ Kc (KM mb) W W') ∨ (e = .returned (.bool false) ∧ ∃ q, q <+: M ∧ Jx q W') := by
  intro t
  induction t with
  | nil =>
    intro n pre a i j W h hE hJ hp hs _ _ _ _
    cases (show a = none from h)
    have HF : Hid (J (pre ++ seg .nil i j) W) := by show J (pre ++ seg .nil i j) W; simpa [seg] using hJ
    clear h hE hJ hp hs
    refine callsIn_of_wp Try.func198 rfl trivial ?_ rfl
    simp only [Try.ntmps198, List.size_toArray, List.length_cons, List.length_nil, Nat.reduceAdd, Nat.reduceSub, Array.replicate_succ, Array.replicate_zero, List.push_toArray, List.append_toArray, List.nil_append, List.cons_append]
    gi_wp2_with fail
    go_ret
    exact .inl ⟨rfl, by first | exact HF.out | simpa using HF.out, Kc.refl _ _⟩
  | node tl p tr ihl ihr =>
    intro n pre a i j W h hE hJ hp hs hi0 hi1 hj0 hj1
    have hnd := h.nd
    obtain ⟨b, al, ar, ea, hb, hl, hr⟩ := h
    obtain ⟨c0, c1, c2, c3, c4, c5⟩ := cell6 hb
    have hsz : tl.sz + 1 + tr.sz < 2 ^ 62 := hs
    have hszI : ((T.node tl p tr).sz : Int) = (tl.sz : Int) + 1 + (tr.sz : Int) := by simp [T.sz]
    rw [hszI] at hi0 hj0
    clear hszI
    simp only [seg] at hp ⊢
    by_cases hc : ((tl.sz + 1 + tr.sz : Nat) : Int) ≤ i ∨ j ≤ 0
    · rw [if_pos hc] at hp ⊢
      have HF : Hid (J (pre ++ []) W) := by show J (pre ++ []) W; simpa using hJ
      subst ea
      generalize ((tl.sz + 1 + tr.sz : Nat) : Int) = Z at *
      by_cases hc1 : Z ≤ i
      · clear ihl ihr hnd hb hl hr hE hJ hp hs hsz hi0 hi1 hj0 hj1 hc c0 c1 c2 c3 c5
        refine callsIn_of_wp Try.func198 rfl trivial ?_ rfl
        simp only [Try.ntmps198, List.size_toArray, List.length_cons, List.length_nil, Nat.reduceAdd, Nat.reduceSub, Array.replicate_succ, Array.replicate_zero, List.push_toArray, List.append_toArray, List.nil_append, List.cons_append]
        gi_wp2_with fail
        go_ret
        exact .inl ⟨rfl, by first | exact HF.out | simpa using HF.out, Kc.refl _ _⟩
      · have hc2 : j ≤ 0 := by omega
        clear ihl ihr hnd hb hl hr hE hJ hp hs hsz hi0 hi1 hj0 hj1 hc c0 c1 c2 c3 c5
        refine callsIn_of_wp Try.func198 rfl trivial ?_ rfl
        simp only [Try.ntmps198, List.size_toArray, List.length_cons, List.length_nil, Nat.reduceAdd, Nat.reduceSub, Array.replicate_succ, Array.replicate_zero, List.push_toArray, List.append_toArray, List.nil_append, List.cons_append]
        gi_wp2_with fail
        go_ret
        exact .inl ⟨rfl, by first | exact HF.out | simpa using HF.out, Kc.refl _ _⟩
    · rw [if_neg hc] at hp ⊢
      have hz1 : ¬ ((tl.sz + 1 + tr.sz : Nat) : Int) ≤ i := fun h => hc (.inl h)
      have hz2 : ¬ j ≤ 0 := fun h => hc (.inr h)
      have CO := count_any hl
      have IL := ihl (n - 1) pre al i j W hl hE hJ (pre_of (by rw [← List.append_assoc] at hp; exact hp)) (by omega) (by omega) hi1 (by omega) hj1
      have q1 : wrap64 (i - (tl.sz : Int)) = i - (tl.sz : Int) := by unfold wrap64; omega
      have q2 : wrap64 (i - (tl.sz : Int) - 1) = i - (tl.sz : Int) - 1 := by unfold wrap64; omega
      have q3 : wrap64 (j - (tl.sz : Int)) = j - (tl.sz : Int) := by unfold wrap64; omega
      have q4 : wrap64 (j - (tl.sz : Int) - 1) = j - (tl.sz : Int) - 1 := by unfold wrap64; omega
      have VI : ∀ V, Kc (KM mb) W V → J (pre ++ seg tl i j) V → (i ≤ (tl.sz : Int) ∧ (tl.sz : Int) < j) → CallsIn Fence.wide (n - 1) Try.prog 199 #[.pointer a, .pointer (some ⟨bm, 0, none⟩), .pointer (some ⟨bt, 0, none⟩), .pointer (some ⟨by_, 0, none⟩)] V fun e W' =>
          (e = .returned (.bool true) ∧ J (pre ++ seg tl i j ++ [p]) W' ∧ Kc (KM mb) V W') ∨ (e = .returned (.bool false) ∧ Jx (pre ++ seg tl i j ++ [p]) W') := fun V k hj hh => by
        refine visit_in hY hD (n - 1) (pre ++ seg tl i j) p a V (hE.kc k) (hnd.keep (kn_kc k)) hj ?_
        rw [if_pos hh] at hp
        refine pre_of (b := seg tr (i - (tl.sz : Int) - 1) (j - (tl.sz : Int) - 1)) ?_
        simpa using hp
      have IR : ∀ V, Kc (KM mb) W V → J (pre ++ seg tl i j ++ (if i ≤ (tl.sz : Int) ∧ (tl.sz : Int) < j then [p] else [])) V → CallsIn Fence.wide (n - 1) Try.prog 198 #[.pointer ar, .int .i64 (i - (tl.sz : Int) - 1), .int .i64 (j - (tl.sz : Int) - 1), .func (.func 199) #[] #[.pointer (some ⟨bm, 0, none⟩), .pointer (some ⟨bt, 0, none⟩), .pointer (some ⟨by_, 0, none⟩)]] V fun e W' =>
          (e = .returned (.bool true) ∧ J (pre ++ (seg tl i j ++ ((if i ≤ (tl.sz : Int) ∧ (tl.sz : Int) < j then [p] else []) ++ seg tr (i - (tl.sz : Int) - 1) (j - (tl.sz : Int) - 1)))) W' ∧ Kc (KM mb) V W') ∨ (e = .returned (.bool false) ∧ ∃ q, q <+: M ∧ Jx q W') := fun V k hj => by
        have := ihr (n - 1) _ ar (i - (tl.sz : Int) - 1) (j - (tl.sz : Int) - 1) V (hr.keep (kn_kc k)) (hE.kc k) hj (by simpa using hp) (by omega) (by omega) (by omega) (by omega) (by omega)
        simpa using this
      have HPX : Hid (∀ V, (i ≤ (tl.sz : Int) ∧ (tl.sz : Int) < j) → Jx (pre ++ seg tl i j ++ [p]) V → ∃ q, q <+: M ∧ Jx q V) := fun V hh hx => by
        refine ⟨_, ?_, hx⟩
        rw [if_pos hh] at hp
        refine pre_of (b := seg tr (i - (tl.sz : Int) - 1) (j - (tl.sz : Int) - 1)) ?_
        simpa using hp
      have HC : ∀ V, Kc (KM mb) W V → V.cell? ⟨b, 3, none⟩ = some (.pointer ar) := fun V k => (cell6 (kn_kc k b _ hb)).2.2.2.1
      subst ea
      obtain ⟨SL, hSL⟩ : ∃ SL, pre ++ seg tl i j = SL := ⟨_, rfl⟩
      rw [hSL] at IL VI IR HPX
      have HSL := hide hSL
      generalize pre ++ (seg tl i j ++ ((if i ≤ (tl.sz : Int) ∧ (tl.sz : Int) < j then [p] else []) ++ seg tr (i - (tl.sz : Int) - 1) (j - (tl.sz : Int) - 1))) = FULL at *
      generalize ((tl.sz + 1 + tr.sz : Nat) : Int) = Z at *
      generalize (tl.sz : Int) = L at *
      clear ihl ihr hnd hb hl hr hE hJ hp hs hsz hi0 hi1 hj0 hj1 hc c0 c1 c5 hSL
      by_cases hv : i ≤ L ∧ L < j
      · rw [if_pos hv] at IR
        obtain ⟨hv1, hv2⟩ := hv
        have VI2 := fun V k h => VI V k h ⟨hv1, hv2⟩
        refine callsIn_of_wp Try.func198 rfl trivial ?_ rfl
        simp only [Try.ntmps198, List.size_toArray, List.length_cons, List.length_nil, Nat.reduceAdd, Nat.reduceSub, Array.replicate_succ, Array.replicate_zero, List.push_toArray, List.append_toArray, List.nil_append, List.cons_append]
        gi_wp2_with fail
        refine ⟨trivial, fun h => (by cases h), (callsIn_wide.2 CO).mono ?_⟩
        rintro e w' ⟨rfl, hw⟩; obtain rfl := hw.symm
        gi_wp2_with fail
        refine ⟨trivial, fun h => (by cases h), IL.mono ?_⟩
        rintro e V (⟨rfl, hj1, k1⟩ | ⟨rfl, hx⟩)
        · have c3' := HC V k1
          have VI3 := VI2 V k1 hj1
          gi_wp2_with fail
          refine ⟨trivial, fun h => (by cases h), VI3.mono ?_⟩
          rintro e V2 (⟨rfl, hj2, k2⟩ | ⟨rfl, hx⟩)
          · have c3'' := HC V2 (k1.trans k2)
            have IR2 := IR V2 (k1.trans k2) hj2
            gi_wp2_with fail
            (try rw [q1]); (try rw [q2]); (try rw [q3]); (try rw [q4])
            refine ⟨trivial, fun h => (by cases h), IR2.mono ?_⟩
            rintro e V3 (⟨rfl, hj3, k3⟩ | ⟨rfl, hx⟩)
            · gi_wp2_with fail
              go_ret
              exact .inl ⟨rfl, hj3, (k1.trans k2).trans k3⟩
            · gi_wp2_with fail
              go_ret
              exact .inr ⟨rfl, hx⟩
          · gi_wp2_with fail
            go_ret
            exact .inr ⟨rfl, HPX.out _ ⟨hv1, hv2⟩ hx⟩
        · gi_wp2_with fail
          go_ret
          exact .inr ⟨rfl, hx⟩
      · rw [if_neg hv] at IR
        by_cases hv1 : i ≤ L
        · have hv2 : ¬ L < j := fun h => hv ⟨hv1, h⟩
          clear hv VI
          refine callsIn_of_wp Try.func198 rfl trivial ?_ rfl
          simp only [Try.ntmps198, List.size_toArray, List.length_cons, List.length_nil, Nat.reduceAdd, Nat.reduceSub, Array.replicate_succ, Array.replicate_zero, List.push_toArray, List.append_toArray, List.nil_append, List.cons_append]
          gi_wp2_with fail
          refine ⟨trivial, fun h => (by cases h), (callsIn_wide.2 CO).mono ?_⟩
          rintro e w' ⟨rfl, hw⟩; obtain rfl := hw.symm
          gi_wp2_with fail
          refine ⟨trivial, fun h => (by cases h), IL.mono ?_⟩
          rintro e V (⟨rfl, hj1, k1⟩ | ⟨rfl, hx⟩)
          · have c3' := HC V k1
            have IR2 := IR V k1 (by simpa using hj1)
            gi_wp2_with fail
            refine ⟨fun f h => (by cases h), ?_⟩
            gi_wp2_with fail
            (try rw [q1]); (try rw [q2]); (try rw [q3]); (try rw [q4])
            refine ⟨trivial, fun h => (by cases h), IR2.mono ?_⟩
            rintro e V3 (⟨rfl, hj3, k3⟩ | ⟨rfl, hx⟩)
            · gi_wp2_with fail
              go_ret
              exact .inl ⟨rfl, hj3, k1.trans k3⟩
            · gi_wp2_with fail
              go_ret
              exact .inr ⟨rfl, hx⟩
          · gi_wp2_with fail
            go_ret
            exact .inr ⟨rfl, hx⟩
        · clear hv VI
          refine callsIn_of_wp Try.func198 rfl trivial ?_ rfl
          simp only [Try.ntmps198, List.size_toArray, List.length_cons, List.length_nil, Nat.reduceAdd, Nat.reduceSub, Array.replicate_succ, Array.replicate_zero, List.push_toArray, List.append_toArray, List.nil_append, List.cons_append]
          gi_wp2_with fail
          refine ⟨trivial, fun h => (by cases h), (callsIn_wide.2 CO).mono ?_⟩
          rintro e w' ⟨rfl, hw⟩; obtain rfl := hw.symm
          gi_wp2_with fail
          refine ⟨trivial, fun h => (by cases h), IL.mono ?_⟩
          rintro e V (⟨rfl, hj1, k1⟩ | ⟨rfl, hx⟩)
          · have c3' := HC V k1
            have IR2 := IR V k1 (by simpa using hj1)
            gi_wp2_with fail
            refine ⟨fun f h => (by cases h), ?_⟩
            gi_wp2_with fail
            (try rw [q1]); (try rw [q2]); (try rw [q3]); (try rw [q4])
            refine ⟨trivial, fun h => (by cases h), IR2.mono ?_⟩
            rintro e V3 (⟨rfl, hj3, k3⟩ | ⟨rfl, hx⟩)
            · gi_wp2_with fail
              go_ret
              exact .inl ⟨rfl, hj3, k1.trans k3⟩
            · gi_wp2_with fail
              go_ret
              exact .inr ⟨rfl, hx⟩
          · gi_wp2_with fail
            go_ret
            exact .inr ⟨rfl, hx⟩
end
end Go.Proofs.Ytchealdgncgjoaa.StU
namespace Go.Proofs.Ytchealdgncgjoaa.StU
open Go.RowKit Go.Proofs.Ytchealdgncgjoaa.St Go.Shelf Go.Sort Go.Proofs.Ytchealdgncgjoaa.It
attribute [local go_sem] Oper.semAt_some
set_option linter.unusedVariables false
section
variable {J Jx : List (Int × Sv) → World → Prop} {l mb : Nat} {t : T (Int × Sv)}
theorem drw_of {B : Nat} (h : OwnFrom B J) : Drw J := fun pre W hj => h pre W W.drew none hj (grown_nu (Kp.refl Nu W).drew) (fun r e => by cases e)
theorem own_nu {B : Nat} (h : OwnFrom B J) {pre : List (Int × Sv)} {W W' : World} (hj : J pre W) (k : Kp Nu W W') : J pre W' := h pre W W' none hj (grown_nu k) (fun r e => by cases e)

set_option maxRecDepth 100000 in
set_option maxHeartbeats 1000000 in
theorem tell_in {W : World} {r0 : Nat} (h1 : W.heap[mb]? = some (.cells #[.func (.func 164) #[] #[], .pointer (some ⟨r0, 0, none⟩)] 208 (0, 0))) (h2 : Tr W t (some ⟨r0, 0, none⟩)) (i j : Int) (hs : t.sz < 2 ^ 61) (hi0 : 0 ≤ i) (hi1 : i < 2 ^ 62) (hj0 : 0 ≤ j) (hj1 : j < 2 ^ 62)
    {B : Nat} (hJ : OwnFrom B J) (hY : Rnd J Jx (seg t i j) mb l) (h0 : J [] W) (n : Nat) :
    CallsIn Fence.wide n Try.prog 171 #[.pointer (some ⟨mb, 0, none⟩), .pointer (some ⟨r0, 0, none⟩), .int .i64 i, .int .i64 j, .func (.yield l) #[] #[]] W fun e W' => (∃ v, e = .returned v) ∧ (J (seg t i j) W' ∨ ∃ q, q <+: seg t i j ∧ Jx q W') := by
  have ka := Kp.alloc W (.cells #[.pointer (some ⟨mb, 0, none⟩)] 169) Nu
  have kb := ka.andAlloc (.cells #[.pointer (some ⟨r0, 0, none⟩)] 185)
  have kc := kb.andAlloc (.cells #[.func (.yield l) #[] #[]] 215)
  have x1 : (((W.alloc (.cells #[.pointer (some ⟨mb, 0, none⟩)] 169)).alloc (.cells #[.pointer (some ⟨r0, 0, none⟩)] 185)).alloc (.cells #[.func (.yield l) #[] #[]] 215)).heap[W.heap.size]? = some (.cells #[.pointer (some ⟨mb, 0, none⟩)] 169 (0, 0)) :=
    (Below.heap_alloc _ _ _ (by simp; omega)).trans ((Below.heap_alloc _ _ _ (by simp)).trans (heap_alloc_new W _))
  have x2 : (((W.alloc (.cells #[.pointer (some ⟨mb, 0, none⟩)] 169)).alloc (.cells #[.pointer (some ⟨r0, 0, none⟩)] 185)).alloc (.cells #[.func (.yield l) #[] #[]] 215)).heap[W.heap.size + 1]? = some (.cells #[.pointer (some ⟨r0, 0, none⟩)] 185 (0, 0)) :=
    (Below.heap_alloc _ _ _ (by simp)).trans (by have := heap_alloc_new (W.alloc (.cells #[.pointer (some ⟨mb, 0, none⟩)] 169)) (.cells #[.pointer (some ⟨r0, 0, none⟩)] 185); simpa using this)
  have x3 : (((W.alloc (.cells #[.pointer (some ⟨mb, 0, none⟩)] 169)).alloc (.cells #[.pointer (some ⟨r0, 0, none⟩)] 185)).alloc (.cells #[.func (.yield l) #[] #[]] 215)).heap[W.heap.size + 1 + 1]? = some (.cells #[.func (.yield l) #[] #[]] 215 (0, 0)) := by
    have := heap_alloc_new ((W.alloc (.cells #[.pointer (some ⟨mb, 0, none⟩)] 169)).alloc (.cells #[.pointer (some ⟨r0, 0, none⟩)] 185)) (.cells #[.func (.yield l) #[] #[]] 215)
    simpa using this
  have hE : Ev (((W.alloc (.cells #[.pointer (some ⟨mb, 0, none⟩)] 169)).alloc (.cells #[.pointer (some ⟨r0, 0, none⟩)] 185)).alloc (.cells #[.func (.yield l) #[] #[]] 215)) mb W.heap.size (W.heap.size + 1) (W.heap.size + 1 + 1) l t r0 :=
    ⟨x1, x2, x3, (kc.block _ (blk_lt h1) (fun h => h)).trans h1, h2.nu kc⟩
  have WI := walk_in hY (drw_of hJ) t (n - 1) [] (some ⟨r0, 0, none⟩) i j _ (h2.nu kc) hE (own_nu hJ h0 kc) (by simp) (by omega) (by omega) hi1 (by omega) hj1
  have c2 := cell1 x2
  clear hE x1 x2 x3 ka kb kc h1 h2 hY hJ h0 hs hi0 hi1 hj0 hj1
  refine callsIn_of_wp Try.func171 rfl trivial ?_ rfl
  simp only [Try.ntmps171, List.size_toArray, List.length_cons, List.length_nil, Nat.reduceAdd, Nat.reduceSub, Array.replicate_succ, Array.replicate_zero, List.push_toArray, List.append_toArray, List.nil_append, List.cons_append]
  gi_wp2_with fail
  refine ⟨trivial, fun h => (by cases h), WI.mono ?_⟩
  rintro e V (⟨rfl, hj, k⟩ | ⟨rfl, q, hq, hx⟩)
  · have HF : Hid (J (seg t i j) V) := by show J (seg t i j) V; simpa using hj
    clear hj WI
    gi_wp2
    go_end0
    exact ⟨⟨_, rfl⟩, .inl HF.out⟩
  · have HF : Hid (∃ q, q <+: seg t i j ∧ Jx q V) := ⟨q, hq, hx⟩
    clear hq hx WI
    gi_wp2
    go_end0
    exact ⟨⟨_, rfl⟩, .inr HF.out⟩
set_option maxRecDepth 100000 in
set_option maxHeartbeats 400000 in
theorem walk_empty (w : World) (i j : Int) (f : Value) : Calls Try.prog 198 #[.pointer none, .int .i64 i, .int .i64 j, f] w fun e w' => e = .returned (.bool true) ∧ w' = w := by
  go_enter Try.func198, Try.ntmps198
  go_wp2_with fail
  go_ret
  exact ⟨rfl, rfl⟩
set_option maxRecDepth 100000 in
set_option maxHeartbeats 400000 in
theorem tell_empty (w : World) (m : Option Addr) (i j : Int) (l : Nat) : Calls Try.prog 171 #[.pointer m, .pointer none, .int .i64 i, .int .i64 j, .func (.yield l) #[] #[]] w fun e w' => (∃ v, e = .returned v) ∧ Kp Nu w w' := by
  have WN := fun W f => walk_empty W i j f
  have HK := hide (((Kp.alloc w (.cells #[.pointer m] 169) Nu).andAlloc (.cells #[.pointer none] 185)).andAlloc (.cells #[.func (.yield l) #[] #[]] 215))
  go_enter Try.func171, Try.ntmps171
  go_wp2_with (go_at_call 198; refine (WN _ _).mono ?_; rintro e w' ⟨rfl, hw⟩; obtain rfl := hw.symm)
  go_end0
  exact ⟨⟨_, rfl⟩, HK.out⟩
/-- tell, whatever the tree -/
theorem tell_all {W : World} {a : Option Addr} (h1 : W.heap[mb]? = some (.cells #[.func (.func 164) #[] #[], .pointer a] 208 (0, 0))) (h2 : Tr W t a) (i j : Int) (hs : t.sz < 2 ^ 61) (hi0 : 0 ≤ i) (hi1 : i < 2 ^ 62) (hj0 : 0 ≤ j) (hj1 : j < 2 ^ 62)
    {B : Nat} (hJ : OwnFrom B J) (hY : Rnd J Jx (seg t i j) mb l) (h0 : J [] W) (n : Nat) :
    CallsIn Fence.wide n Try.prog 171 #[.pointer (some ⟨mb, 0, none⟩), .pointer a, .int .i64 i, .int .i64 j, .func (.yield l) #[] #[]] W fun e W' => (∃ v, e = .returned v) ∧ (J (seg t i j) W' ∨ ∃ q, q <+: seg t i j ∧ Jx q W') := by
  cases t with
  | nil =>
    cases (show a = none from h2)
    refine (callsIn_wide.2 (tell_empty W (some ⟨mb, 0, none⟩) i j l)).mono ?_
    rintro e W' ⟨hv, hk⟩
    exact ⟨hv, .inl (own_nu hJ h0 hk)⟩
  | node x p y =>
    have h3 := h2
    obtain ⟨r0, _, _, e, _⟩ := h3
    subst e
    exact tell_in h1 h2 i j hs hi0 hi1 hj0 hj1 hJ hY h0 n
end
end Go.Proofs.Ytchealdgncgjoaa.StU
namespace Go.Proofs.Ytchealdgncgjoaa.StU
open Go.RowKit Go.Proofs.Ytchealdgncgjoaa.St Go.Shelf Go.Sort Go.Proofs.Ytchealdgncgjoaa.It
attribute [local go_sem] Oper.semAt_some
set_option linter.unusedVariables false

def lowT (k : Int) (t : T (Int × Sv)) : Nat := (T.fd (sd k) t).1
def highT (k : Int) (t : T (Int × Sv)) : Nat := (T.fd (sd k) t).1 + (if (T.fd (sd k) t).2 then 1 else 0)
section
variable {w : World} {mb : Nat} {t : T (Int × Sv)}
theorem highT_le (k : Int) : highT k t ≤ t.sz := by
  have := T.fd_le (sd k) t
  unfold highT
  split
  · have := this.2 (by assumption); omega
  · omega
set_option maxRecDepth 100000 in
set_option maxHeartbeats 1000000 in
theorem span_any {a : Option Addr} (h1 : w.heap[mb]? = some (.cells #[.func (.func 164) #[] #[], .pointer a] 208 (0, 0))) (h2 : Tr w t a) (lo hi : Int) (hs : t.sz < 2 ^ 61) :
    Calls Try.prog 128 #[.pointer (some ⟨mb, 0, none⟩), .pointer a, .int .u64 (lo), .int .u64 (hi)] w fun e w' => e = .returned (.tuple #[.int .i64 (lowT lo t : Int), .int .i64 (highT hi t : Int)]) ∧ Kp Nu w w' := by
  have FA := find_any h1 h2 lo (by omega)
  have FB : ∀ W, Kp Nu w W → Calls Try.prog 165 #[.pointer (some ⟨mb, 0, none⟩), .pointer a, .int .u64 (hi)] W fun e w' => e = .returned (.tuple #[.int .i64 ((T.fd (sd hi) t).1 : Int), .bool (T.fd (sd hi) t).2]) ∧ Kp Nu w w' := fun W k =>
    (find_any ((k.block _ (blk_lt h1) (fun h => h)).trans h1) (h2.nu k) hi (by omega)).mono fun e w' ⟨e1, e2⟩ => ⟨e1, k.andNu e2⟩
  have hle := (T.fd_le (sd hi) t).1
  unfold lowT highT
  generalize (T.fd (sd lo) t).1 = i at *
  generalize (T.fd (sd lo) t).2 = bb at *
  generalize (T.fd (sd hi) t).1 = j at *
  have q1 : wrap64 ((j : Int) + 1) = ((j + 1 : Nat) : Int) := by unfold wrap64; omega
  have HA : Hid ((j : Int) + 1 = ((j + 1 : Nat) : Int)) := by show _ = _; omega
  have HB := hide q1
  cases hb : (T.fd (sd hi) t).2 with
  | false =>
    rw [hb] at FB
    clear h1 h2 hs hle hb q1
    go_enter Try.func128, Try.ntmps128
    go_wp2_with (first
      | (go_at_call 165; refine FA.mono ?_; rintro e w1 ⟨rfl, k1⟩; clear FA)
      | (go_at_call 165; refine (FB _ k1).mono ?_; rintro e w2 ⟨rfl, k2⟩))
    go_ret2
    exact ⟨rfl, k2⟩
  | true =>
    rw [hb] at FB
    clear h1 h2 hs hle hb q1
    go_enter Try.func128, Try.ntmps128
    go_wp2_with (first
      | (go_at_call 165; refine FA.mono ?_; rintro e w1 ⟨rfl, k1⟩; clear FA)
      | (go_at_call 165; refine (FB _ k1).mono ?_; rintro e w2 ⟨rfl, k2⟩))
    go_ret2
    refine ⟨?_, k2⟩
    first
      | (show Ending.returned (.tuple #[.int .i64 (i : Int), .int .i64 (wrap64 ((j : Int) + 1))]) = Ending.returned (.tuple #[.int .i64 (i : Int), .int .i64 ((j + 1 : Nat) : Int)]); rw [HB.out])
      | (show Ending.returned (.tuple #[.int .i64 (i : Int), .int .i64 ((j : Int) + 1)]) = Ending.returned (.tuple #[.int .i64 (i : Int), .int .i64 ((j + 1 : Nat) : Int)]); rw [HA.out])
set_option maxHeartbeats 400000 in
theorem between_any (w : World) (m : Option Addr) (lo hi : Int) : Calls Try.prog 123 #[.pointer m, .int .u64 (lo), .int .u64 (hi)] w fun e w' => ∃ B1 B2, e = .returned (.func (.func 170) #[] #[.pointer (some ⟨w.heap.size, 0, none⟩), .pointer (some ⟨B1, 0, none⟩), .pointer (some ⟨B2, 0, none⟩)]) ∧ w'.heap[w.heap.size]? = some (.cells #[.pointer m] 169 (0, 0)) ∧ w'.heap[B1]? = some (.cells #[.int .u64 (lo)] 69 (0, 0)) ∧ w'.heap[B2]? = some (.cells #[.int .u64 (hi)] 69 (0, 0)) ∧ w.heap.size ≤ B1 ∧ w.heap.size ≤ B2 ∧ Kp Nu w w' := by
  have kc := ((Kp.alloc w (.cells #[.pointer m] 169) Nu).andAlloc (.cells #[.int .u64 (lo)] 69)).andAlloc (.cells #[.int .u64 (hi)] 69)
  have x1 : (((w.alloc (.cells #[.pointer m] 169)).alloc (.cells #[.int .u64 (lo)] 69)).alloc (.cells #[.int .u64 (hi)] 69)).heap[w.heap.size]? = some (.cells #[.pointer m] 169 (0, 0)) :=
    (Below.heap_alloc _ _ _ (by simp; omega)).trans ((Below.heap_alloc _ _ _ (by simp)).trans (heap_alloc_new w _))
  have x2 : (((w.alloc (.cells #[.pointer m] 169)).alloc (.cells #[.int .u64 (lo)] 69)).alloc (.cells #[.int .u64 (hi)] 69)).heap[w.heap.size + 1]? = some (.cells #[.int .u64 (lo)] 69 (0, 0)) :=
    (Below.heap_alloc _ _ _ (by simp)).trans (by have := heap_alloc_new (w.alloc (.cells #[.pointer m] 169)) (.cells #[.int .u64 (lo)] 69); simpa using this)
  have x3 : (((w.alloc (.cells #[.pointer m] 169)).alloc (.cells #[.int .u64 (lo)] 69)).alloc (.cells #[.int .u64 (hi)] 69)).heap[w.heap.size + 1 + 1]? = some (.cells #[.int .u64 (hi)] 69 (0, 0)) := by
    have := heap_alloc_new ((w.alloc (.cells #[.pointer m] 169)).alloc (.cells #[.int .u64 (lo)] 69)) (.cells #[.int .u64 (hi)] 69)
    simpa using this
  have HF := hide (And.intro x1 (And.intro x2 (And.intro x3 kc)))
  clear x1 x2 x3 kc
  go_enter Try.func123, Try.ntmps123
  go_wp2
  go_ret
  exact ⟨_, _, rfl, HF.out.1, HF.out.2.1, HF.out.2.2.1, by omega, by omega, HF.out.2.2.2⟩
set_option maxRecDepth 100000 in
set_option maxHeartbeats 1000000 in
theorem between_q {bx B1 B2 : Nat} {lo hi : Int} (hm : Mp w mb t) (hb : w.heap[bx]? = some (.cells #[.pointer (some ⟨mb, 0, none⟩)] 169 (0, 0))) (hb1 : w.heap[B1]? = some (.cells #[.int .u64 (lo)] 69 (0, 0))) (hb2 : w.heap[B2]? = some (.cells #[.int .u64 (hi)] 69 (0, 0))) (hs : t.sz < 2 ^ 61) :
    SeqQ Try.prog 170 #[.pointer (some ⟨bx, 0, none⟩), .pointer (some ⟨B1, 0, none⟩), .pointer (some ⟨B2, 0, none⟩)] (fun x : Int × Sv => #[.int .u64 (x.1), .slice (x.2).a (x.2).n (x.2).c]) (KM mb) (fun ys => ys = seg t (lowT lo t) (highT hi t)) (fun pre => pre <+: seg t (lowT lo t) (highT hi t)) t.sz w := fun n l J Jx W hW hJ hJx hY h0 => by
  obtain ⟨a, h1, h2⟩ := hm.ex
  have g1 := (hW.block mb (blk_lt h1)).trans h1
  have gb := (hW.block bx (blk_lt hb)).trans hb
  have gb1 := (hW.block B1 (blk_lt hb1)).trans hb1
  have gb2 := (hW.block B2 (blk_lt hb2)).trans hb2
  have g2 : Tr W t a := h2.keep (fun b c e => (hW.block b (blk_lt e)).trans e)
  have TA := tree_any g1
  have SA := span_any g1 g2 lo hi hs
  have hl := (T.fd_le (sd lo) t).1
  have hh := highT_le (t := t) hi
  have TE : ∀ V, Kp Nu W V → CallsIn Fence.wide (n - 1) Try.prog 171 #[.pointer (some ⟨mb, 0, none⟩), .pointer a, .int .i64 (lowT lo t : Int), .int .i64 (highT hi t : Int), .func (.yield l) #[] #[]] V fun e W' => (∃ v, e = .returned v) ∧ (J (seg t (lowT lo t) (highT hi t)) W' ∨ ∃ q, q <+: seg t (lowT lo t) (highT hi t) ∧ Jx q W') := fun V k =>
    tell_all (J := J) (Jx := Jx) (l := l) (W := V) ((k.block _ (blk_lt g1) (fun h => h)).trans g1) (g2.nu k) _ _ hs (by omega) (by unfold lowT; omega) (by omega) (by omega) hJ
      (fun pre x W1 hj hp m => by
          obtain ⟨fn, tmps, assign, body, hy, hR⟩ := hY pre x W1 hj hp m
          exact ⟨fn, tmps, assign, body, hy, hR.mono fun e W' hh => hh.2⟩) (own_nu hJ h0 k) (n - 1)
  have HC : ∀ V, Kp Nu W V → V.cell? ⟨bx, 0, none⟩ = some (.pointer (some ⟨mb, 0, none⟩)) := fun V k => cell1 ((k.block _ (blk_lt gb) (fun h => h)).trans gb)
  have c0 := cell1 gb
  have c1 := cell1 gb1
  have c2 := cell1 gb2
  generalize seg t (lowT lo t) (highT hi t) = M at *
  clear hW hJ hJx hY h0 h1 h2 g1 gb g2 hb hm hl hh gb1 gb2 hb1 hb2
  refine callsIn_of_wp Try.func170 rfl trivial ?_ rfl
  simp only [Try.ntmps170, List.size_toArray, List.length_cons, List.length_nil, Nat.reduceAdd, Nat.reduceSub, Array.replicate_succ, Array.replicate_zero, List.push_toArray, List.append_toArray, List.nil_append, List.cons_append]
  gi_wp2_with fail
  refine ⟨trivial, fun h => (by cases h), (callsIn_wide.2 TA).mono ?_⟩
  rintro e w' ⟨rfl, hw⟩; obtain rfl := hw.symm
  gi_wp2_with fail
  refine ⟨trivial, fun h => (by cases h), (callsIn_wide.2 SA).mono ?_⟩
  rintro e V ⟨rfl, k1⟩
  have d0 := HC V k1
  have TE1 := TE V k1
  gi_wp2_with fail
  refine ⟨trivial, fun h => (by cases h), TE1.mono ?_⟩
  rintro e V2 ⟨⟨v, rfl⟩, hh⟩
  have HH := hide hh
  clear hh
  gi_wp2
  go_end0
  refine ⟨⟨_, rfl⟩, ?_⟩
  rcases HH.out with h | ⟨q, hq, hx⟩
  · exact .inl ⟨_, rfl, h⟩
  · exact .inr ⟨q, hq, hx⟩
end
end Go.Proofs.Ytchealdgncgjoaa.StU
