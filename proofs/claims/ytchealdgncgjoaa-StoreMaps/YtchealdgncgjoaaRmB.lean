import Derived.Test.YtchealdgncgjoaaRmA
import Derived.Test.YtchealdgncgjoaaLtC
namespace Go.Proofs.Ytchealdgncgjoaa.StI
open Go.RowKit Go.Proofs.Ytchealdgncgjoaa.St
set_option linter.unusedVariables false

/-- where the document's map finds a key -/
def plc (o : Int → Int → Int) (k : Int) (xs : List (Int × Int)) : Int := match xs[ahead o k xs xs.length]? with
  | some p => if o p.1 k = 0 then (ahead o k xs xs.length : Int) else -1
  | none => -1
section
variable {B : Nat} {w : World} {rb : Nat} {wh : Int} {vk vv : Value} {xs : List (Int × Int)} {o : Int → Int → Int}
set_option maxRecDepth 100000 in
set_option maxHeartbeats 1000000 in
theorem rat_any (h : Rm B w rb wh vk vv xs) (ho : Oc wh o) (k : Int) (hl : xs.length < 2 ^ 61) :
    Calls Try.prog 101 #[.pointer (some ⟨rb, 0, none⟩), .int .i64 k] w fun e w' => e = .returned (.int .i64 (plc o k xs)) ∧ Kp Nu w w' := by
  have RA := rrank_any h ho k hl
  obtain ⟨ad, cap, hv⟩ := own_slice h.ok
  obtain ⟨N, hN⟩ : ∃ N, xs.length = N := ⟨_, rfl⟩
  have hal := ahead_le (o := o) (k := k) (xs := xs) xs.length
  unfold plc
  rw [hN] at hv hal RA ⊢
  subst hv
  have HC : ∀ W, Kp Nu w W → W.cell? ⟨rb, 0, none⟩ = some (.int .i64 wh) ∧ W.cell? ⟨rb, 1, none⟩ = some (.slice ad N cap) := fun W q => by
    obtain ⟨d0, d1, _⟩ := cell3 (h.nu q).blk
    exact ⟨d0, d1⟩
  generalize ahead o k xs N = i at *
  by_cases hlt : i < N
  · obtain ⟨p, hp⟩ : ∃ p, xs[i]? = some p := ⟨_, List.getElem?_eq_getElem (by rw [hN]; exact hlt)⟩
    obtain ⟨r, cap', e, hc⟩ := rowI_at (i := i) (u := .int .i64 p.1) h.ok (by simp [kv]) (by simp [kv, hp])
    rw [hN] at e
    cases e
    have HS : ∀ W, Kp Nu w W → W.cell? ⟨rb, 0, none⟩ = some (.int .i64 wh) ∧ W.cell? ⟨rb, 1, none⟩ = some (.slice (some ⟨r, 0, none⟩) N cap) ∧ W.cell? ⟨r, i, none⟩ = some (.int .i64 p.1) := fun W q => by
      obtain ⟨x0, x1⟩ := HC W q
      obtain ⟨r', cap', e, hc⟩ := rowI_at (i := i) (u := .int .i64 p.1) (h.nu q).ok (by simp [kv]) (by simp [kv, hp])
      rw [hN] at e
      cases e
      exact ⟨x0, x1, hc⟩
    have OR := fun W => ho p.1 k W
    have hltI : (i : Int) < (N : Int) := by omega
    have hi0 : (0 : Int) ≤ (i : Int) := by omega
    rw [hp]
    simp only []
    by_cases h0 : o p.1 k = 0
    · rw [if_pos h0]
      rw [h0] at OR
      clear h ho hl hN hal hp HC hlt hc h0
      go_enter Try.func101, Try.ntmps101
      go_wp2_with (go_at_call 102; refine RA.mono ?_; rintro e w1 ⟨rfl, k1⟩; obtain ⟨x0, x1, x2⟩ := HS w1 k1)
      go_region_held (fun W => W.cell? ⟨rb, 0, none⟩ = some (.int .i64 wh) ∧ W.cell? ⟨rb, 1, none⟩ = some (.slice (some ⟨r, 0, none⟩) N cap) ∧ W.cell? ⟨r, i, none⟩ = some (.int .i64 p.1)) (first | (refine HS _ ?_; repeat (first | assumption | exact Kp.refl _ _ | apply Kp.drew)))
        (first | (go_at_call 67; refine (OR _).mono ?_; rintro e w' ⟨rfl, hw⟩; obtain rfl := hw.symm))
      go_wp2_with fail
      go_ret
      exact ⟨rfl, k1.drew⟩
    · rw [if_neg h0]
      have hb0 : (o p.1 k == 0) = false := by simpa using h0
      generalize o p.1 k = oo at *
      clear h ho hl hN hal hp HC hlt hc h0
      go_enter Try.func101, Try.ntmps101
      go_wp2_with (go_at_call 102; refine RA.mono ?_; rintro e w1 ⟨rfl, k1⟩; obtain ⟨x0, x1, x2⟩ := HS w1 k1)
      go_region_held (fun W => W.cell? ⟨rb, 0, none⟩ = some (.int .i64 wh) ∧ W.cell? ⟨rb, 1, none⟩ = some (.slice (some ⟨r, 0, none⟩) N cap) ∧ W.cell? ⟨r, i, none⟩ = some (.int .i64 p.1)) (first | (refine HS _ ?_; repeat (first | assumption | exact Kp.refl _ _ | apply Kp.drew)))
        (first | (go_at_call 67; refine (OR _).mono ?_; rintro e w' ⟨rfl, hw⟩; obtain rfl := hw.symm))
      go_wp2_with fail
      go_ret
      exact ⟨rfl, k1.drew⟩
  · have hnone : xs[i]? = none := List.getElem?_eq_none (by omega)
    rw [hnone]
    simp only []
    have hge : ¬ (i : Int) < (N : Int) := by omega
    clear h ho hl hN hal hlt hnone
    go_enter Try.func101, Try.ntmps101
    go_wp2_with (go_at_call 102; refine RA.mono ?_; rintro e w1 ⟨rfl, k1⟩; obtain ⟨x0, x1⟩ := HC w1 k1)
    go_ret
    exact ⟨rfl, k1⟩
end

/-- two rows of one's own, apart -/
structure Tw (B : Nat) (V : World) (vk : Value) (lk : List Value) (vv : Value) (lv : List Value) : Prop where
  ok : V.ownsRow B 3 1 vk lk.length lk
  ov : V.ownsRow B 3 1 vv lv.length lv
  ap : ∀ g, vk.ownBlock = some g → vv.ownBlock ≠ some g
section
variable {B : Nat} {V W : World} {vk vv v' : Value} {lk lv : List Value} {u : Value}
theorem Tw.nil (B : Nat) (V : World) : Tw B V (.slice none 0 0) [] (.slice none 0 0) [] := ⟨⟨rfl, .inl ⟨rfl, rfl⟩⟩, ⟨rfl, .inl ⟨rfl, rfl⟩⟩, fun g h => by cases h⟩
theorem Tw.nu (h : Tw B V vk lk vv lv) (k : Kp Nu V W) : Tw B W vk lk vv lv :=
  ⟨own_keep h.ok (fun g hg => k.block g (own_lt h.ok hg) (fun h => h)), own_keep h.ov (fun g hg => k.block g (own_lt h.ov hg) (fun h => h)), h.ap⟩
theorem Tw.stepk (h : Tw B V vk lk vv lv) (hown : W.ownsRow B 3 1 v' (lk.length + 1) (lk ++ [u])) (hg : V.grownBy W vk.ownBlock) (hob : v'.ownBlock = vk.ownBlock ∨ v'.ownBlock = some V.heap.size) : Tw B W v' (lk ++ [u]) vv lv := by
  refine ⟨by simpa using hown, own_keep h.ov (fun g e => hg.block g (own_lt h.ov e) (fun e2 => h.ap g e2.symm e)), fun g e e2 => ?_⟩
  rcases hob with h1 | h1
  · exact h.ap g (by rw [← h1]; exact e) e2
  · rw [h1] at e; cases e
    have := own_lt h.ov e2; omega
theorem Tw.stepv (h : Tw B V vk lk vv lv) (hown : W.ownsRow B 3 1 v' (lv.length + 1) (lv ++ [u])) (hg : V.grownBy W vv.ownBlock) (hob : v'.ownBlock = vv.ownBlock ∨ v'.ownBlock = some V.heap.size) : Tw B W vk lk v' (lv ++ [u]) := by
  refine ⟨own_keep h.ok (fun g e => hg.block g (own_lt h.ok e) (fun e2 => h.ap g e e2.symm)), by simpa using hown, fun g e e2 => ?_⟩
  rcases hob with h1 | h1
  · exact h.ap g e (by rw [← h1]; exact e2)
  · rw [h1] at e2; cases e2
    have := own_lt h.ok e; omega
theorem own_low {B : Nat} {n : Nat} {l : List Value} {v : Value} (h : V.ownsRow B 3 1 v n l) {g : Nat} (hg : v.ownBlock = some g) : B ≤ g := by
  rcases h.2 with ⟨rfl, h0⟩ | ⟨g', cap, cur, rfl, hb', hg', _⟩
  · cases hg
  · simp [Value.ownBlock] at hg; subst hg; exact hb'
theorem kp_row {w : World} {n : Nat} {l : List Value} {v : Value} (k : Kp Nu w V) (h : V.ownsRow w.heap.size 3 1 v n l) (hg : V.grownBy W v.ownBlock) : Kp Nu w W :=
  k.trans (Kp.of_grown hg) (fun i hi e => by have := own_low h (show v.ownBlock = some i from e.symm); omega)
end
end Go.Proofs.Ytchealdgncgjoaa.StI
namespace Go.Proofs.Ytchealdgncgjoaa.StI
open Go.RowKit Go.Proofs.Ytchealdgncgjoaa.St Go.Shelf Go.Sort Go.Proofs.Ytchealdgncgjoaa.It
attribute [local go_sem] Oper.semAt_some
set_option linter.unusedVariables false
section
variable {J : List Int → World → Prop} {X : World → Prop} {l mb : Nat} {t : T (Int × Int)}
set_option maxRecDepth 100000 in
set_option maxHeartbeats 1000000 in
theorem tell_lin {W : World} {r0 : Nat} (h2 : Tr W t (some ⟨r0, 0, none⟩)) (st : Srt cmpI t.xs) (i j : Int) (hs : t.sz < 2 ^ 61) (hi0 : 0 ≤ i) (hi1 : i < 2 ^ 62) (hj0 : 0 ≤ j) (hj1 : j < 2 ^ 62)
    (H : Lt J X (sk t i j) mb l) (h0 : J [] W) (n : Nat) :
    CallsIn Fence.wide n Try.prog 84 #[.pointer (some ⟨mb, 0, none⟩), .pointer (some ⟨r0, 0, none⟩), .int .i64 i, .int .i64 j, .func (.yield l) #[] #[]] W fun e W' => (∃ v, e = .returned v) ∧ (J (sk t i j) W' ∨ X W') := by
  have ka := Kp.alloc W (.cells #[.pointer (some ⟨mb, 0, none⟩)] 22) Nu
  have kb := ka.andAlloc (.cells #[.pointer (some ⟨r0, 0, none⟩)] 128)
  have kc := kb.andAlloc (.cells #[.func (.yield l) #[] #[]] 31)
  have x1 : (((W.alloc (.cells #[.pointer (some ⟨mb, 0, none⟩)] 22)).alloc (.cells #[.pointer (some ⟨r0, 0, none⟩)] 128)).alloc (.cells #[.func (.yield l) #[] #[]] 31)).heap[W.heap.size]? = some (.cells #[.pointer (some ⟨mb, 0, none⟩)] 22 (0, 0)) :=
    (Below.heap_alloc _ _ _ (by simp; omega)).trans ((Below.heap_alloc _ _ _ (by simp)).trans (heap_alloc_new W _))
  have x2 : (((W.alloc (.cells #[.pointer (some ⟨mb, 0, none⟩)] 22)).alloc (.cells #[.pointer (some ⟨r0, 0, none⟩)] 128)).alloc (.cells #[.func (.yield l) #[] #[]] 31)).heap[W.heap.size + 1]? = some (.cells #[.pointer (some ⟨r0, 0, none⟩)] 128 (0, 0)) :=
    (Below.heap_alloc _ _ _ (by simp)).trans (by have := heap_alloc_new (W.alloc (.cells #[.pointer (some ⟨mb, 0, none⟩)] 22)) (.cells #[.pointer (some ⟨r0, 0, none⟩)] 128); simpa using this)
  have x3 : (((W.alloc (.cells #[.pointer (some ⟨mb, 0, none⟩)] 22)).alloc (.cells #[.pointer (some ⟨r0, 0, none⟩)] 128)).alloc (.cells #[.func (.yield l) #[] #[]] 31)).heap[W.heap.size + 1 + 1]? = some (.cells #[.func (.yield l) #[] #[]] 31 (0, 0)) := by
    have := heap_alloc_new ((W.alloc (.cells #[.pointer (some ⟨mb, 0, none⟩)] 22)).alloc (.cells #[.pointer (some ⟨r0, 0, none⟩)] 128)) (.cells #[.func (.yield l) #[] #[]] 31)
    simpa using this
  have hE : El (((W.alloc (.cells #[.pointer (some ⟨mb, 0, none⟩)] 22)).alloc (.cells #[.pointer (some ⟨r0, 0, none⟩)] 128)).alloc (.cells #[.func (.yield l) #[] #[]] 31)) mb W.heap.size (W.heap.size + 1) (W.heap.size + 1 + 1) l t r0 :=
    ⟨x1, x2, x3, h2.nu kc, st⟩
  have WI := walk_l H t (n - 1) [] (some ⟨r0, 0, none⟩) i j _ (h2.nu kc) (fun q hq => hq) hE (H.nu _ _ _ h0 kc) (by simp) (by omega) (by omega) hi1 (by omega) hj1
  have c2 := cell1 x2
  clear hE x1 x2 x3 ka kb kc h2 H h0 hs hi0 hi1 hj0 hj1 st
  refine callsIn_of_wp Try.func84 rfl trivial ?_ rfl
  simp only [Try.ntmps84, List.size_toArray, List.length_cons, List.length_nil, Nat.reduceAdd, Nat.reduceSub, Array.replicate_succ, Array.replicate_zero, List.push_toArray, List.append_toArray, List.nil_append, List.cons_append]
  gi_wp2_with fail
  refine ⟨trivial, fun h => (by cases h), WI.mono ?_⟩
  rintro e V (⟨rfl, hj, k⟩ | ⟨rfl, hx⟩)
  · have HF : Hid (J (sk t i j) V) := by show J (sk t i j) V; simpa using hj
    clear hj WI
    gi_wp2
    go_end0
    exact ⟨⟨_, rfl⟩, .inl HF.out⟩
  · have HF : Hid (X V) := hx
    clear hx WI
    gi_wp2
    go_end0
    exact ⟨⟨_, rfl⟩, .inr HF.out⟩
theorem tell_lall {W : World} {a : Option Addr} (h2 : Tr W t a) (st : Srt cmpI t.xs) (i j : Int) (hs : t.sz < 2 ^ 61) (hi0 : 0 ≤ i) (hi1 : i < 2 ^ 62) (hj0 : 0 ≤ j) (hj1 : j < 2 ^ 62)
    (H : Lt J X (sk t i j) mb l) (h0 : J [] W) (n : Nat) :
    CallsIn Fence.wide n Try.prog 84 #[.pointer (some ⟨mb, 0, none⟩), .pointer a, .int .i64 i, .int .i64 j, .func (.yield l) #[] #[]] W fun e W' => (∃ v, e = .returned v) ∧ (J (sk t i j) W' ∨ X W') := by
  cases t with
  | nil =>
    cases (show a = none from h2)
    refine (callsIn_wide.2 (tell_empty W (some ⟨mb, 0, none⟩) i j l)).mono ?_
    rintro e W' ⟨hv, hk⟩
    exact ⟨hv, .inl (H.nu _ _ _ h0 hk)⟩
  | node x p y =>
    have h3 := h2
    obtain ⟨r0, _, _, e, _⟩ := h3
    subst e
    exact tell_lin h2 st i j hs hi0 hi1 hj0 hj1 H h0 n
end
set_option maxRecDepth 100000 in
set_option maxHeartbeats 1000000 in
/-- All's sequence, whatever becomes of the map while it is gone through -/
theorem all_l {w : World} {mb bx : Nat} {t : T (Int × Int)} (hm : Mp w mb t) (hb : w.heap[bx]? = some (.cells #[.pointer (some ⟨mb, 0, none⟩)] 22 (0, 0))) (hs : t.sz < 2 ^ 61) :
    SeqL Try.prog 82 #[.pointer (some ⟨bx, 0, none⟩)] (fun x : Int × Int => #[.int .i64 x.1, .int .i64 x.2]) KL (VlM mb) (GnM mb) (MmM mb) (fun ys => ys.map Prod.fst = t.xs.map Prod.fst) (fun pre => pre.map Prod.fst <+: t.xs.map Prod.fst) w := fun n l J Jx W hW hJ hJx hM hG hY h0 => by
  have mixed : Try.prog.follows .mixedOrders = true := by kernel_rfl
  obtain ⟨a, h1, h2⟩ := hm.ex
  have g1 := (hW.block mb (blk_lt h1)).trans h1
  have gb := (hW.block bx (blk_lt hb)).trans hb
  have g2 : Tr W t a := h2.keep (fun b c e => (hW.block b (blk_lt e)).trans e)
  have eseg : sk t 0 (t.sz : Int) = t.xs.map Prod.fst := by
    rw [sk_seg, seg_xs]; simp; rw [← T.xs_length]; exact List.take_of_length_le (by simp)
  have H : Lt (fun ks V => ∃ q, q.map Prod.fst = ks ∧ J q V) (fun V => ∃ q, q.map Prod.fst <+: t.xs.map Prod.fst ∧ Jx q V) (sk t 0 (t.sz : Int)) mb l := by
    rw [eseg]
    refine ⟨fun pre V h => ?_, fun pre V V' h k => ?_, fun pre x W1 h hp hv m => ?_, fun pre x W1 h hp hg => ?_⟩
    · obtain ⟨q, _, hq⟩ := h
      exact hM q V hq
    · obtain ⟨q, e, hq⟩ := h
      exact ⟨q, e, own_nu hJ hq k⟩
    · obtain ⟨q, e, hq⟩ := h
      subst e
      have e2 : q.map Prod.fst ++ [x.1] = (q ++ [x]).map Prod.fst := by simp
      rw [e2] at hp
      obtain ⟨fn, tmps, assign, body, hy, hR⟩ := hY q x W1 hq hp hv m
      refine ⟨fn, tmps, assign, body, hy, hR.mono fun e W' hh => ?_⟩
      rcases hh.2 with ⟨h1, h2, h3⟩ | ⟨h1, h2⟩
      · exact .inl ⟨h1, ⟨q ++ [x], e2.symm, h2⟩, h3⟩
      · exact .inr ⟨h1, q ++ [x], hp, h2⟩
    · obtain ⟨q, e, hq⟩ := h
      subst e
      have e2 : q.map Prod.fst ++ [x.1] = (q ++ [x]).map Prod.fst := by simp
      rw [e2] at hp ⊢
      exact ⟨q ++ [x], rfl, hG q x W1 hq hp hg⟩
  have TA := tree_any g1
  have CO : Calls Try.prog 85 #[.pointer a] W.drew fun e w' => e = .returned (.int .i64 (t.sz : Int)) ∧ w' = W.drew := count_any (g2.nu (Kp.refl Nu W).drew)
  have TE := tell_lall (W := W.drew) (g2.nu (Kp.refl Nu W).drew) hm.srt 0 (t.sz : Int) hs (by omega) (by omega) (by omega) (by omega) H ⟨[], rfl, own_nu hJ h0 (Kp.refl Nu W).drew⟩ (n - 1)
  rw [eseg] at TE
  have c0 := cell1 gb
  have c1 : W.drew.cell? ⟨bx, 0, none⟩ = some (.pointer (some ⟨mb, 0, none⟩)) := c0
  clear hW hJ hJx hY h0 h1 h2 g1 gb g2 hb hm eseg H hM hG
  refine callsIn_of_wp Try.func82 rfl trivial ?_ rfl
  simp only [Try.ntmps82, List.size_toArray, List.length_cons, List.length_nil, Nat.reduceAdd, Nat.reduceSub, Array.replicate_succ, Array.replicate_zero, List.push_toArray, List.append_toArray, List.nil_append, List.cons_append]
  gi_wp2_with fail
  refine ⟨trivial, fun h => (by cases h), (callsIn_wide.2 TA).mono ?_⟩
  rintro e w' ⟨rfl, hw⟩; obtain rfl := hw.symm
  gi_wp2_with fail
  gi_region_with_o (first
    | (refine ⟨trivial, fun h => (by cases h), (callsIn_wide.2 CO).mono ?_⟩; rintro e w' ⟨rfl, hw⟩; obtain rfl := hw.symm)
    | (refine ⟨trivial, fun h => (by cases h), TE.mono ?_⟩; rintro e V ⟨⟨v, rfl⟩, hh⟩; have HH := hide hh; clear hh))
  all_goals gi_wp2
  all_goals go_end0
  all_goals (refine ⟨⟨_, rfl⟩, ?_⟩; rcases HH.out with ⟨q, e, h⟩ | ⟨q, hq, hx⟩)
  all_goals first | exact .inl ⟨q, e, h⟩ | exact .inr ⟨q, hq, hx⟩
end Go.Proofs.Ytchealdgncgjoaa.StI
