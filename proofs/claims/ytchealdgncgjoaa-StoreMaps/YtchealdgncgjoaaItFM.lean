import Derived.Test.YtchealdgncgjoaaItEM
namespace Go.Proofs.Ytchealdgncgjoaa.StM
open Go.RowKit Go.Proofs.Ytchealdgncgjoaa.St Go.Shelf Go.Sort Go.Proofs.Ytchealdgncgjoaa.It Go.Proofs.Ytchealdgncgjoaa.StI
attribute [local go_sem] Oper.semAt_some
set_option linter.unusedVariables false
section
variable {J Jx : List (Int × Int) → World → Prop} {l mb bw : Nat} {wh : Int} {t : T (Int × Int)}
theorem drw_of {B : Nat} (h : OwnFrom B J) : Drw J := fun pre W hj => h pre W W.drew none hj (grown_nu (Kp.refl Nu W).drew) (fun r e => by cases e)
theorem own_nu {B : Nat} (h : OwnFrom B J) {pre : List (Int × Int)} {W W' : World} (hj : J pre W) (k : Kp Nu W W') : J pre W' := h pre W W' none hj (grown_nu k) (fun r e => by cases e)

set_option maxRecDepth 100000 in
set_option maxHeartbeats 1000000 in
theorem tell_in {W : World} {r0 : Nat} (h1 : W.heap[mb]? = some (.cells #[.func (.func 66) #[] #[.pointer (some ⟨bw, 0, none⟩)], .pointer (some ⟨r0, 0, none⟩)] 130 (0, 0))) (h2 : Tr W t (some ⟨r0, 0, none⟩)) (i j : Int) (hs : t.sz < 2 ^ 61) (hi0 : 0 ≤ i) (hi1 : i < 2 ^ 62) (hj0 : 0 ≤ j) (hj1 : j < 2 ^ 62)
    {B : Nat} (hJ : OwnFrom B J) (hY : Rnd J Jx (seg t i j) mb l) (h0 : J [] W) (n : Nat) :
    CallsIn Fence.wide n Try.prog 84 #[.pointer (some ⟨mb, 0, none⟩), .pointer (some ⟨r0, 0, none⟩), .int .i64 i, .int .i64 j, .func (.yield l) #[] #[]] W fun e W' => (∃ v, e = .returned v) ∧ (J (seg t i j) W' ∨ ∃ q, q <+: seg t i j ∧ Jx q W') := by
  have ka := Kp.alloc W (.cells #[.pointer (some ⟨mb, 0, none⟩)] 22) Nu
  have kb := ka.andAlloc (.cells #[.pointer (some ⟨r0, 0, none⟩)] 128)
  have kc := kb.andAlloc (.cells #[.func (.yield l) #[] #[]] 31)
  have x1 : (((W.alloc (.cells #[.pointer (some ⟨mb, 0, none⟩)] 22)).alloc (.cells #[.pointer (some ⟨r0, 0, none⟩)] 128)).alloc (.cells #[.func (.yield l) #[] #[]] 31)).heap[W.heap.size]? = some (.cells #[.pointer (some ⟨mb, 0, none⟩)] 22 (0, 0)) :=
    (Below.heap_alloc _ _ _ (by simp; omega)).trans ((Below.heap_alloc _ _ _ (by simp)).trans (heap_alloc_new W _))
  have x2 : (((W.alloc (.cells #[.pointer (some ⟨mb, 0, none⟩)] 22)).alloc (.cells #[.pointer (some ⟨r0, 0, none⟩)] 128)).alloc (.cells #[.func (.yield l) #[] #[]] 31)).heap[W.heap.size + 1]? = some (.cells #[.pointer (some ⟨r0, 0, none⟩)] 128 (0, 0)) :=
    (Below.heap_alloc _ _ _ (by simp)).trans (by have := heap_alloc_new (W.alloc (.cells #[.pointer (some ⟨mb, 0, none⟩)] 22)) (.cells #[.pointer (some ⟨r0, 0, none⟩)] 128); simpa using this)
  have x3 : (((W.alloc (.cells #[.pointer (some ⟨mb, 0, none⟩)] 22)).alloc (.cells #[.pointer (some ⟨r0, 0, none⟩)] 128)).alloc (.cells #[.func (.yield l) #[] #[]] 31)).heap[W.heap.size + 1 + 1]? = some (.cells #[.func (.yield l) #[] #[]] 31 (0, 0)) := by
    have := heap_alloc_new ((W.alloc (.cells #[.pointer (some ⟨mb, 0, none⟩)] 22)).alloc (.cells #[.pointer (some ⟨r0, 0, none⟩)] 128)) (.cells #[.func (.yield l) #[] #[]] 31)
    simpa using this
  have hE : Ev bw (((W.alloc (.cells #[.pointer (some ⟨mb, 0, none⟩)] 22)).alloc (.cells #[.pointer (some ⟨r0, 0, none⟩)] 128)).alloc (.cells #[.func (.yield l) #[] #[]] 31)) mb W.heap.size (W.heap.size + 1) (W.heap.size + 1 + 1) l t r0 :=
    ⟨x1, x2, x3, (kc.block _ (blk_lt h1) (fun h => h)).trans h1, h2.nu kc⟩
  have WI := walk_in hY (drw_of hJ) t (n - 1) [] (some ⟨r0, 0, none⟩) i j _ (h2.nu kc) hE (own_nu hJ h0 kc) (by simp) (by omega) (by omega) hi1 (by omega) hj1
  have c2 := cell1 x2
  clear hE x1 x2 x3 ka kb kc h1 h2 hY hJ h0 hs hi0 hi1 hj0 hj1
  refine callsIn_of_wp Try.func84 rfl trivial ?_ rfl
  simp only [Try.ntmps84, List.size_toArray, List.length_cons, List.length_nil, Nat.reduceAdd, Nat.reduceSub, Array.replicate_succ, Array.replicate_zero, List.push_toArray, List.append_toArray, List.nil_append, List.cons_append]
  gi_wp2_with fail
  refine ⟨trivial, fun h => (by cases h), WI.mono ?_⟩
  rintro e V (⟨rfl, hj, k⟩ | ⟨rfl, q, hq, hx⟩)
  · have HF : Hid (J (seg t i j) V) := by show J (seg t i j) V; simpa using hj
    clear hj WI
    gi_wp2
    go_end0
    exact ⟨⟨_, rfl⟩, .inl HF.out⟩
  · have HF : Hid (∃ q, q <+: seg t i j ∧ Jx q V) := ⟨q, hq, hx⟩
    clear hq hx WI
    gi_wp2
    go_end0
    exact ⟨⟨_, rfl⟩, .inr HF.out⟩
set_option maxRecDepth 100000 in
set_option maxHeartbeats 400000 in
theorem walk_empty (w : World) (i j : Int) (f : Value) : Calls Try.prog 153 #[.pointer none, .int .i64 i, .int .i64 j, f] w fun e w' => e = .returned (.bool true) ∧ w' = w := by
  go_enter Try.func153, Try.ntmps153
  go_wp2_with fail
  go_ret
  exact ⟨rfl, rfl⟩
set_option maxRecDepth 100000 in
set_option maxHeartbeats 400000 in
theorem tell_empty (w : World) (m : Option Addr) (i j : Int) (l : Nat) : Calls Try.prog 84 #[.pointer m, .pointer none, .int .i64 i, .int .i64 j, .func (.yield l) #[] #[]] w fun e w' => (∃ v, e = .returned v) ∧ Kp Nu w w' := by
  have WN := fun W f => walk_empty W i j f
  have HK := hide (((Kp.alloc w (.cells #[.pointer m] 22) Nu).andAlloc (.cells #[.pointer none] 128)).andAlloc (.cells #[.func (.yield l) #[] #[]] 31))
  go_enter Try.func84, Try.ntmps84
  go_wp2_with (go_at_call 153; refine (WN _ _).mono ?_; rintro e w' ⟨rfl, hw⟩; obtain rfl := hw.symm)
  go_end0
  exact ⟨⟨_, rfl⟩, HK.out⟩
/-- tell, whatever the tree -/
theorem tell_all {W : World} {a : Option Addr} (h1 : W.heap[mb]? = some (.cells #[.func (.func 66) #[] #[.pointer (some ⟨bw, 0, none⟩)], .pointer a] 130 (0, 0))) (h2 : Tr W t a) (i j : Int) (hs : t.sz < 2 ^ 61) (hi0 : 0 ≤ i) (hi1 : i < 2 ^ 62) (hj0 : 0 ≤ j) (hj1 : j < 2 ^ 62)
    {B : Nat} (hJ : OwnFrom B J) (hY : Rnd J Jx (seg t i j) mb l) (h0 : J [] W) (n : Nat) :
    CallsIn Fence.wide n Try.prog 84 #[.pointer (some ⟨mb, 0, none⟩), .pointer a, .int .i64 i, .int .i64 j, .func (.yield l) #[] #[]] W fun e W' => (∃ v, e = .returned v) ∧ (J (seg t i j) W' ∨ ∃ q, q <+: seg t i j ∧ Jx q W') := by
  cases t with
  | nil =>
    cases (show a = none from h2)
    refine (callsIn_wide.2 (tell_empty W (some ⟨mb, 0, none⟩) i j l)).mono ?_
    rintro e W' ⟨hv, hk⟩
    exact ⟨hv, .inl (own_nu hJ h0 hk)⟩
  | node x p y =>
    have h3 := h2
    obtain ⟨r0, _, _, e, _⟩ := h3
    subst e
    exact tell_in h1 h2 i j hs hi0 hi1 hj0 hj1 hJ hY h0 n
end
--IF All1
set_option maxRecDepth 100000 in
set_option maxHeartbeats 1000000 in
theorem all_q {bw : Nat} {wh : Int} {w : World} {mb bx : Nat} {t : T (Int × Int)} (hm : Mp bw wh w mb t) (hb : w.heap[bx]? = some (.cells #[.pointer (some ⟨mb, 0, none⟩)] 22 (0, 0))) (hs : t.sz < 2 ^ 61) :
    SeqQ Try.prog 82 #[.pointer (some ⟨bx, 0, none⟩)] (fun x : Int × Int => #[.int .i64 (x.1), .int .i64 (x.2)]) (KM mb) (fun ys => ys = t.xs) (fun pre => pre <+: t.xs) t.sz w := fun n l J Jx W hW hJ hJx hY h0 => by
  have mixed : Try.prog.follows .mixedOrders = true := by kernel_rfl
  obtain ⟨a, h1, h2⟩ := hm.ex
  have g1 := (hW.block mb (blk_lt h1)).trans h1
  have gb := (hW.block bx (blk_lt hb)).trans hb
  have g2 : Tr W t a := h2.keep (fun b c e => (hW.block b (blk_lt e)).trans e)
  have eseg : seg t 0 (t.sz : Int) = t.xs := by
    rw [seg_xs]; simp; rw [← T.xs_length]; exact List.take_length
  have TA := tree_any g1
  have CO : Calls Try.prog 85 #[.pointer a] W.drew fun e w' => e = .returned (.int .i64 (t.sz : Int)) ∧ w' = W.drew := count_any (g2.nu (Kp.refl Nu W).drew)
  have TE := tell_all (J := J) (Jx := Jx) (l := l) (W := W.drew) g1 (g2.nu (Kp.refl Nu W).drew) 0 (t.sz : Int) hs (by omega) (by omega) (by omega) (by omega) hJ
    (by rw [eseg]; exact fun pre x W1 hj hp m => by
          obtain ⟨fn, tmps, assign, body, hy, hR⟩ := hY pre x W1 hj hp m
          exact ⟨fn, tmps, assign, body, hy, hR.mono fun e W' hh => hh.2⟩) (own_nu hJ h0 (Kp.refl Nu W).drew) (n - 1)
  rw [eseg] at TE
  have c0 := cell1 gb
  have c1 : W.drew.cell? ⟨bx, 0, none⟩ = some (.pointer (some ⟨mb, 0, none⟩)) := c0
  clear hW hJ hJx hY h0 h1 h2 g1 gb g2 hb hm eseg
  refine callsIn_of_wp Try.func82 rfl trivial ?_ rfl
  simp only [Try.ntmps82, List.size_toArray, List.length_cons, List.length_nil, Nat.reduceAdd, Nat.reduceSub, Array.replicate_succ, Array.replicate_zero, List.push_toArray, List.append_toArray, List.nil_append, List.cons_append]
  gi_wp2_with fail
  refine ⟨trivial, fun h => (by cases h), (callsIn_wide.2 TA).mono ?_⟩
  rintro e w' ⟨rfl, hw⟩; obtain rfl := hw.symm
  gi_wp2_with fail
  gi_region_with_o (first
    | (refine ⟨trivial, fun h => (by cases h), (callsIn_wide.2 CO).mono ?_⟩; rintro e w' ⟨rfl, hw⟩; obtain rfl := hw.symm)
    | (refine ⟨trivial, fun h => (by cases h), TE.mono ?_⟩; rintro e V ⟨⟨v, rfl⟩, hh⟩; have HH := hide hh; clear hh))
  all_goals gi_wp2
  all_goals go_end0
  all_goals (refine ⟨⟨_, rfl⟩, ?_⟩; rcases HH.out with h | ⟨q, hq, hx⟩)
  all_goals first | exact .inl ⟨_, rfl, h⟩ | exact .inr ⟨q, hq, hx⟩
--END
end Go.Proofs.Ytchealdgncgjoaa.StM
