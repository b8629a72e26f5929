import Derived.Test.YtchealdgncgjoaaRmA
import Derived.Test.YtchealdgncgjoaaItC
import Derived.Test.YtchealdgncgjoaaPq
import Derived.Test.YtchealdgncgjoaaItEF
import Derived.Test.YtchealdgncgjoaaItB
namespace Go.Proofs.Ytchealdgncgjoaa.StI
open Go.RowKit Go.Proofs.Ytchealdgncgjoaa.St Go.Shelf Go.Sort Go.Proofs.Ytchealdgncgjoaa.It
attribute [local go_sem] Oper.semAt_some
set_option linter.unusedVariables false

/-- the pairs at the places from i on, up to the one ahead of j -/
def seg : T (Int × Int) → Int → Int → List (Int × Int)
  | .nil, _, _ => []
  | .node l p r, i, j => if ((l.sz + 1 + r.sz : Nat) : Int) ≤ i ∨ j ≤ 0 then [] else seg l i j ++ ((if i ≤ (l.sz : Int) ∧ (l.sz : Int) < j then [p] else []) ++ seg r (i - (l.sz : Int) - 1) (j - (l.sz : Int) - 1))
theorem seg_xs : ∀ (t : T (Int × Int)) (i j : Int), seg t i j = (t.xs.take j.toNat).drop i.toNat
  | .nil, i, j => by simp [seg, T.xs]
  | .node l p r, i, j => by
    have el := T.xs_length l
    have er := T.xs_length r
    simp only [seg, T.xs]
    by_cases h : ((l.sz + 1 + r.sz : Nat) : Int) ≤ i ∨ j ≤ 0
    · rw [if_pos h]
      rcases h with h | h
      · symm; apply List.drop_eq_nil_of_le
        simp only [List.length_take, List.length_append, List.length_cons]; omega
      · have : j.toNat = 0 := by omega
        rw [this]; simp
    · rw [if_neg h, seg_xs l, seg_xs r]
      rw [List.take_append, List.drop_append, List.length_take]
      congr 1
      by_cases h1 : l.sz < j.toNat
      · have e1 : min j.toNat l.xs.length = l.sz := by omega
        rw [e1, el]
        obtain ⟨m, hm⟩ : ∃ m, j.toNat - l.sz = m + 1 := ⟨j.toNat - l.sz - 1, by omega⟩
        have e2 : (j - (l.sz : Int) - 1).toNat = m := by omega
        rw [hm, e2, List.take_succ_cons]
        by_cases h2 : i ≤ (l.sz : Int)
        · rw [if_pos ⟨h2, by omega⟩]
          have e3 : i.toNat - l.sz = 0 := by omega
          have e4 : (i - (l.sz : Int) - 1).toNat = 0 := by omega
          rw [e3, e4]; simp
        · rw [if_neg (fun h => h2 h.1)]
          obtain ⟨q, hq⟩ : ∃ q, i.toNat - l.sz = q + 1 := ⟨i.toNat - l.sz - 1, by omega⟩
          have e4 : (i - (l.sz : Int) - 1).toNat = q := by omega
          rw [hq, e4]; simp
      · have e2 : (j - (l.sz : Int) - 1).toNat = 0 := by omega
        have e3 : j.toNat - l.xs.length = 0 := by omega
        rw [if_neg (fun h => by omega), e2, e3]; simp

/-- the blocks that a round keeps: nodes, the boxes of the walk, the map -/
def KM (mb : Nat) (k : Nat) (t : TypeId) : Prop := t = 136 ∨ t = 22 ∨ t = 128 ∨ t = 31 ∨ k = mb
/-- what the walk stands on -/
structure Ev (W : World) (mb bm bt by_ l : Nat) (t : T (Int × Int)) (r0 : Nat) : Prop where
  xm : W.heap[bm]? = some (.cells #[.pointer (some ⟨mb, 0, none⟩)] 22 (0, 0))
  xt : W.heap[bt]? = some (.cells #[.pointer (some ⟨r0, 0, none⟩)] 128 (0, 0))
  xy : W.heap[by_]? = some (.cells #[.func (.yield l) #[] #[]] 31 (0, 0))
  mm : W.heap[mb]? = some (.cells #[.func (.func 76) #[] #[], .pointer (some ⟨r0, 0, none⟩)] 130 (0, 0))
  tr : Tr W t (some ⟨r0, 0, none⟩)
theorem Ev.kc {W W' : World} {mb bm bt by_ l : Nat} {t : T (Int × Int)} {r0 : Nat} (h : Ev W mb bm bt by_ l t r0) (k : Kc (KM mb) W W') : Ev W' mb bm bt by_ l t r0 :=
  ⟨k _ _ _ _ (.inr (.inl rfl)) h.xm, k _ _ _ _ (.inr (.inr (.inl rfl))) h.xt, k _ _ _ _ (.inr (.inr (.inr (.inl rfl)))) h.xy, k _ _ _ _ (.inr (.inr (.inr (.inr rfl)))) h.mm, h.tr.keep (fun b c e => k _ _ _ _ (.inl rfl) e)⟩
theorem kn_kc {mb : Nat} {W W' : World} (k : Kc (KM mb) W W') : Kn W W' := fun b c e => k _ _ _ _ (.inl rfl) e
theorem cell2 {w : World} {b : Nat} {x0 x1 : Value} {t : TypeId} (h : w.heap[b]? = some (.cells #[x0, x1] t (0, 0))) : w.cell? ⟨b, 0, none⟩ = some x0 ∧ w.cell? ⟨b, 1, none⟩ = some x1 := by
  refine ⟨?_, ?_⟩ <;> simp [World.cell?, h]

section
variable {J Jx : List (Int × Int) → World → Prop} {M : List (Int × Int)} {mb bm bt by_ l r0 : Nat} {t0 : T (Int × Int)}
/-- what a round of the caller's loop does -/
def Rnd (J Jx : List (Int × Int) → World → Prop) (M : List (Int × Int)) (mb l : Nat) : Prop := ∀ pre x W1, J pre W1 → pre ++ [x] <+: M → ∀ m, YieldAt Fence.wide m Try.prog l #[.int .i64 (x.1), .int .i64 (x.2)] W1 fun e W' =>
      (e = .returned (.bool true) ∧ J (pre ++ [x]) W' ∧ Kc (KM mb) W1 W') ∨ (e = .returned (.bool false) ∧ Jx (pre ++ [x]) W')
def Drw (J : List (Int × Int) → World → Prop) : Prop := ∀ pre W, J pre W → J pre W.drew

theorem oneway {e : Ending} {A B : Prop} (h : (e = .returned (.bool true) ∧ A) ∨ (e = .returned (.bool false) ∧ B)) : ∃ b : Bool, e = .returned (.bool b) ∧ Hid ((b = true ∧ A) ∨ (b = false ∧ B)) := by
  rcases h with ⟨rfl, h⟩ | ⟨rfl, h⟩
  · exact ⟨true, rfl, .inl ⟨rfl, h⟩⟩
  · exact ⟨false, rfl, .inr ⟨rfl, h⟩⟩
set_option maxRecDepth 100000 in
set_option maxHeartbeats 1000000 in
theorem visit_in (hY : Rnd J Jx M mb l) (hD : Drw J) (n : Nat) (pre : List (Int × Int)) (p : Int × Int) (an : Option Addr) (W : World) (hE : Ev W mb bm bt by_ l t0 r0) (hn : Nd W p an) (hJ : J pre W) (hp : pre ++ [p] <+: M) :
    CallsIn Fence.wide n Try.prog 154 #[.pointer an, .pointer (some ⟨bm, 0, none⟩), .pointer (some ⟨bt, 0, none⟩), .pointer (some ⟨by_, 0, none⟩)] W fun e W' =>
      (e = .returned (.bool true) ∧ J (pre ++ [p]) W' ∧ Kc (KM mb) W W') ∨ (e = .returned (.bool false) ∧ Jx (pre ++ [p]) W') := by
  have mixed : Try.prog.follows .mixedOrders = true := by kernel_rfl
  obtain ⟨b, x2, x3, x4, x5, rfl, hb⟩ := hn
  obtain ⟨c0, c1, _⟩ := cell6 hb
  have d1 := cell1 hE.xm
  have d2 := cell1 hE.xt
  have d3 := cell1 hE.xy
  obtain ⟨d4, d5⟩ := cell2 hE.mm
  have HJ2 : J pre W.drew.drew := hD _ _ (hD _ _ hJ)
  obtain ⟨fn, tmps, assign, body, hy, hR⟩ := hY pre p W.drew.drew HJ2 hp (n - 1)
  have hq := fun V => eq128 V r0
  have HW := hide (kc_nu (K := KM mb) ((Kp.refl Nu W).drew.drew))
  refine callsIn_of_wp Try.func154 rfl trivial ?_ rfl
  simp only [Try.ntmps154, List.size_toArray, List.length_cons, List.length_nil, Nat.reduceAdd, Nat.reduceSub, Array.replicate_succ, Array.replicate_zero, List.push_toArray, List.append_toArray, List.nil_append, List.cons_append]
  clear hE hb hJ hp HJ2
  gi_wp2_with fail
  gi_region_o
  gi_wp2_with fail
  gi_region_with_o (refine ⟨fun h => (by cases h), hR.mono ?_⟩; rintro e W3 hh; obtain ⟨bb, rfl, HB⟩ := oneway hh; clear hh)
  all_goals gi_wp2
  all_goals go_ret
  all_goals (rcases HB.out with ⟨rfl, hJ4, hk3⟩ | ⟨rfl, hx⟩)
  all_goals first | exact .inl ⟨rfl, hJ4, HW.out.trans hk3⟩ | exact .inr ⟨rfl, hx⟩
end
end Go.Proofs.Ytchealdgncgjoaa.StI
namespace Go.Proofs.Ytchealdgncgjoaa.StF
open Go.RowKit Go.Proofs.Ytchealdgncgjoaa.St Go.Shelf Go.Sort Go.Proofs.Ytchealdgncgjoaa.It
attribute [local go_sem] Oper.semAt_some
set_option linter.unusedVariables false
section
variable {J Jx : List (FK × Int) → World → Prop} {l mb : Nat} {t : T (FK × Int)}
theorem drw_of {B : Nat} (h : OwnFrom B J) : Drw J := fun pre W hj => h pre W W.drew none hj (grown_nu (Kp.refl Nu W).drew) (fun r e => by cases e)
theorem own_nu {B : Nat} (h : OwnFrom B J) {pre : List (FK × Int)} {W W' : World} (hj : J pre W) (k : Kp Nu W W') : J pre W' := h pre W W' none hj (grown_nu k) (fun r e => by cases e)

set_option maxRecDepth 100000 in
set_option maxHeartbeats 1000000 in
theorem tell_in {W : World} {r0 : Nat} (h1 : W.heap[mb]? = some (.cells #[.func (.func 103) #[] #[], .pointer (some ⟨r0, 0, none⟩)] 158 (0, 0))) (h2 : Tr W t (some ⟨r0, 0, none⟩)) (i j : Int) (hs : t.sz < 2 ^ 61) (hi0 : 0 ≤ i) (hi1 : i < 2 ^ 62) (hj0 : 0 ≤ j) (hj1 : j < 2 ^ 62)
    {B : Nat} (hJ : OwnFrom B J) (hY : Rnd J Jx (seg t i j) mb l) (h0 : J [] W) (n : Nat) :
    CallsIn Fence.wide n Try.prog 163 #[.pointer (some ⟨mb, 0, none⟩), .pointer (some ⟨r0, 0, none⟩), .int .i64 i, .int .i64 j, .func (.yield l) #[] #[]] W fun e W' => (∃ v, e = .returned v) ∧ (J (seg t i j) W' ∨ ∃ q, q <+: seg t i j ∧ Jx q W') := by
  have ka := Kp.alloc W (.cells #[.pointer (some ⟨mb, 0, none⟩)] 57) Nu
  have kb := ka.andAlloc (.cells #[.pointer (some ⟨r0, 0, none⟩)] 156)
  have kc := kb.andAlloc (.cells #[.func (.yield l) #[] #[]] 205)
  have x1 : (((W.alloc (.cells #[.pointer (some ⟨mb, 0, none⟩)] 57)).alloc (.cells #[.pointer (some ⟨r0, 0, none⟩)] 156)).alloc (.cells #[.func (.yield l) #[] #[]] 205)).heap[W.heap.size]? = some (.cells #[.pointer (some ⟨mb, 0, none⟩)] 57 (0, 0)) :=
    (Below.heap_alloc _ _ _ (by simp; omega)).trans ((Below.heap_alloc _ _ _ (by simp)).trans (heap_alloc_new W _))
  have x2 : (((W.alloc (.cells #[.pointer (some ⟨mb, 0, none⟩)] 57)).alloc (.cells #[.pointer (some ⟨r0, 0, none⟩)] 156)).alloc (.cells #[.func (.yield l) #[] #[]] 205)).heap[W.heap.size + 1]? = some (.cells #[.pointer (some ⟨r0, 0, none⟩)] 156 (0, 0)) :=
    (Below.heap_alloc _ _ _ (by simp)).trans (by have := heap_alloc_new (W.alloc (.cells #[.pointer (some ⟨mb, 0, none⟩)] 57)) (.cells #[.pointer (some ⟨r0, 0, none⟩)] 156); simpa using this)
  have x3 : (((W.alloc (.cells #[.pointer (some ⟨mb, 0, none⟩)] 57)).alloc (.cells #[.pointer (some ⟨r0, 0, none⟩)] 156)).alloc (.cells #[.func (.yield l) #[] #[]] 205)).heap[W.heap.size + 1 + 1]? = some (.cells #[.func (.yield l) #[] #[]] 205 (0, 0)) := by
    have := heap_alloc_new ((W.alloc (.cells #[.pointer (some ⟨mb, 0, none⟩)] 57)).alloc (.cells #[.pointer (some ⟨r0, 0, none⟩)] 156)) (.cells #[.func (.yield l) #[] #[]] 205)
    simpa using this
  have hE : Ev (((W.alloc (.cells #[.pointer (some ⟨mb, 0, none⟩)] 57)).alloc (.cells #[.pointer (some ⟨r0, 0, none⟩)] 156)).alloc (.cells #[.func (.yield l) #[] #[]] 205)) mb W.heap.size (W.heap.size + 1) (W.heap.size + 1 + 1) l t r0 :=
    ⟨x1, x2, x3, (kc.block _ (blk_lt h1) (fun h => h)).trans h1, h2.nu kc⟩
  have WI := walk_in hY (drw_of hJ) t (n - 1) [] (some ⟨r0, 0, none⟩) i j _ (h2.nu kc) hE (own_nu hJ h0 kc) (by simp) (by omega) (by omega) hi1 (by omega) hj1
  have c2 := cell1 x2
  clear hE x1 x2 x3 ka kb kc h1 h2 hY hJ h0 hs hi0 hi1 hj0 hj1
  refine callsIn_of_wp Try.func163 rfl trivial ?_ rfl
  simp only [Try.ntmps163, List.size_toArray, List.length_cons, List.length_nil, Nat.reduceAdd, Nat.reduceSub, Array.replicate_succ, Array.replicate_zero, List.push_toArray, List.append_toArray, List.nil_append, List.cons_append]
  gi_wp2_with fail
  refine ⟨trivial, fun h => (by cases h), WI.mono ?_⟩
  rintro e V (⟨rfl, hj, k⟩ | ⟨rfl, q, hq, hx⟩)
  · have HF : Hid (J (seg t i j) V) := by show J (seg t i j) V; simpa using hj
    clear hj WI
    gi_wp2
    go_end0
    exact ⟨⟨_, rfl⟩, .inl HF.out⟩
  · have HF : Hid (∃ q, q <+: seg t i j ∧ Jx q V) := ⟨q, hq, hx⟩
    clear hq hx WI
    gi_wp2
    go_end0
    exact ⟨⟨_, rfl⟩, .inr HF.out⟩
set_option maxRecDepth 100000 in
set_option maxHeartbeats 400000 in
theorem walk_empty (w : World) (i j : Int) (f : Value) : Calls Try.prog 192 #[.pointer none, .int .i64 i, .int .i64 j, f] w fun e w' => e = .returned (.bool true) ∧ w' = w := by
  go_enter Try.func192, Try.ntmps192
  go_wp2_with fail
  go_ret
  exact ⟨rfl, rfl⟩
set_option maxRecDepth 100000 in
set_option maxHeartbeats 400000 in
theorem tell_empty (w : World) (m : Option Addr) (i j : Int) (l : Nat) : Calls Try.prog 163 #[.pointer m, .pointer none, .int .i64 i, .int .i64 j, .func (.yield l) #[] #[]] w fun e w' => (∃ v, e = .returned v) ∧ Kp Nu w w' := by
  have WN := fun W f => walk_empty W i j f
  have HK := hide (((Kp.alloc w (.cells #[.pointer m] 57) Nu).andAlloc (.cells #[.pointer none] 156)).andAlloc (.cells #[.func (.yield l) #[] #[]] 205))
  go_enter Try.func163, Try.ntmps163
  go_wp2_with (go_at_call 192; refine (WN _ _).mono ?_; rintro e w' ⟨rfl, hw⟩; obtain rfl := hw.symm)
  go_end0
  exact ⟨⟨_, rfl⟩, HK.out⟩
/-- tell, whatever the tree -/
theorem tell_all {W : World} {a : Option Addr} (h1 : W.heap[mb]? = some (.cells #[.func (.func 103) #[] #[], .pointer a] 158 (0, 0))) (h2 : Tr W t a) (i j : Int) (hs : t.sz < 2 ^ 61) (hi0 : 0 ≤ i) (hi1 : i < 2 ^ 62) (hj0 : 0 ≤ j) (hj1 : j < 2 ^ 62)
    {B : Nat} (hJ : OwnFrom B J) (hY : Rnd J Jx (seg t i j) mb l) (h0 : J [] W) (n : Nat) :
    CallsIn Fence.wide n Try.prog 163 #[.pointer (some ⟨mb, 0, none⟩), .pointer a, .int .i64 i, .int .i64 j, .func (.yield l) #[] #[]] W fun e W' => (∃ v, e = .returned v) ∧ (J (seg t i j) W' ∨ ∃ q, q <+: seg t i j ∧ Jx q W') := by
  cases t with
  | nil =>
    cases (show a = none from h2)
    refine (callsIn_wide.2 (tell_empty W (some ⟨mb, 0, none⟩) i j l)).mono ?_
    rintro e W' ⟨hv, hk⟩
    exact ⟨hv, .inl (own_nu hJ h0 hk)⟩
  | node x p y =>
    have h3 := h2
    obtain ⟨r0, _, _, e, _⟩ := h3
    subst e
    exact tell_in h1 h2 i j hs hi0 hi1 hj0 hj1 hJ hY h0 n
end
set_option maxRecDepth 100000 in
set_option maxHeartbeats 1000000 in
theorem all_q {w : World} {mb bx : Nat} {t : T (FK × Int)} (hm : Mp w mb t) (hb : w.heap[bx]? = some (.cells #[.pointer (some ⟨mb, 0, none⟩)] 57 (0, 0))) (hs : t.sz < 2 ^ 61) :
    SeqQ Try.prog 162 #[.pointer (some ⟨bx, 0, none⟩)] (fun x : FK × Int => #[.float .f64 (x.1).bits, .int .i64 (x.2)]) (KM mb) (fun ys => ys = t.xs) (fun pre => pre <+: t.xs) t.sz w := fun n l J Jx W hW hJ hJx hY h0 => by
  have mixed : Try.prog.follows .mixedOrders = true := by kernel_rfl
  obtain ⟨a, h1, h2⟩ := hm.ex
  have g1 := (hW.block mb (blk_lt h1)).trans h1
  have gb := (hW.block bx (blk_lt hb)).trans hb
  have g2 : Tr W t a := h2.keep (fun b c e => (hW.block b (blk_lt e)).trans e)
  have eseg : seg t 0 (t.sz : Int) = t.xs := by
    rw [seg_xs]; simp; rw [← T.xs_length]; exact List.take_length
  have TA := tree_any g1
  have CO : Calls Try.prog 159 #[.pointer a] W.drew fun e w' => e = .returned (.int .i64 (t.sz : Int)) ∧ w' = W.drew := count_any (g2.nu (Kp.refl Nu W).drew)
  have TE := tell_all (J := J) (Jx := Jx) (l := l) (W := W.drew) g1 (g2.nu (Kp.refl Nu W).drew) 0 (t.sz : Int) hs (by omega) (by omega) (by omega) (by omega) hJ
    (by rw [eseg]; exact fun pre x W1 hj hp m => by
          obtain ⟨fn, tmps, assign, body, hy, hR⟩ := hY pre x W1 hj hp m
          exact ⟨fn, tmps, assign, body, hy, hR.mono fun e W' hh => hh.2⟩) (own_nu hJ h0 (Kp.refl Nu W).drew) (n - 1)
  rw [eseg] at TE
  have c0 := cell1 gb
  have c1 : W.drew.cell? ⟨bx, 0, none⟩ = some (.pointer (some ⟨mb, 0, none⟩)) := c0
  clear hW hJ hJx hY h0 h1 h2 g1 gb g2 hb hm eseg
  refine callsIn_of_wp Try.func162 rfl trivial ?_ rfl
  simp only [Try.ntmps162, List.size_toArray, List.length_cons, List.length_nil, Nat.reduceAdd, Nat.reduceSub, Array.replicate_succ, Array.replicate_zero, List.push_toArray, List.append_toArray, List.nil_append, List.cons_append]
  gi_wp2_with fail
  refine ⟨trivial, fun h => (by cases h), (callsIn_wide.2 TA).mono ?_⟩
  rintro e w' ⟨rfl, hw⟩; obtain rfl := hw.symm
  gi_wp2_with fail
  gi_region_with_o (first
    | (refine ⟨trivial, fun h => (by cases h), (callsIn_wide.2 CO).mono ?_⟩; rintro e w' ⟨rfl, hw⟩; obtain rfl := hw.symm)
    | (refine ⟨trivial, fun h => (by cases h), TE.mono ?_⟩; rintro e V ⟨⟨v, rfl⟩, hh⟩; have HH := hide hh; clear hh))
  all_goals gi_wp2
  all_goals go_end0
  all_goals (refine ⟨⟨_, rfl⟩, ?_⟩; rcases HH.out with h | ⟨q, hq, hx⟩)
  all_goals first | exact .inl ⟨_, rfl, h⟩ | exact .inr ⟨q, hq, hx⟩
end Go.Proofs.Ytchealdgncgjoaa.StF
