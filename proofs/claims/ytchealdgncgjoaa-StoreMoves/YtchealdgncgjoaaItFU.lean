import Derived.Test.YtchealdgncgjoaaItEU
import Derived.Test.YtchealdgncgjoaaItB
namespace Go.Proofs.Ytchealdgncgjoaa.StU
open Go.RowKit Go.Proofs.Ytchealdgncgjoaa.St Go.Shelf Go.Sort Go.Proofs.Ytchealdgncgjoaa.It
attribute [local go_sem] Oper.semAt_some
set_option linter.unusedVariables false
section
variable {J Jx : List (Int × Sv) → World → Prop} {l mb : Nat} {t : T (Int × Sv)}
theorem drw_of {B : Nat} (h : OwnFrom B J) : Drw J := fun pre W hj => h pre W W.drew none hj (grown_nu (Kp.refl Nu W).drew) (fun r e => by cases e)
theorem own_nu {B : Nat} (h : OwnFrom B J) {pre : List (Int × Sv)} {W W' : World} (hj : J pre W) (k : Kp Nu W W') : J pre W' := h pre W W' none hj (grown_nu k) (fun r e => by cases e)

set_option maxRecDepth 100000 in
set_option maxHeartbeats 1000000 in
theorem tell_in {W : World} {r0 : Nat} (h1 : W.heap[mb]? = some (.cells #[.func (.func 164) #[] #[], .pointer (some ⟨r0, 0, none⟩)] 208 (0, 0))) (h2 : Tr W t (some ⟨r0, 0, none⟩)) (i j : Int) (hs : t.sz < 2 ^ 61) (hi0 : 0 ≤ i) (hi1 : i < 2 ^ 62) (hj0 : 0 ≤ j) (hj1 : j < 2 ^ 62)
    {B : Nat} (hJ : OwnFrom B J) (hY : Rnd J Jx (seg t i j) mb l) (h0 : J [] W) (n : Nat) :
    CallsIn Fence.wide n Try.prog 171 #[.pointer (some ⟨mb, 0, none⟩), .pointer (some ⟨r0, 0, none⟩), .int .i64 i, .int .i64 j, .func (.yield l) #[] #[]] W fun e W' => (∃ v, e = .returned v) ∧ (J (seg t i j) W' ∨ ∃ q, q <+: seg t i j ∧ Jx q W') := by
  have ka := Kp.alloc W (.cells #[.pointer (some ⟨mb, 0, none⟩)] 169) Nu
  have kb := ka.andAlloc (.cells #[.pointer (some ⟨r0, 0, none⟩)] 185)
  have kc := kb.andAlloc (.cells #[.func (.yield l) #[] #[]] 215)
  have x1 : (((W.alloc (.cells #[.pointer (some ⟨mb, 0, none⟩)] 169)).alloc (.cells #[.pointer (some ⟨r0, 0, none⟩)] 185)).alloc (.cells #[.func (.yield l) #[] #[]] 215)).heap[W.heap.size]? = some (.cells #[.pointer (some ⟨mb, 0, none⟩)] 169 (0, 0)) :=
    (Below.heap_alloc _ _ _ (by simp; omega)).trans ((Below.heap_alloc _ _ _ (by simp)).trans (heap_alloc_new W _))
  have x2 : (((W.alloc (.cells #[.pointer (some ⟨mb, 0, none⟩)] 169)).alloc (.cells #[.pointer (some ⟨r0, 0, none⟩)] 185)).alloc (.cells #[.func (.yield l) #[] #[]] 215)).heap[W.heap.size + 1]? = some (.cells #[.pointer (some ⟨r0, 0, none⟩)] 185 (0, 0)) :=
    (Below.heap_alloc _ _ _ (by simp)).trans (by have := heap_alloc_new (W.alloc (.cells #[.pointer (some ⟨mb, 0, none⟩)] 169)) (.cells #[.pointer (some ⟨r0, 0, none⟩)] 185); simpa using this)
  have x3 : (((W.alloc (.cells #[.pointer (some ⟨mb, 0, none⟩)] 169)).alloc (.cells #[.pointer (some ⟨r0, 0, none⟩)] 185)).alloc (.cells #[.func (.yield l) #[] #[]] 215)).heap[W.heap.size + 1 + 1]? = some (.cells #[.func (.yield l) #[] #[]] 215 (0, 0)) := by
    have := heap_alloc_new ((W.alloc (.cells #[.pointer (some ⟨mb, 0, none⟩)] 169)).alloc (.cells #[.pointer (some ⟨r0, 0, none⟩)] 185)) (.cells #[.func (.yield l) #[] #[]] 215)
    simpa using this
  have hE : Ev (((W.alloc (.cells #[.pointer (some ⟨mb, 0, none⟩)] 169)).alloc (.cells #[.pointer (some ⟨r0, 0, none⟩)] 185)).alloc (.cells #[.func (.yield l) #[] #[]] 215)) mb W.heap.size (W.heap.size + 1) (W.heap.size + 1 + 1) l t r0 :=
    ⟨x1, x2, x3, (kc.block _ (blk_lt h1) (fun h => h)).trans h1, h2.nu kc⟩
  have WI := walk_in hY (drw_of hJ) t (n - 1) [] (some ⟨r0, 0, none⟩) i j _ (h2.nu kc) hE (own_nu hJ h0 kc) (by simp) (by omega) (by omega) hi1 (by omega) hj1
  have c2 := cell1 x2
  clear hE x1 x2 x3 ka kb kc h1 h2 hY hJ h0 hs hi0 hi1 hj0 hj1
  refine callsIn_of_wp Try.func171 rfl trivial ?_ rfl
  simp only [Try.ntmps171, List.size_toArray, List.length_cons, List.length_nil, Nat.reduceAdd, Nat.reduceSub, Array.replicate_succ, Array.replicate_zero, List.push_toArray, List.append_toArray, List.nil_append, List.cons_append]
  gi_wp2_with fail
  refine ⟨trivial, fun h => (by cases h), WI.mono ?_⟩
  rintro e V (⟨rfl, hj, k⟩ | ⟨rfl, q, hq, hx⟩)
  · have HF : Hid (J (seg t i j) V) := by show J (seg t i j) V; simpa using hj
    clear hj WI
    gi_wp2
    go_end0
    exact ⟨⟨_, rfl⟩, .inl HF.out⟩
  · have HF : Hid (∃ q, q <+: seg t i j ∧ Jx q V) := ⟨q, hq, hx⟩
    clear hq hx WI
    gi_wp2
    go_end0
    exact ⟨⟨_, rfl⟩, .inr HF.out⟩
set_option maxRecDepth 100000 in
set_option maxHeartbeats 400000 in
theorem walk_empty (w : World) (i j : Int) (f : Value) : Calls Try.prog 198 #[.pointer none, .int .i64 i, .int .i64 j, f] w fun e w' => e = .returned (.bool true) ∧ w' = w := by
  go_enter Try.func198, Try.ntmps198
  go_wp2_with fail
  go_ret
  exact ⟨rfl, rfl⟩
set_option maxRecDepth 100000 in
set_option maxHeartbeats 400000 in
theorem tell_empty (w : World) (m : Option Addr) (i j : Int) (l : Nat) : Calls Try.prog 171 #[.pointer m, .pointer none, .int .i64 i, .int .i64 j, .func (.yield l) #[] #[]] w fun e w' => (∃ v, e = .returned v) ∧ Kp Nu w w' := by
  have WN := fun W f => walk_empty W i j f
  have HK := hide (((Kp.alloc w (.cells #[.pointer m] 169) Nu).andAlloc (.cells #[.pointer none] 185)).andAlloc (.cells #[.func (.yield l) #[] #[]] 215))
  go_enter Try.func171, Try.ntmps171
  go_wp2_with (go_at_call 198; refine (WN _ _).mono ?_; rintro e w' ⟨rfl, hw⟩; obtain rfl := hw.symm)
  go_end0
  exact ⟨⟨_, rfl⟩, HK.out⟩
/-- tell, whatever the tree -/
theorem tell_all {W : World} {a : Option Addr} (h1 : W.heap[mb]? = some (.cells #[.func (.func 164) #[] #[], .pointer a] 208 (0, 0))) (h2 : Tr W t a) (i j : Int) (hs : t.sz < 2 ^ 61) (hi0 : 0 ≤ i) (hi1 : i < 2 ^ 62) (hj0 : 0 ≤ j) (hj1 : j < 2 ^ 62)
    {B : Nat} (hJ : OwnFrom B J) (hY : Rnd J Jx (seg t i j) mb l) (h0 : J [] W) (n : Nat) :
    CallsIn Fence.wide n Try.prog 171 #[.pointer (some ⟨mb, 0, none⟩), .pointer a, .int .i64 i, .int .i64 j, .func (.yield l) #[] #[]] W fun e W' => (∃ v, e = .returned v) ∧ (J (seg t i j) W' ∨ ∃ q, q <+: seg t i j ∧ Jx q W') := by
  cases t with
  | nil =>
    cases (show a = none from h2)
    refine (callsIn_wide.2 (tell_empty W (some ⟨mb, 0, none⟩) i j l)).mono ?_
    rintro e W' ⟨hv, hk⟩
    exact ⟨hv, .inl (own_nu hJ h0 hk)⟩
  | node x p y =>
    have h3 := h2
    obtain ⟨r0, _, _, e, _⟩ := h3
    subst e
    exact tell_in h1 h2 i j hs hi0 hi1 hj0 hj1 hJ hY h0 n
end
end Go.Proofs.Ytchealdgncgjoaa.StU
