import Derived.Test.YtchealdgncgjoaaMpCU
import Derived.Test.YtchealdgncgjoaaItC
import Derived.Test.YtchealdgncgjoaaPq
namespace Go.Proofs.Ytchealdgncgjoaa.StU
open Go.RowKit Go.Proofs.Ytchealdgncgjoaa.St Go.Shelf Go.Sort Go.Proofs.Ytchealdgncgjoaa.It
attribute [local go_sem] Oper.semAt_some
set_option linter.unusedVariables false
set_option maxRecDepth 1000000 in
theorem eq185 (w : World) (b : Nat) : (binOp .eql 185 (.pointer (some ⟨b, 0, none⟩)) (.pointer (some ⟨b, 0, none⟩))).run Try.prog w = .ok (.bool true) w := eqp w 185 b Try.underlying185 6 rfl

/-- the pairs at the places from i on, up to the one ahead of j -/
def seg : T (Int × Sv) → Int → Int → List (Int × Sv)
  | .nil, _, _ => []
  | .node l p r, i, j => if ((l.sz + 1 + r.sz : Nat) : Int) ≤ i ∨ j ≤ 0 then [] else seg l i j ++ ((if i ≤ (l.sz : Int) ∧ (l.sz : Int) < j then [p] else []) ++ seg r (i - (l.sz : Int) - 1) (j - (l.sz : Int) - 1))
theorem seg_xs : ∀ (t : T (Int × Sv)) (i j : Int), seg t i j = (t.xs.take j.toNat).drop i.toNat
  | .nil, i, j => by simp [seg, T.xs]
  | .node l p r, i, j => by
    have el := T.xs_length l
    have er := T.xs_length r
    simp only [seg, T.xs]
    by_cases h : ((l.sz + 1 + r.sz : Nat) : Int) ≤ i ∨ j ≤ 0
    · rw [if_pos h]
      rcases h with h | h
      · symm; apply List.drop_eq_nil_of_le
        simp only [List.length_take, List.length_append, List.length_cons]; omega
      · have : j.toNat = 0 := by omega
        rw [this]; simp
    · rw [if_neg h, seg_xs l, seg_xs r]
      rw [List.take_append, List.drop_append, List.length_take]
      congr 1
      by_cases h1 : l.sz < j.toNat
      · have e1 : min j.toNat l.xs.length = l.sz := by omega
        rw [e1, el]
        obtain ⟨m, hm⟩ : ∃ m, j.toNat - l.sz = m + 1 := ⟨j.toNat - l.sz - 1, by omega⟩
        have e2 : (j - (l.sz : Int) - 1).toNat = m := by omega
        rw [hm, e2, List.take_succ_cons]
        by_cases h2 : i ≤ (l.sz : Int)
        · rw [if_pos ⟨h2, by omega⟩]
          have e3 : i.toNat - l.sz = 0 := by omega
          have e4 : (i - (l.sz : Int) - 1).toNat = 0 := by omega
          rw [e3, e4]; simp
        · rw [if_neg (fun h => h2 h.1)]
          obtain ⟨q, hq⟩ : ∃ q, i.toNat - l.sz = q + 1 := ⟨i.toNat - l.sz - 1, by omega⟩
          have e4 : (i - (l.sz : Int) - 1).toNat = q := by omega
          rw [hq, e4]; simp
      · have e2 : (j - (l.sz : Int) - 1).toNat = 0 := by omega
        have e3 : j.toNat - l.xs.length = 0 := by omega
        rw [if_neg (fun h => by omega), e2, e3]; simp

/-- the blocks that a round keeps: nodes, the boxes of the walk, the map -/
def KM (mb : Nat) (k : Nat) (t : TypeId) : Prop := t = 211 ∨ t = 169 ∨ t = 185 ∨ t = 215 ∨ k = mb
/-- what the walk stands on -/
structure Ev (W : World) (mb bm bt by_ l : Nat) (t : T (Int × Sv)) (r0 : Nat) : Prop where
  xm : W.heap[bm]? = some (.cells #[.pointer (some ⟨mb, 0, none⟩)] 169 (0, 0))
  xt : W.heap[bt]? = some (.cells #[.pointer (some ⟨r0, 0, none⟩)] 185 (0, 0))
  xy : W.heap[by_]? = some (.cells #[.func (.yield l) #[] #[]] 215 (0, 0))
  mm : W.heap[mb]? = some (.cells #[.func (.func 164) #[] #[], .pointer (some ⟨r0, 0, none⟩)] 208 (0, 0))
  tr : Tr W t (some ⟨r0, 0, none⟩)
theorem Ev.kc {W W' : World} {mb bm bt by_ l : Nat} {t : T (Int × Sv)} {r0 : Nat} (h : Ev W mb bm bt by_ l t r0) (k : Kc (KM mb) W W') : Ev W' mb bm bt by_ l t r0 :=
  ⟨k _ _ _ _ (.inr (.inl rfl)) h.xm, k _ _ _ _ (.inr (.inr (.inl rfl))) h.xt, k _ _ _ _ (.inr (.inr (.inr (.inl rfl)))) h.xy, k _ _ _ _ (.inr (.inr (.inr (.inr rfl)))) h.mm, h.tr.keep (fun b c e => k _ _ _ _ (.inl rfl) e)⟩
theorem kn_kc {mb : Nat} {W W' : World} (k : Kc (KM mb) W W') : Kn W W' := fun b c e => k _ _ _ _ (.inl rfl) e
theorem cell2 {w : World} {b : Nat} {x0 x1 : Value} {t : TypeId} (h : w.heap[b]? = some (.cells #[x0, x1] t (0, 0))) : w.cell? ⟨b, 0, none⟩ = some x0 ∧ w.cell? ⟨b, 1, none⟩ = some x1 := by
  refine ⟨?_, ?_⟩ <;> simp [World.cell?, h]

section
variable {J Jx : List (Int × Sv) → World → Prop} {M : List (Int × Sv)} {mb bm bt by_ l r0 : Nat} {t0 : T (Int × Sv)}
/-- what a round of the caller's loop does -/
def Rnd (J Jx : List (Int × Sv) → World → Prop) (M : List (Int × Sv)) (mb l : Nat) : Prop := ∀ pre x W1, J pre W1 → pre ++ [x] <+: M → ∀ m, YieldAt Fence.wide m Try.prog l #[.int .u64 (x.1), .slice (x.2).a (x.2).n (x.2).c] W1 fun e W' =>
      (e = .returned (.bool true) ∧ J (pre ++ [x]) W' ∧ Kc (KM mb) W1 W') ∨ (e = .returned (.bool false) ∧ Jx (pre ++ [x]) W')
def Drw (J : List (Int × Sv) → World → Prop) : Prop := ∀ pre W, J pre W → J pre W.drew

theorem oneway {e : Ending} {A B : Prop} (h : (e = .returned (.bool true) ∧ A) ∨ (e = .returned (.bool false) ∧ B)) : ∃ b : Bool, e = .returned (.bool b) ∧ Hid ((b = true ∧ A) ∨ (b = false ∧ B)) := by
  rcases h with ⟨rfl, h⟩ | ⟨rfl, h⟩
  · exact ⟨true, rfl, .inl ⟨rfl, h⟩⟩
  · exact ⟨false, rfl, .inr ⟨rfl, h⟩⟩
set_option maxRecDepth 100000 in
set_option maxHeartbeats 1000000 in
theorem visit_in (hY : Rnd J Jx M mb l) (hD : Drw J) (n : Nat) (pre : List (Int × Sv)) (p : Int × Sv) (an : Option Addr) (W : World) (hE : Ev W mb bm bt by_ l t0 r0) (hn : Nd W p an) (hJ : J pre W) (hp : pre ++ [p] <+: M) :
    CallsIn Fence.wide n Try.prog 199 #[.pointer an, .pointer (some ⟨bm, 0, none⟩), .pointer (some ⟨bt, 0, none⟩), .pointer (some ⟨by_, 0, none⟩)] W fun e W' =>
      (e = .returned (.bool true) ∧ J (pre ++ [p]) W' ∧ Kc (KM mb) W W') ∨ (e = .returned (.bool false) ∧ Jx (pre ++ [p]) W') := by
  have mixed : Try.prog.follows .mixedOrders = true := by kernel_rfl
  obtain ⟨b, x2, x3, x4, x5, rfl, hb⟩ := hn
  obtain ⟨c0, c1, _⟩ := cell6 hb
  have d1 := cell1 hE.xm
  have d2 := cell1 hE.xt
  have d3 := cell1 hE.xy
  obtain ⟨d4, d5⟩ := cell2 hE.mm
  have HJ2 : J pre W.drew.drew := hD _ _ (hD _ _ hJ)
  obtain ⟨fn, tmps, assign, body, hy, hR⟩ := hY pre p W.drew.drew HJ2 hp (n - 1)
  have hq := fun V => eq185 V r0
  have HW := hide (kc_nu (K := KM mb) ((Kp.refl Nu W).drew.drew))
  refine callsIn_of_wp Try.func199 rfl trivial ?_ rfl
  simp only [Try.ntmps199, List.size_toArray, List.length_cons, List.length_nil, Nat.reduceAdd, Nat.reduceSub, Array.replicate_succ, Array.replicate_zero, List.push_toArray, List.append_toArray, List.nil_append, List.cons_append]
  clear hE hb hJ hp HJ2
  gi_wp2_with fail
  gi_region_o
  gi_wp2_with fail
  gi_region_with_o (refine ⟨fun h => (by cases h), hR.mono ?_⟩; rintro e W3 hh; obtain ⟨bb, rfl, HB⟩ := oneway hh; clear hh)
  all_goals gi_wp2
  all_goals go_ret
  all_goals (rcases HB.out with ⟨rfl, hJ4, hk3⟩ | ⟨rfl, hx⟩)
  all_goals first | exact .inl ⟨rfl, hJ4, HW.out.trans hk3⟩ | exact .inr ⟨rfl, hx⟩
end
end Go.Proofs.Ytchealdgncgjoaa.StU
