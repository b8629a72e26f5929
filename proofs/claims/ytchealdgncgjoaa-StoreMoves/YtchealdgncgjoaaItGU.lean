import Derived.Test.YtchealdgncgjoaaItFU
namespace Go.Proofs.Ytchealdgncgjoaa.StU
open Go.RowKit Go.Proofs.Ytchealdgncgjoaa.St Go.Shelf Go.Sort Go.Proofs.Ytchealdgncgjoaa.It
attribute [local go_sem] Oper.semAt_some
set_option linter.unusedVariables false

def lowT (k : Int) (t : T (Int × Sv)) : Nat := (T.fd (sd k) t).1
def highT (k : Int) (t : T (Int × Sv)) : Nat := (T.fd (sd k) t).1 + (if (T.fd (sd k) t).2 then 1 else 0)
section
variable {w : World} {mb : Nat} {t : T (Int × Sv)}
theorem highT_le (k : Int) : highT k t ≤ t.sz := by
  have := T.fd_le (sd k) t
  unfold highT
  split
  · have := this.2 (by assumption); omega
  · omega
set_option maxRecDepth 100000 in
set_option maxHeartbeats 1000000 in
theorem span_any {a : Option Addr} (h1 : w.heap[mb]? = some (.cells #[.func (.func 164) #[] #[], .pointer a] 208 (0, 0))) (h2 : Tr w t a) (lo hi : Int) (hs : t.sz < 2 ^ 61) :
    Calls Try.prog 128 #[.pointer (some ⟨mb, 0, none⟩), .pointer a, .int .u64 (lo), .int .u64 (hi)] w fun e w' => e = .returned (.tuple #[.int .i64 (lowT lo t : Int), .int .i64 (highT hi t : Int)]) ∧ Kp Nu w w' := by
  have FA := find_any h1 h2 lo (by omega)
  have FB : ∀ W, Kp Nu w W → Calls Try.prog 165 #[.pointer (some ⟨mb, 0, none⟩), .pointer a, .int .u64 (hi)] W fun e w' => e = .returned (.tuple #[.int .i64 ((T.fd (sd hi) t).1 : Int), .bool (T.fd (sd hi) t).2]) ∧ Kp Nu w w' := fun W k =>
    (find_any ((k.block _ (blk_lt h1) (fun h => h)).trans h1) (h2.nu k) hi (by omega)).mono fun e w' ⟨e1, e2⟩ => ⟨e1, k.andNu e2⟩
  have hle := (T.fd_le (sd hi) t).1
  unfold lowT highT
  generalize (T.fd (sd lo) t).1 = i at *
  generalize (T.fd (sd lo) t).2 = bb at *
  generalize (T.fd (sd hi) t).1 = j at *
  have q1 : wrap64 ((j : Int) + 1) = ((j + 1 : Nat) : Int) := by unfold wrap64; omega
  have HA : Hid ((j : Int) + 1 = ((j + 1 : Nat) : Int)) := by show _ = _; omega
  have HB := hide q1
  cases hb : (T.fd (sd hi) t).2 with
  | false =>
    rw [hb] at FB
    clear h1 h2 hs hle hb q1
    go_enter Try.func128, Try.ntmps128
    go_wp2_with (first
      | (go_at_call 165; refine FA.mono ?_; rintro e w1 ⟨rfl, k1⟩; clear FA)
      | (go_at_call 165; refine (FB _ k1).mono ?_; rintro e w2 ⟨rfl, k2⟩))
    go_ret2
    exact ⟨rfl, k2⟩
  | true =>
    rw [hb] at FB
    clear h1 h2 hs hle hb q1
    go_enter Try.func128, Try.ntmps128
    go_wp2_with (first
      | (go_at_call 165; refine FA.mono ?_; rintro e w1 ⟨rfl, k1⟩; clear FA)
      | (go_at_call 165; refine (FB _ k1).mono ?_; rintro e w2 ⟨rfl, k2⟩))
    go_ret2
    refine ⟨?_, k2⟩
    first
      | (show Ending.returned (.tuple #[.int .i64 (i : Int), .int .i64 (wrap64 ((j : Int) + 1))]) = Ending.returned (.tuple #[.int .i64 (i : Int), .int .i64 ((j + 1 : Nat) : Int)]); rw [HB.out])
      | (show Ending.returned (.tuple #[.int .i64 (i : Int), .int .i64 ((j : Int) + 1)]) = Ending.returned (.tuple #[.int .i64 (i : Int), .int .i64 ((j + 1 : Nat) : Int)]); rw [HA.out])
set_option maxHeartbeats 400000 in
theorem between_any (w : World) (m : Option Addr) (lo hi : Int) : Calls Try.prog 123 #[.pointer m, .int .u64 (lo), .int .u64 (hi)] w fun e w' => ∃ B1 B2, e = .returned (.func (.func 170) #[] #[.pointer (some ⟨w.heap.size, 0, none⟩), .pointer (some ⟨B1, 0, none⟩), .pointer (some ⟨B2, 0, none⟩)]) ∧ w'.heap[w.heap.size]? = some (.cells #[.pointer m] 169 (0, 0)) ∧ w'.heap[B1]? = some (.cells #[.int .u64 (lo)] 69 (0, 0)) ∧ w'.heap[B2]? = some (.cells #[.int .u64 (hi)] 69 (0, 0)) ∧ w.heap.size ≤ B1 ∧ w.heap.size ≤ B2 ∧ Kp Nu w w' := by
  have kc := ((Kp.alloc w (.cells #[.pointer m] 169) Nu).andAlloc (.cells #[.int .u64 (lo)] 69)).andAlloc (.cells #[.int .u64 (hi)] 69)
  have x1 : (((w.alloc (.cells #[.pointer m] 169)).alloc (.cells #[.int .u64 (lo)] 69)).alloc (.cells #[.int .u64 (hi)] 69)).heap[w.heap.size]? = some (.cells #[.pointer m] 169 (0, 0)) :=
    (Below.heap_alloc _ _ _ (by simp; omega)).trans ((Below.heap_alloc _ _ _ (by simp)).trans (heap_alloc_new w _))
  have x2 : (((w.alloc (.cells #[.pointer m] 169)).alloc (.cells #[.int .u64 (lo)] 69)).alloc (.cells #[.int .u64 (hi)] 69)).heap[w.heap.size + 1]? = some (.cells #[.int .u64 (lo)] 69 (0, 0)) :=
    (Below.heap_alloc _ _ _ (by simp)).trans (by have := heap_alloc_new (w.alloc (.cells #[.pointer m] 169)) (.cells #[.int .u64 (lo)] 69); simpa using this)
  have x3 : (((w.alloc (.cells #[.pointer m] 169)).alloc (.cells #[.int .u64 (lo)] 69)).alloc (.cells #[.int .u64 (hi)] 69)).heap[w.heap.size + 1 + 1]? = some (.cells #[.int .u64 (hi)] 69 (0, 0)) := by
    have := heap_alloc_new ((w.alloc (.cells #[.pointer m] 169)).alloc (.cells #[.int .u64 (lo)] 69)) (.cells #[.int .u64 (hi)] 69)
    simpa using this
  have HF := hide (And.intro x1 (And.intro x2 (And.intro x3 kc)))
  clear x1 x2 x3 kc
  go_enter Try.func123, Try.ntmps123
  go_wp2
  go_ret
  exact ⟨_, _, rfl, HF.out.1, HF.out.2.1, HF.out.2.2.1, by omega, by omega, HF.out.2.2.2⟩
set_option maxRecDepth 100000 in
set_option maxHeartbeats 1000000 in
theorem between_q {bx B1 B2 : Nat} {lo hi : Int} (hm : Mp w mb t) (hb : w.heap[bx]? = some (.cells #[.pointer (some ⟨mb, 0, none⟩)] 169 (0, 0))) (hb1 : w.heap[B1]? = some (.cells #[.int .u64 (lo)] 69 (0, 0))) (hb2 : w.heap[B2]? = some (.cells #[.int .u64 (hi)] 69 (0, 0))) (hs : t.sz < 2 ^ 61) :
    SeqQ Try.prog 170 #[.pointer (some ⟨bx, 0, none⟩), .pointer (some ⟨B1, 0, none⟩), .pointer (some ⟨B2, 0, none⟩)] (fun x : Int × Sv => #[.int .u64 (x.1), .slice (x.2).a (x.2).n (x.2).c]) (KM mb) (fun ys => ys = seg t (lowT lo t) (highT hi t)) (fun pre => pre <+: seg t (lowT lo t) (highT hi t)) t.sz w := fun n l J Jx W hW hJ hJx hY h0 => by
  obtain ⟨a, h1, h2⟩ := hm.ex
  have g1 := (hW.block mb (blk_lt h1)).trans h1
  have gb := (hW.block bx (blk_lt hb)).trans hb
  have gb1 := (hW.block B1 (blk_lt hb1)).trans hb1
  have gb2 := (hW.block B2 (blk_lt hb2)).trans hb2
  have g2 : Tr W t a := h2.keep (fun b c e => (hW.block b (blk_lt e)).trans e)
  have TA := tree_any g1
  have SA := span_any g1 g2 lo hi hs
  have hl := (T.fd_le (sd lo) t).1
  have hh := highT_le (t := t) hi
  have TE : ∀ V, Kp Nu W V → CallsIn Fence.wide (n - 1) Try.prog 171 #[.pointer (some ⟨mb, 0, none⟩), .pointer a, .int .i64 (lowT lo t : Int), .int .i64 (highT hi t : Int), .func (.yield l) #[] #[]] V fun e W' => (∃ v, e = .returned v) ∧ (J (seg t (lowT lo t) (highT hi t)) W' ∨ ∃ q, q <+: seg t (lowT lo t) (highT hi t) ∧ Jx q W') := fun V k =>
    tell_all (J := J) (Jx := Jx) (l := l) (W := V) ((k.block _ (blk_lt g1) (fun h => h)).trans g1) (g2.nu k) _ _ hs (by omega) (by unfold lowT; omega) (by omega) (by omega) hJ
      (fun pre x W1 hj hp m => by
          obtain ⟨fn, tmps, assign, body, hy, hR⟩ := hY pre x W1 hj hp m
          exact ⟨fn, tmps, assign, body, hy, hR.mono fun e W' hh => hh.2⟩) (own_nu hJ h0 k) (n - 1)
  have HC : ∀ V, Kp Nu W V → V.cell? ⟨bx, 0, none⟩ = some (.pointer (some ⟨mb, 0, none⟩)) := fun V k => cell1 ((k.block _ (blk_lt gb) (fun h => h)).trans gb)
  have c0 := cell1 gb
  have c1 := cell1 gb1
  have c2 := cell1 gb2
  generalize seg t (lowT lo t) (highT hi t) = M at *
  clear hW hJ hJx hY h0 h1 h2 g1 gb g2 hb hm hl hh gb1 gb2 hb1 hb2
  refine callsIn_of_wp Try.func170 rfl trivial ?_ rfl
  simp only [Try.ntmps170, List.size_toArray, List.length_cons, List.length_nil, Nat.reduceAdd, Nat.reduceSub, Array.replicate_succ, Array.replicate_zero, List.push_toArray, List.append_toArray, List.nil_append, List.cons_append]
  gi_wp2_with fail
  refine ⟨trivial, fun h => (by cases h), (callsIn_wide.2 TA).mono ?_⟩
  rintro e w' ⟨rfl, hw⟩; obtain rfl := hw.symm
  gi_wp2_with fail
  refine ⟨trivial, fun h => (by cases h), (callsIn_wide.2 SA).mono ?_⟩
  rintro e V ⟨rfl, k1⟩
  have d0 := HC V k1
  have TE1 := TE V k1
  gi_wp2_with fail
  refine ⟨trivial, fun h => (by cases h), TE1.mono ?_⟩
  rintro e V2 ⟨⟨v, rfl⟩, hh⟩
  have HH := hide hh
  clear hh
  gi_wp2
  go_end0
  refine ⟨⟨_, rfl⟩, ?_⟩
  rcases HH.out with h | ⟨q, hq, hx⟩
  · exact .inl ⟨_, rfl, h⟩
  · exact .inr ⟨q, hq, hx⟩
end
end Go.Proofs.Ytchealdgncgjoaa.StU
