import Derived.Test.YtchealdgncgjoaaNdKU
import Derived.Test.YtchealdgncgjoaaNdLU
import Derived.Test.YtchealdgncgjoaaNdMU
import Derived.Laws.EntriesVeiled
import Derived.Test.YtchealdgncgjoaaItC
import Derived.Test.YtchealdgncgjoaaPq
namespace Go.Proofs.Ytchealdgncgjoaa.StU
open Go.RowKit Go.Proofs.Ytchealdgncgjoaa.St
set_option linter.unusedVariables false

/-- the root's own block -/
abbrev mcells (a : Option Addr) : Obj := .cells #[.func (.func 164) #[] #[], .pointer a] 208 (0, 0)
/-- a map in memory -/
structure Mp (w : World) (mb : Nat) (t : T (Int × Sv)) : Prop where
  ex : ∃ a, w.heap[mb]? = some (.cells #[.func (.func 164) #[] #[], .pointer a] 208 (0, 0)) ∧ Tr w t a
  bal : t.bal
  srt : Srt cmpI t.xs
theorem Mp.nu {w w' : World} {mb : Nat} {t : T (Int × Sv)} (h : Mp w mb t) (k : Kp Nu w w') : Mp w' mb t := by
  obtain ⟨a, h1, h2⟩ := h.ex
  exact ⟨⟨a, (k.block _ (blk_lt h1) (fun h => h)).trans h1, h2.nu k⟩, h.bal, h.srt⟩
theorem Mp.lt {w : World} {mb : Nat} {t : T (Int × Sv)} (h : Mp w mb t) : mb < w.heap.size := by
  obtain ⟨a, h1, h2⟩ := h.ex
  exact blk_lt h1

/-- is the key there; what does it have -/
def hasT (k : Int) (t : T (Int × Sv)) : Bool := (T.fd (sd k) t).2
def getT (k : Int) (t : T (Int × Sv)) : Option (Int × Sv) := if (T.fd (sd k) t).2 then t.xs[(T.fd (sd k) t).1]? else none
def putT (k : Int) (v : Sv) (t : T (Int × Sv)) : T (Int × Sv) := if (T.fd (sd k) t).2 then t.rep (T.fd (sd k) t).1 (fun p => (p.1, v)) else t.ins (T.fd (sd k) t).1 (k, v)
def delT (k : Int) (t : T (Int × Sv)) : T (Int × Sv) := if (T.fd (sd k) t).2 then t.rem (T.fd (sd k) t).1 else t
/-- how an old value is told -/
def ov (o : Option (Int × Sv)) : Value := match o with
  | none => .slice none 0 0
  | some p => .slice (p.2).a (p.2).n (p.2).c
def ok (o : Option (Int × Sv)) : Value := match o with
  | none => .int .u64 0
  | some p => .int .u64 (p.1)
theorem getT_some {k : Int} {t : T (Int × Sv)} (h : (T.fd (sd k) t).2 = true) : ∃ p, t.xs[(T.fd (sd k) t).1]? = some p ∧ getT k t = some p := by
  have := (T.fd_le (sd k) t).2 h
  rw [← T.xs_length] at this
  exact ⟨_, List.getElem?_eq_getElem this, by unfold getT; rw [if_pos h]; exact List.getElem?_eq_getElem this⟩
theorem put_bal {k : Int} {v : Sv} {t : T (Int × Sv)} (h : t.bal) : (putT k v t).bal := by
  unfold putT
  split
  · exact (T.rep_ht _ _ _).2.2 h
  · exact (T.ins_bal _ _ _ h).1
theorem put_xs {k : Int} {v : Sv} {t : T (Int × Sv)} : (putT k v t).xs = if (T.fd (sd k) t).2 then t.xs.modify (T.fd (sd k) t).1 (fun p => (p.1, v)) else t.xs.take (T.fd (sd k) t).1 ++ (k, v) :: t.xs.drop (T.fd (sd k) t).1 := by
  unfold putT
  split
  · exact T.rep_xs _ _ _
  · exact T.ins_xs _ _ _ (T.fd_le (sd k) t).1
theorem put_srt {k : Int} {v : Sv} {t : T (Int × Sv)} (h : Srt cmpI t.xs) : Srt cmpI (putT k v t).xs := by
  have hf := T.fd_eq (sd k) t (h.c cmpI_ord k)
  rw [put_xs]
  split
  · exact h.rep _ _
  · rename_i hn
    have h1 : (T.fd (sd k) t).1 = t.xs.countP (fun a => decide (0 < sd k a)) := by rw [hf]
    have h2 : t.xs.any (fun a => decide (sd k a = 0)) = false := by
      have : (T.fd (sd k) t).2 = t.xs.any (fun a => decide (sd k a = 0)) := by rw [hf]
      rw [← this]; simpa using hn
    exact h.ins cmpI_ord k v _ h1 h2
theorem put_sz {k : Int} {v : Sv} {t : T (Int × Sv)} : (putT k v t).sz = if (T.fd (sd k) t).2 then t.sz else t.sz + 1 := by
  unfold putT
  split
  · exact (T.rep_ht _ _ _).2.1
  · exact ins_sz _ _ _ (T.fd_le (sd k) t).1
theorem del_bal {k : Int} {t : T (Int × Sv)} (h : t.bal) : (delT k t).bal := by
  unfold delT
  split
  · exact (T.rem_bal _ _ h).1
  · exact h
theorem del_xs {k : Int} {t : T (Int × Sv)} : (delT k t).xs = if (T.fd (sd k) t).2 then t.xs.eraseIdx (T.fd (sd k) t).1 else t.xs := by
  unfold delT
  split
  · exact T.rem_xs _ _
  · rfl
theorem del_srt {k : Int} {t : T (Int × Sv)} (h : Srt cmpI t.xs) : Srt cmpI (delT k t).xs := by
  rw [del_xs]
  split
  · exact h.erase _
  · exact h
theorem del_sz {k : Int} {t : T (Int × Sv)} : (delT k t).sz = if (T.fd (sd k) t).2 then t.sz - 1 else t.sz := by
  rw [← T.xs_length, del_xs]
  have := (T.fd_le (sd k) t).2
  have e := T.xs_length t
  split
  · rename_i h
    rw [List.length_eraseIdx, if_pos (by have := this h; omega)]; omega
  · exact e

section
variable {w : World} {mb : Nat} {t : T (Int × Sv)}
set_option maxHeartbeats 400000 in
theorem new_any (w : World) : Calls Try.prog 113 #[] w fun e w' => e = .returned (.pointer (some ⟨w.heap.size, 0, none⟩)) ∧ Mp w' w.heap.size .nil ∧ Kp Nu w w' := by
  have HF : Hid (Mp (w.alloc (.cells #[.func (.func 164) #[] #[], .pointer none] 208)) w.heap.size .nil) := ⟨⟨none, heap_alloc_new w _, rfl⟩, trivial, List.Pairwise.nil⟩
  go_enter Try.func113, Try.ntmps113
  go_wp2
  go_ret
  exact ⟨rfl, HF.out, Kp.alloc _ _ _⟩
set_option maxHeartbeats 400000 in
theorem tree_any {a : Option Addr} (h1 : w.heap[mb]? = some (.cells #[.func (.func 164) #[] #[], .pointer a] 208 (0, 0))) : Calls Try.prog 129 #[.pointer (some ⟨mb, 0, none⟩)] w fun e w' => e = .returned (.pointer a) ∧ w' = w := by
  have c1 : w.cell? ⟨mb, 1, none⟩ = some (.pointer a) := by simp [World.cell?, h1]
  clear h1
  go_enter Try.func129, Try.ntmps129
  go_wp2
  go_ret
  exact ⟨rfl, rfl⟩
set_option maxHeartbeats 400000 in
theorem tree_nil (w : World) : Calls Try.prog 129 #[.pointer none] w fun e w' => e = .returned (.pointer none) ∧ w' = w := by
  go_enter Try.func129, Try.ntmps129
  go_wp2
  go_ret
  exact ⟨rfl, rfl⟩
set_option maxRecDepth 100000 in
set_option maxHeartbeats 400000 in
theorem made_any {a : Option Addr} (h1 : w.heap[mb]? = some (.cells #[.func (.func 164) #[] #[], .pointer a] 208 (0, 0))) : Calls Try.prog 167 #[.pointer (some ⟨mb, 0, none⟩)] w fun e w' => e = .returned (.bool true) ∧ w' = w := by
  have c0 : w.cell? ⟨mb, 0, none⟩ = some (.func (.func 164) #[] #[]) := by simp [World.cell?, h1]
  have nf : (binOp .neq 89 (.func (.func 164) #[] #[]) .nilFunc).run Try.prog w = .ok (.bool true) w := by rfl
  clear h1
  go_enter Try.func167, Try.ntmps167
  go_wp2
  go_ret
  exact ⟨rfl, rfl⟩
set_option maxHeartbeats 400000 in
theorem made_nil (w : World) : Calls Try.prog 167 #[.pointer none] w fun e w' => e = .returned (.bool false) ∧ w' = w := by
  go_enter Try.func167, Try.ntmps167
  go_wp2
  go_ret
  exact ⟨rfl, rfl⟩
set_option maxHeartbeats 400000 in
theorem len_any (h : Mp w mb t) : Calls Try.prog 125 #[.pointer (some ⟨mb, 0, none⟩)] w fun e w' => e = .returned (.int .i64 (t.sz : Int)) ∧ w' = w := by
  obtain ⟨a, h1, h2⟩ := h.ex
  have TA := tree_any h1
  have CO := count_any h2
  clear h h1 h2
  go_enter Try.func125, Try.ntmps125
  go_wp2_with (first
    | (go_at_call 129; refine TA.mono ?_; rintro e w' ⟨rfl, hw⟩; obtain rfl := hw.symm)
    | (go_at_call 177; refine CO.mono ?_; rintro e w' ⟨rfl, hw⟩; obtain rfl := hw.symm))
  go_ret
  exact ⟨rfl, rfl⟩
set_option maxHeartbeats 400000 in
theorem pair_any {o : Option (Int × Sv)} {a : Option Addr} (h : An w o a) : Calls Try.prog 178 #[.pointer a] w fun e w' => e = .returned (.tuple #[ok o, ov o, .bool o.isSome]) ∧ Kp Nu w w' := by
  cases o with
  | none =>
    cases (show a = none from h)
    clear h
    go_enter Try.func178, Try.ntmps178
    go_wp2_with fail
    go_ret3
    exact ⟨rfl, Kp.refl _ _⟩
  | some p =>
    obtain ⟨b, x2, x3, x4, x5, rfl, hb⟩ := h
    obtain ⟨c0, c1, _⟩ := cell6 hb
    clear hb
    go_enter Try.func178, Try.ntmps178
    go_wp2_with fail
    go_region
    go_wp2
    go_ret3
    exact ⟨rfl, (Kp.refl _ _).drew⟩
set_option maxHeartbeats 400000 in
theorem At_any (h : Mp w mb t) (i : Int) (hi : i ≤ 9223372036854775807) (hs : t.sz < 2 ^ 62) : Calls Try.prog 126 #[.pointer (some ⟨mb, 0, none⟩), .int .i64 i] w fun e w' => e = .returned (.tuple #[ok (atT t i), ov (atT t i), .bool (atT t i).isSome]) ∧ Kp Nu w w' := by
  obtain ⟨a, h1, h2⟩ := h.ex
  have TA := tree_any h1
  have AA := at_any h2 i hi hs
  have PA : ∀ a', An w (atT t i) a' → Calls Try.prog 178 #[.pointer a'] w fun e w' => e = .returned (.tuple #[ok (atT t i), ov (atT t i), .bool (atT t i).isSome]) ∧ Kp Nu w w' := fun a' h => pair_any h
  clear h h1 h2 hi hs
  go_enter Try.func126, Try.ntmps126
  go_wp2_with (first
    | (go_at_call 129; refine TA.mono ?_; rintro e w' ⟨rfl, hw⟩; obtain rfl := hw.symm)
    | (go_at_call 166; refine AA.mono ?_; rintro e w' ⟨a', rfl, ha', hw⟩; obtain rfl := hw.symm)
    | (go_at_call 178; refine (PA _ ha').mono ?_; rintro e w' ⟨rfl, hk⟩))
  go_ret3
  exact ⟨rfl, hk⟩
end
end Go.Proofs.Ytchealdgncgjoaa.StU
namespace Go.Proofs.Ytchealdgncgjoaa.StU
open Go.RowKit Go.Proofs.Ytchealdgncgjoaa.St
set_option linter.unusedVariables false
section
variable {w : World} {mb : Nat} {t : T (Int × Sv)}
set_option maxRecDepth 100000 in
set_option maxHeartbeats 1000000 in
theorem get_any (h : Mp w mb t) (k : Int) (hs : t.sz + 1 < 2 ^ 62) :
    Calls Try.prog 115 #[.pointer (some ⟨mb, 0, none⟩), .int .u64 (k)] w fun e w' => e = .returned (.tuple #[ov (getT k t), .bool (T.fd (sd k) t).2]) ∧ Kp Nu w w' := by
  obtain ⟨a, h1, h2⟩ := h.ex
  have TA := tree_any h1
  have FA := find_any h1 h2 k (by omega)
  cases hb : (T.fd (sd k) t).2 with
  | false =>
    have eg : getT k t = none := by unfold getT; rw [hb]; rfl
    rw [eg]
    rw [hb] at FA
    generalize (T.fd (sd k) t).1 = i at *
    clear h h1 h2 eg hb hs
    go_enter Try.func115, Try.ntmps115
    go_wp2_with (first
      | (go_at_call 129; refine TA.mono ?_; rintro e w' ⟨rfl, hw⟩; obtain rfl := hw.symm)
      | (go_at_call 165; refine FA.mono ?_; rintro e w1 ⟨rfl, k1⟩))
    go_ret2
    exact ⟨rfl, k1⟩
  | true =>
    obtain ⟨p, hp, eg⟩ := getT_some hb
    rw [eg]
    rw [hb] at FA
    have hat := atT_xs t (T.fd (sd k) t).1
    rw [hp] at hat
    have hlt := (T.fd_le (sd k) t).2 hb
    generalize (T.fd (sd k) t).1 = i at *
    have AT : ∀ W, Kp Nu w W → Calls Try.prog 166 #[.pointer a, .int .i64 (i : Int)] W fun e w' => ∃ b, e = .returned (.pointer (some ⟨b, 0, none⟩)) ∧ w'.cell? ⟨b, 1, none⟩ = some (.slice (p.2).a (p.2).n (p.2).c) ∧ w' = W := fun W q => by
      refine (at_any (h2.nu q) (i : Int) (by omega) (by omega)).mono ?_
      rintro e w' ⟨a', rfl, hn, rfl⟩
      rw [hat] at hn
      obtain ⟨b, x2, x3, x4, x5, rfl, hb⟩ := hn
      exact ⟨b, rfl, (cell6 hb).2.1, rfl⟩
    clear h h1 h2 eg hb hs hp hat hlt
    go_enter Try.func115, Try.ntmps115
    go_wp2_with (first
      | (go_at_call 129; refine TA.mono ?_; rintro e w' ⟨rfl, hw⟩; obtain rfl := hw.symm)
      | (go_at_call 165; refine FA.mono ?_; rintro e w1 ⟨rfl, k1⟩)
      | (go_at_call 166; refine (AT _ k1).mono ?_; rintro e w3 ⟨b3, rfl, c3, hw3⟩; obtain rfl := hw3.symm))
    go_ret2
    exact ⟨rfl, k1⟩
set_option maxRecDepth 100000 in
set_option maxHeartbeats 1000000 in
theorem rank_any (h : Mp w mb t) (k : Int) (hs : t.sz + 1 < 2 ^ 62) :
    Calls Try.prog 127 #[.pointer (some ⟨mb, 0, none⟩), .int .u64 (k)] w fun e w' => e = .returned (.int .i64 ((T.fd (sd k) t).1 : Int)) ∧ Kp Nu w w' := by
  obtain ⟨a, h1, h2⟩ := h.ex
  have TA := tree_any h1
  have FA := find_any h1 h2 k (by omega)
  generalize (T.fd (sd k) t).1 = i at *
  generalize (T.fd (sd k) t).2 = b at *
  clear h h1 h2 hs
  go_enter Try.func127, Try.ntmps127
  go_wp2_with (first
    | (go_at_call 129; refine TA.mono ?_; rintro e w' ⟨rfl, hw⟩; obtain rfl := hw.symm)
    | (go_at_call 165; refine FA.mono ?_; rintro e w1 ⟨rfl, k1⟩))
  go_ret
  exact ⟨rfl, k1⟩
end
end Go.Proofs.Ytchealdgncgjoaa.StU
namespace Go.Proofs.Ytchealdgncgjoaa.StU
open Go.RowKit Go.Proofs.Ytchealdgncgjoaa.St Go.Shelf Go.Sort Go.Proofs.Ytchealdgncgjoaa.It
attribute [local go_sem] Oper.semAt_some
set_option linter.unusedVariables false
set_option maxRecDepth 1000000 in
theorem eq185 (w : World) (b : Nat) : (binOp .eql 185 (.pointer (some ⟨b, 0, none⟩)) (.pointer (some ⟨b, 0, none⟩))).run Try.prog w = .ok (.bool true) w := eqp w 185 b Try.underlying185 6 rfl

/-- the pairs at the places from i on, up to the one ahead of j -/
def seg : T (Int × Sv) → Int → Int → List (Int × Sv)
  | .nil, _, _ => []
  | .node l p r, i, j => if ((l.sz + 1 + r.sz : Nat) : Int) ≤ i ∨ j ≤ 0 then [] else seg l i j ++ ((if i ≤ (l.sz : Int) ∧ (l.sz : Int) < j then [p] else []) ++ seg r (i - (l.sz : Int) - 1) (j - (l.sz : Int) - 1))
theorem seg_xs : ∀ (t : T (Int × Sv)) (i j : Int), seg t i j = (t.xs.take j.toNat).drop i.toNat
  | .nil, i, j => by simp [seg, T.xs]
  | .node l p r, i, j => by
    have el := T.xs_length l
    have er := T.xs_length r
    simp only [seg, T.xs]
    by_cases h : ((l.sz + 1 + r.sz : Nat) : Int) ≤ i ∨ j ≤ 0
    · rw [if_pos h]
      rcases h with h | h
      · symm; apply List.drop_eq_nil_of_le
        simp only [List.length_take, List.length_append, List.length_cons]; omega
      · have : j.toNat = 0 := by omega
        rw [this]; simp
    · rw [if_neg h, seg_xs l, seg_xs r]
      rw [List.take_append, List.drop_append, List.length_take]
      congr 1
      by_cases h1 : l.sz < j.toNat
      · have e1 : min j.toNat l.xs.length = l.sz := by omega
        rw [e1, el]
        obtain ⟨m, hm⟩ : ∃ m, j.toNat - l.sz = m + 1 := ⟨j.toNat - l.sz - 1, by omega⟩
        have e2 : (j - (l.sz : Int) - 1).toNat = m := by omega
        rw [hm, e2, List.take_succ_cons]
        by_cases h2 : i ≤ (l.sz : Int)
        · rw [if_pos ⟨h2, by omega⟩]
          have e3 : i.toNat - l.sz = 0 := by omega
          have e4 : (i - (l.sz : Int) - 1).toNat = 0 := by omega
          rw [e3, e4]; simp
        · rw [if_neg (fun h => h2 h.1)]
          obtain ⟨q, hq⟩ : ∃ q, i.toNat - l.sz = q + 1 := ⟨i.toNat - l.sz - 1, by omega⟩
          have e4 : (i - (l.sz : Int) - 1).toNat = q := by omega
          rw [hq, e4]; simp
      · have e2 : (j - (l.sz : Int) - 1).toNat = 0 := by omega
        have e3 : j.toNat - l.xs.length = 0 := by omega
        rw [if_neg (fun h => by omega), e2, e3]; simp

/-- the blocks that a round keeps: nodes, the boxes of the walk, the map -/
def KM (mb : Nat) (k : Nat) (t : TypeId) : Prop := t = 211 ∨ t = 169 ∨ t = 185 ∨ t = 215 ∨ k = mb
/-- what the walk stands on -/
structure Ev (W : World) (mb bm bt by_ l : Nat) (t : T (Int × Sv)) (r0 : Nat) : Prop where
  xm : W.heap[bm]? = some (.cells #[.pointer (some ⟨mb, 0, none⟩)] 169 (0, 0))
  xt : W.heap[bt]? = some (.cells #[.pointer (some ⟨r0, 0, none⟩)] 185 (0, 0))
  xy : W.heap[by_]? = some (.cells #[.func (.yield l) #[] #[]] 215 (0, 0))
  mm : W.heap[mb]? = some (.cells #[.func (.func 164) #[] #[], .pointer (some ⟨r0, 0, none⟩)] 208 (0, 0))
  tr : Tr W t (some ⟨r0, 0, none⟩)
theorem Ev.kc {W W' : World} {mb bm bt by_ l : Nat} {t : T (Int × Sv)} {r0 : Nat} (h : Ev W mb bm bt by_ l t r0) (k : Kc (KM mb) W W') : Ev W' mb bm bt by_ l t r0 :=
  ⟨k _ _ _ _ (.inr (.inl rfl)) h.xm, k _ _ _ _ (.inr (.inr (.inl rfl))) h.xt, k _ _ _ _ (.inr (.inr (.inr (.inl rfl)))) h.xy, k _ _ _ _ (.inr (.inr (.inr (.inr rfl)))) h.mm, h.tr.keep (fun b c e => k _ _ _ _ (.inl rfl) e)⟩
theorem kn_kc {mb : Nat} {W W' : World} (k : Kc (KM mb) W W') : Kn W W' := fun b c e => k _ _ _ _ (.inl rfl) e
theorem cell2 {w : World} {b : Nat} {x0 x1 : Value} {t : TypeId} (h : w.heap[b]? = some (.cells #[x0, x1] t (0, 0))) : w.cell? ⟨b, 0, none⟩ = some x0 ∧ w.cell? ⟨b, 1, none⟩ = some x1 := by
  refine ⟨?_, ?_⟩ <;> simp [World.cell?, h]

section
variable {J Jx : List (Int × Sv) → World → Prop} {M : List (Int × Sv)} {mb bm bt by_ l r0 : Nat} {t0 : T (Int × Sv)}
/-- what a round of the caller's loop does -/
def Rnd (J Jx : List (Int × Sv) → World → Prop) (M : List (Int × Sv)) (mb l : Nat) : Prop := ∀ pre x W1, J pre W1 → pre ++ [x] <+: M → ∀ m, YieldAt Fence.wide m Try.prog l #[.int .u64 (x.1), .slice (x.2).a (x.2).n (x.2).c] W1 fun e W' =>
      (e = .returned (.bool true) ∧ J (pre ++ [x]) W' ∧ Kc (KM mb) W1 W') ∨ (e = .returned (.bool false) ∧ Jx (pre ++ [x]) W')
def Drw (J : List (Int × Sv) → World → Prop) : Prop := ∀ pre W, J pre W → J pre W.drew

theorem oneway {e : Ending} {A B : Prop} (h : (e = .returned (.bool true) ∧ A) ∨ (e = .returned (.bool false) ∧ B)) : ∃ b : Bool, e = .returned (.bool b) ∧ Hid ((b = true ∧ A) ∨ (b = false ∧ B)) := by
  rcases h with ⟨rfl, h⟩ | ⟨rfl, h⟩
  · exact ⟨true, rfl, .inl ⟨rfl, h⟩⟩
  · exact ⟨false, rfl, .inr ⟨rfl, h⟩⟩
set_option maxRecDepth 100000 in
set_option maxHeartbeats 1000000 in
theorem visit_in (hY : Rnd J Jx M mb l) (hD : Drw J) (n : Nat) (pre : List (Int × Sv)) (p : Int × Sv) (an : Option Addr) (W : World) (hE : Ev W mb bm bt by_ l t0 r0) (hn : Nd W p an) (hJ : J pre W) (hp : pre ++ [p] <+: M) :
    CallsIn Fence.wide n Try.prog 199 #[.pointer an, .pointer (some ⟨bm, 0, none⟩), .pointer (some ⟨bt, 0, none⟩), .pointer (some ⟨by_, 0, none⟩)] W fun e W' =>
      (e = .returned (.bool true) ∧ J (pre ++ [p]) W' ∧ Kc (KM mb) W W') ∨ (e = .returned (.bool false) ∧ Jx (pre ++ [p]) W') := by
  have mixed : Try.prog.follows .mixedOrders = true := by kernel_rfl
  obtain ⟨b, x2, x3, x4, x5, rfl, hb⟩ := hn
  obtain ⟨c0, c1, _⟩ := cell6 hb
  have d1 := cell1 hE.xm
  have d2 := cell1 hE.xt
  have d3 := cell1 hE.xy
  obtain ⟨d4, d5⟩ := cell2 hE.mm
  have HJ2 : J pre W.drew.drew := hD _ _ (hD _ _ hJ)
  obtain ⟨fn, tmps, assign, body, hy, hR⟩ := hY pre p W.drew.drew HJ2 hp (n - 1)
  have hq := fun V => eq185 V r0
  have HW := hide (kc_nu (K := KM mb) ((Kp.refl Nu W).drew.drew))
  refine callsIn_of_wp Try.func199 rfl trivial ?_ rfl
  simp only [Try.ntmps199, List.size_toArray, List.length_cons, List.length_nil, Nat.reduceAdd, Nat.reduceSub, Array.replicate_succ, Array.replicate_zero, List.push_toArray, List.append_toArray, List.nil_append, List.cons_append]
  clear hE hb hJ hp HJ2
  gi_wp2_with fail
  gi_region_o
  gi_wp2_with fail
  gi_region_with_o (refine ⟨fun h => (by cases h), hR.mono ?_⟩; rintro e W3 hh; obtain ⟨bb, rfl, HB⟩ := oneway hh; clear hh)
  all_goals gi_wp2
  all_goals go_ret
  all_goals (rcases HB.out with ⟨rfl, hJ4, hk3⟩ | ⟨rfl, hx⟩)
  all_goals first | exact .inl ⟨rfl, hJ4, HW.out.trans hk3⟩ | exact .inr ⟨rfl, hx⟩
end
end Go.Proofs.Ytchealdgncgjoaa.StU
