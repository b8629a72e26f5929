import Derived.Test.YtchealdgncgjoaaNdKU
import Derived.Test.YtchealdgncgjoaaNdLU
import Derived.Test.YtchealdgncgjoaaNdMU
import Derived.Laws.EntriesVeiled
namespace Go.Proofs.Ytchealdgncgjoaa.StU
open Go.RowKit Go.Proofs.Ytchealdgncgjoaa.St
set_option linter.unusedVariables false

/-- the root's own block -/
abbrev mcells (a : Option Addr) : Obj := .cells #[.func (.func 164) #[] #[], .pointer a] 208 (0, 0)
/-- a map in memory -/
structure Mp (w : World) (mb : Nat) (t : T (Int × Sv)) : Prop where
  ex : ∃ a, w.heap[mb]? = some (.cells #[.func (.func 164) #[] #[], .pointer a] 208 (0, 0)) ∧ Tr w t a
  bal : t.bal
  srt : Srt cmpI t.xs
theorem Mp.nu {w w' : World} {mb : Nat} {t : T (Int × Sv)} (h : Mp w mb t) (k : Kp Nu w w') : Mp w' mb t := by
  obtain ⟨a, h1, h2⟩ := h.ex
  exact ⟨⟨a, (k.block _ (blk_lt h1) (fun h => h)).trans h1, h2.nu k⟩, h.bal, h.srt⟩
theorem Mp.lt {w : World} {mb : Nat} {t : T (Int × Sv)} (h : Mp w mb t) : mb < w.heap.size := by
  obtain ⟨a, h1, h2⟩ := h.ex
  exact blk_lt h1

/-- is the key there; what does it have -/
def hasT (k : Int) (t : T (Int × Sv)) : Bool := (T.fd (sd k) t).2
def getT (k : Int) (t : T (Int × Sv)) : Option (Int × Sv) := if (T.fd (sd k) t).2 then t.xs[(T.fd (sd k) t).1]? else none
def putT (k : Int) (v : Sv) (t : T (Int × Sv)) : T (Int × Sv) := if (T.fd (sd k) t).2 then t.rep (T.fd (sd k) t).1 (fun p => (p.1, v)) else t.ins (T.fd (sd k) t).1 (k, v)
def delT (k : Int) (t : T (Int × Sv)) : T (Int × Sv) := if (T.fd (sd k) t).2 then t.rem (T.fd (sd k) t).1 else t
/-- how an old value is told -/
def ov (o : Option (Int × Sv)) : Value := match o with
  | none => .slice none 0 0
  | some p => .slice (p.2).a (p.2).n (p.2).c
def ok (o : Option (Int × Sv)) : Value := match o with
  | none => .int .u64 0
  | some p => .int .u64 (p.1)
theorem getT_some {k : Int} {t : T (Int × Sv)} (h : (T.fd (sd k) t).2 = true) : ∃ p, t.xs[(T.fd (sd k) t).1]? = some p ∧ getT k t = some p := by
  have := (T.fd_le (sd k) t).2 h
  rw [← T.xs_length] at this
  exact ⟨_, List.getElem?_eq_getElem this, by unfold getT; rw [if_pos h]; exact List.getElem?_eq_getElem this⟩
theorem put_bal {k : Int} {v : Sv} {t : T (Int × Sv)} (h : t.bal) : (putT k v t).bal := by
  unfold putT
  split
  · exact (T.rep_ht _ _ _).2.2 h
  · exact (T.ins_bal _ _ _ h).1
theorem put_xs {k : Int} {v : Sv} {t : T (Int × Sv)} : (putT k v t).xs = if (T.fd (sd k) t).2 then t.xs.modify (T.fd (sd k) t).1 (fun p => (p.1, v)) else t.xs.take (T.fd (sd k) t).1 ++ (k, v) :: t.xs.drop (T.fd (sd k) t).1 := by
  unfold putT
  split
  · exact T.rep_xs _ _ _
  · exact T.ins_xs _ _ _ (T.fd_le (sd k) t).1
theorem put_srt {k : Int} {v : Sv} {t : T (Int × Sv)} (h : Srt cmpI t.xs) : Srt cmpI (putT k v t).xs := by
  have hf := T.fd_eq (sd k) t (h.c cmpI_ord k)
  rw [put_xs]
  split
  · exact h.rep _ _
  · rename_i hn
    have h1 : (T.fd (sd k) t).1 = t.xs.countP (fun a => decide (0 < sd k a)) := by rw [hf]
    have h2 : t.xs.any (fun a => decide (sd k a = 0)) = false := by
      have : (T.fd (sd k) t).2 = t.xs.any (fun a => decide (sd k a = 0)) := by rw [hf]
      rw [← this]; simpa using hn
    exact h.ins cmpI_ord k v _ h1 h2
theorem put_sz {k : Int} {v : Sv} {t : T (Int × Sv)} : (putT k v t).sz = if (T.fd (sd k) t).2 then t.sz else t.sz + 1 := by
  unfold putT
  split
  · exact (T.rep_ht _ _ _).2.1
  · exact ins_sz _ _ _ (T.fd_le (sd k) t).1
theorem del_bal {k : Int} {t : T (Int × Sv)} (h : t.bal) : (delT k t).bal := by
  unfold delT
  split
  · exact (T.rem_bal _ _ h).1
  · exact h
theorem del_xs {k : Int} {t : T (Int × Sv)} : (delT k t).xs = if (T.fd (sd k) t).2 then t.xs.eraseIdx (T.fd (sd k) t).1 else t.xs := by
  unfold delT
  split
  · exact T.rem_xs _ _
  · rfl
theorem del_srt {k : Int} {t : T (Int × Sv)} (h : Srt cmpI t.xs) : Srt cmpI (delT k t).xs := by
  rw [del_xs]
  split
  · exact h.erase _
  · exact h
theorem del_sz {k : Int} {t : T (Int × Sv)} : (delT k t).sz = if (T.fd (sd k) t).2 then t.sz - 1 else t.sz := by
  rw [← T.xs_length, del_xs]
  have := (T.fd_le (sd k) t).2
  have e := T.xs_length t
  split
  · rename_i h
    rw [List.length_eraseIdx, if_pos (by have := this h; omega)]; omega
  · exact e

section
variable {w : World} {mb : Nat} {t : T (Int × Sv)}
set_option maxHeartbeats 400000 in
theorem new_any (w : World) : Calls Try.prog 113 #[] w fun e w' => e = .returned (.pointer (some ⟨w.heap.size, 0, none⟩)) ∧ Mp w' w.heap.size .nil ∧ Kp Nu w w' := by
  have HF : Hid (Mp (w.alloc (.cells #[.func (.func 164) #[] #[], .pointer none] 208)) w.heap.size .nil) := ⟨⟨none, heap_alloc_new w _, rfl⟩, trivial, List.Pairwise.nil⟩
  go_enter Try.func113, Try.ntmps113
  go_wp2
  go_ret
  exact ⟨rfl, HF.out, Kp.alloc _ _ _⟩
set_option maxHeartbeats 400000 in
theorem tree_any {a : Option Addr} (h1 : w.heap[mb]? = some (.cells #[.func (.func 164) #[] #[], .pointer a] 208 (0, 0))) : Calls Try.prog 129 #[.pointer (some ⟨mb, 0, none⟩)] w fun e w' => e = .returned (.pointer a) ∧ w' = w := by
  have c1 : w.cell? ⟨mb, 1, none⟩ = some (.pointer a) := by simp [World.cell?, h1]
  clear h1
  go_enter Try.func129, Try.ntmps129
  go_wp2
  go_ret
  exact ⟨rfl, rfl⟩
set_option maxHeartbeats 400000 in
theorem tree_nil (w : World) : Calls Try.prog 129 #[.pointer none] w fun e w' => e = .returned (.pointer none) ∧ w' = w := by
  go_enter Try.func129, Try.ntmps129
  go_wp2
  go_ret
  exact ⟨rfl, rfl⟩
set_option maxRecDepth 100000 in
set_option maxHeartbeats 400000 in
theorem made_any {a : Option Addr} (h1 : w.heap[mb]? = some (.cells #[.func (.func 164) #[] #[], .pointer a] 208 (0, 0))) : Calls Try.prog 167 #[.pointer (some ⟨mb, 0, none⟩)] w fun e w' => e = .returned (.bool true) ∧ w' = w := by
  have c0 : w.cell? ⟨mb, 0, none⟩ = some (.func (.func 164) #[] #[]) := by simp [World.cell?, h1]
  have nf : (binOp .neq 89 (.func (.func 164) #[] #[]) .nilFunc).run Try.prog w = .ok (.bool true) w := by rfl
  clear h1
  go_enter Try.func167, Try.ntmps167
  go_wp2
  go_ret
  exact ⟨rfl, rfl⟩
set_option maxHeartbeats 400000 in
theorem made_nil (w : World) : Calls Try.prog 167 #[.pointer none] w fun e w' => e = .returned (.bool false) ∧ w' = w := by
  go_enter Try.func167, Try.ntmps167
  go_wp2
  go_ret
  exact ⟨rfl, rfl⟩
set_option maxHeartbeats 400000 in
theorem len_any (h : Mp w mb t) : Calls Try.prog 125 #[.pointer (some ⟨mb, 0, none⟩)] w fun e w' => e = .returned (.int .i64 (t.sz : Int)) ∧ w' = w := by
  obtain ⟨a, h1, h2⟩ := h.ex
  have TA := tree_any h1
  have CO := count_any h2
  clear h h1 h2
  go_enter Try.func125, Try.ntmps125
  go_wp2_with (first
    | (go_at_call 129; refine TA.mono ?_; rintro e w' ⟨rfl, hw⟩; obtain rfl := hw.symm)
    | (go_at_call 177; refine CO.mono ?_; rintro e w' ⟨rfl, hw⟩; obtain rfl := hw.symm))
  go_ret
  exact ⟨rfl, rfl⟩
set_option maxHeartbeats 400000 in
theorem pair_any {o : Option (Int × Sv)} {a : Option Addr} (h : An w o a) : Calls Try.prog 178 #[.pointer a] w fun e w' => e = .returned (.tuple #[ok o, ov o, .bool o.isSome]) ∧ Kp Nu w w' := by
  cases o with
  | none =>
    cases (show a = none from h)
    clear h
    go_enter Try.func178, Try.ntmps178
    go_wp2_with fail
    go_ret3
    exact ⟨rfl, Kp.refl _ _⟩
  | some p =>
    obtain ⟨b, x2, x3, x4, x5, rfl, hb⟩ := h
    obtain ⟨c0, c1, _⟩ := cell6 hb
    clear hb
    go_enter Try.func178, Try.ntmps178
    go_wp2_with fail
    go_region
    go_wp2
    go_ret3
    exact ⟨rfl, (Kp.refl _ _).drew⟩
set_option maxHeartbeats 400000 in
theorem At_any (h : Mp w mb t) (i : Int) (hi : i ≤ 9223372036854775807) (hs : t.sz < 2 ^ 62) : Calls Try.prog 126 #[.pointer (some ⟨mb, 0, none⟩), .int .i64 i] w fun e w' => e = .returned (.tuple #[ok (atT t i), ov (atT t i), .bool (atT t i).isSome]) ∧ Kp Nu w w' := by
  obtain ⟨a, h1, h2⟩ := h.ex
  have TA := tree_any h1
  have AA := at_any h2 i hi hs
  have PA : ∀ a', An w (atT t i) a' → Calls Try.prog 178 #[.pointer a'] w fun e w' => e = .returned (.tuple #[ok (atT t i), ov (atT t i), .bool (atT t i).isSome]) ∧ Kp Nu w w' := fun a' h => pair_any h
  clear h h1 h2 hi hs
  go_enter Try.func126, Try.ntmps126
  go_wp2_with (first
    | (go_at_call 129; refine TA.mono ?_; rintro e w' ⟨rfl, hw⟩; obtain rfl := hw.symm)
    | (go_at_call 166; refine AA.mono ?_; rintro e w' ⟨a', rfl, ha', hw⟩; obtain rfl := hw.symm)
    | (go_at_call 178; refine (PA _ ha').mono ?_; rintro e w' ⟨rfl, hk⟩))
  go_ret3
  exact ⟨rfl, hk⟩
end
end Go.Proofs.Ytchealdgncgjoaa.StU
