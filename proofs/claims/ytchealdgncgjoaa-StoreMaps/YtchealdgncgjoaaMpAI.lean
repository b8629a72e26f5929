import Derived.Test.YtchealdgncgjoaaNdKI
import Derived.Test.YtchealdgncgjoaaNdLI
import Derived.Test.YtchealdgncgjoaaNdMI
import Derived.Laws.EntriesVeiled
namespace Go.Proofs.Ytchealdgncgjoaa.StI
open Go.RowKit Go.Proofs.Ytchealdgncgjoaa.St
set_option linter.unusedVariables false

/-- the root's own block -/
abbrev mcells (a : Option Addr) : Obj := .cells #[.func (.func 76) #[] #[], .pointer a] 130 (0, 0)
/-- a map in memory -/
structure Mp (w : World) (mb : Nat) (t : T (Int × Int)) : Prop where
  ex : ∃ a, w.heap[mb]? = some (.cells #[.func (.func 76) #[] #[], .pointer a] 130 (0, 0)) ∧ Tr w t a
  bal : t.bal
  srt : Srt cmpI t.xs
theorem Mp.nu {w w' : World} {mb : Nat} {t : T (Int × Int)} (h : Mp w mb t) (k : Kp Nu w w') : Mp w' mb t := by
  obtain ⟨a, h1, h2⟩ := h.ex
  exact ⟨⟨a, (k.block _ (blk_lt h1) (fun h => h)).trans h1, h2.nu k⟩, h.bal, h.srt⟩
theorem Mp.lt {w : World} {mb : Nat} {t : T (Int × Int)} (h : Mp w mb t) : mb < w.heap.size := by
  obtain ⟨a, h1, h2⟩ := h.ex
  exact blk_lt h1

/-- is the key there; what does it have -/
def hasT (k : Int) (t : T (Int × Int)) : Bool := (T.fd (sd k) t).2
def getT (k : Int) (t : T (Int × Int)) : Option (Int × Int) := if (T.fd (sd k) t).2 then t.xs[(T.fd (sd k) t).1]? else none
def putT (k : Int) (v : Int) (t : T (Int × Int)) : T (Int × Int) := if (T.fd (sd k) t).2 then t.rep (T.fd (sd k) t).1 (fun p => (p.1, v)) else t.ins (T.fd (sd k) t).1 (k, v)
def delT (k : Int) (t : T (Int × Int)) : T (Int × Int) := if (T.fd (sd k) t).2 then t.rem (T.fd (sd k) t).1 else t
/-- how an old value is told -/
def ov (o : Option (Int × Int)) : Value := match o with
  | none => .int .i64 0
  | some p => .int .i64 (p.2)
def ok (o : Option (Int × Int)) : Value := match o with
  | none => .int .i64 0
  | some p => .int .i64 (p.1)
theorem getT_some {k : Int} {t : T (Int × Int)} (h : (T.fd (sd k) t).2 = true) : ∃ p, t.xs[(T.fd (sd k) t).1]? = some p ∧ getT k t = some p := by
  have := (T.fd_le (sd k) t).2 h
  rw [← T.xs_length] at this
  exact ⟨_, List.getElem?_eq_getElem this, by unfold getT; rw [if_pos h]; exact List.getElem?_eq_getElem this⟩
theorem put_bal {k : Int} {v : Int} {t : T (Int × Int)} (h : t.bal) : (putT k v t).bal := by
  unfold putT
  split
  · exact (T.rep_ht _ _ _).2.2 h
  · exact (T.ins_bal _ _ _ h).1
theorem put_xs {k : Int} {v : Int} {t : T (Int × Int)} : (putT k v t).xs = if (T.fd (sd k) t).2 then t.xs.modify (T.fd (sd k) t).1 (fun p => (p.1, v)) else t.xs.take (T.fd (sd k) t).1 ++ (k, v) :: t.xs.drop (T.fd (sd k) t).1 := by
  unfold putT
  split
  · exact T.rep_xs _ _ _
  · exact T.ins_xs _ _ _ (T.fd_le (sd k) t).1
theorem put_srt {k : Int} {v : Int} {t : T (Int × Int)} (h : Srt cmpI t.xs) : Srt cmpI (putT k v t).xs := by
  have hf := T.fd_eq (sd k) t (h.c cmpI_ord k)
  rw [put_xs]
  split
  · exact h.rep _ _
  · rename_i hn
    have h1 : (T.fd (sd k) t).1 = t.xs.countP (fun a => decide (0 < sd k a)) := by rw [hf]
    have h2 : t.xs.any (fun a => decide (sd k a = 0)) = false := by
      have : (T.fd (sd k) t).2 = t.xs.any (fun a => decide (sd k a = 0)) := by rw [hf]
      rw [← this]; simpa using hn
    exact h.ins cmpI_ord k v _ h1 h2
theorem put_sz {k : Int} {v : Int} {t : T (Int × Int)} : (putT k v t).sz = if (T.fd (sd k) t).2 then t.sz else t.sz + 1 := by
  unfold putT
  split
  · exact (T.rep_ht _ _ _).2.1
  · exact ins_sz _ _ _ (T.fd_le (sd k) t).1
theorem del_bal {k : Int} {t : T (Int × Int)} (h : t.bal) : (delT k t).bal := by
  unfold delT
  split
  · exact (T.rem_bal _ _ h).1
  · exact h
theorem del_xs {k : Int} {t : T (Int × Int)} : (delT k t).xs = if (T.fd (sd k) t).2 then t.xs.eraseIdx (T.fd (sd k) t).1 else t.xs := by
  unfold delT
  split
  · exact T.rem_xs _ _
  · rfl
theorem del_srt {k : Int} {t : T (Int × Int)} (h : Srt cmpI t.xs) : Srt cmpI (delT k t).xs := by
  rw [del_xs]
  split
  · exact h.erase _
  · exact h
theorem del_sz {k : Int} {t : T (Int × Int)} : (delT k t).sz = if (T.fd (sd k) t).2 then t.sz - 1 else t.sz := by
  rw [← T.xs_length, del_xs]
  have := (T.fd_le (sd k) t).2
  have e := T.xs_length t
  split
  · rename_i h
    rw [List.length_eraseIdx, if_pos (by have := this h; omega)]; omega
  · exact e

section
variable {w : World} {mb : Nat} {t : T (Int × Int)}
set_option maxHeartbeats 400000 in
theorem new_any (w : World) : Calls Try.prog 16 #[] w fun e w' => e = .returned (.pointer (some ⟨w.heap.size, 0, none⟩)) ∧ Mp w' w.heap.size .nil ∧ Kp Nu w w' := by
  have HF : Hid (Mp (w.alloc (.cells #[.func (.func 76) #[] #[], .pointer none] 130)) w.heap.size .nil) := ⟨⟨none, heap_alloc_new w _, rfl⟩, trivial, List.Pairwise.nil⟩
  go_enter Try.func16, Try.ntmps16
  go_wp2
  go_ret
  exact ⟨rfl, HF.out, Kp.alloc _ _ _⟩
set_option maxHeartbeats 400000 in
theorem tree_any {a : Option Addr} (h1 : w.heap[mb]? = some (.cells #[.func (.func 76) #[] #[], .pointer a] 130 (0, 0))) : Calls Try.prog 83 #[.pointer (some ⟨mb, 0, none⟩)] w fun e w' => e = .returned (.pointer a) ∧ w' = w := by
  have c1 : w.cell? ⟨mb, 1, none⟩ = some (.pointer a) := by simp [World.cell?, h1]
  clear h1
  go_enter Try.func83, Try.ntmps83
  go_wp2
  go_ret
  exact ⟨rfl, rfl⟩
set_option maxHeartbeats 400000 in
theorem tree_nil (w : World) : Calls Try.prog 83 #[.pointer none] w fun e w' => e = .returned (.pointer none) ∧ w' = w := by
  go_enter Try.func83, Try.ntmps83
  go_wp2
  go_ret
  exact ⟨rfl, rfl⟩
set_option maxRecDepth 100000 in
set_option maxHeartbeats 400000 in
theorem made_any {a : Option Addr} (h1 : w.heap[mb]? = some (.cells #[.func (.func 76) #[] #[], .pointer a] 130 (0, 0))) : Calls Try.prog 77 #[.pointer (some ⟨mb, 0, none⟩)] w fun e w' => e = .returned (.bool true) ∧ w' = w := by
  have c0 : w.cell? ⟨mb, 0, none⟩ = some (.func (.func 76) #[] #[]) := by simp [World.cell?, h1]
  have nf : (binOp .neq 109 (.func (.func 76) #[] #[]) .nilFunc).run Try.prog w = .ok (.bool true) w := by rfl
  clear h1
  go_enter Try.func77, Try.ntmps77
  go_wp2
  go_ret
  exact ⟨rfl, rfl⟩
set_option maxHeartbeats 400000 in
theorem made_nil (w : World) : Calls Try.prog 77 #[.pointer none] w fun e w' => e = .returned (.bool false) ∧ w' = w := by
  go_enter Try.func77, Try.ntmps77
  go_wp2
  go_ret
  exact ⟨rfl, rfl⟩
set_option maxHeartbeats 400000 in
theorem len_any (h : Mp w mb t) : Calls Try.prog 21 #[.pointer (some ⟨mb, 0, none⟩)] w fun e w' => e = .returned (.int .i64 (t.sz : Int)) ∧ w' = w := by
  obtain ⟨a, h1, h2⟩ := h.ex
  have TA := tree_any h1
  have CO := count_any h2
  clear h h1 h2
  go_enter Try.func21, Try.ntmps21
  go_wp2_with (first
    | (go_at_call 83; refine TA.mono ?_; rintro e w' ⟨rfl, hw⟩; obtain rfl := hw.symm)
    | (go_at_call 85; refine CO.mono ?_; rintro e w' ⟨rfl, hw⟩; obtain rfl := hw.symm))
  go_ret
  exact ⟨rfl, rfl⟩
--IF Height
set_option maxHeartbeats 400000 in
theorem height_any (h : Mp w mb t) : Calls Try.prog 22 #[.pointer (some ⟨mb, 0, none⟩)] w fun e w' => e = .returned (.int .i64 (t.ht : Int)) ∧ w' = w := by
  obtain ⟨a, h1, h2⟩ := h.ex
  have TA := tree_any h1
  have CO := high_any h2
  clear h h1 h2
  go_enter Try.func22, Try.ntmps22
  go_wp2_with (first
    | (go_at_call 83; refine TA.mono ?_; rintro e w' ⟨rfl, hw⟩; obtain rfl := hw.symm)
    | (go_at_call 88; refine CO.mono ?_; rintro e w' ⟨rfl, hw⟩; obtain rfl := hw.symm))
  go_ret
  exact ⟨rfl, rfl⟩
--END
set_option maxHeartbeats 400000 in
theorem pair_any {o : Option (Int × Int)} {a : Option Addr} (h : An w o a) : Calls Try.prog 89 #[.pointer a] w fun e w' => e = .returned (.tuple #[ok o, ov o, .bool o.isSome]) ∧ Kp Nu w w' := by
  cases o with
  | none =>
    cases (show a = none from h)
    clear h
    go_enter Try.func89, Try.ntmps89
    go_wp2_with fail
    go_ret3
    exact ⟨rfl, Kp.refl _ _⟩
  | some p =>
    obtain ⟨b, x2, x3, x4, x5, rfl, hb⟩ := h
    obtain ⟨c0, c1, _⟩ := cell6 hb
    clear hb
    go_enter Try.func89, Try.ntmps89
    go_wp2_with fail
    go_region
    go_wp2
    go_ret3
    exact ⟨rfl, (Kp.refl _ _).drew⟩
set_option maxHeartbeats 400000 in
theorem At_any (h : Mp w mb t) (i : Int) (hi : i ≤ 9223372036854775807) (hs : t.sz < 2 ^ 62) : Calls Try.prog 23 #[.pointer (some ⟨mb, 0, none⟩), .int .i64 i] w fun e w' => e = .returned (.tuple #[ok (atT t i), ov (atT t i), .bool (atT t i).isSome]) ∧ Kp Nu w w' := by
  obtain ⟨a, h1, h2⟩ := h.ex
  have TA := tree_any h1
  have AA := at_any h2 i hi hs
  have PA : ∀ a', An w (atT t i) a' → Calls Try.prog 89 #[.pointer a'] w fun e w' => e = .returned (.tuple #[ok (atT t i), ov (atT t i), .bool (atT t i).isSome]) ∧ Kp Nu w w' := fun a' h => pair_any h
  clear h h1 h2 hi hs
  go_enter Try.func23, Try.ntmps23
  go_wp2_with (first
    | (go_at_call 83; refine TA.mono ?_; rintro e w' ⟨rfl, hw⟩; obtain rfl := hw.symm)
    | (go_at_call 81; refine AA.mono ?_; rintro e w' ⟨a', rfl, ha', hw⟩; obtain rfl := hw.symm)
    | (go_at_call 89; refine (PA _ ha').mono ?_; rintro e w' ⟨rfl, hk⟩))
  go_ret3
  exact ⟨rfl, hk⟩
end
end Go.Proofs.Ytchealdgncgjoaa.StI
